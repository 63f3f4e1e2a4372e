/- A slice of texts of the call's own, with one text put behind it. -/
import Derived.Test.YtmmchemgegmhhaaGreatDoorBase
namespace Go.Proofs.YtmmchemgegmhhaaGreatDoor
open Go.RowKit

theorem Tryz.info9 : (Tryz.prog.info? 9).map (fun i => (i.zero, i.size, i.bytes)) = some (some (.string ⟨#[]⟩), 1, 16) := by kernel_rfl

/-- A slice of texts of the call's own, with one text put behind it. -/
theorem app_str {ops : Array Oper} {rest : List Oper} {o : Oper} {a : Act} {Q : Exit → Act → World → Prop} {x : ByteArray} (wr : World) (w : World) (B : Nat) (hgd : o.guard = none) (s y : Operand)
    (ho : o.op = .call { callee := .builtin .append, args := #[s, y], argTypes := #[156, 156] }) (v : Value) (l : List (List UInt8)) (hs : a.eval s = v)
    (hown : wr.ownsRow B 9 1 v l.length (l.map sv)) (hx : a.eval y = .slice (some ⟨wr.heap.size, 0, none⟩) 1 1)
    (hlen : l.length ≤ 1000000) (hbel : Below B w wr) (hbase : B ≤ wr.heap.size)
    (h : ∀ v' w', w'.ownsRow B 9 1 v' (l ++ [x.data.toList]).length ((l ++ [x.data.toList]).map sv) → Below B w w' → wr.heap.size ≤ w'.heap.size → wpList Tryz.prog ops Q rest (a.put o.dst v') w') :
    wpList Tryz.prog ops Q (o :: rest) a (wr.alloc (.cells #[.string x] 9)) := by
  obtain ⟨i0, hi, hz0, hz1, hz2⟩ := info_parts Tryz.info9
  have hsz : wr.heap.size ≤ (wr.alloc (.cells #[.string x] 9)).heap.size := by simp
  refine wpList_append_own _ hgd s y 156 ho B 9 i0 (.string ⟨#[]⟩) 1 16 Tryz.underlying156 hi hz0 hz1 hz2 rfl (by decide) v l.length (l.map sv) hs (hown.alloc _) ⟨wr.heap.size, 0, none⟩ 1 1 [.string x] hx rfl
    (fun j u hj => cells_new wr #[.string x] 9 j u hj) (by intro u hu; simp at hu; subst hu; rfl) (by unfold maxLen; omega) (by omega) (by omega) ?_
  intro v' w' hown' hgrow _
  have hlt := hown.lt
  have hb1 : Below B w (wr.alloc (.cells #[.string x] 9)) := hbel.alloc hbase _
  refine h v' w' ?_ (hb1.grown hgrow (by omega) (fun k hk => (hlt k hk).1)) (Nat.le_trans hsz hgrow.size)
  have e : (l ++ [x.data.toList]).map sv = l.map sv ++ [.string x] := by
    rw [List.map_append]
    cases x
    simp [sv]
  rw [e, List.length_append]
  exact hown'
end Go.Proofs.YtmmchemgegmhhaaGreatDoor
