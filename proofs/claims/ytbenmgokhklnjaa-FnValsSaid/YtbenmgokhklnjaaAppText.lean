/- A text is put behind a slice of bytes of the call's own. -/
import Derived.Test.YtbenmgokhklnjaaBase
import Derived.Lib.AppendStr
namespace Go.Proofs.Ytbenmgokhklnjaa
open Go.RowKit

theorem strCells_bv (s : ByteArray) : Lib.strCells s = s.data.toList.map bv := rfl
/-- A slice of bytes of the call's own, with a text put behind it. -/
theorem app_text {P : Program} {ops : Array Oper} {rest : List Oper} {o : Oper} {a : Act} {Q : Exit → Act → World → Prop} (wr : World) (ts tx te : TypeId) (hts : P.underlying ts = some (.slice te)) (htx : P.underlying tx = some .string)
    (hinfo : (P.info? te).map (fun i => (i.zero, i.size, i.bytes)) = some (some (.int .u8 0), 1, 1)) (w : World) (B : Nat) (hgd : o.guard = none) (s x : Operand)
    (ho : o.op = .call { callee := .builtin .append, args := #[s, x], argTypes := #[ts, tx] }) (v : Value) (l : List UInt8) (t : ByteArray) (hs : a.eval s = v)
    (hown : wr.ownsRow B te 1 v l.length (l.map bv)) (hx : a.eval x = .string t)
    (hlen : l.length + t.size ≤ 70368744177664) (hbel : Below B w wr) (hbase : B ≤ wr.heap.size)
    (h : ∀ v' w', w'.ownsRow B te 1 v' (l ++ t.data.toList).length ((l ++ t.data.toList).map bv) → Below B w w' → wr.heap.size ≤ w'.heap.size → wpList P ops Q rest (a.put o.dst v') w') :
    wpList P ops Q (o :: rest) a wr := by
  obtain ⟨i0, hi, hz0, hz1, hz2⟩ := info_parts hinfo
  refine Lib.wpList_append_own_string wr hgd s x ts tx ho B te i0 hts htx hi hz0 hz1 hz2 v l.length (l.map bv) hs hown t hx (by unfold maxLen; omega) (by omega) hbase ?_
  intro v' w' hown' hgrow _
  have hlt := hown.lt
  refine h v' w' ?_ (hbel.grown hgrow (by omega) (fun k hk => (hlt k hk).1)) hgrow.size
  rw [List.length_append, List.map_append, ← strCells_bv]
  exact hown'

end Go.Proofs.Ytbenmgokhklnjaa
