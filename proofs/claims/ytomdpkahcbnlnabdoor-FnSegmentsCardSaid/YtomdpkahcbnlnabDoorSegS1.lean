/- The specification's ReadSegment. -/
import Derived.Test.YtomdpkahcbnlnabDoorSegS0
import Derived.Test.YtomdpkahcbnlnabDoorBatchApp
import Derived.Test.YtomdpkahcbnlnabDoorBatchS3
import Derived.Test.YtomdpkahcbnlnabDoorOne
namespace Go.Proofs.YtomdpkahcbnlnabDoor
open Go.RowKit

/-- What is left by a reader of a segment. -/
def SegLeft (n : Int) (s : ByteArray) (w : World) (e : Ending) (w' : World) : Prop :=
  (∃ v, e = .returned (.tuple #[.int .i64 ((segFrom n s : Nat) : Int), v, .int .i64 ((segEnd n s : Nat) : Int), .bool (segOk n s)]) ∧ RowBatch w' w.heap.size v (segBatches n s)) ∧ Below w.heap.size w w'
theorem segLeft_none {n : Int} {s : ByteArray} {w w' : World} {v : Value} (h : segRead n s = none) (hb : Below w.heap.size w w') (hv : RowBatch w' w.heap.size v []) : SegLeft n s w (.returned (.tuple #[.int .i64 0, v, .int .i64 0, .bool false])) w' := by
  obtain ⟨h1, h2, h3, h4⟩ := seg_none h
  refine ⟨⟨v, by rw [h1, h3, h4]; rfl, by rw [h2]; exact hv⟩, hb⟩
theorem segLeft_some {n : Int} {s : ByteArray} {w w' : World} {v : Value} {f e : Nat} {bs : List BatchD} (h : segRead n s = some (f, bs, e)) (hb : Below w.heap.size w w') (hv : RowBatch w' w.heap.size v bs) : SegLeft n s w (.returned (.tuple #[.int .i64 (f : Int), v, .int .i64 (e : Int), .bool true])) w' := by
  obtain ⟨h1, h2, h3, h4⟩ := seg_some h
  refine ⟨⟨v, by rw [h1, h3, h4], by rw [h2]; exact hv⟩, hb⟩

/-- The number of the last of some batches; -1 where there is none. -/
def lastOf (l : List BatchD) : Int := match l.getLast? with
  | some b => b.seq
  | none => -1
theorem lastOf_snoc (l : List BatchD) (b : BatchD) : lastOf (l ++ [b]) = b.seq := by simp [lastOf]
theorem rdSeq_nat {t : ByteArray} (h : rdOk t = true) : 0 ≤ rdSeq t := by unfold rdSeq; rw [if_pos h]; omega
theorem str_cell {w : World} {B g n cap : Nat} {L : List (List UInt8)} (h : w.ownsRow B 9 1 (.slice (some ⟨g, 0, none⟩) n cap) n (L.map sv)) (j : Nat) (hj : j < n) (x : List UInt8) (hx : L[j]? = some x) : w.cell? ⟨g, j, none⟩ = some (.string ⟨x.toArray⟩) := by
  rw [h.cellAt j (by omega), List.getElem?_map, hx]; rfl
theorem recs_get (s : ByteArray) (l : List (Nat × Nat)) (j : Nat) (x : Nat × Nat) (h : l[j]? = some x) : (recs s l)[j]? = some (s.extract x.1 x.2).data.toList := by
  unfold recs
  rw [List.getElem?_map, h]
  rfl
theorem data_back (t : ByteArray) : (⟨t.data.toList.toArray⟩ : ByteArray) = t := by cases t; simp

theorem chained_get {s : ByteArray} : ∀ {l : List (Nat × Nat)} {i : Nat}, chained s i l → ∀ x ∈ l, 1 ≤ (s.extract x.1 x.2).size ∧ (s.extract x.1 x.2).size ≤ 9000
  | [], _, _, _, h => absurd h List.not_mem_nil
  | y :: r, _, hc, x, h => by
    rcases List.mem_cons.1 h with rfl | h
    · exact (frB_size hc.1).2
    · exact chained_get hc.2 x h
theorem frameB_le (t : ByteArray) (h : t.size ≤ 9000) : (frameB t).size ≤ 9009 := by
  have h1 := frameB_size t
  have h2 := Wd.varF_len 5 t.size
  omega

theorem after_app {wr W w' : World} {B B' : Nat} {v x : Value} {n : Nat} {xs : List Value} {bs : List BatchD} (h : wr.ownsRow B' 9 1 x n xs) (hb : BuildB wr B v bs) (hbel : Below wr.heap.size wr W) (hg : W.grownBy w' v.ownBlock) : w'.ownsRow B' 9 1 x n xs :=
  row_apart (ownsRow_below h hbel) (by decide) (buildB_below hb hbel) hg

end Go.Proofs.YtomdpkahcbnlnabDoor
