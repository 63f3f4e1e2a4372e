/- A text in great letters: program and specification. -/
import Derived.Test.YteidjnmfjkpolaaDoorKit
import Derived.Test.YteidjnmfjkpolaaDoorWords0
import Derived.Test.YteidjnmfjkpolaaDoorChecked
import Derived.Lib.ConvBytes
import Derived.WalkSmall
namespace Go.Proofs.YteidjnmfjkpolaaDoor
open Go.RowKit

/-- A byte, its letter great. -/
def upB (b : UInt8) : UInt8 := if 97 ≤ b.toNat ∧ b.toNat ≤ 122 then UInt8.ofNat (b.toNat - 32) else b
theorem upB_yes {b : UInt8} {c : Nat} (h : b.toNat = c) (h1 : 97 ≤ c) (h2 : c ≤ 122) : (upB b).toNat = c - 32 := by
  unfold upB
  rw [if_pos (by omega), h]
  simp
  omega
theorem upB_no {b : UInt8} (h : ¬ (97 ≤ b.toNat ∧ b.toNat ≤ 122)) : upB b = b := by
  unfold upB
  rw [if_neg h]
/-- The first k bytes are told great. -/
def upTo (l : List UInt8) (k : Nat) : List UInt8 := (l.take k).map upB ++ l.drop k
theorem upTo_zero (l : List UInt8) : upTo l 0 = l := by simp [upTo]
theorem upTo_all (l : List UInt8) : upTo l l.length = l.map upB := by simp [upTo]
theorem upTo_length (l : List UInt8) (k : Nat) : (upTo l k).length = l.length := by simp [upTo]; omega
theorem upTo_get (l : List UInt8) (k : Nat) (h : k < l.length) : (upTo l k)[k]'(by rw [upTo_length]; exact h) = l[k] := by
  simp [upTo, Nat.le_of_lt h]
theorem upTo_next (l : List UInt8) (k : Nat) (h : k < l.length) : (upTo l k).set k (upB l[k]) = upTo l (k + 1) := by
  apply List.ext_getElem?
  intro j
  simp only [upTo, List.getElem?_set, List.getElem?_append, List.length_append, List.length_map, List.length_take, List.length_drop, List.getElem?_map, List.getElem?_take, List.getElem?_drop]
  by_cases hj : k = j
  · subst hj
    simp [h, Nat.min_eq_left (Nat.le_of_lt h)]
    rw [if_pos (by omega), if_pos (by omega)]
  · rw [if_neg hj, Nat.min_eq_left (Nat.le_of_lt h), Nat.min_eq_left h]
    by_cases h1 : j < k
    · rw [if_pos h1, if_pos h1, if_pos (by omega), if_pos (by omega)]
    · rw [if_neg h1, if_neg (by omega), show k + (j - k) = k + 1 + (j - (k + 1)) by omega]
theorem upTo_same (l : List UInt8) (k : Nat) (h : k < l.length) (hb : ¬ (97 ≤ l[k].toNat ∧ l[k].toNat ≤ 122)) : upTo l k = upTo l (k + 1) := by
  rw [← upTo_next l k h, upB_no hb]
  have e := upTo_get l k h
  conv => rhs; rw [← e]
  simp

/-- Bytes in a block of a call's own. -/
def BytesIs (w : World) (g : Nat) (L : List UInt8) : Prop := ∀ j (h : j < L.length), w.cell? ⟨g, j, none⟩ = some (.int .u8 (L[j].toNat : Int)) ∧ w.frozen? ⟨g, j, none⟩ = false
theorem bytesIs_made {P : Program} (w : World) (src dst e : TypeId) (s : ByteArray) (hs : P.underlying src = some .string) (hd : P.underlying dst = some (.slice e)) (he : P.underlying e = some (.int .u8)) :
    ∃ (W : World) (C : Nat), (convert src dst (.string s)).run P w = .ok (.slice (some ⟨w.heap.size, 0, none⟩) s.size C) W ∧ Below w.heap.size w W ∧ W.heap.size = w.heap.size + 1 ∧ BytesIs W w.heap.size s.data.toList := by
  refine ⟨_, _, Lib.run_convert_string_bytes w src dst e s hs hd he, ⟨rfl, rfl, rfl, by rw [Lib.bytesWorld_size]; omega, fun k hk => Lib.bytesWorld_at_old w e _ k hk⟩, Lib.bytesWorld_size _ _ _, ?_⟩
  intro j hj
  have hj' : j < s.size := by simpa using hj
  constructor
  · rw [Lib.bytesWorld_cell w e s j hj']
    simp
    rw [Array.getElem?_eq_getElem hj']
    rfl
  · unfold World.frozen?
    rw [Lib.bytesWorld_at_new]
    have : s.size ≤ (Lib.bytesCells w e s).size := by simp [Lib.bytesCells]
    simp
    omega
theorem bytesIs_back {P : Program} (W : World) (src dst e : TypeId) (g n C : Nat) (L : List UInt8) (hn : L.length = n) (hs : P.underlying src = some (.slice e)) (he : P.underlying e = some (.int .u8)) (hd : P.underlying dst = some .string) (h : BytesIs W g L) :
    (convert src dst (.slice (some ⟨g, 0, none⟩) n C)).run P W = .ok (.string ⟨L.toArray⟩) W := by
  subst hn
  refine run_convert_bytes_back (P := P) W src dst e ⟨g, 0, none⟩ C L hs he hd ?_
  intro j hj
  rw [show ((⟨g, 0, none⟩ : Addr).add j) = ⟨g, j, none⟩ by cases j <;> simp [Addr.add]]
  exact (h j hj).1
theorem bytesIs_put {W : World} {g : Nat} {L : List UInt8} (h : BytesIs W g L) (i : Nat) (hi : i < L.length) (c : UInt8) : BytesIs (W.setCell ⟨g, i, none⟩ (.int .u8 (c.toNat : Int))) g (L.set i c) := by
  intro j hj
  rw [List.length_set] at hj
  constructor
  · by_cases hij : i = j
    · subst hij
      rw [World.cell?_setCell_same (h := (h i hi).1)]
      simp
    · rw [World.cell?_setCell_other (h := show (⟨g, i, none⟩ : Addr) ≠ ⟨g, j, none⟩ by intro e; exact hij (by injection e)), (h j hj).1]
      simp [hij]
  · simpa [go_sem] using (h j hj).2
theorem bytesIs_same {W W' : World} {g : Nat} {L : List UInt8} (h : BytesIs W g L) (hk : W'.heap[g]? = W.heap[g]?) : BytesIs W' g L := by
  intro j hj
  have := h j hj
  simpa [World.cell?, World.frozen?, hk] using this
end Go.Proofs.YteidjnmfjkpolaaDoor
