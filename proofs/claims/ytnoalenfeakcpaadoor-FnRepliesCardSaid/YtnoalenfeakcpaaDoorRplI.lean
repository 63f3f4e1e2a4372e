/- The program's reader of replies: its place, numbers on lines. -/
import Derived.Test.YtnoalenfeakcpaaDoorRplP
import Derived.Test.YtnoalenfeakcpaaDoorRepA
import Derived.Test.YtnoalenfeakcpaaDoorShelfAtoi
import Derived.Test.YtnoalenfeakcpaaDoorShelfCut
import Derived.Test.YtnoalenfeakcpaaDoorCutAt
import Derived.BigQuiet
import Derived.Deep.RegionHeld3
namespace Go.Proofs.YtnoalenfeakcpaaDoor
open Go.RowKit

/-- The reader in block g: the bytes, the place. -/
structure RS (w0 w : World) (g : Nat) (s : ByteArray) (i : Nat) : Prop where
  rd : w.heap[g]? = some (.cells #[.string s, .int .i64 (i : Int)] 44 (0, 0))
  ge : w0.heap.size ≤ g
  bel : Below w0.heap.size w0 w
theorem rs_cells {w0 w : World} {g : Nat} {s : ByteArray} {i : Nat} (h : RS w0 w g s i) : w.cell? ⟨g, 0, none⟩ = some (.string s) ∧ w.cell? ⟨g, 1, none⟩ = some (.int .i64 (i : Int)) ∧ w.frozen? ⟨g, 1, none⟩ = false :=
  ⟨(cell_of_row w g 0 _ _ (0, 0) h.rd).trans rfl, (cell_of_row w g 1 _ _ (0, 0) h.rd).trans rfl, frozen_of_row w g 1 _ _ h.rd⟩
theorem rs_lt {w0 w : World} {g : Nat} {s : ByteArray} {i : Nat} (h : RS w0 w g s i) : g < w.heap.size := (Array.getElem?_eq_some_iff.1 h.rd).1
theorem rs_below {w0 w w' : World} {g : Nat} {s : ByteArray} {i : Nat} (h : RS w0 w g s i) (hb : Below w.heap.size w w') : RS w0 w' g s i :=
  ⟨(hb.block g (rs_lt h)).trans h.rd, h.ge, h.bel.trans (hb.mono h.bel.size)⟩
theorem rs_drew {w0 w : World} {g : Nat} {s : ByteArray} {i : Nat} (h : RS w0 w g s i) (q : Nat) : RS w0 (w.drewN q) g s i := rs_below h (drewN_below _ _)
theorem rs_at {w0 w : World} {g : Nat} {s : ByteArray} {i : Nat} (h : RS w0 w g s i) (k : Nat) (z : Int) (hz : z = (k : Int)) : RS w0 (w.setCell ⟨g, 1, none⟩ (.int .i64 z)) g s k := by
  subst hz
  exact ⟨(heap_setCell_same _ _ _ _ _ _ h.rd).trans rfl, h.ge, h.bel.setCell (p := ⟨g, 1, none⟩) h.ge _⟩

set_option maxRecDepth 100000 in
theorem leftR_any (w0 w : World) (g : Nat) (s : ByteArray) (i : Nat) (hz : s.size ≤ 1048576) (hi : i ≤ s.size) (h : RS w0 w g s i) :
    Calls Tryd.prog 55 #[.pointer (some ⟨g, 0, none⟩)] w fun e w' => e = .returned (.int .i64 ((s.size - i : Nat) : Int)) ∧ ∃ q, w' = w.drewN q := by
  obtain ⟨hc0, hc1, hf1⟩ := rs_cells h
  clear h
  go_enter Tryd.func55, Tryd.ntmps55
  go_wp2_with fail
  go_quiet (fail)
  go_wp2
  go_ret
  exact ⟨by go_num, _, rfl⟩

set_option maxRecDepth 100000 in
theorem takeR_no (w0 w : World) (g : Nat) (s : ByteArray) (i : Nat) (c : Int) (hz : s.size ≤ 1048576) (hi : i ≤ s.size) (hc : (s.size : Int) < i + c) (h : RS w0 w g s i) :
    Calls Tryd.prog 37 #[.pointer (some ⟨g, 0, none⟩), .int .i64 c] w fun e w' => e = .returned (.tuple #[.string ⟨#[]⟩, .bool false]) ∧ RS w0 w' g s i := by
  have HP := hide h
  clear h
  have h1 : decide (((s.size - i : Nat) : Int) < c) = true := by simp; omega
  go_enter Tryd.func37, Tryd.ntmps37
  go_wp2_with fail
  refine (leftR_any w0 _ g s i hz hi HP.out).mono ?_
  rintro e w1 ⟨rfl, q, rfl⟩
  go_wp2
  go_ret2
  exact ⟨rfl, rs_drew HP.out q⟩

set_option maxRecDepth 100000 in
theorem takeR_yes (w0 w : World) (g : Nat) (s : ByteArray) (i c : Nat) (hz : s.size ≤ 1048576) (hc : i + c ≤ s.size) (h : RS w0 w g s i) :
    Calls Tryd.prog 37 #[.pointer (some ⟨g, 0, none⟩), .int .i64 (c : Int)] w fun e w' => e = .returned (.tuple #[.string (s.extract i (i + c)), .bool true]) ∧ RS w0 w' g s (i + c) := by
  have HP := hide h
  clear h
  have h1 : decide (((s.size - i : Nat) : Int) < (c : Int)) = false := by simp; omega
  go_enter Tryd.func37, Tryd.ntmps37
  go_wp2_with fail
  refine (leftR_any w0 _ g s i hz (by omega) HP.out).mono ?_
  rintro e w1 ⟨rfl, q, rfl⟩
  obtain ⟨w2, hw2⟩ : ∃ w2, w2 = w.drewN q := ⟨_, rfl⟩
  rw [← hw2]
  have HP2 : Hid (RS w0 w2 g s i) := by rw [hw2]; exact rs_drew HP.out q
  clear hw2 HP
  obtain ⟨hc0, hc1, hf1⟩ := rs_cells HP2.out
  have hcut := cut_at s i (i + c) i ((i : Int) + (c : Int)) (s.extract i (i + c)) rfl (by omega) (by omega) hc rfl
  go_wp2_with fail
  go_quiet (fail)
  go_wp2
  go_ret2
  exact ⟨rfl, rs_drew (rs_at HP2.out (i + c) _ (by omega)) _⟩

/-- Where the library finds CR and LF. -/
theorem cr_index (s : ByteArray) : ∀ n i, s.size - i = n → (crE s i < s.size → Lib.index (s.data.toList.drop i) [13, 10] = ((crE s i - i : Nat) : Int)) ∧ (s.size ≤ crE s i → Lib.index (s.data.toList.drop i) [13, 10] = -1) := by
  have hl : s.data.toList.length = s.size := Array.length_toList
  intro n
  induction n with
  | zero =>
    intro i hi
    have e : s.data.toList.drop i = [] := List.drop_eq_nil_of_le (by omega)
    rw [e]
    refine ⟨fun h => ?_, fun _ => by simp [Lib.index]⟩
    have := crE_facts h
    omega
  | succ n ih =>
    intro i hi
    have hlt : i < s.data.toList.length := by omega
    obtain ⟨ih1, ih2⟩ := ih (i + 1) (by omega)
    have hb : ∀ p (hp : p < s.data.toList.length), (s.data.toList[p]).toNat = Wd.bt s p := fun p hp => by rw [← Wd.bt_eq s p (by omega)]; rfl
    rw [List.drop_eq_getElem_cons hlt]
    by_cases hc : i + 1 < s.size ∧ Wd.bt s i = 13 ∧ Wd.bt s (i + 1) = 10
    · have e1 : s.data.toList[i] = 13 := UInt8.toNat_inj.1 ((hb i hlt).trans hc.2.1)
      have e2 : s.data.toList[i + 1]'(by omega) = 10 := UInt8.toNat_inj.1 ((hb (i + 1) (by omega)).trans hc.2.2)
      rw [crE_here hc.1 hc.2.1 hc.2.2, List.drop_eq_getElem_cons (by omega : i + 1 < s.data.toList.length), e1, e2]
      refine ⟨fun _ => ?_, fun h => by omega⟩
      simp [Lib.index, List.isPrefixOf]
    · rw [crE_next hc]
      have hp : ([13, 10] : List UInt8).isPrefixOf (s.data.toList[i] :: s.data.toList.drop (i + 1)) = false := by
        cases hh : ([13, 10] : List UInt8).isPrefixOf (s.data.toList[i] :: s.data.toList.drop (i + 1)) with
        | false => rfl
        | true =>
          exfalso
          by_cases h1 : i + 1 < s.data.toList.length
          · rw [List.drop_eq_getElem_cons h1] at hh
            simp only [List.isPrefixOf, Bool.and_eq_true, beq_iff_eq, and_true] at hh
            refine hc ⟨by omega, ?_, ?_⟩
            · rw [← hb i hlt, ← hh.1]; rfl
            · rw [← hb (i + 1) h1, ← hh.2]; rfl
          · rw [List.drop_eq_nil_of_le (by omega)] at hh
            simp [List.isPrefixOf] at hh
      have e : Lib.index (s.data.toList[i] :: s.data.toList.drop (i + 1)) [13, 10] = if Lib.index (s.data.toList.drop (i + 1)) [13, 10] == -1 then -1 else Lib.index (s.data.toList.drop (i + 1)) [13, 10] + 1 := by
        conv => lhs; unfold Lib.index
        rw [hp]; simp
      rw [e]
      refine ⟨fun h1 => ?_, fun h1 => ?_⟩
      · have h2 := ih1 h1
        have h3 := (crE_facts h1).1
        rw [if_neg (fun x => by have := beq_iff_eq.1 x; omega), h2]
        omega
      · rw [if_pos (beq_iff_eq.2 (ih2 h1))]
end Go.Proofs.YtnoalenfeakcpaaDoor
