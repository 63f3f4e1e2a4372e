/- The program's buffer of bytes and its parser: what they hold, and their small parts. -/
import Derived.Test.YtdefipahgpljeaaDoorReqS1
import Derived.Test.YtdefipahgpljeaaDoorTxtA
import Derived.Test.YtdefipahgpljeaaDoorShelfSplit
import Derived.Deep.RegionLaw
import Derived.BigQuiet
import Derived.Deep.RegionHeld3
namespace Go.Proofs.YtdefipahgpljeaaDoor
open Go.RowKit

/-- The parser in block g: the bytes, the place, the arguments so far. -/
def Prs (w : World) (g : Nat) (s : ByteArray) (i : Nat) (v : Value) : Prop := w.heap[g]? = some (.cells #[.string s, .int .i64 (i : Int), v] 48 (0, 0))
theorem prs_cells {w : World} {g : Nat} {s : ByteArray} {i : Nat} {v : Value} (h : Prs w g s i v) : w.cell? ⟨g, 0, none⟩ = some (.string s) ∧ w.cell? ⟨g, 1, none⟩ = some (.int .i64 (i : Int)) ∧ w.cell? ⟨g, 2, none⟩ = some v ∧ w.frozen? ⟨g, 1, none⟩ = false ∧ w.frozen? ⟨g, 2, none⟩ = false :=
  ⟨(cell_of_row w g 0 _ _ (0, 0) h).trans rfl, (cell_of_row w g 1 _ _ (0, 0) h).trans rfl, (cell_of_row w g 2 _ _ (0, 0) h).trans rfl, frozen_of_row w g 1 _ _ h, frozen_of_row w g 2 _ _ h⟩
theorem prs_lt {w : World} {g : Nat} {s : ByteArray} {i : Nat} {v : Value} (h : Prs w g s i v) : g < w.heap.size := (Array.getElem?_eq_some_iff.1 h).1

/-- The parser goes on in its block; its arguments lie behind it; all else that was there stays. -/
structure PS (w0 w : World) (g : Nat) (s : ByteArray) (i : Nat) (v : Value) (L : List ByteArray) : Prop where
  prs : Prs w g s i v
  ge : w0.heap.size ≤ g
  bel : Below w0.heap.size w0 w
  own : w.ownsRow (g + 1) 9 1 v L.length (L.map Value.string)
theorem ps_below {w0 w w' : World} {g : Nat} {s : ByteArray} {i : Nat} {v : Value} {L : List ByteArray} (h : PS w0 w g s i v L) (hb : Below w.heap.size w w') : PS w0 w' g s i v L :=
  ⟨(hb.block g (prs_lt h.prs)).trans h.prs, h.ge, h.bel.trans (hb.mono h.bel.size), ownsRow_below h.own hb⟩
theorem ps_drew {w0 w : World} {g : Nat} {s : ByteArray} {i : Nat} {v : Value} {L : List ByteArray} (h : PS w0 w g s i v L) (q : Nat) : PS w0 (w.drewN q) g s i v L := ps_below h (drewN_below _ _)
theorem ps_at {w0 w : World} {g : Nat} {s : ByteArray} {i : Nat} {v : Value} {L : List ByteArray} (h : PS w0 w g s i v L) (k : Nat) (z : Int) (hz : z = (k : Int)) : PS w0 (w.setCell ⟨g, 1, none⟩ (.int .i64 z)) g s k v L := by
  subst hz
  refine ⟨(heap_setCell_same _ _ _ _ _ _ h.prs).trans rfl, h.ge, h.bel.setCell (p := ⟨g, 1, none⟩) h.ge _, ?_⟩
  refine h.own.kept (grownBy_store (World.grownBy.refl w (some g)) 1 _) ?_
  cases hv : v.ownBlock with
  | none => exact .inl rfl
  | some k => exact .inr (by have := (h.own.lt k hv).1; intro e; simp at e; omega)

set_option maxRecDepth 100000 in
theorem left_any (w : World) (g : Nat) (s : ByteArray) (i : Nat) (v : Value) (hz : s.size ≤ 1048576) (hi : i ≤ s.size) (h : Prs w g s i v) :
    Calls Tryd.prog 61 #[.pointer (some ⟨g, 0, none⟩)] w fun e w' => e = .returned (.int .i64 ((s.size - i : Nat) : Int)) ∧ ∃ q, w' = w.drewN q := by
  obtain ⟨hc0, hc1, hc2, hf1, hf2⟩ := prs_cells h
  clear h
  go_enter Tryd.func61, Tryd.ntmps61
  go_wp2_with fail
  go_quiet (fail)
  go_wp2
  go_ret
  exact ⟨by go_num, _, rfl⟩

set_option maxRecDepth 100000 in
theorem take_no (w0 w : World) (g : Nat) (s : ByteArray) (i c : Nat) (v : Value) (L : List ByteArray) (hz : s.size ≤ 1048576) (hi : i ≤ s.size) (hc : s.size < i + c) (h : PS w0 w g s i v L) :
    Calls Tryd.prog 55 #[.pointer (some ⟨g, 0, none⟩), .int .i64 (c : Int)] w fun e w' => e = .returned (.tuple #[.string ⟨#[]⟩, .bool false]) ∧ PS w0 w' g s i v L := by
  have HP := hide h
  clear h
  have h1 : decide (((s.size - i : Nat) : Int) < (c : Int)) = true := by simp; omega
  go_enter Tryd.func55, Tryd.ntmps55
  go_wp2_with fail
  refine (left_any _ g s i v hz hi HP.out.prs).mono ?_
  rintro e w1 ⟨rfl, q, rfl⟩
  go_wp2
  go_ret2
  exact ⟨rfl, ps_drew HP.out q⟩

set_option maxRecDepth 100000 in
theorem take_yes (w0 w : World) (g : Nat) (s : ByteArray) (i c : Nat) (v : Value) (L : List ByteArray) (hz : s.size ≤ 1048576) (hc : i + c ≤ s.size) (h : PS w0 w g s i v L) :
    Calls Tryd.prog 55 #[.pointer (some ⟨g, 0, none⟩), .int .i64 (c : Int)] w fun e w' => e = .returned (.tuple #[.string (s.extract i (i + c)), .bool true]) ∧ PS w0 w' g s (i + c) v L := by
  have HP := hide h
  clear h
  have h1 : decide (((s.size - i : Nat) : Int) < (c : Int)) = false := by simp; omega
  go_enter Tryd.func55, Tryd.ntmps55
  go_wp2_with fail
  refine (left_any _ g s i v hz (by omega) HP.out.prs).mono ?_
  rintro e w1 ⟨rfl, q, rfl⟩
  obtain ⟨w2, hw2⟩ : ∃ w2, w2 = w.drewN q := ⟨_, rfl⟩
  rw [← hw2]
  have HP2 : Hid (PS w0 w2 g s i v L) := by rw [hw2]; exact ps_drew HP.out q
  clear hw2 HP
  obtain ⟨hc0, hc1, hc2, hf1, hf2⟩ := prs_cells HP2.out.prs
  have hcut := cut_at s i (i + c) i ((i : Int) + (c : Int)) (s.extract i (i + c)) rfl (by omega) (by omega) hc rfl
  go_wp2_with fail
  go_quiet (fail)
  go_wp2
  go_ret2
  exact ⟨rfl, ps_drew (ps_at HP2.out (i + c) _ (by omega)) _⟩

set_option maxRecDepth 100000 in
set_option maxHeartbeats 1000000 in
theorem takeFigures_any (w0 w : World) (g : Nat) (s : ByteArray) (i : Nat) (v : Value) (L : List ByteArray) (hz : s.size ≤ 1048576) (hi : i ≤ s.size) (h : PS w0 w g s i v L) :
    Calls Tryd.prog 63 #[.pointer (some ⟨g, 0, none⟩)] w fun e w' => e = .returned (.string (numTx s i)) ∧ PS w0 w' g s (figE s i) v L := by
  have HP := hide h
  obtain ⟨hc0, hc1, hc2, hf1, hf2⟩ := prs_cells h.prs
  clear h
  go_enter Tryd.func63, Tryd.ntmps63
  go_wp2_with fail
  clear hc0 hc1 hc2 hf1 hf2
  go_loopw [] (fun wr => ∃ k : Nat, i ≤ k ∧ k ≤ s.size ∧ Hid (figE s k = figE s i) ∧ Hid (PS w0 wr g s k v L)) (fun wr => s.size - (intOf ((wr.cell? ⟨g, 1, none⟩).getD undef)).toNat)
  case atStart => exact ⟨i, Nat.le_refl _, hi, rfl, HP⟩
  case round =>
    obtain ⟨k, hik, hks, HE, HR⟩ := hrel
    obtain ⟨hc0, hc1, hc2, hf1, hf2⟩ := prs_cells HR.out.prs
    obtain ⟨m, hm, HL⟩ : ∃ m : Nat, Hid (m = s.size - k) ∧ Hid (∀ q, Calls Tryd.prog 61 #[.pointer (some ⟨g, 0, none⟩)] (wr.drewN q) fun e w' => e = .returned (.int .i64 (m : Int)) ∧ ∃ r, w' = (wr.drewN q).drewN r) :=
      ⟨_, rfl, fun q => left_any (wr.drewN q) g s k v hz hks (ps_drew HR.out q).prs⟩
    by_cases hlt : k < s.size
    · have hm' : decide (0 < m) = true := by have := hm.out; simp; omega
      obtain ⟨c, hC, hct, hc256⟩ : ∃ c : Nat, Hid (Wd.bt s k = c) ∧ (s[k]'hlt).toNat = c ∧ c < 256 := ⟨_, rfl, Wd.bt_eq s k hlt, Wd.bt_lt s k⟩
      have hidx := idx_run s k c hlt hct
      by_cases hfig : 48 ≤ c ∧ c ≤ 57
      · have h1' : decide (48 ≤ (c : Int)) = true := by simp; omega
        have h2' : decide ((c : Int) ≤ 57) = true := by simp; omega
        have HE2 := hide ((figE_more hlt (by rw [hC.out]; exact hfig.1) (by rw [hC.out]; exact hfig.2)).symm.trans HE.out)
        go_wp2_with fail
        go_quiet ((go_at_call 61; exact Calls.quiet_of (HL.out _)))
        go_wp2_with fail
        go_roundw
        case rel => exact ⟨k + 1, by omega, by omega, HE2, ps_at (ps_drew HR.out _) (k + 1) _ (by omega)⟩
        case measure =>
          rw [(prs_cells (ps_at (ps_drew HR.out _) (k + 1) _ (show (k : Int) + 1 = ((k + 1 : Nat) : Int) by omega)).prs).2.1, hc1]
          simp [intOf]; omega
      · have hway : (decide (48 ≤ (c : Int)) = false) ∨ (decide (48 ≤ (c : Int)) = true ∧ decide ((c : Int) ≤ 57) = false) := by
          by_cases h : 48 ≤ c
          · exact .inr ⟨by simp; omega, by simp; omega⟩
          · exact .inl (by simp; omega)
        have hE : Hid (k = figE s i) := (figE_stop (fun h => hfig (by rw [← hC.out]; exact h.2))).symm.trans HE.out
        have hcut := cut_at s i k i k (numTx s i) rfl rfl hik hks (by rw [hE.out]; rfl)
        clear hfig
        rcases hway with h1' | ⟨h1', h2'⟩
        all_goals
          go_wp2_with fail
          go_quiet ((go_at_call 61; exact Calls.quiet_of (HL.out _)))
          go_wp2_with fail
          go_quiet (fail)
          go_wp2
          go_ret
          refine ⟨rfl, ?_⟩
          rw [← hE.out]
          exact ps_drew (ps_drew HR.out _) _
    · have hm' : decide (0 < m) = false := by have := hm.out; simp; omega
      have hE : Hid (k = figE s i) := (figE_stop (fun h => hlt h.1)).symm.trans HE.out
      have hcut := cut_at s i k i k (numTx s i) rfl rfl hik hks (by rw [hE.out]; rfl)
      go_wp2_with fail
      go_quiet ((go_at_call 61; exact Calls.quiet_of (HL.out _)))
      go_wp2_with fail
      go_quiet (fail)
      go_wp2
      go_ret
      refine ⟨rfl, ?_⟩
      rw [← hE.out]
      exact ps_drew (ps_drew HR.out _) _
end Go.Proofs.YtdefipahgpljeaaDoor
