/- A drawn right disk. -/
import Derived.Test.YtgalhnbfdgpfpaaDrawNm
import Derived.Test.YtgalhnbfdgpfpaaTurnQ
import Derived.Test.YtgalhnbfdgpfpaaDraw2
import Derived.Test.YtgalhnbfdgpfpaaKeepsP
import Derived.Test.YtgalhnbfdgpfpaaPutS
import Derived.Test.YtgalhnbfdgpfpaaBlk
import Derived.Deep.RegionLaw
namespace Go.Proofs.Ytgalhnbfdgpfpaa
open Go.RowKit

theorem cur_drew {w0 w : World} {g : Nat} {ao : Option Addr} {len cap : Nat} (h : CurAt w0 w g ao len cap) : CurAt w0 w.drew g ao len cap := ⟨h.1.drew, h.2⟩
theorem grownBy_drew (w : World) (r : Option Nat) : w.grownBy w.drew r := grownBy_below r (Below.refl _ _).drew

/-- The disk that a draw builds: its box, its row behind it, the cursor ahead of both. -/
def DrawsD (wA wr : World) (g bd : Nat) (ao : Option Addr) (len cap : Nat) (v : Value) (fs : List FileD) : Prop :=
  CurAt wA wr g ao len cap ∧ g < bd ∧ wr.heap[bd]? = some (.cells #[v] 26 (0, 0)) ∧ RowF wr (bd + 1) v fs

theorem drawsD_grown {wA wr w' : World} {g bd : Nat} {ao : Option Addr} {len cap : Nat} {v : Value} {fs : List FileD} (h : DrawsD wA wr g bd ao len cap v fs) (hc : CurAt wA w' g ao len cap) (hg : wr.grownBy w' (some g)) : DrawsD wA w' g bd ao len cap v fs := by
  obtain ⟨_, h2, h3, h4⟩ := h
  refine ⟨hc, h2, (hg.block bd (Array.getElem?_eq_some_iff.1 h3).1 (by intro e; cases e; omega)).trans h3, rowF_grown h4 hg (fun b hb e => ?_)⟩
  have := (rowF_lt h4 b hb).1
  cases e
  omega
theorem drawsD_below {wA wr w' : World} {g bd : Nat} {ao : Option Addr} {len cap : Nat} {v : Value} {fs : List FileD} (h : DrawsD wA wr g bd ao len cap v fs) (hb : Below wr.heap.size wr w') : DrawsD wA w' g bd ao len cap v fs :=
  ⟨cur_keep h.1 hb (cur_lt h.1), h.2.1, blk_below h.2.2.1 hb, rowF_below h.2.2.2 hb⟩
theorem drawsD_lt {wA wr : World} {g bd : Nat} {ao : Option Addr} {len cap : Nat} {v : Value} {fs : List FileD} (h : DrawsD wA wr g bd ao len cap v fs) : bd < wr.heap.size := (Array.getElem?_eq_some_iff.1 h.2.2.1).1
theorem drawsD_cell {wA wr : World} {g bd : Nat} {ao : Option Addr} {len cap : Nat} {v : Value} {fs : List FileD} (h : DrawsD wA wr g bd ao len cap v fs) : wr.cell? ⟨bd, 0, none⟩ = some v := box_of h.2.2.1
/-- A new row is put into the box. -/
theorem drawsD_put {wA wr w' : World} {g bd : Nat} {ao : Option Addr} {len cap : Nat} {v u : Value} {fs gs : List FileD} (h : DrawsD wA wr g bd ao len cap v fs) (hb : Below wr.heap.size wr w') (hr : RowF w' wr.heap.size u gs) : DrawsD wA (w'.setCell ⟨bd, 0, none⟩ u) g bd ao len cap u gs := by
  have h' := drawsD_below h hb
  have hl := drawsD_lt h
  obtain ⟨⟨c1, c2, i, z, T, c3, c4⟩, h2, h3, _⟩ := h'
  have hA : wA.heap.size ≤ g := c2
  refine ⟨⟨c1.setCell (p := ⟨bd, 0, none⟩) (by show wA.heap.size ≤ bd; omega) u, c2, i, z, T, c3, ?_⟩, h2, (heap_setCell_same _ _ _ _ _ _ h3).trans rfl, ?_⟩
  · rw [Below.heap_setCell _ _ _ _ (by first | (show (g : Nat) ≠ bd; omega) | (show (bd : Nat) ≠ g; omega))]
    exact c4
  · exact rowF_le (rowF_grown hr (grownBy_store (World.grownBy.refl _ _) 0 _) (fun b hb e => by have := (rowF_lt hr b hb).1; cases e; omega)) (by omega)

set_option maxRecDepth 100000 in
set_option maxHeartbeats 4000000 in
theorem drawRightDisk_any (w : World) (ao : Option Addr) (len cap : Nat) (hlen : len ≤ 1048576) (hcode : Code w ao len) :
    Calls Try.prog 6 #[.slice ao len cap] w fun e w' => ∃ (v : Value) (fs : List FileD), e = .returned (.agg #[v]) ∧ RowF w' w.heap.size v fs ∧ diskOkD fs = true ∧ Below w.heap.size w w' := by
  obtain ⟨wA, hwA⟩ : ∃ wA, wA = w.alloc (.cells #[.slice none 0 0] 26) := ⟨_, rfl⟩
  have hsA : wA.heap.size = w.heap.size + 1 := by rw [hwA]; simp
  have HBA : Hid (Below w.heap.size w wA) := by rw [hwA]; exact (Below.refl _ w).alloc (Nat.le_refl _) _
  have RA : Hid (wA.heap[w.heap.size]? = some (.cells #[.slice none 0 0] 26 (0, 0))) := by rw [hwA]; exact heap_alloc_new _ _
  have HC := hide (code_keep hcode HBA.out)
  have HSA := hide hsA
  clear hcode hsA
  go_enter Try.func6, Try.ntmps6
  go_wp2_with fail
  rw [← hwA]
  clear hwA
  refine (new_any _ ao len cap hlen HC.out).mono ?_
  rintro e w1 ⟨g, rfl, hc1⟩
  have hg1 := cur_lt hc1
  obtain ⟨wB, hwB⟩ : ∃ wB, wB = w1.alloc (.cells #[.slice none 0 0] 26) := ⟨_, rfl⟩
  have HD : Hid (DrawsD wA wB g w1.heap.size ao len cap (.slice none 0 0) []) := by
    rw [hwB]
    exact ⟨cur_keep hc1 ((Below.refl _ w1).alloc (Nat.le_refl _) _) hg1, hg1, heap_alloc_new _ _, .inl ⟨rfl, rfl⟩⟩
  clear hc1 hg1
  go_wp2_with fail
  rw [← hwB]
  clear hwB
  go_loopw [5] (fun ii wr => ∃ (k : Nat) (v : Value) (fs : List FileD), ii = .int .i64 k ∧ k ≤ 6 ∧ fs.length ≤ k ∧ Hid (diskOkD fs = true) ∧ Hid (DrawsD wA wr g w1.heap.size ao len cap v fs)) (fun ii _ => 7 - (intOf ii).toNat)
  case atStart => exact ⟨0, _, [], rfl, by omega, by simp, by show _ = _; rfl, HD⟩
  case round =>
    obtain ⟨k, v, fs, rfl, hk, hfl, HOK, HDr⟩ := hrel
    go_wp2_with fail
    refine (below_any wA _ g ao len cap _ hlen (by omega) HC.out HDr.out.1).mono ?_
    rintro e w2 ⟨x, rfl, hx, _, hc2, g2⟩
    have hx6 := hx (by omega)
    have HD2 := hide (drawsD_grown HDr.out hc2 g2)
    clear hc2 g2 HDr hx
    by_cases hlt : k < x
    · have hlt' : decide ((k : Int) < (x : Int)) = true := by simp; omega
      go_wp2_with fail
      refine (below_any wA _ g ao len cap _ hlen (by omega) HC.out HD2.out.1).mono ?_
      rintro e w3 ⟨y, rfl, hy, _, hc3, g3⟩
      have hy30 := hy (by omega)
      have HD3 := hide (drawsD_grown HD2.out hc3 g3)
      clear hc3 g3 HD2 hy
      go_wp2_with fail
      refine (text_any wA _ g ao len cap _ hlen (by omega) HC.out HD3.out.1).mono ?_
      rintro e w4 ⟨l, rfl, hl, hc4, g4⟩
      have HD4 := hide (drawsD_grown HD3.out hc4 g4)
      clear hc4 g4 HD3
      obtain ⟨T, HT⟩ : ∃ T : ByteArray, Hid ((⟨l.toArray⟩ : ByteArray) = T) := ⟨_, hide rfl⟩
      have hTz : T.size ≤ 30 := by rw [← HT.out]; show l.length ≤ 30; omega
      rw [HT.out]
      clear hl
      obtain ⟨av, cv, rfl, _⟩ := rowF_at HD4.out.2.2.2
      have hcd := drawsD_cell HD4.out
      have hcdd : w4.drew.cell? ⟨w1.heap.size, 0, none⟩ = some (.slice av fs.length cv) := hcd
      have HD4d : Hid (DrawsD wA w4.drew g w1.heap.size ao len cap (.slice av fs.length cv) fs) := drawsD_below HD4.out (Below.refl _ _).drew
      clear HD4
      have hwr : IntKind.i64.wrap ((T.size : Int) + 1) = (T.size : Int) + 1 := by rw [IntKind.wrap_i64]; omega
      go_wp2_with fail
      go_region_law ((first | (go_simp; go_at_call 25; refine (named_any wA _ g ao len cap hlen HC.out HD4d.out.1).mono ?_; rintro e w5 ⟨z, rfl, hz, hc5, g5⟩; have HD5 := hide (drawsD_grown HD4d.out hc5 g5); have hcd5 := drawsD_cell HD5.out; clear hc5 g5) | (go_simp; go_at_call 22; refine (below_any wA _ g ao len cap _ hlen (by omega) HC.out HD5.out.1).mono ?_; rintro e w6 ⟨q, rfl, hq, _, hc6, g6⟩; have hq6 := hq (by omega); have HD6 := hide (drawsD_grown HD5.out hc6 g6); have hcd6 := drawsD_cell HD6.out; clear hc6 g6 hq) | (go_simp; go_at_call 24; refine (l03Put_any fs _ _ ⟨z, T, (q : Int)⟩ _ (by omega) (rowF_files HD6.out.2.2.2)).mono ?_; rintro e w7 ⟨v7, rfl, hrow7, b7⟩; obtain ⟨a7, c7, rfl, _⟩ := rowF_at hrow7; have hq7 := drawsD_cell (drawsD_below HD6.out b7); have hz7 := frozen_of_row w7 w1.heap.size 0 _ _ (drawsD_below HD6.out b7).2.2.1) | fail))
      all_goals
        have HD7 := hide (drawsD_put HD6.out b7 hrow7)
        have HOK7 : Hid (diskOkD (putD fs ⟨z, T, (q : Int)⟩) = true) := ok_put HOK.out (file_ok hz.1 hz.2 (by show T.size ≤ 20000; omega) (by show (0 : Int) ≤ (q : Int); omega) (by show (q : Int) ≤ (T.size : Int); omega)) (by omega)
        have hlen7 := len_putD_le fs ⟨z, T, (q : Int)⟩
        clear hrow7 b7 HD6 HD5 HD4d hcd hcdd hcd5 hcd6 hq7 hz7
        go_wp2_with fail
        go_roundw
        case rel => exact ⟨k + 1, _, _, by go_num, by omega, by omega, HOK7, HD7⟩
        case measure => simp [intOf]; omega
    · have hlt' : decide ((k : Int) < (x : Int)) = false := by simp; omega
      obtain ⟨av, cv, rfl, _⟩ := rowF_at HD2.out.2.2.2
      have hcd := drawsD_cell HD2.out
      have hBw : Hid (Below w.heap.size w w2) := HBA.out.trans (HD2.out.1.1.mono (by have := HSA.out; omega))
      have hR : w2.heap[w.heap.size]? = some (.cells #[.slice none 0 0] 26 (0, 0)) := (HD2.out.1.1.block _ (by have := HSA.out; omega)).trans RA.out
      have cR := box_of hR
      have zR := frozen_of_row w2 w.heap.size 0 _ _ hR
      have hwg : w.heap.size < g := by have h1 := HD2.out.1.2.1; have h2 := HSA.out; omega
      clear hR
      go_wp2_with fail
      have hrow := HD2.out.2.2.2
      have hgb := HD2.out.2.1
      refine bodyPost_ret (v := .agg #[.slice av fs.length cv]) (by simp [results, Try.results6, go_sem, cR]) rfl ⟨_, fs, rfl, ?_, HOK.out, hBw.out.setCell (p := ⟨w.heap.size, 0, none⟩) (Nat.le_refl _) _⟩
      exact rowF_le (rowF_grown hrow (grownBy_store (World.grownBy.refl _ _) 0 _) (fun b hb e => by have h1 := (rowF_lt hrow b hb).1; cases e; omega)) (by omega)
end Go.Proofs.Ytgalhnbfdgpfpaa
