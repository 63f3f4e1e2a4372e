/- The law on Requests: both sides tell the same; what is told lies in memory of its own, and a further call leaves it alone. -/
import Derived.Test.YtnfnhkodjmilgaaDoorReqR
namespace Go.Proofs.YtnfnhkodjmilgaaDoor
open Go.RowKit

/-- What one call leaves, in letters. -/
def TellsQ (L : List (List ByteArray)) (p : Nat) (b : Bool) (w : World) (e : Ending) (w' : World) : Prop :=
  Below w.heap.size w w' ∧ ∃ ao cap, e = .returned (.tuple #[.slice ao L.length cap, .int .i64 (p : Int), .bool b]) ∧ RowTT w' w.heap.size (.slice ao L.length cap) L
theorem tellsQ_of {R : List (List ByteArray) × Nat × Bool} {w : World} {e : Ending} {w' : World} (h : ReqsLeft R w e w') : TellsQ R.1 R.2.1 R.2.2 w e w' := by
  obtain ⟨hb, v, he, hv⟩ := h
  obtain ⟨ao, cap, rfl, _⟩ := rowTT_at hv
  exact ⟨hb, ao, cap, he, hv⟩

set_option maxRecDepth 100000 in
set_option maxHeartbeats 1000000 in
theorem requests_small (s : ByteArray) (m : Int) (w : World) (ws : s.size ≤ 1048576) (hm : MaxL w m) :
    Calls Tryd.prog 5 #[.string s] w fun e w' => e = .returned (.bool true) ∧ Below w.heap.size w w' := by
  have C7 := hide (fun w => (specReqs_any s w ws).mono (fun e w' => tellsQ_of))
  have C8 := hide (fun w (hm : MaxL w m) => (implReqs_any s m w ws hm).mono (fun e w' => tellsQ_of))
  have hf := reqs_facts s
  obtain ⟨L, hL, hL1, HL8⟩ : ∃ L, Hid ((reqs s).1 = L) ∧ L.length ≤ 1048576 ∧ Hid (∀ x ∈ L, x.length ≤ 8) := ⟨_, rfl, by omega, hf.2.2⟩
  obtain ⟨p, hp⟩ : ∃ p, Hid ((reqs s).2.1 = p) := ⟨_, rfl⟩
  obtain ⟨b, hb⟩ : ∃ b, Hid ((reqs s).2.2 = b) := ⟨_, rfl⟩
  rw [hb.out, hp.out, hL.out] at C7 C8
  obtain ⟨N, hN⟩ : ∃ N : Nat, Hid (1 + sumL L = N) := ⟨_, rfl⟩
  clear hf hb hp hL
  have HM := hide hm
  have hw0 : 1 < w.heap.size := hm.2
  clear hm
  have hbb : (b != b) = false := by simp
  have hpp : ((p : Int) != (p : Int)) = false := by simp
  have hNN : ((N : Int) != (N : Int)) = false := by simp
  have hN0 : decide ((N : Int) < 0) = false := by simp
  have hs' : decide (1048576 < (s.size : Int)) = false := by simp; omega
  go_enter Tryd.func5, Tryd.ntmps5
  go_wp2_with fail
  refine (C7.out _).mono ?_
  rintro e w1 ⟨b1, ao0, cap0, rfl, r0⟩
  have R0 := hide r0
  have B1 := hide b1
  have s1 := b1.size
  clear r0 b1
  go_wp2_with fail
  refine (C8.out _ (maxL_below HM.out hw0 B1.out)).mono ?_
  rintro e w2 ⟨b2, ao1, cap1, rfl, r1⟩
  have R1 := hide r1
  have B2 := hide b2
  have s2 := b2.size
  clear r1 b2
  go_wp2_with fail
  refine (eqStringSS_same L ao1 ao0 cap1 cap0 _ (by omega) HL8.out (rowTT_rows R1.out) (rowTT_rows (rowTT_below R0.out B2.out))).mono ?_
  rintro e w3 ⟨rfl, b3⟩
  have B3 := hide b3
  have s3 := b3.size
  clear b3
  have HMk := hide (markStringSS_row _ L w1.heap.size 1 w3 (by omega) HL8.out (by omega) (by omega) (rowTT_below R1.out B3.out) w3.heap.size (topT_of (rowTT_below R1.out B3.out)))
  rw [hN.out] at HMk
  go_wp2_with fail
  refine HMk.out.mono ?_
  rintro e w4 ⟨rfl, r4, g4, -⟩
  have R4 := hide r4
  have G4 := hide g4
  have s4 := g4.size
  clear r4 g4 HMk
  have HHd := hide (fun W (h : RowsAt W ao1 (markTT 1 L)) => heldStringSS_any ao1 cap1 L 1 W (by omega) HL8.out (by omega) (by omega) h)
  rw [hN.out] at HHd
  go_wp2_with fail
  refine (HHd.out _ (rowTT_rows R4.out)).mono ?_
  rintro e w5 ⟨rfl, b5⟩
  have B5 := hide b5
  have s5 := b5.size
  clear b5
  have HM5 : Hid (MaxL w5 m) := by
    have h3 := maxL_below (maxL_below (maxL_below HM.out hw0 B1.out) (by omega) B2.out) (by omega) B3.out
    exact maxL_below (maxL_below h3 (by omega) G4.out) (by omega) B5.out
  have R05 : Hid (RowTT w5 w.heap.size (.slice ao0 L.length cap0) L) := by
    have T0 := topT_of R0.out
    refine rowTT_below (w := w4) ?_ B5.out
    have h1 := R0.out
    rcases h1 with h1 | ⟨g, cp, C, e1, e2, e3, e4, e5⟩
    · exact .inl h1
    · have hgl : g < w1.heap.size := objT_lt e3
      have keep : ∀ k, k < w1.heap.size → w4.heap[k]? = w1.heap[k]? := fun k hk => by rw [G4.out.block k hk, B3.out.block k (by omega), B2.out.block k hk]
      refine .inr ⟨g, cp, C, e1, e2, (keep g hgl).trans e3, e4, fun j hj hjk => ?_, e5.2⟩
      obtain ⟨x, k5, k6, k7⟩ := e5.1 j hj hjk
      exact ⟨x, k5, rowText_keep k6 (fun q hq => keep q (rowText_lt k6 q hq).2), k7⟩
  go_wp2_with fail
  refine (C8.out _ HM5.out).mono ?_
  rintro e w6 ⟨b6, ao2, cap2, rfl, r2⟩
  have R2 := hide r2
  have B6 := hide b6
  have s6 := b6.size
  clear r2 b6
  go_wp2_with fail
  refine (eqStringSS_same L ao2 ao0 cap2 cap0 _ (by omega) HL8.out (rowTT_rows R2.out) (rowTT_rows (rowTT_below R05.out B6.out))).mono ?_
  rintro e w7 ⟨rfl, b7⟩
  have B7 := hide b7
  have s7 := b7.size
  clear b7
  go_wp2_with fail
  refine (HHd.out _ (rowTT_rows (rowTT_below (rowTT_below (rowTT_below R4.out B5.out) B6.out) B7.out))).mono ?_
  rintro e w8 ⟨rfl, b8⟩
  have B8 := hide b8
  clear b8
  go_wp2
  go_ret
  refine ⟨rfl, ?_⟩
  have t3 : Below w.heap.size w w3 := (B1.out.trans (B2.out.mono s1)).trans (B3.out.mono (by omega))
  have t4 : Below w.heap.size w w4 := t3.trans (G4.out.mono s1)
  exact (((t4.trans (B5.out.mono (by omega))).trans (B6.out.mono (by omega))).trans (B7.out.mono (by omega))).trans (B8.out.mono (by omega))

theorem requests_walk (s : ByteArray) (m : Int) (w : World) (ws : s.size ≤ maxLen) (hm : MaxL w m) :
    Calls Tryd.prog 5 #[.string s] w fun e w' => e = .returned (.bool true) ∧ Below w.heap.size w w' := by
  by_cases hs : s.size ≤ 1048576
  · exact requests_small s m w hs hm
  · unfold maxLen at ws
    have hs' : decide (1048576 < (s.size : Int)) = true := by simp; omega
    clear hm
    go_enter Tryd.func5, Tryd.ntmps5
    go_wp2
    go_ret
    exact ⟨rfl, Below.refl _ _⟩
end Go.Proofs.YtnfnhkodjmilgaaDoor
