/- The law on ParseRequest: both sides tell the same; what is told lies in memory of its own, and a further call leaves it alone. -/
import Derived.Test.YtnfnhkodjmilgaaDoorReqS4
import Derived.Test.YtnfnhkodjmilgaaDoorTxtL
namespace Go.Proofs.YtnfnhkodjmilgaaDoor
open Go.RowKit

/-- What one call leaves, in letters. -/
def TellsR (c p : Nat) (L : List ByteArray) (w : World) (e : Ending) (w' : World) : Prop :=
  Below w.heap.size w w' ∧ ∃ ao cap, e = .returned (.tuple #[.slice ao L.length cap, .int .i64 (p : Int), .int .i64 (c : Int)]) ∧ RowText w' w.heap.size (.slice ao L.length cap) L
theorem tells_of {s : ByteArray} {w : World} {e : Ending} {w' : World} (h : ParseLeft s w e w') : TellsR (parse s).1 (parse s).2.1 (parse s).2.2 w e w' := by
  obtain ⟨hb, v, he, hv⟩ := h
  obtain ⟨ao, cap, rfl, _⟩ := rowText_at hv
  exact ⟨hb, ao, cap, he, hv⟩

set_option maxRecDepth 100000 in
set_option maxHeartbeats 1000000 in
theorem parseRequest_small (s : ByteArray) (m : Int) (w : World) (ws : s.size ≤ 1048576) (hm : MaxL w m) :
    Calls Tryd.prog 4 #[.string s] w fun e w' => e = .returned (.bool true) ∧ Below w.heap.size w w' := by
  have C7 := hide (fun w => (specParse_any s w ws).mono (fun e w' => tells_of))
  have C8 := hide (fun w (hm : MaxL w m) => (implParse_any s m w ws hm).mono (fun e w' => tells_of))
  have hf := parse_facts s
  obtain ⟨c, hc⟩ : ∃ c, Hid ((parse s).1 = c) := ⟨_, rfl⟩
  obtain ⟨p, hp⟩ : ∃ p, Hid ((parse s).2.1 = p) := ⟨_, rfl⟩
  obtain ⟨L, hL, hL8⟩ : ∃ L, Hid ((parse s).2.2 = L) ∧ L.length ≤ 8 := ⟨_, rfl, hf.2.2.1⟩
  rw [hc.out, hp.out, hL.out] at C7 C8
  obtain ⟨N, hN⟩ : ∃ N : Nat, Hid (1 + L.length = N) := ⟨_, rfl⟩
  clear hf hc hp hL
  have HM := hide hm
  have hw0 : 1 < w.heap.size := hm.2
  clear hm
  have hcc : ((c : Int) != (c : Int)) = false := by simp
  have hpp : ((p : Int) != (p : Int)) = false := by simp
  have hNN : ((N : Int) != (N : Int)) = false := by simp
  have hN0 : decide ((N : Int) < 0) = false := by simp
  have hs' : decide (1048576 < (s.size : Int)) = false := by simp; omega
  go_enter Tryd.func4, Tryd.ntmps4
  go_wp2_with fail
  refine (C7.out _).mono ?_
  rintro e w1 ⟨b1, ao0, cap0, rfl, r0⟩
  have R0 := hide r0
  have B1 := hide b1
  have s1 := b1.size
  clear r0 b1
  go_wp2_with fail
  refine (C8.out _ (maxL_below HM.out hw0 B1.out)).mono ?_
  rintro e w2 ⟨b2, ao1, cap1, rfl, r1⟩
  have R1 := hide r1
  have B2 := hide b2
  have s2 := b2.size
  clear r1 b2
  go_wp2_with fail
  refine (eqStringS_same L ao1 ao0 cap1 cap0 _ (by unfold maxLen; omega) (rowText_rows R1.out) (rowText_rows (rowText_below R0.out B2.out))).mono ?_
  rintro e w3 ⟨rfl, b3⟩
  have B3 := hide b3
  have s3 := b3.size
  clear b3
  have HMk := hide (markStringS_row _ L w1.heap.size 1 w3 (by omega) (by omega) (by omega) (rowText_below R1.out B3.out))
  rw [hN.out] at HMk
  go_wp2_with fail
  refine HMk.out.mono ?_
  rintro e w4 ⟨rfl, r4, g4⟩
  have R4 := hide r4
  have G4 := hide g4
  have s4 := g4.size
  clear r4 g4 HMk
  have HHd := hide (fun W (h : TextsAt W ao1 (markTs 1 L.length)) => heldStringS_any ao1 cap1 L.length 1 W (by omega) (by omega) (by omega) h)
  rw [hN.out] at HHd
  have hML : Hid ((markTs 1 L.length).length = L.length) := markTs_length _ _
  go_wp2_with fail
  refine (HHd.out _ (rowText_rows R4.out)).mono ?_
  rintro e w5 ⟨rfl, b5⟩
  have B5 := hide b5
  have s5 := b5.size
  clear b5
  have hlt1 : Hid (∀ k, (Value.slice ao1 L.length cap1).ownBlock = some k → w1.heap.size ≤ k) := fun k hk => (rowText_lt R1.out k hk).1
  have HM5 : Hid (MaxL w5 m) := by
    have h3 := maxL_below (maxL_below (maxL_below HM.out hw0 B1.out) (by omega) B2.out) (by omega) B3.out
    have h4 : MaxL w4 m := ⟨G4.out.cell h3.1 (fun e => by have h := hlt1.out _ e.symm; change w1.heap.size ≤ 1 at h; omega), by omega⟩
    exact maxL_below h4 (by omega) B5.out
  have R05 : Hid (RowText w5 w.heap.size (.slice ao0 L.length cap0) L) := by
    have h3 := rowText_below (rowText_below R0.out B2.out) B3.out
    refine rowText_below (rowText_grown h3 G4.out ?_) B5.out
    intro g hg e
    have h1 := (rowText_lt R0.out g hg).2
    have h2 := hlt1.out g e.symm
    omega
  go_wp2_with fail
  refine (C8.out _ HM5.out).mono ?_
  rintro e w6 ⟨b6, ao2, cap2, rfl, r2⟩
  have R2 := hide r2
  have B6 := hide b6
  have s6 := b6.size
  clear r2 b6
  go_wp2_with fail
  refine (eqStringS_same L ao2 ao0 cap2 cap0 _ (by unfold maxLen; omega) (rowText_rows R2.out) (rowText_rows (rowText_below R05.out B6.out))).mono ?_
  rintro e w7 ⟨rfl, b7⟩
  have B7 := hide b7
  have s7 := b7.size
  clear b7
  go_wp2_with fail
  refine (HHd.out _ (rowText_rows (rowText_below (rowText_below (rowText_below R4.out B5.out) B6.out) B7.out))).mono ?_
  rintro e w8 ⟨rfl, b8⟩
  have B8 := hide b8
  clear b8
  go_wp2
  go_ret
  refine ⟨rfl, ?_⟩
  have t3 : Below w.heap.size w w3 := (B1.out.trans (B2.out.mono s1)).trans (B3.out.mono (by omega))
  have t4 : Below w.heap.size w w4 := t3.grown G4.out (by omega) (fun k hk => by have := hlt1.out k hk; omega)
  exact (((t4.trans (B5.out.mono (by omega))).trans (B6.out.mono (by omega))).trans (B7.out.mono (by omega))).trans (B8.out.mono (by omega))

theorem parseRequest_walk (s : ByteArray) (m : Int) (w : World) (ws : s.size ≤ maxLen) (hm : MaxL w m) :
    Calls Tryd.prog 4 #[.string s] w fun e w' => e = .returned (.bool true) ∧ Below w.heap.size w w' := by
  by_cases hs : s.size ≤ 1048576
  · exact parseRequest_small s m w hs hm
  · unfold maxLen at ws
    have hs' : decide (1048576 < (s.size : Int)) = true := by simp; omega
    clear hm
    go_enter Tryd.func4, Tryd.ntmps4
    go_wp2
    go_ret
    exact ⟨rfl, Below.refl _ _⟩
end Go.Proofs.YtnfnhkodjmilgaaDoor
