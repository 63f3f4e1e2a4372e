/- The law on Unframe: both sides tell the same records; what is told lies in memory of its own, and a further call leaves it alone. -/
import Derived.Test.YtgalhnbfdgpfpajDoorUnframeI
import Derived.Test.YtgalhnbfdgpfpajDoorStrs
namespace Go.Proofs.YtgalhnbfdgpfpajDoor
open Go.RowKit

theorem recs_few (s : ByteArray) : (recs s (unf s)).length ≤ 1000000 := by
  rw [recs_len]; have := unf_len s; omega

set_option maxRecDepth 100000 in
set_option maxHeartbeats 1000000 in
theorem unframe_small (s : ByteArray) (w : World) (ws : s.size ≤ 1048576) (hT : SumTab w) :
    Calls Tryd.prog 4 #[.string s] w fun e w' => e = .returned (.bool true) ∧ Below w.heap.size w w' := by
  have hL := recs_few s
  have HS := hide (fun W => specUnframe_any s W ws)
  have HI := hide (fun W hT => unframe_any s W ws hT)
  unfold FramesLeft at HS HI
  generalize recs s (unf s) = L at HS HI hL
  generalize endOf (unf s) = E at HS HI
  have HT := hide hT
  have hgl := sumTab_lt hT
  clear hT
  have hs' : decide (1048576 < (s.size : Int)) = false := by simp; omega
  go_enter Tryd.func4, Tryd.ntmps4
  go_wp2_with fail
  refine (HS.out _).mono ?_
  rintro e w1 ⟨v0, rfl, r0, b1⟩
  have R0 := hide r0
  have B1 := hide b1
  have s1 := b1.size
  clear r0 b1
  go_wp2_with fail
  refine (HI.out _ (sumTab_later B1.out HT.out)).mono ?_
  rintro e w2 ⟨v1, rfl, r1, b2⟩
  have R1 := hide r1
  have B2 := hide b2
  have s2 := b2.size
  clear r1 b2
  go_wp2_with fail
  refine (eq_same v1 v0 L _ _ _ (by omega) R1.out (ownsRow_below R0.out B2.out)).mono ?_
  rintro e w3 ⟨rfl, q, hw3⟩
  have B3 : Hid (Below w2.heap.size w2 w3) := by rw [hw3]; exact drewN_below w2 q
  have R13 := hide (ownsRow_below R1.out B3.out)
  have s3 := B3.out.size
  clear hw3
  go_wp2_with fail
  refine (mark_row v1 L _ _ hL R13.out).mono ?_
  rintro e w4 ⟨rfl, r4, g4⟩
  have R4 := hide r4
  have G4 := hide g4
  have s4 := g4.size
  clear r4 g4
  go_wp2_with fail
  refine (held_row v1 L.length _ _ hL R4.out).mono ?_
  rintro e w5 ⟨rfl, b5⟩
  have B5 := hide b5
  have s5 := b5.size
  clear b5
  have hlt1 : Hid (∀ k, v1.ownBlock = some k → w1.heap.size ≤ k) := fun k hk => (R1.out.lt k hk).1
  have t3 : Hid (Below w.heap.size w w3) := (B1.out.trans (B2.out.mono s1)).trans (B3.out.mono (by omega))
  have t4 : Hid (Below w.heap.size w w4) := t3.out.grown G4.out (by omega) (fun k hk => by have := hlt1.out k hk; omega)
  have t5 : Hid (Below w.heap.size w w5) := t4.out.trans (B5.out.mono (by omega))
  have R05 : Hid (w5.ownsRow w.heap.size 9 1 v0 L.length (L.map sv)) := by
    have h3 := ownsRow_below (ownsRow_below R0.out B2.out) B3.out
    refine ownsRow_below (h3.kept G4.out ?_) B5.out
    cases hv : v0.ownBlock with
    | none => exact .inl rfl
    | some k =>
      right
      intro e
      have h1 := (R0.out.lt k hv).2
      have h2 := hlt1.out k e.symm
      omega
  go_wp2_with fail
  refine (HI.out _ (sumTab_later t5.out HT.out)).mono ?_
  rintro e w6 ⟨v2, rfl, r2, b6⟩
  have R2 := hide r2
  have B6 := hide b6
  have s6 := b6.size
  clear r2 b6
  go_wp2_with fail
  refine (eq_same v2 v0 L _ _ _ (by omega) R2.out (ownsRow_below R05.out B6.out)).mono ?_
  rintro e w7 ⟨rfl, q2, hw7⟩
  have B7 : Hid (Below w6.heap.size w6 w7) := by rw [hw7]; exact drewN_below w6 q2
  have s7 := B7.out.size
  clear hw7
  go_wp2_with fail
  refine (held_row v1 L.length _ _ hL (ownsRow_below (ownsRow_below (ownsRow_below R4.out B5.out) B6.out) B7.out)).mono ?_
  rintro e w8 ⟨rfl, b8⟩
  have B8 := hide b8
  clear b8
  go_wp2
  go_ret
  refine ⟨rfl, ?_⟩
  exact ((t5.out.trans (B6.out.mono (by omega))).trans (B7.out.mono (by omega))).trans (B8.out.mono (by omega))

theorem unframe_walk (s : ByteArray) (w : World) (hT : SumTab w) :
    Calls Tryd.prog 4 #[.string s] w fun e w' => e = .returned (.bool true) ∧ Below w.heap.size w w' := by
  by_cases hs : s.size ≤ 1048576
  · exact unframe_small s w hs hT
  · have hs' : decide (1048576 < (s.size : Int)) = true := by simp; omega
    clear hT
    go_enter Tryd.func4, Tryd.ntmps4
    go_wp2
    go_ret
    exact ⟨rfl, Below.refl _ _⟩
end Go.Proofs.YtgalhnbfdgpfpajDoor
