/- The law on Commands. -/
import Derived.Test.YteidjnmfjkpolaaDoorNmC
import Derived.Test.YteidjnmfjkpolaaDoorTxtL
namespace Go.Proofs.YteidjnmfjkpolaaDoor
open Go.RowKit

theorem specCmds_row (w : World) : Calls Tryd.prog 7 #[] w fun e w' => ∃ v, e = .returned v ∧ RowText w' w.heap.size v cmdsL ∧ Below w.heap.size w w' := by
  refine (cmds_any w).mono ?_
  rintro e w' ⟨rfl, rfl⟩
  refine ⟨_, rfl, .inr ⟨w.heap.size, 41, _, rfl, Nat.le_refl _, heap_alloc_new w _, by simp, ?_⟩, (Below.refl _ _).alloc (Nat.le_refl _) _⟩
  intro j hj _
  simp [hj]

set_option maxRecDepth 100000 in
set_option maxHeartbeats 2000000 in
theorem lawCmds (w : World) : Calls Tryd.prog 3 #[] w fun e w' => e = .returned (.bool true) ∧ Below w.heap.size w w' := by
  have SP := hide (fun W => specCmds_row W)
  have IM := hide (fun W => implCmds_any W)
  have hl : cmdsL.length ≤ 41 := by decide
  generalize cmdsL = T at SP IM hl
  go_enter Tryd.func3, Tryd.ntmps3
  go_wp2_with fail
  refine (SP.out _).mono ?_
  rintro e w1 ⟨v0, rfl, r0, b1⟩
  have R0 := hide r0
  have B1 := hide b1
  have z1 := b1.size
  clear r0 b1
  go_wp2_with fail
  refine (IM.out _).mono ?_
  rintro e w2 ⟨v1, rfl, r1, b2⟩
  have R1 := hide r1
  have R02 := hide (rowText_below R0.out b2)
  have B2 := hide (B1.out.trans (b2.mono z1))
  have z2 := b2.size
  clear r1 b2
  obtain ⟨a0, c0, rfl, t0⟩ := rowText_at R02.out
  obtain ⟨a1, c1, rfl, t1⟩ := rowText_at R1.out
  have EQ := hide (eqStringS_same T a1 a0 c1 c0 w2 (by unfold maxLen; omega) t1 t0)
  clear t0 t1
  go_wp2_with fail
  refine EQ.out.mono ?_
  rintro e w3 ⟨rfl, b3⟩
  have R13 := hide (rowText_below R1.out b3)
  have R03 := hide (rowText_below R02.out b3)
  have B3 := hide (B2.out.trans (b3.mono (by omega)))
  have z3 := b3.size
  clear b3 EQ
  have MK := hide (markStringS_row _ T w1.heap.size 1 w3 (by omega) (by omega) (by omega) R13.out)
  go_wp2_with fail
  refine MK.out.mono ?_
  rintro e w4 ⟨rfl, r4, g4⟩
  have R04 := hide (rowText_grown R03.out g4 (fun g hg => by
    intro e
    have h1 := (rowText_lt R13.out g e.symm).1
    have h2 := (rowText_lt R0.out g hg).2
    omega))
  have B4 := hide (B3.out.grown g4 (by omega) (fun k hk => Nat.le_trans z1 (rowText_lt R13.out k hk).1))
  have z4 := B4.out.size
  obtain ⟨a4, c4, e4, t4⟩ := rowText_at r4
  rw [markTs_length] at e4
  obtain ⟨rfl, -, rfl⟩ : a1 = a4 ∧ T.length = T.length ∧ c1 = c4 := by simpa using e4
  have T4 := hide t4
  clear g4 r4 t4 e4 MK
  go_wp2_with fail
  refine (heldStringS_any a1 c1 T.length 1 w4 (by omega) (by omega) (by omega) T4.out).mono ?_
  rintro e w5 ⟨rfl, b5⟩
  have T5 := hide (textsAt_keep T4.out b5)
  have R05 := hide (rowText_below R04.out b5)
  have B5 := hide (B4.out.trans (b5.mono z4))
  have z5 := B5.out.size
  clear b5
  have hq : decide (((1 + T.length : Nat) : Int) < 0) = false := by simp; omega
  have hqm : (((1 + T.length : Nat) : Int) == ((1 + T.length : Nat) : Int)) = true := beq_self_eq_true _
  go_wp2_with fail
  refine (IM.out _).mono ?_
  rintro e w6 ⟨v6, rfl, r6, b6⟩
  have T6 := hide (textsAt_keep T5.out b6)
  have R06 := hide (rowText_below R05.out b6)
  have B6 := hide (B5.out.trans (b6.mono z5))
  have z6 := B6.out.size
  obtain ⟨a6, c6, rfl, t6⟩ := rowText_at r6
  obtain ⟨a0', c0', e0, t0⟩ := rowText_at R06.out
  obtain ⟨rfl, -, rfl⟩ : a0 = a0' ∧ T.length = T.length ∧ c0 = c0' := by simpa using e0
  have EQ := hide (eqStringS_same T a6 a0 c6 c0 w6 (by unfold maxLen; omega) t6 t0)
  clear r6 t6 t0 e0 b6
  go_wp2_with fail
  refine EQ.out.mono ?_
  rintro e w7 ⟨rfl, b7⟩
  have T7 := hide (textsAt_keep T6.out b7)
  have B7 := hide (B6.out.trans (b7.mono z6))
  have z7 := B7.out.size
  clear b7
  go_wp2_with fail
  refine (heldStringS_any a1 c1 T.length 1 w7 (by omega) (by omega) (by omega) T7.out).mono ?_
  rintro e w8 ⟨rfl, b8⟩
  go_wp2
  go_ret
  exact ⟨rfl, B7.out.trans (b8.mono z7)⟩
end Go.Proofs.YteidjnmfjkpolaaDoor
