/- The law of HintText, but for the contracts of both functions. -/
import Derived.Test.YtjfagmjajpnacalDoorSpotL
import Derived.Test.YtjfagmjajpnacalDoorOne
namespace Go.Proofs.YtjfagmjajpnacalDoor
open Go.RowKit

set_option maxRecDepth 100000 in
set_option maxHeartbeats 1600000 in
theorem lawHintText_of (tx : List SpotD → ByteArray) (okf : List SpotD → Bool)
    (HS0 : ∀ (fs : List SpotD) (ao : Option Addr) (cap : Nat) (w : World), fs.length ≤ 1048576 → SpotsAt w ao fs → (∀ A ∈ fs, A.key.size ≤ 1048576) → Calls Tryd.prog 23 #[.slice ao fs.length cap] w fun e w' => e = .returned (.tuple #[.string (tx fs), .bool (okf fs)]) ∧ Below w.heap.size w w')
    (HI0 : ∀ (fs : List SpotD) (ao : Option Addr) (cap : Nat) (w : World), fs.length ≤ 1048576 → SpotsAt w ao fs → (∀ A ∈ fs, A.key.size ≤ 1048576) → SumTab w → Calls Tryd.prog 25 #[.slice ao fs.length cap] w fun e w' => e = .returned (.tuple #[.string (tx fs), .bool (okf fs)]) ∧ Below w.heap.size w w')
    (fs : List SpotD) (ao : Option Addr) (cap : Nat) (w : World) (hl0 : fs.length ≤ maxLen) (hfs : SpotsAt w ao fs) (hsz0 : ∀ A ∈ fs, A.key.size ≤ maxLen) (hT : SumTab w) :
    Calls Tryd.prog 6 #[.slice ao fs.length cap] w fun e w' => e = .returned (.bool true) ∧ Below w.heap.size w w' := by
  have HF := hide hfs
  have HT := hide hT
  have HSZ := hide (fun W hW => szSpotS_any fs ao cap 1048576 W (by decide) (by decide) hl0 hW hsz0)
  clear hfs hT hsz0
  obtain ⟨r, HR⟩ : ∃ r, Hid ((if (1048576 : Int) < fs.length then -1 else szSpotDs fs (1048576 - fs.length)) = r) := ⟨_, hide rfl⟩
  rw [HR.out] at HSZ
  go_enter Tryd.func6, Tryd.ntmps6
  go_wp2_with fail
  refine (HSZ.out _ HF.out).mono ?_
  rintro e w1 ⟨rfl, b1⟩
  have B1 := hide b1
  clear b1
  by_cases hneg : r < 0
  · have hneg' : decide (r < 0) = true := by simp; omega
    go_wp2
    go_ret
    exact ⟨rfl, B1.out⟩
  have hneg' : decide (r < 0) = false := by simp; omega
  have hboth : fs.length ≤ 1048576 ∧ ∀ A ∈ fs, A.key.size ≤ 1048576 := by
    have h := HR.out
    by_cases hb : (1048576 : Int) < fs.length
    · rw [if_pos hb] at h; omega
    · rw [if_neg hb] at h
      exact ⟨by omega, szSpotDs_small fs (1048576 - fs.length) (by omega) (by omega) (by omega)⟩
  obtain ⟨hl, hz⟩ := hboth
  have HS := hide (fun ao' cap' W hW => HS0 fs ao' cap' W hl hW hz)
  have HI := hide (fun ao' cap' W hW hTW => HI0 fs ao' cap' W hl hW hz hTW)
  clear HS0 HI0 hz HR HSZ
  obtain ⟨T, HTX⟩ : ∃ T, Hid (tx fs = T) := ⟨_, hide rfl⟩
  obtain ⟨okb, HOK⟩ : ∃ T, Hid (okf fs = T) := ⟨_, hide rfl⟩
  rw [HTX.out, HOK.out] at HS HI
  clear HTX HOK
  go_wp2_with fail
  refine (toSpotS_any fs ao cap _ hl (spotsAt_keep HF.out B1.out)).mono ?_
  rintro e w2 ⟨⟨C2, rfl, hC2, hCs2, hI2⟩, b2⟩
  have B2 := hide (B1.out.trans (b2.mono B1.out.size))
  have F2 := hide (spotsAt_own hC2 hI2)
  clear b2 hC2 hCs2 hI2
  go_wp2_with fail
  refine (HS.out _ _ _ F2.out).mono ?_
  rintro e w3 ⟨rfl, b3⟩
  have B3 := hide (B2.out.trans (b3.mono B2.out.size))
  clear b3 F2
  go_wp2_with fail
  refine (toSpotS_any fs ao cap _ hl (spotsAt_keep HF.out B3.out)).mono ?_
  rintro e w4 ⟨⟨C4, rfl, hC4, hCs4, hI4⟩, b4⟩
  have B4 := hide (B3.out.trans (b4.mono B3.out.size))
  have F4 := hide (spotsAt_own hC4 hI4)
  clear b4 hC4 hCs4 hI4
  go_wp2_with fail
  refine (HI.out _ _ _ F4.out (sumTab_later B4.out HT.out)).mono ?_
  rintro e w5 ⟨rfl, b5⟩
  have B5 := hide (B4.out.trans (b5.mono B4.out.size))
  have F5 := hide (spotsAt_keep F4.out b5)
  clear b5 F4
  have htt : (T.toList == T.toList) = true := beq_self_eq_true _
  cases okb
  all_goals
    go_wp2_with fail
    refine (toSpotS_any fs ao cap _ hl (spotsAt_keep HF.out B5.out)).mono ?_
    rintro e w6 ⟨⟨C6, rfl, hC6, hCs6, hI6⟩, b6⟩
    have B6 := hide (B5.out.trans (b6.mono B5.out.size))
    have F6 := hide (spotsAt_own hC6 hI6)
    have F56 := hide (spotsAt_keep F5.out b6)
    clear b6 hC6 hCs6 hI6
    go_wp2_with fail
    refine (eqSpotS_same fs _ _ _ _ _ hl0 F56.out F6.out).mono ?_
    rintro e w7 ⟨rfl, b7⟩
    have B7 := hide (B6.out.trans (b7.mono B6.out.size))
    clear b7
    go_wp2
    go_ret
    exact ⟨rfl, B7.out⟩
end Go.Proofs.YtjfagmjajpnacalDoor
