/- The specification's l07Size. -/
import Derived.Test.YtmmchemgegmhhaaGreatDoorBatchS2
import Derived.Test.YtmmchemgegmhhaaGreatDoorSegPl
import Derived.Test.YtmmchemgegmhhaaGreatDoorFrameS
namespace Go.Proofs.YtmmchemgegmhhaaGreatDoor
open Go.RowKit

set_option maxRecDepth 100000 in
set_option maxHeartbeats 1600000 in
theorem l07Size_any (q : Int) (fs : List ChangeD) (ao : Option Addr) (cap : Nat) (w : World) (hl : fs.length ≤ 1048576) (hfs : ChangesAt w ao fs) (hsz : ∀ A ∈ fs, A.key.size ≤ 1048576 ∧ A.value.size ≤ 1048576) :
    Calls Tryz.prog 59 #[.agg #[.int .i64 q, .slice ao fs.length cap]] w fun e w' => e = .returned (.int .i64 (sizeD q fs : Nat)) ∧ Below w.heap.size w w' := by
  have HF := hide hfs
  have HS := hide hsz
  have hts := textD_small q fs
  have HSD : Hid (sizeD q fs = if 1 ≤ (textD q fs).size then (frameB (textD q fs)).size else 0) := rfl
  have HB := hide (fun W hW => specBatchText_any q fs ao cap W hl hW HS.out)
  obtain ⟨T, HT⟩ : ∃ T, Hid (textD q fs = T) := ⟨_, hide rfl⟩
  obtain ⟨ok, HOK⟩ : ∃ T, Hid (textOkD q fs = T) := ⟨_, hide rfl⟩
  rw [HT.out] at hts HB HSD
  rw [HOK.out] at HB
  clear hfs hsz
  have b0 : Below w.heap.size w (w.alloc (.cells #[.int .i64 q, .slice ao fs.length cap] 96)) := (Below.refl _ w).alloc (Nat.le_refl _) _
  have B0 := hide b0
  clear b0
  by_cases h1 : 1 ≤ T.size
  · have HE : Hid (sizeD q fs = (frameB T).size) := by show _ = _; rw [HSD.out, if_pos h1]
    go_enter Tryz.func59, Tryz.ntmps59
    go_wp2_with fail
    refine (HB.out _ (changesAt_keep HF.out B0.out)).mono ?_
    rintro e w1 ⟨rfl, b1⟩
    have B1 := hide (B0.out.trans (b1.mono B0.out.size))
    clear b1
    go_wp2_with fail
    refine (specFrame_yes T _ h1 hts).mono ?_
    rintro e w2 ⟨rfl, b2⟩
    have B2 := hide (B1.out.trans (b2.mono B1.out.size))
    clear b2
    go_wp2
    go_ret
    rw [HE.out]
    exact ⟨rfl, B2.out⟩
  · have HE : Hid (sizeD q fs = 0) := by show _ = _; rw [HSD.out, if_neg h1]
    go_enter Tryz.func59, Tryz.ntmps59
    go_wp2_with fail
    refine (HB.out _ (changesAt_keep HF.out B0.out)).mono ?_
    rintro e w1 ⟨rfl, b1⟩
    have B1 := hide (B0.out.trans (b1.mono B0.out.size))
    clear b1
    go_wp2_with fail
    refine (specFrame_no T _ (by omega)).mono ?_
    rintro e w2 ⟨rfl, rfl⟩
    go_wp2
    go_ret
    rw [HE.out]
    exact ⟨rfl, B1.out⟩
end Go.Proofs.YtmmchemgegmhhaaGreatDoor
