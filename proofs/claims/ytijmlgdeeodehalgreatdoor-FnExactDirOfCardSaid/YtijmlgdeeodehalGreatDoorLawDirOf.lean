/- The law of DirOf. -/
import Derived.Test.YtijmlgdeeodehalGreatDoorFiles
import Derived.Test.YtijmlgdeeodehalGreatDoorDirS5
import Derived.Test.YtijmlgdeeodehalGreatDoorDirI5
import Derived.Test.YtijmlgdeeodehalGreatDoorDirI6
import Derived.Test.YtijmlgdeeodehalGreatDoorLawReadHint
import Derived.Test.YtijmlgdeeodehalGreatDoorMarkD
namespace Go.Proofs.YtijmlgdeeodehalGreatDoor
open Go.RowKit

theorem rowF_rowsD {w : World} {B n c : Nat} {a : Option Addr} {fs : List FileD} (h : RowF w B (.slice a n c) fs) : FilesAt w a fs := by
  obtain ⟨ao, cap, e, hf⟩ := rowF_at h
  cases e
  exact hf

set_option maxRecDepth 100000 in
set_option maxHeartbeats 3200000 in
theorem lawDirOf (fs : List FileD) (ao : Option Addr) (cap : Nat) (w : World) (hl0 : fs.length ≤ maxLen) (hfs : FilesAt w ao fs) (hsz0 : ∀ F ∈ fs, F.name.size ≤ maxLen ∧ F.text.size ≤ maxLen) (hT : SumTab w) :
    Calls Tryz.prog 3 #[.agg #[.slice ao fs.length cap]] w fun e w' => e = .returned (.bool true) ∧ Below w.heap.size w w' := by
  have HF := hide hfs
  have HS := hide hsz0
  have HT := hide hT
  clear hfs hsz0 hT
  obtain ⟨wA, hwA⟩ : ∃ wA, wA = w.alloc (.cells #[.slice ao fs.length cap] 24) := ⟨_, rfl⟩
  have HA : Hid (Below w.heap.size w wA) := by rw [hwA]; exact (Below.refl _ w).alloc (Nat.le_refl _) _
  have hAs : wA.heap.size = w.heap.size + 1 := by rw [hwA]; simp
  have HAc : Hid (wA.cell? ⟨w.heap.size, 0, none⟩ = some (.slice ao fs.length cap)) := by rw [hwA]; exact box_cell _ _ _
  go_enter Tryz.func3, Tryz.ntmps3
  go_wp2_with fail
  rw [← hwA]
  clear hwA
  refine (szDisk_any fs ao cap 1048576 _ (by decide) (by decide) hl0 (filesAt_keep HF.out HA.out) HS.out).mono ?_
  rintro e w1 ⟨⟨r, rfl, hr⟩, b1⟩
  have HB1 := hide b1
  have HR := hide hr
  clear b1 hr
  by_cases hneg : r < 0
  · have hneg' : decide (r < 0) = true := by simp; omega
    go_wp2
    go_ret
    exact ⟨rfl, HA.out.trans (HB1.out.mono (by omega))⟩
  · have hneg' : decide (r < 0) = false := by simp; omega
    obtain ⟨hr1, hr2⟩ := HR.out (by omega)
    have HZ : Hid (∀ F ∈ fs, F.name.size ≤ 1048576 ∧ F.text.size ≤ 1048576) := szFs_small fs (1048576 - fs.length) (by omega) (by omega) (by omega)
    have hl : fs.length ≤ 1048576 := by omega
    have HSp := hide (fun ao cap W (hW : FilesAt W ao fs) => specDirOf_any fs ao cap W hl hW HZ.out)
    have HIm := hide (fun ao cap W (hW : FilesAt W ao fs) hT => implDirOf_of (fun gs mb n B w h1 h2 h3 h4 h5 => inOrder_any gs mb n B w h1 h2 h3 h4 h5) fs ao cap W hl hW HZ.out hT)
    have hLl := dirD_len fs
    generalize dirD fs = L at HSp HIm hLl
    generalize segsOk fs = ok at HSp HIm
    have hml : L.length ≤ maxLen := by unfold maxLen; omega
    have hoo : (!(ok == ok)) = false := by simp
    clear hr1 hr2
    have hbx1 : w1.cell? ⟨w.heap.size, 0, none⟩ = some (.slice ao fs.length cap) := (HB1.out.cell (p := ⟨w.heap.size, 0, none⟩) (by show w.heap.size < _; omega)).trans HAc.out
    go_wp2_with fail
    refine (toDisk_any fs ao cap _ hl (filesAt_keep HF.out (HA.out.trans (HB1.out.mono (by omega))))).mono ?_
    rintro e w2 ⟨⟨g2, C2, rfl, hg2, hC2, hCs2, hI2⟩, b2⟩
    have HB2 := hide (HB1.out.trans (b2.mono HB1.out.size))
    have HF2 := hide (filesAt_own hC2 hI2)
    clear b2 hC2 hI2 hCs2 hg2
    go_wp2_with fail
    refine (HSp.out _ _ _ HF2.out).mono ?_
    rintro e w3 ⟨⟨v1, rfl, r3⟩, b3⟩
    obtain ⟨a1, c1, rfl, -⟩ := rowSpot_at r3
    have R3 := hide r3
    have HB3 := hide (HB2.out.trans (b3.mono HB2.out.size))
    clear b3 HF2 r3
    have hs3 : wA.heap.size ≤ w3.heap.size := HB3.out.size
    have hbx3 : w3.cell? ⟨w.heap.size, 0, none⟩ = some (.slice ao fs.length cap) := (HB3.out.cell (p := ⟨w.heap.size, 0, none⟩) (by show w.heap.size < _; omega)).trans HAc.out
    go_wp2_with fail
    refine (toDisk_any fs ao cap _ hl (filesAt_keep HF.out (HA.out.trans (HB3.out.mono (by omega))))).mono ?_
    rintro e w4 ⟨⟨g4, C4, rfl, hg4, hC4, hCs4, hI4⟩, b4⟩
    have HB4 := hide (HB3.out.trans (b4.mono HB3.out.size))
    have RF4 : Hid (RowF w4 w3.heap.size (.slice (some ⟨g4, 0, none⟩) fs.length fs.length) fs) := .inr ⟨g4, fs.length, C4, rfl, hg4, hC4, by omega, hI4⟩
    have hg4l : g4 < w4.heap.size := (Array.getElem?_eq_some_iff.1 hC4).1
    have R4 := hide (rowSpot_below R3.out b4)
    have hs4 : w3.heap.size ≤ w4.heap.size := b4.size
    clear b4 hC4 hI4 hCs4
    obtain ⟨wX, hwX⟩ : ∃ wX, wX = w4.alloc (.cells #[.slice (some ⟨g4, 0, none⟩) fs.length fs.length] 31) := ⟨_, rfl⟩
    have HX : Hid (Below w4.heap.size w4 wX) := by rw [hwX]; exact (Below.refl _ w4).alloc (Nat.le_refl _) _
    have hXs : wX.heap.size = w4.heap.size + 1 := by rw [hwX]; simp
    have HXc : Hid (wX.cell? ⟨w4.heap.size, 0, none⟩ = some (.slice (some ⟨g4, 0, none⟩) fs.length fs.length)) := by rw [hwX]; exact box_cell _ _ _
    go_wp2_with fail
    rw [← hwX]
    clear hwX
    have HBX := hide (HB4.out.trans (HX.out.mono HB4.out.size))
    have HXs := hide hXs
    have hXs' : w4.heap.size < wX.heap.size := by omega
    clear hXs
    refine (HIm.out _ _ _ (rowF_rowsD (rowF_below RF4.out HX.out)) (sumTab_later (HA.out.trans (HBX.out.mono (by omega))) HT.out)).mono ?_
    rintro e w5 ⟨⟨v2, rfl, r5⟩, b5⟩
    obtain ⟨a2, c2, rfl, -⟩ := rowSpot_at r5
    have R25 := hide r5
    have HX5 := hide (HX.out.trans (b5.mono (by omega)))
    have HB5 := hide (HBX.out.trans (b5.mono HBX.out.size))
    have R15 := hide (rowSpot_below R4.out HX5.out)
    have hs5 : wX.heap.size ≤ w5.heap.size := b5.size
    have hq5 : w5.cell? ⟨w4.heap.size, 0, none⟩ = some (.slice (some ⟨g4, 0, none⟩) fs.length fs.length) := (b5.cell (p := ⟨w4.heap.size, 0, none⟩) hXs').trans HXc.out
    have HQ5 := hide hq5
    clear r5 b5 hbx1 hbx3 hq5
    go_wp2_with fail
    refine (eqSpotS_same L a2 a1 c2 c1 _ hml (rowSpot_rows R25.out) (rowSpot_rows R15.out)).mono ?_
    rintro e w6 ⟨rfl, b6⟩
    have B6 := hide b6
    have hs6 : w5.heap.size ≤ w6.heap.size := b6.size
    have HB6 := hide (HB5.out.trans (b6.mono HB5.out.size))
    have HX6 := hide (HX5.out.trans (b6.mono (by omega)))
    have hbx6 : w6.cell? ⟨w.heap.size, 0, none⟩ = some (.slice ao fs.length cap) := (HB6.out.cell (p := ⟨w.heap.size, 0, none⟩) (by show w.heap.size < _; omega)).trans HAc.out
    have hx6 : w6.cell? ⟨w4.heap.size, 0, none⟩ = some (.slice (some ⟨g4, 0, none⟩) fs.length fs.length) := (b6.cell (p := ⟨w4.heap.size, 0, none⟩) (by show w4.heap.size < _; omega)).trans HQ5.out
    have HF6 : Hid (FilesAt w6.drew ao fs) := filesAt_keep HF.out ((HA.out.trans (HB6.out.mono (by omega))).drew)
    have HG6 : Hid (FilesAt w6.drew (some ⟨g4, 0, none⟩) fs) := filesAt_keep (rowF_rowsD RF4.out) (HX6.out.drew)
    have hz1 : w.heap.size < w6.heap.size := by omega
    have hz2 : w4.heap.size < w6.heap.size := by omega
    clear b6
    go_wp2_with fail
    go_region_held3 (fun w' => w'.cell? ⟨w.heap.size, 0, none⟩ = some (.slice ao fs.length cap) ∧ w'.cell? ⟨w4.heap.size, 0, none⟩ = some (.slice (some ⟨g4, 0, none⟩) fs.length fs.length)) (first | go_keep | (exact ⟨(b6.cell (p := ⟨w.heap.size, 0, none⟩) hz1).trans hbx6, (b6.cell (p := ⟨w4.heap.size, 0, none⟩) hz2).trans hx6⟩) | (exact ⟨((b6.trans (b7.mono b6.size)).cell (p := ⟨w.heap.size, 0, none⟩) hz1).trans hbx6, ((b6.trans (b7.mono b6.size)).cell (p := ⟨w4.heap.size, 0, none⟩) hz2).trans hx6⟩)) ((first | (go_at_call 6; refine (toDisk_any fs ao cap _ hl HF6.out).mono ?_; rintro e wt ⟨⟨g6, C6, rfl, hg6, hC6, hCs6, hI6⟩, b6⟩) | (go_at_call 9; refine (eqDisk_same fs _ _ _ _ _ hl0 (filesAt_keep HG6.out b6) (filesAt_own hC6 hI6)).mono ?_; rintro e w7 ⟨rfl, b7⟩)))
    have B7 : Hid (Below w6.heap.size w6 w7) := (Below.refl _ _).drew.trans (b6.trans (b7.mono b6.size))
    clear b6 b7 hC6 hbx6 hx6
    have hs7 : w6.heap.size ≤ w7.heap.size := B7.out.size
    have B57 := hide (B6.out.trans (B7.out.mono hs6))
    have HB7 := hide (HB6.out.trans (B7.out.mono HB6.out.size))
    have RF7 := hide (rowF_below RF4.out (HX6.out.trans (B7.out.mono (by omega))))
    have R17 := hide (rowSpot_below R15.out B57.out)
    have R27 := hide (rowSpot_below R25.out B57.out)
    have hx7 : w7.cell? ⟨w4.heap.size, 0, none⟩ = some (.slice (some ⟨g4, 0, none⟩) fs.length fs.length) := (B57.out.cell (p := ⟨w4.heap.size, 0, none⟩) (by show w4.heap.size < _; omega)).trans HQ5.out
    obtain ⟨KD, HKD⟩ : ∃ KD : Int, Hid (((1 + 3 * fs.length : Nat) : Int) = KD) := ⟨_, rfl⟩
    have hKD : decide (KD < 0) = false := by have := HKD.out; simp; omega
    go_wp2_with fail
    refine (markDisk_row _ fs w3.heap.size 1 _ hl (by omega) (by omega) RF7.out).mono ?_
    rintro e w8 ⟨rfl, rf8, g8⟩
    rw [HKD.out]
    have hob : (Value.slice (some ⟨g4, 0, none⟩) fs.length fs.length).ownBlock = some g4 := rfl
    rw [hob] at g8
    have G8 := hide g8
    have hs8 : w7.heap.size ≤ w8.heap.size := g8.size
    clear rf8 g8 hx7 hob
    have HB8 := hide (HB7.out.grown G8.out (by have := HB7.out.size; omega) (fun k hk => by cases hk; omega))
    have H1l := hide (rowSpot_lt R3.out)
    have H2l := hide (rowSpot_lt R25.out)
    have R18 := hide (rowSpot_keep R17.out (fun g hg => G8.out.block g (by have := (H1l.out g hg).2; omega) (fun e => by have h1 := (H1l.out g hg).2; cases e; omega)))
    have R28 := hide (rowSpot_keep R27.out (fun g hg => G8.out.block g (by have := (H2l.out g hg).2; omega) (fun e => by have h1 := (H2l.out g hg).1; cases e; omega)))
    go_wp2_with fail
    refine (eqSpotS_same L a2 a1 c2 c1 _ hml (rowSpot_rows R28.out) (rowSpot_rows R18.out)).mono ?_
    rintro e w9 ⟨rfl, b9⟩
    have HB9 := hide (HB8.out.trans (b9.mono HB8.out.size))
    have R19 := hide (rowSpot_below R18.out b9)
    have R29 := hide (rowSpot_below R28.out b9)
    have hs9 : w8.heap.size ≤ w9.heap.size := b9.size
    clear b9
    obtain ⟨KM, HKM⟩ : ∃ KM : Int, Hid (((1 + 4 * L.length : Nat) : Int) = KM) := ⟨_, rfl⟩
    have hKM : decide (KM < 0) = false := by have := HKM.out; simp; omega
    have hKK : (!(KM == KM)) = false := by simp
    go_wp2_with fail
    refine (markSpotS_own (.slice a2 L.length c2) L wX.heap.size 1 _ (by omega) (by omega) (by omega) R29.out).mono ?_
    rintro e w10 ⟨rfl, r10, g10⟩
    rw [HKM.out]
    have R2A := hide r10
    have G10 := hide g10
    have hs10 : w9.heap.size ≤ w10.heap.size := g10.size
    clear r10 g10
    have HB10 := hide (HB9.out.grown G10.out (by have := HB9.out.size; omega) (fun k hk => by have := (H2l.out k hk).1; omega))
    have R1A := hide (rowSpot_keep R19.out (fun g hg => G10.out.block g (by have := (H1l.out g hg).2; omega) (fun e => by have h1 := (H1l.out g hg).2; have h2 := (H2l.out g e.symm).1; omega)))
    have K2 : Hid (SpotsAt w10 a2 (markSpotDs 1 L.length)) := rowSpot_rows R2A.out
    go_wp2_with fail
    refine (heldSpotS_any a2 c2 L.length 1 _ (by omega) (by omega) (by omega) K2.out).mono ?_
    rintro e w11 ⟨rfl, b11⟩
    rw [HKM.out]
    have HB11 := hide (HB10.out.trans (b11.mono HB10.out.size))
    have R1B := hide (rowSpot_below R1A.out b11)
    have K3 := hide (spotsAt_keep K2.out b11)
    clear b11
    have hbxA : w11.cell? ⟨w.heap.size, 0, none⟩ = some (.slice ao fs.length cap) := (HB11.out.cell (p := ⟨w.heap.size, 0, none⟩) (by show w.heap.size < _; omega)).trans HAc.out
    go_wp2_with fail
    refine (toDisk_any fs ao cap _ hl (filesAt_keep HF.out (HA.out.trans (HB11.out.mono (by omega))))).mono ?_
    rintro e w12 ⟨⟨g12, C12, rfl, hg12, hC12, hCs12, hI12⟩, b12⟩
    have HF12 := hide (filesAt_own hC12 hI12)
    have B12 := hide b12
    have HB12 := hide (HB11.out.trans (b12.mono HB11.out.size))
    clear b12 hC12 hI12 hCs12 hg12 hbxA
    go_wp2_with fail
    refine (HIm.out _ _ _ HF12.out (sumTab_later (HA.out.trans (HB12.out.mono (by omega))) HT.out)).mono ?_
    rintro e w13 ⟨⟨v3, rfl, r13⟩, b13⟩
    obtain ⟨a3, c3, rfl, -⟩ := rowSpot_at r13
    have R13 := hide r13
    have B13 := hide (B12.out.trans (b13.mono B12.out.size))
    clear r13 b13
    go_wp2_with fail
    refine (eqSpotS_same L a3 a1 c3 c1 _ hml (rowSpot_rows R13.out) (rowSpot_rows (rowSpot_below R1B.out B13.out))).mono ?_
    rintro e w14 ⟨rfl, b14⟩
    have B14 := hide (B13.out.trans (b14.mono B13.out.size))
    clear b14
    go_wp2_with fail
    refine (heldSpotS_any a2 c2 L.length 1 _ (by omega) (by omega) (by omega) (spotsAt_keep K3.out B14.out)).mono ?_
    rintro e w15 ⟨rfl, b15⟩
    rw [HKM.out]
    have B15 := hide (B14.out.trans (b15.mono B14.out.size))
    clear b15
    go_wp2
    go_ret
    exact ⟨rfl, HA.out.trans ((HB11.out.trans (B15.out.mono HB11.out.size)).mono (by omega))⟩
end Go.Proofs.YtijmlgdeeodehalGreatDoor
