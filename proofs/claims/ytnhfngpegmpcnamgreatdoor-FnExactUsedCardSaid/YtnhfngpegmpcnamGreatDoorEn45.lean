import Derived.Lib.SmallJoins
import Derived.OpenShut
import Derived.Test.YtnhfngpegmpcnamGreatDoorProg
import Derived.Conc.RwLib
import Derived.Conc.MuData
import Derived.KernelRfl
import Derived.Conc.MuLone
import Derived.Test.YtnhfngpegmpcnamGreatDoorEn44
import Derived.Test.YtnhfngpegmpcnamGreatDoorEn40
import Derived.Test.YtnhfngpegmpcnamGreatDoorEn1
import Derived.Test.YtnhfngpegmpcnamGreatDoorEn3
import Derived.Test.YtnhfngpegmpcnamGreatDoorEn2
set_option maxRecDepth 100000
set_option maxHeartbeats 3200000
namespace Go.Proofs.YtnhfngpegmpcnamGreatDoor
open Go.RowKit
theorem lawEngineOk (fs : List FileD) (ao ad : Option Addr) (cap cd : Nat) (room act seq : Int) (dir : List SpotD) (w : World) (hl0 : fs.length ≤ maxLen) (hfs : FilesAt w ao fs) (hsz0 : ∀ F ∈ fs, F.name.size ≤ maxLen ∧ F.text.size ≤ maxLen) (hld0 : dir.length ≤ maxLen) (hds : SpotsAt w ad dir) (hszd : ∀ A ∈ dir, A.key.size ≤ maxLen) (hT : SumTab w) :
    Calls Tryz.prog 5 #[.agg #[.slice ao fs.length cap, .int .i64 room, .int .i64 act, .int .i64 seq, .slice ad dir.length cd]] w fun e w' => e = .returned (.bool true) ∧ Below w.heap.size w w' := by
  have HF := hide hfs
  have HD := hide hds
  have HT := hide hT
  have HSZ := hide (fun W h1 h2 => szEngine_any fs ao ad cap cd room act seq dir W hl0 h1 hsz0 hld0 h2 hszd)
  clear hfs hds hT
  obtain ⟨wA, hwA⟩ : ∃ wA, wA = w.alloc (.cells #[.slice ao fs.length cap, .int .i64 room, .int .i64 act, .int .i64 seq, .slice ad dir.length cd] 48) := ⟨_, rfl⟩
  have HA : Hid (Below w.heap.size w wA) := by rw [hwA]; exact (Below.refl _ w).alloc (Nat.le_refl _) _
  have HAK : Hid (wA.heap[w.heap.size]? = some (.cells #[.slice ao fs.length cap, .int .i64 room, .int .i64 act, .int .i64 seq, .slice ad dir.length cd] 48 (0, 0))) := by rw [hwA]; exact heap_alloc_new w _
  obtain ⟨hz0, hz1, hz2, hz3, hz4, -⟩ := five_cells HAK.out
  go_enter Tryz.func5, Tryz.ntmps5
  go_wp2_with fail
  rw [← hwA]
  clear hwA
  go_wp2_with fail
  refine (HSZ.out _ (filesAt_keep HF.out HA.out) (spotsAt_keep HD.out HA.out)).mono ?_
  rintro e w1 ⟨⟨r, rfl, hr⟩, b1⟩
  have HB1 := hide b1
  have HR := hide hr
  have HAK1 := hide ((b1.block _ (heap_lt HAK.out)).trans HAK.out)
  obtain ⟨hy0, hy1, hy2, hy3, hy4, -⟩ := five_cells HAK1.out
  have HW1 := hide (HA.out.trans (b1.mono HA.out.size))
  clear b1 hr hz0 hz1 hz2 hz3 hz4
  by_cases hneg : r < 0
  · have hneg' : decide (r < 0) = true := by simp; omega
    go_wp2
    go_ret
    exact ⟨rfl, HW1.out⟩
  · have hneg' : decide (r < 0) = false := by simp; omega
    obtain ⟨hl, hld, hz⟩ := HR.out (by omega)
    have HZ := hide hz
    clear hz HR
    go_wp2_with fail
    refine (toEngine_any fs ao ad cap cd room act seq dir _ hl (filesAt_keep HF.out HW1.out) hld (spotsAt_keep HD.out HW1.out)).mono ?_
    rintro e w2 ⟨⟨a2, d2, rfl, hf2, hd2⟩, b2⟩
    have HW2 := hide (HW1.out.trans (b2.mono HW1.out.size))
    have HAK2 := hide ((b2.block _ (heap_lt HAK1.out)).trans HAK1.out)
    have HF2 := hide hf2
    have HD2 := hide hd2
    clear b2 hf2 hd2 hy0 hy1 hy2 hy3 hy4
    go_wp2_with fail
    refine (specEngineOk_any fs a2 d2 _ _ room act seq dir _ hl HF2.out HZ.out hld HD2.out).mono ?_
    rintro e w3 ⟨rfl, b3⟩
    have HW3 := hide (HW2.out.trans (b3.mono HW2.out.size))
    have HAK3 := hide ((b3.block _ (heap_lt HAK2.out)).trans HAK2.out)
    obtain ⟨hy0, hy1, hy2, hy3, hy4, -⟩ := five_cells HAK3.out
    clear b3 HF2 HD2
    go_wp2_with fail
    refine (toEngine_any fs ao ad cap cd room act seq dir _ hl (filesAt_keep HF.out HW3.out) hld (spotsAt_keep HD.out HW3.out)).mono ?_
    rintro e w4 ⟨⟨a4, d4, rfl, hf4, hd4⟩, b4⟩
    have HW4 := hide (HW3.out.trans (b4.mono HW3.out.size))
    have HAK4 := hide ((b4.block _ (heap_lt HAK3.out)).trans HAK3.out)
    have HF4 := hide hf4
    have HD4 := hide hd4
    clear b4 hf4 hd4 hy0 hy1 hy2 hy3 hy4
    obtain ⟨wX, hwX⟩ : ∃ wX, wX = w4.alloc (.cells #[.slice a4 fs.length fs.length, .int .i64 room, .int .i64 act, .int .i64 seq, .slice d4 dir.length dir.length] 27) := ⟨_, rfl⟩
    have HX : Hid (Below w4.heap.size w4 wX) := by rw [hwX]; exact (Below.refl _ w4).alloc (Nat.le_refl _) _
    have HXK : Hid (wX.heap[w4.heap.size]? = some (.cells #[.slice a4 fs.length fs.length, .int .i64 room, .int .i64 act, .int .i64 seq, .slice d4 dir.length dir.length] 27 (0, 0))) := by rw [hwX]; exact heap_alloc_new w4 _
    have HWX := hide (HW4.out.trans (HX.out.mono HW4.out.size))
    obtain ⟨hx0, hx1, hx2, hx3, hx4, -⟩ := five_cells HXK.out
    have HIM := hide (implEngineOk_any fs a4 d4 fs.length dir.length room act seq dir wX hl (filesAt_keep HF4.out HX.out) HZ.out (spotsAt_keep HD4.out HX.out) (sumTab_later HWX.out HT.out))
    subst hwX
    go_wp2_with fail
    refine HIM.out.mono ?_
    rintro e w5 ⟨rfl, b5⟩
    have HX5 := hide (HX.out.trans (b5.mono HX.out.size))
    have HW5 := hide (HW4.out.trans (HX5.out.mono HW4.out.size))
    have HAK5 := hide ((HX5.out.block _ (heap_lt HAK4.out)).trans HAK4.out)
    have HXK5 := hide ((b5.block _ (heap_lt HXK.out)).trans HXK.out)
    obtain ⟨hy0, hy1, hy2, hy3, hy4, -⟩ := five_cells HAK5.out
    obtain ⟨hv0, hv1, hv2, hv3, hv4, -⟩ := five_cells HXK5.out
    have hzA : w.heap.size < w5.heap.size := heap_lt HAK5.out
    have hzX : w4.heap.size < w5.heap.size := heap_lt HXK5.out
    have HF5 := hide (filesAt_keep HF4.out HX5.out)
    have HD5 := hide (spotsAt_keep HD4.out HX5.out)
    have KS : Hid (∀ X, Below w5.heap.size w5 X → (X.cell? ⟨w.heap.size, 0, none⟩ = some (.slice ao fs.length cap) ∧ X.cell? ⟨w.heap.size, 1, none⟩ = some (.int .i64 room) ∧ X.cell? ⟨w.heap.size, 2, none⟩ = some (.int .i64 act) ∧ X.cell? ⟨w.heap.size, 3, none⟩ = some (.int .i64 seq) ∧ X.cell? ⟨w.heap.size, 4, none⟩ = some (.slice ad dir.length cd) ∧ X.cell? ⟨w4.heap.size, 0, none⟩ = some (.slice a4 fs.length fs.length) ∧ X.cell? ⟨w4.heap.size, 1, none⟩ = some (.int .i64 room) ∧ X.cell? ⟨w4.heap.size, 2, none⟩ = some (.int .i64 act) ∧ X.cell? ⟨w4.heap.size, 3, none⟩ = some (.int .i64 seq) ∧ X.cell? ⟨w4.heap.size, 4, none⟩ = some (.slice d4 dir.length dir.length))) := fun X hX => ⟨(hX.cell (p := ⟨w.heap.size, 0, none⟩) hzA).trans hy0, (hX.cell (p := ⟨w.heap.size, 1, none⟩) hzA).trans hy1, (hX.cell (p := ⟨w.heap.size, 2, none⟩) hzA).trans hy2, (hX.cell (p := ⟨w.heap.size, 3, none⟩) hzA).trans hy3, (hX.cell (p := ⟨w.heap.size, 4, none⟩) hzA).trans hy4, (hX.cell (p := ⟨w4.heap.size, 0, none⟩) hzX).trans hv0, (hX.cell (p := ⟨w4.heap.size, 1, none⟩) hzX).trans hv1, (hX.cell (p := ⟨w4.heap.size, 2, none⟩) hzX).trans hv2, (hX.cell (p := ⟨w4.heap.size, 3, none⟩) hzX).trans hv3, (hX.cell (p := ⟨w4.heap.size, 4, none⟩) hzX).trans hv4⟩
    have HTE : Hid (∀ X, Below w5.heap.size w5 X → Calls Tryz.prog 24 #[.agg #[.slice ao fs.length cap, .int .i64 room, .int .i64 act, .int .i64 seq, .slice ad dir.length cd]] X fun e w' => (∃ a1 a2 : Option Addr, e = .returned (.agg #[.slice a1 fs.length fs.length, .int .i64 room, .int .i64 act, .int .i64 seq, .slice a2 dir.length dir.length]) ∧ FilesAt w' a1 fs ∧ SpotsAt w' a2 dir) ∧ Below X.heap.size X w') := fun X hX => toEngine_any fs ao ad cap cd room act seq dir X hl (filesAt_keep HF.out (HW5.out.trans (hX.mono HW5.out.size))) hld (spotsAt_keep HD.out (HW5.out.trans (hX.mono HW5.out.size)))
    clear b5 hx0 hx1 hx2 hx3 hx4 HIM HXK HX HWX
    generalize engOkB fs room act seq dir = R
    cases R
    all_goals
      go_wp2_with fail
      go_region_held3 (fun w' => w'.cell? ⟨w.heap.size, 0, none⟩ = some (.slice ao fs.length cap) ∧ w'.cell? ⟨w.heap.size, 1, none⟩ = some (.int .i64 room) ∧ w'.cell? ⟨w.heap.size, 2, none⟩ = some (.int .i64 act) ∧ w'.cell? ⟨w.heap.size, 3, none⟩ = some (.int .i64 seq) ∧ w'.cell? ⟨w.heap.size, 4, none⟩ = some (.slice ad dir.length cd) ∧ w'.cell? ⟨w4.heap.size, 0, none⟩ = some (.slice a4 fs.length fs.length) ∧ w'.cell? ⟨w4.heap.size, 1, none⟩ = some (.int .i64 room) ∧ w'.cell? ⟨w4.heap.size, 2, none⟩ = some (.int .i64 act) ∧ w'.cell? ⟨w4.heap.size, 3, none⟩ = some (.int .i64 seq) ∧ w'.cell? ⟨w4.heap.size, 4, none⟩ = some (.slice d4 dir.length dir.length)) ((refine KS.out _ ?_; first | (exact e7) | (exact e6) | (exact (Below.refl _ _).drew) | fail)) ((first | (go_at_call 24; refine (HTE.out _ ?_).mono ?_; exact (Below.refl _ _).drew; rintro e w6 ⟨⟨a6, d6, rfl, hf6, hd6⟩, b6⟩; have e6 : Below w5.heap.size w5 w6 := ((Below.refl _ _).drew).trans b6) | (go_at_call 10; refine (eqEngine_same fs _ _ _ _ _ _ _ _ room act seq dir _ hl0 (filesAt_keep HF5.out e6) hf6 hld0 (spotsAt_keep HD5.out e6) hd6).mono ?_; rintro e w7 ⟨rfl, b7⟩; have e7 : Below w5.heap.size w5 w7 := e6.trans (b7.mono e6.size))))
      go_wp2
      go_ret
      exact ⟨rfl, HW5.out.trans (e7.mono HW5.out.size)⟩
end Go.Proofs.YtnhfngpegmpcnamGreatDoor
namespace Go.Proofs.YtnhfngpegmpcnamGreatDoor
open Go.RowKit Go.ChangeShapes Go.WideShapes Go.Deep
theorem file_of {H : Type} {enc : TypeId × Value → H} {w : World} {fuel : Nat} {cs : List Value} {x : DataW H × List MemPlace} (h : DataW.trod enc Tryz.prog w 0 (fun _ => true) true fuel 113 cs = some x) :
    ∃ F : FileD, cs = [.string F.name, .string F.text, .int .i64 F.kept] ∧ F.name.size ≤ maxLen ∧ F.text.size ≤ maxLen := by
  obtain ⟨y0, y1, y2, n, hx, hl, h0, h1, h2⟩ := trod_struct3 Tryz.underlying113 h
  have hc : Tryz.prog.cellsOf 113 = 3 := by kernel_rfl
  have k0 : Tryz.prog.cellsOf 9 = 1 := by kernel_rfl
  have k1 : Tryz.prog.cellsOf 3 = 1 := by kernel_rfl
  rw [hc] at hl
  match cs, hl with
  | [v0, v1, v2], _ =>
    simp only [k0, k1] at h0 h1 h2
    obtain ⟨s0, e0, _, z0⟩ := DataW.trod_string Tryz.underlying9 h0
    obtain ⟨s1, e1, _, z1⟩ := DataW.trod_string Tryz.underlying9 h1
    obtain ⟨x2, e2, _, _⟩ := DataW.trod_int Tryz.underlying3 h2
    simp at e0 e1 e2
    subst e0 e1 e2
    exact ⟨⟨s0, s1, x2⟩, rfl, z0, z1⟩
end Go.Proofs.YtnhfngpegmpcnamGreatDoor
namespace Go.Proofs.YtnhfngpegmpcnamGreatDoor
open Go.RowKit Go.ChangeShapes Go.WideShapes Go.Deep Go.Joins
theorem files_in {H : Type} {enc : TypeId × Value → H} {w : World} {n : Nat} {c0 : Value} {y0 : DataW H × List MemPlace} (h0' : DataW.trod enc Tryz.prog w 0 (fun _ => true) true n 33 [c0] = some y0) :
    ∃ (ao : Option Addr) (fs : List FileD) (cap : Nat), c0 = .slice ao fs.length cap ∧ fs.length ≤ maxLen ∧ FilesAt w ao fs ∧ ∀ F ∈ fs, F.name.size ≤ maxLen ∧ F.text.size ≤ maxLen := by
  have hc : Tryz.prog.cellsOf 113 = 3 := by kernel_rfl
  rcases open_slice Tryz.underlying33 h0' with ⟨e, _⟩ | ⟨a, len, cap, m, n', D, Pl, e, _, hle, hmx, hm, _, hel⟩
  · simp at e
    subst e
    exact ⟨none, [], 0, rfl, by unfold maxLen; simp, fun j hj => absurd hj (by simp), fun F hF => absurd hF List.not_mem_nil⟩
  · simp at e
    subst e
    rw [hc] at hel
    have hm' : len ≤ m := by rw [hm]; simpa using hle
    have hch : ∀ i, i < len → ∃ F : FileD, w.cells? 0 (a.add (i * 3)) 3 = some [.string F.name, .string F.text, .int .i64 F.kept] ∧ F.name.size ≤ maxLen ∧ F.text.size ≤ maxLen := by
      intro i hi
      obtain ⟨cs', g1, g2⟩ := hel i (by omega)
      obtain ⟨F, rfl, z0, z1⟩ := file_of g2
      exact ⟨F, g1, z0, z1⟩
    haveI : Inhabited FileD := ⟨⟨⟨#[]⟩, ⟨#[]⟩, 0⟩⟩
    obtain ⟨G, hG⟩ := choose_lt hch
    refine ⟨some a, (List.range len).map G, cap, by simp, by simp; omega, ?_, ?_⟩
    · intro j hj
      have hj' : j < len := by simpa using hj
      obtain ⟨g1, _, _⟩ := hG j hj'
      obtain ⟨_, _, hcell⟩ := World.cells?_some g1
      have q0 := hcell 0 (by omega)
      have q1 := hcell 1 (by omega)
      have q2 := hcell 2 (by omega)
      obtain ⟨b, off, spot⟩ := a
      have hspot : spot = none := by
        obtain ⟨_, _, hcell0⟩ := World.cells?_some (hG 0 (by omega)).1
        have q := hcell0 0 (by omega)
        simpa [Addr.add] using World.cell?_spot q
      subst hspot
      have ha : ∀ o i, ((⟨b, o, none⟩ : Addr).add i) = ⟨b, o + i, none⟩ := by intro o i; cases i <;> simp [Addr.add]
      simp only [ha] at q0 q1 q2
      refine ⟨b, off, rfl, ?_, ?_, ?_, ?_⟩
      · rcases Nat.lt_or_ge b w.heap.size with h | h
        · exact h
        · unfold World.cell? at q0
          rw [show w.heap[(⟨b, off + j * 3 + 0, none⟩ : Addr).block]? = none from Array.getElem?_eq_none h] at q0
          cases q0
      · simpa using q0
      · simpa using q1
      · simpa using q2
    · intro F hF
      obtain ⟨i, hi, rfl⟩ := List.mem_map.1 hF
      exact (hG i (by simpa using hi)).2
theorem spots_in {H : Type} {enc : TypeId × Value → H} {w : World} {fuel : Nat} {c0 : Value} {y0 : DataW H × List MemPlace} (h0' : DataW.trod enc Tryz.prog w 0 (fun _ => true) true fuel 46 [c0] = some y0) :
    ∃ (ao : Option Addr) (fs : List SpotD) (cap : Nat), c0 = .slice ao fs.length cap ∧ fs.length ≤ maxLen ∧ SpotsAt w ao fs ∧ ∀ A ∈ fs, A.key.size ≤ maxLen := by
  have hc : Tryz.prog.cellsOf 144 = 4 := by kernel_rfl
  rcases open_slice Tryz.underlying46 h0' with ⟨e, _⟩ | ⟨a, len, cap, m, n', D, Pl, e, _, hle, hmx, hm, _, hel⟩
  · simp at e
    subst e
    exact ⟨none, [], 0, rfl, by unfold maxLen; simp, fun j hj => absurd hj (by simp), fun F hF => absurd hF List.not_mem_nil⟩
  · simp at e
    subst e
    rw [hc] at hel
    have hm' : len ≤ m := by rw [hm]; simpa using hle
    have hch : ∀ i, i < len → ∃ A : SpotD, w.cells? 0 (a.add (i * 4)) 4 = some [.string A.key, .int .i64 A.seg, .int .i64 A.pos, .int .i64 A.seq] ∧ A.key.size ≤ maxLen := by
      intro i hi
      obtain ⟨cs', g1, g2⟩ := hel i (by omega)
      obtain ⟨A, rfl, z0⟩ := spot_in g2
      exact ⟨A, g1, z0⟩
    haveI : Inhabited SpotD := ⟨⟨⟨#[]⟩, 0, 0, 0⟩⟩
    obtain ⟨G, hG⟩ := choose_lt hch
    refine ⟨some a, (List.range len).map G, cap, by simp, by simp; omega, ?_, ?_⟩
    · intro j hj
      have hj' : j < len := by simpa using hj
      have g1 := (hG j hj').1
      obtain ⟨_, _, hcell⟩ := World.cells?_some g1
      have q0 := hcell 0 (by omega)
      have q1 := hcell 1 (by omega)
      have q2 := hcell 2 (by omega)
      have q3 := hcell 3 (by omega)
      obtain ⟨b, off, spot⟩ := a
      have hspot : spot = none := by
        obtain ⟨_, _, hcell0⟩ := World.cells?_some (hG 0 (by omega)).1
        have q := hcell0 0 (by omega)
        simpa [Addr.add] using World.cell?_spot q
      subst hspot
      have ha : ∀ o i, ((⟨b, o, none⟩ : Addr).add i) = ⟨b, o + i, none⟩ := by intro o i; cases i <;> simp [Addr.add]
      simp only [ha] at q0 q1 q2 q3
      refine ⟨b, off, rfl, ?_, ?_, ?_, ?_, ?_⟩
      · rcases Nat.lt_or_ge b w.heap.size with h | h
        · exact h
        · unfold World.cell? at q0
          rw [show w.heap[(⟨b, off + j * 4 + 0, none⟩ : Addr).block]? = none from Array.getElem?_eq_none h] at q0
          cases q0
      · simpa using q0
      · simpa using q1
      · simpa using q2
      · simpa using q3
    · intro A hA
      obtain ⟨i, hi, rfl⟩ := List.mem_map.1 hA
      exact (hG i (by simpa using hi)).2
theorem engine_of {H : Type} {enc : TypeId × Value → H} {w : World} {base : Nat} {v : Value} {d : DataW H} {p : List MemPlace} (hv : Value.okWide Tryz.prog w .any base 48 v)
    (h : DataW.Trod enc Tryz.prog w 0 (fun _ => true) true 48 v d p) :
    ∃ (ao : Option Addr) (fs : List FileD) (cap : Nat) (room act seq : Int) (ad : Option Addr) (dir : List SpotD) (cd : Nat), v = .agg #[.slice ao fs.length cap, .int .i64 room, .int .i64 act, .int .i64 seq, .slice ad dir.length cd] ∧
      fs.length ≤ maxLen ∧ FilesAt w ao fs ∧ (∀ F ∈ fs, F.name.size ≤ maxLen ∧ F.text.size ≤ maxLen) ∧ dir.length ≤ maxLen ∧ SpotsAt w ad dir ∧ ∀ A ∈ dir, A.key.size ≤ maxLen := by
  have hd : Tryz.prog.cellsOf 48 = 5 := by kernel_rfl
  have hk : Tryz.prog.cellsOf 35 = 1 := by kernel_rfl
  have hi : Tryz.prog.cellsOf 3 = 1 := by kernel_rfl
  have hs : Tryz.prog.cellsOf 46 = 1 := by kernel_rfl
  have hf : Tryz.prog.cellsOf 33 = 1 := by kernel_rfl
  obtain ⟨cs, rfl, hsz⟩ := okWide_struct Tryz.underlying48 hv
  rw [hd] at hsz
  obtain ⟨l⟩ := cs
  match l, hsz with
  | [c0, c1, c2, c3, c4], _ =>
    obtain ⟨fuel, hh⟩ := h
    obtain ⟨xs, n, _, _, _, hlen, hfl⟩ := DataW.trod_struct Tryz.underlying48 hh
    match xs, hlen with
    | [y0, y1, y2, y3, y4], _ =>
      have t0 : DataW.trod enc Tryz.prog w 0 (fun _ => true) true n 35 [c0] = some y0 := by
        have q := hfl 0 _ rfl
        simpa [hk, Value.cells] using q
      have t1 : DataW.trod enc Tryz.prog w 0 (fun _ => true) true n 3 [c1] = some y1 := by
        have q := hfl 1 _ rfl
        simpa [hi, Value.cells] using q
      have t2 : DataW.trod enc Tryz.prog w 0 (fun _ => true) true n 3 [c2] = some y2 := by
        have q := hfl 2 _ rfl
        simpa [hi, Value.cells] using q
      have t3 : DataW.trod enc Tryz.prog w 0 (fun _ => true) true n 3 [c3] = some y3 := by
        have q := hfl 3 _ rfl
        simpa [hi, Value.cells] using q
      have t4 : DataW.trod enc Tryz.prog w 0 (fun _ => true) true n 46 [c4] = some y4 := by
        have q := hfl 4 _ rfl
        simpa [hs, Value.cells] using q
      obtain ⟨z0, n0, _, _, u0⟩ := trod_struct1 Tryz.underlying35 t0
      simp only [hf] at u0
      obtain ⟨ao, fs, cap, e0, l0, f0, s0⟩ := files_in (c0 := c0) u0
      obtain ⟨x1, e1, _, _⟩ := DataW.trod_int Tryz.underlying3 t1
      obtain ⟨x2, e2, _, _⟩ := DataW.trod_int Tryz.underlying3 t2
      obtain ⟨x3, e3, _, _⟩ := DataW.trod_int Tryz.underlying3 t3
      obtain ⟨ad, dir, cd, e4, l4, f4, s4⟩ := spots_in (c0 := c4) t4
      simp at e1 e2 e3
      subst e0 e1 e2 e3 e4
      exact ⟨ao, fs, cap, x1, x2, x3, ad, dir, cd, rfl, l0, f0, s0, l4, f4, s4⟩
end Go.Proofs.YtnhfngpegmpcnamGreatDoor
namespace Go.Proofs
abbrev Tryz.muLink : Go.Conc.Locks.MuLink := { lock := 90, unlock := 91, ilock := 128, iunlock := 129, lockSlow := 159, unlockSlow := 162, disable := 155, enable := 157, acquire := 158, relMerge := 160, cas32 := 156, add32 := 161, tMutex := 88, tIMutex := 86, tPMutex := 185, tPIMutex := 216, tPI32 := 218, tUP := 220, tNoCopy := 83, tU32 := 84 }
theorem Tryz.muLib : Go.Conc.Locks.MuLib Tryz.prog Tryz.muLink :=
  ⟨Tryz.func90, Tryz.func91, Tryz.func128, Tryz.func129, Tryz.func155, Tryz.func157, Tryz.func158, Tryz.func160, Tryz.func156, Tryz.func161, Tryz.underlying86, Tryz.runUnderlying86, Tryz.sizeOf86, Tryz.isAgg86, Tryz.zeroValue86, Tryz.underlying88, Tryz.runUnderlying88, Tryz.sizeOf88, Tryz.isAgg88, Tryz.zeroValue88, Tryz.underlying185, Tryz.runUnderlying185, Tryz.sizeOf185, Tryz.isAgg185, Tryz.zeroValue185, Tryz.underlying216, Tryz.runUnderlying216, Tryz.sizeOf216, Tryz.isAgg216, Tryz.zeroValue216, Tryz.underlying218, Tryz.runUnderlying218, Tryz.sizeOf218, Tryz.isAgg218, Tryz.zeroValue218, Tryz.underlying220, Tryz.runUnderlying220, Tryz.sizeOf220, Tryz.isAgg220, Tryz.zeroValue220, Tryz.underlying83, Tryz.runUnderlying83, Tryz.sizeOf83, Tryz.isAgg83, Tryz.zeroValue83, Tryz.underlying21, Tryz.runUnderlying21, Tryz.sizeOf21, Tryz.isAgg21, Tryz.zeroValue21, (by kernel_rfl)⟩
end Go.Proofs
namespace Go.Proofs.YtnhfngpegmpcnamGreatDoor
open Go.RowKit
def usedL : List FileD → Nat
  | [] => 0
  | F :: r => F.text.size + usedL r
theorem usedL_app (a b : List FileD) : usedL (a ++ b) = usedL a + usedL b := by
  induction a with
  | nil => simp [usedL]
  | cons x r ih => simp [usedL, ih]; omega
theorem usedL_step {fs : List FileD} {k : Nat} (h : k < fs.length) : usedL (fs.take (k + 1)) = usedL (fs.take k) + fs[k].text.size := by
  rw [List.take_succ_eq_append_getElem h, usedL_app]
  simp [usedL]
theorem usedL_le : ∀ {fs : List FileD}, (∀ F ∈ fs, F.name.size ≤ 1048576 ∧ F.text.size ≤ 1048576) → usedL fs ≤ fs.length * 1048576
  | [], _ => by simp [usedL]
  | F :: r, h => by
    have h1 := (h F (by simp)).2
    have h2 := usedL_le (fs := r) (fun G hG => h G (by simp [hG]))
    simp only [usedL, List.length_cons]
    omega
theorem usedL_take_le {fs : List FileD} (hsz : ∀ F ∈ fs, F.name.size ≤ 1048576 ∧ F.text.size ≤ 1048576) (k : Nat) (hl : fs.length ≤ 1048576) : usedL (fs.take k) ≤ 1048576 * 1048576 := by
  have h := usedL_le (fs := fs.take k) (fun F hF => hsz F (List.mem_of_mem_take hF))
  have h2 : (fs.take k).length ≤ fs.length := by simp; omega
  calc usedL (fs.take k) ≤ (fs.take k).length * 1048576 := h
    _ ≤ 1048576 * 1048576 := Nat.mul_le_mul_right _ (by omega)
theorem bytesOf_any (fs : List FileD) (ao : Option Addr) (cap : Nat) (w : World) (hl : fs.length ≤ 1048576) (hfs : FilesAt w ao fs) (hsz : ∀ F ∈ fs, F.name.size ≤ 1048576 ∧ F.text.size ≤ 1048576) :
    Calls Tryz.prog 92 #[.agg #[.slice ao fs.length cap]] w fun e w' => e = .returned (.int .i64 (usedL fs : Nat)) ∧ Below w.heap.size w w' := by
  have HF := hide hfs
  have HS := hide hsz
  have HU := hide (fun k => usedL_take_le hsz k hl)
  clear hfs hsz
  have HE : Hid (usedL (fs.take fs.length) = usedL fs) := by show _ = _; rw [List.take_length]
  have HZ : Hid (usedL (fs.take 0) = 0) := by show _ = _; rfl
  obtain ⟨R, HR⟩ : ∃ R, Hid (usedL fs = R) := ⟨_, hide rfl⟩
  rw [HR.out]
  go_enter Tryz.func92, Tryz.ntmps92
  go_wp2
  go_loopw [3, 9] (fun nn ii wr => ∃ (k : Nat), nn = .int .i64 (usedL (fs.take k) : Nat) ∧ ii = .int .i64 k ∧ k ≤ fs.length ∧ Hid (Below w.heap.size w wr)) (fun _ ii _ => fs.length - (intOf ii).toNat)
  case atStart => exact ⟨0, rfl, rfl, Nat.zero_le _, (Below.refl _ w).alloc (Nat.le_refl _) _⟩
  case round =>
    obtain ⟨k, rfl, rfl, hk, HB⟩ := hrel
    by_cases hlt : k < fs.length
    · have hlt' : decide ((k : Int) < (fs.length : Int)) = true := by simp; omega
      obtain ⟨b, off, rfl, hbw, hc0, hc1, hc2⟩ := filesAt_keep HF.out HB.out k hlt
      have HST := hide (usedL_step hlt)
      have hs2 := (HS.out fs[k] (List.getElem_mem hlt)).2
      have hu := HU.out k
      have hu1 := HU.out (k + 1)
      have HSS : Hid (usedL (fs.take (k + 1)) = usedL (fs.take k) + fs[k].text.size) := HST.out
      obtain ⟨F, HFk⟩ : ∃ F, Hid (fs[k] = F) := ⟨fs[k], hide rfl⟩
      rw [HFk.out] at hc0 hc1 hc2 hs2 HSS
      obtain ⟨U, hU⟩ : ∃ U, usedL (fs.take k) = U := ⟨_, rfl⟩
      have HV : Hid (usedL (fs.take (k + 1)) = U + F.text.size) := by show _ = _; rw [HSS.out, hU]
      rw [hU] at hu ⊢
      clear HSS HST hu1
      have hi0 : (0 : Int) ≤ (k : Int) := by omega
      have hi1 : (k : Int) < (fs.length : Int) := by omega
      have hw : IntKind.i64.wrap ((U : Int) + (F.text.size : Int)) = ((U + F.text.size : Nat) : Int) := by rw [IntKind.wrap_i64]; omega
      go_wp2
      go_roundw
      case rel => exact ⟨k + 1, by rw [HV.out]; first | rfl | go_num, by go_num, by omega, HB.out.alloc HB.out.size _⟩
      case measure => simp [intOf]; omega
    · have hlt' : decide ((k : Int) < (fs.length : Int)) = false := by simp; omega
      have hR : Hid (usedL (fs.take k) = R) := by show _ = _; rw [show k = fs.length from by omega, HE.out, HR.out]
      rw [hR.out]
      go_wp2
      go_ret
      exact ⟨rfl, HB.out⟩
theorem l08Used_any (fs : List FileD) (ao : Option Addr) (cap : Nat) (w : World) (hl : fs.length ≤ 1048576) (hfs : FilesAt w ao fs) (hsz : ∀ F ∈ fs, F.name.size ≤ 1048576 ∧ F.text.size ≤ 1048576) :
    Calls Tryz.prog 56 #[.agg #[.slice ao fs.length cap]] w fun e w' => e = .returned (.int .i64 (usedL fs : Nat)) ∧ Below w.heap.size w w' := by
  have HF := hide hfs
  have HS := hide hsz
  have HU := hide (fun k => usedL_take_le hsz k hl)
  clear hfs hsz
  have HE : Hid (usedL (fs.take fs.length) = usedL fs) := by show _ = _; rw [List.take_length]
  obtain ⟨R, HR⟩ : ∃ R, Hid (usedL fs = R) := ⟨_, hide rfl⟩
  rw [HR.out]
  go_enter Tryz.func56, Tryz.ntmps56
  go_wp2
  go_loopw [3, 4] (fun nn ii wr => ∃ (k : Nat), nn = .int .i64 (usedL (fs.take k) : Nat) ∧ ii = .int .i64 k ∧ k ≤ fs.length ∧ Hid (Below (w.heap.size + 1) (w.alloc (.cells #[.slice ao fs.length cap] 24)) wr)) (fun _ ii _ => fs.length - (intOf ii).toNat)
  case atStart => exact ⟨0, rfl, rfl, Nat.zero_le _, Below.refl _ _⟩
  case round =>
    obtain ⟨k, rfl, rfl, hk, HBx⟩ := hrel
    have HB : Hid (Below w.heap.size w wr) := ((Below.refl _ w).alloc (Nat.le_refl _) _).trans (HBx.out.mono (by omega))
    have hbox : wr.cell? ⟨w.heap.size, 0, none⟩ = some (.slice ao fs.length cap) := (HBx.out.cell (p := ⟨w.heap.size, 0, none⟩) (by simp)).trans (by rw [cell_of_row _ _ _ _ _ (0, 0) (heap_alloc_new w _)]; rfl)
    by_cases hlt : k < fs.length
    · have hlt' : decide ((k : Int) < (fs.length : Int)) = true := by simp; omega
      obtain ⟨b, off, rfl, hbw, hc0, hc1, hc2⟩ := filesAt_keep HF.out HB.out k hlt
      have HST := hide (usedL_step hlt)
      have hs2 := (HS.out fs[k] (List.getElem_mem hlt)).2
      have hu := HU.out k
      have hu1 := HU.out (k + 1)
      have HSS : Hid (usedL (fs.take (k + 1)) = usedL (fs.take k) + fs[k].text.size) := HST.out
      obtain ⟨F, HFk⟩ : ∃ F, Hid (fs[k] = F) := ⟨fs[k], hide rfl⟩
      rw [HFk.out] at hc0 hc1 hc2 hs2 HSS
      obtain ⟨U, hU⟩ : ∃ U, usedL (fs.take k) = U := ⟨_, rfl⟩
      have HV : Hid (usedL (fs.take (k + 1)) = U + F.text.size) := by show _ = _; rw [HSS.out, hU]
      rw [hU] at hu ⊢
      clear HSS HST hu1
      have hi0 : (0 : Int) ≤ (k : Int) := by omega
      have hi1 : (k : Int) < (fs.length : Int) := by omega
      have hw : IntKind.i64.wrap ((U : Int) + (F.text.size : Int)) = ((U + F.text.size : Nat) : Int) := by rw [IntKind.wrap_i64]; omega
      go_wp2
      go_roundw
      case rel => exact ⟨k + 1, by rw [HV.out]; first | rfl | go_num, by go_num, by omega, HBx.out⟩
      case measure => simp [intOf]; omega
    · have hlt' : decide ((k : Int) < (fs.length : Int)) = false := by simp; omega
      have hR : Hid (usedL (fs.take k) = R) := by show _ = _; rw [show k = fs.length from by omega, HE.out, HR.out]
      rw [hR.out]
      go_wp2
      go_ret
      exact ⟨rfl, HB.out⟩
theorem storeAt_lock {w : World} {B g : Nat} {fs : List FileD} {room : Int} {vd vr vs : Value} (h : StoreAt w B g fs room vd vr vs) (z : Value) :
    (w.setCell ⟨g, 0, none⟩ z).heap[g]? = some (.cells #[z, .int .u32 0, vd, .int .i64 room, .int .i64 ((lastG fs).num : Int), .int .i64 (seqD (segsL fs)), vr, vs] 91 (0, 0)) :=
  (heap_setCell_same w g 0 _ _ z h.blk).trans rfl
theorem storeAt_disk {w : World} {B g : Nat} {fs : List FileD} {room : Int} {vd vr vs : Value} (h : StoreAt w B g fs room vd vr vs) (z : Value) : RowF (w.setCell ⟨g, 0, none⟩ z) B vd (actsF fs (actsI fs)).1 := by
  have hb := h.blk
  refine rowF_keep h.disk (fun x hx => ?_)
  have hne : x ≠ g := by
    rintro rfl
    rcases h.disk with ⟨rfl, -⟩ | ⟨g', cap, C, rfl, -, hC, -⟩
    · cases hx
    · obtain rfl : g' = x := by simpa [Value.ownBlock] using hx
      rw [hC] at hb
      simp at hb
  exact Below.heap_setCell _ _ _ _ hne
theorem used_any (fs : List FileD) (room : Int) (B g : Nat) (vd vr vs : Value) (w : World) (hl : fs.length ≤ 1048576) (hsz : ∀ F ∈ fs, F.name.size ≤ 1048576 ∧ F.text.size ≤ 1048576) (hst : StoreAt w B g fs room vd vr vs) (hca : calmB fs = true) :
    Calls Tryz.prog 57 #[.pointer (some ⟨g, 0, none⟩)] w fun e w' => e = .returned (.int .i64 (usedL fs : Nat)) ∧ Below B w w' := by
  have hA : (actsF fs (actsI fs)).1 = fs := by rw [calm_acts hca]; rfl
  have hle := hst.le
  have hd1 := storeAt_disk hst (.int .i32 1)
  rw [hA] at hd1
  obtain ⟨ad, cd, rfl, hfs⟩ := rowF_at hd1
  have HFS := hide hfs
  have HB1 := hide (storeAt_lock hst (.int .i32 1))
  have HK := hide (eight_cells hst.blk)
  have HBO := hide (fun W h => bytesOf_any fs ad cd W hl h hsz)
  clear hfs hd1 hst hsz
  obtain ⟨w1, hw1⟩ : ∃ w1, w1 = w.setCell ⟨g, 0, none⟩ (.int .i32 1) := ⟨_, rfl⟩
  rw [← hw1] at HB1 HFS
  have HW1 : Hid (Below B w w1) := by show Below _ _ _; rw [hw1]; exact (Below.refl _ w).setCell (p := ⟨g, 0, none⟩) hle _
  have hgl : g < w1.heap.size := heap_lt HB1.out
  obtain ⟨k0, k1, k2, k3, k4, k5, k6, k7, k8⟩ := eight_cells HB1.out
  obtain ⟨R, HR⟩ : ∃ R, Hid (usedL fs = R) := ⟨_, hide rfl⟩
  rw [HR.out] at HBO ⊢
  go_enter_defers Tryz.func57, Tryz.ntmps57
  go_wp2_with fail
  refine (Go.MuLone.lock_free Tryz.muLib ⟨g, 0, none⟩ w HK.out.1 HK.out.2.2.2.2.2.2.2.2).mono ?_
  rintro e w' ⟨rfl, rfl⟩
  rw [← hw1]
  clear hw1
  go_wp2_with fail
  refine (HBO.out _ HFS.out).mono ?_
  rintro e w2 ⟨rfl, b2⟩
  have h0 : w2.cell? ⟨g, 0, none⟩ = some (.int .i32 1) := (b2.cell (p := ⟨g, 0, none⟩) hgl).trans k0
  have hz : w2.frozen? ⟨g, 0, none⟩ = false := frozen_of_row w2 g 0 _ _ ((b2.block _ hgl).trans HB1.out)
  go_wp2
  refine leaves_cons (f := 91) (args := #[.pointer (some ⟨g, 0, none⟩)]) (by simp) (by simp [go_sem]) ?_
  refine (Go.MuLone.unlock_deferred Tryz.muLib ⟨g, 0, none⟩ .returning _ h0 hz).mono ?_
  rintro e u' w'' ⟨rfl, rfl, rfl⟩
  exact ⟨_, results_tmp rfl _ _ _, rfl, (HW1.out.trans (b2.mono (Nat.le_of_lt (Nat.lt_of_le_of_lt hle hgl)))).setCell (p := ⟨g, 0, none⟩) hle _⟩
def usedE (fs : List FileD) (room act seq : Int) (dir : List SpotD) : Nat := bif engOkB fs room act seq dir then usedL fs else 0
theorem usedE_yes {fs : List FileD} {room act seq : Int} {dir : List SpotD} (h : engOkB fs room act seq dir = true) : usedE fs room act seq dir = usedL fs := by
  unfold usedE
  rw [h]
  rfl
theorem usedE_no {fs : List FileD} {room act seq : Int} {dir : List SpotD} (h : engOkB fs room act seq dir = false) : usedE fs room act seq dir = 0 := by
  unfold usedE
  rw [h]
  rfl
theorem implUsed_any (fs : List FileD) (ao ad : Option Addr) (cap cd : Nat) (room act seq : Int) (dir : List SpotD) (w : World) (hl : fs.length ≤ 1048576) (hfs : FilesAt w ao fs) (hsz : ∀ F ∈ fs, F.name.size ≤ 1048576 ∧ F.text.size ≤ 1048576) (hds : SpotsAt w ad dir) (hT : SumTab w) :
    Calls Tryz.prog 27 #[.agg #[.slice ao fs.length cap, .int .i64 room, .int .i64 act, .int .i64 seq, .slice ad dir.length cd]] w fun e w' => e = .returned (.int .i64 (usedE fs room act seq dir : Nat)) ∧ Below w.heap.size w w' := by
  have HSO := hide (fun W h1 h2 hT => storeOf_any fs ao ad cap cd room act seq dir W hl h1 hsz h2 hT)
  have HUS := hide (fun B g vd vr vs W => used_any fs room B g vd vr vs W hl hsz)
  have HF := hide hfs
  have HD := hide hds
  have HT := hide hT
  clear hfs hds hsz hT
  obtain ⟨wb, hwb⟩ : ∃ wb, wb = w.alloc (.cells #[.slice ao fs.length cap, .int .i64 room, .int .i64 act, .int .i64 seq, .slice ad dir.length cd] 27) := ⟨_, rfl⟩
  have HB0 : Hid (Below w.heap.size w wb) := by rw [hwb]; exact (Below.refl _ w).alloc (Nat.le_refl _) _
  obtain ⟨R, HR⟩ : ∃ R, Hid (usedE fs room act seq dir = R) := ⟨_, hide rfl⟩
  rw [HR.out]
  go_enter Tryz.func27, Tryz.ntmps27
  go_wp2_with fail
  rw [← hwb]
  clear hwb
  refine (HSO.out _ (filesAt_keep HF.out HB0.out) (spotsAt_keep HD.out HB0.out) (sumTab_later HB0.out HT.out)).mono ?_
  rintro e w1 ⟨b1, ⟨he, g, vd, vr, vs, rfl, hst⟩ | ⟨he, s, rfl⟩⟩
  · have hR : Hid (R = usedL fs) := HR.out.symm.trans (usedE_yes (engOkB_yes he))
    have HST := hide hst
    have HC := hide he.2.2.1
    have HW1 := hide (HB0.out.trans (b1.mono HB0.out.size))
    clear hst he b1
    go_wp2_with fail
    refine (HUS.out _ g vd vr vs _ HST.out HC.out).mono ?_
    rintro e w2 ⟨rfl, b2⟩
    rw [← hR.out]
    go_wp2
    go_ret
    exact ⟨rfl, HW1.out.trans (b2.mono HB0.out.size)⟩
  · have hR : Hid (R = 0) := HR.out.symm.trans (usedE_no (engOkB_no he))
    go_wp2
    go_ret
    rw [hR.out]
    exact ⟨rfl, HB0.out.trans (b1.mono HB0.out.size)⟩
end Go.Proofs.YtnhfngpegmpcnamGreatDoor
