import Derived.OpenShut
import Derived.Test.YtmmchemgegmhhaaGreatDoorFo27
import Derived.Test.YtmmchemgegmhhaaGreatDoorFo28
import Derived.Test.YtmmchemgegmhhaaGreatDoorFo29
import Derived.Test.YtmmchemgegmhhaaGreatDoorFo2
import Derived.Test.YtmmchemgegmhhaaGreatDoorFo7
import Derived.Test.YtmmchemgegmhhaaGreatDoorFo11
import Derived.Test.YtmmchemgegmhhaaGreatDoorFo0
set_option maxRecDepth 100000
set_option maxHeartbeats 8000000
namespace Go.Proofs.YtmmchemgegmhhaaGreatDoor
open Go.RowKit
def getL (fs : List FileD) (key : ByteArray) : List SpotD → Option ByteArray
  | [] => none
  | A :: r => bif A.key.toList == key.toList then valD fs A else getL fs key r
theorem getL_yes {fs : List FileD} {key : ByteArray} {A : SpotD} {r : List SpotD} (h : (A.key.toList == key.toList) = true) : getL fs key (A :: r) = valD fs A := by
  unfold getL
  rw [h]
  rfl
theorem getL_no {fs : List FileD} {key : ByteArray} {A : SpotD} {r : List SpotD} (h : (A.key.toList == key.toList) = false) : getL fs key (A :: r) = getL fs key r := by
  conv => lhs; unfold getL
  rw [h]
  rfl
theorem getL_find (fs : List FileD) (key : ByteArray) : ∀ D : List SpotD, getL fs key D = (findS D key).bind (valD fs)
  | [] => rfl
  | A :: r => by
    unfold findS
    cases h : (A.key.toList == key.toList) with
    | true => rw [getL_yes h, List.find?_cons, h]; rfl
    | false =>
      rw [getL_no h, List.find?_cons, h]
      exact getL_find fs key r
theorem storeAt_dir {w : World} {B g : Nat} {fs : List FileD} {room : Int} {vd vr vs : Value} (h : StoreAt w B g fs room vd vr vs) (z : Value) : RowSpot (w.setCell ⟨g, 0, none⟩ z) B vr (dirD fs) := by
  have hb := h.blk
  refine rowSpot_keep h.dir (fun x hx => ?_)
  have hne : x ≠ g := by
    rintro rfl
    rcases h.dir with ⟨rfl, -⟩ | ⟨g', cap, C, rfl, -, hC, -⟩
    · cases hx
    · obtain rfl : g' = x := by simpa [Value.ownBlock] using hx
      rw [hC] at hb
      simp at hb
  exact Below.heap_setCell _ _ _ _ hne
theorem storeValue_any (fs : List FileD) (key : ByteArray) (room : Int) (wB : World) (g : Nat) (vd vr vs : Value) (w : World) (hl : fs.length ≤ 1048576) (hsz : ∀ F ∈ fs, F.name.size ≤ 1048576 ∧ F.text.size ≤ 1048576) (hst : StoreAt w wB.heap.size g fs room vd vr vs) (hca : calmB fs = true) (hwB : Below wB.heap.size wB w) (hT : SumTab wB) :
    Calls Tryz.prog 48 #[.pointer (some ⟨g, 0, none⟩), .string key] w fun e w' => e = .returned (.tuple #[.string (outTx (getL fs key (dirD fs))), .bool (getL fs key (dirD fs)).isSome]) ∧ Below wB.heap.size w w' := by
  have hA : (actsF fs (actsI fs)).1 = fs := by rw [calm_acts hca]; rfl
  have hle := hst.le
  have hd1 := storeAt_disk hst (.int .i32 1)
  have hs1 := storeAt_dir hst (.int .i32 1)
  rw [hA] at hd1
  obtain ⟨ad, cd, rfl, hfs⟩ := rowF_at hd1
  obtain ⟨ar, cr, rfl, hds⟩ := rowSpot_at hs1
  have HFS := hide hfs
  have HDS := hide hds
  have HB1 := hide (storeAt_lock hst (.int .i32 1))
  have HK := hide (eight_cells hst.blk)
  have hdl := dirD_len fs
  have HSR := hide (dirD_srt fs)
  have HKY : Hid (∀ A ∈ dirD fs, A.key.size ≤ 1048576) := fun A hA => by have := (segsL_tell fs).2.2.2.1 A hA; omega
  have HVO := hide (fun s W h hk hT => implValueOf_any fs ad cd s W hl h hsz hk hT)
  clear hfs hds hd1 hs1 hst hsz
  obtain ⟨w1, hw1⟩ : ∃ w1, w1 = w.setCell ⟨g, 0, none⟩ (.int .i32 1) := ⟨_, rfl⟩
  rw [← hw1] at HB1 HFS HDS
  have HW1 : Hid (Below wB.heap.size w w1) := by show Below _ _ _; rw [hw1]; exact (Below.refl _ w).setCell (p := ⟨g, 0, none⟩) hle _
  have HWB : Hid (Below wB.heap.size wB w1) := hwB.trans HW1.out
  have HT1 : Hid (SumTab w1) := sumTab_later HWB.out hT
  have hgl : g < w1.heap.size := heap_lt HB1.out
  obtain ⟨k0, k1, k2, k3, k4, k5, k6, k7, k8⟩ := eight_cells HB1.out
  clear hwB hT
  rw [getL_find]
  generalize dirD fs = D at HDS HKY hdl k6 HK HB1 HSR ⊢
  obtain ⟨o, HO⟩ : ∃ o, Hid (findS D key = o) := ⟨_, hide rfl⟩
  rw [HO.out]
  obtain ⟨T, HTT⟩ : ∃ T, Hid (outSp o = T) := ⟨_, hide rfl⟩
  obtain ⟨bt, HBT⟩ : ∃ T, Hid (o.isSome = T) := ⟨_, hide rfl⟩
  have HSA : Hid (∀ X, Below w1.heap.size w1 X → Calls Tryz.prog 93 #[.slice ar D.length cr, .string key] X fun e w' => e = .returned (.tuple #[.agg #[.string T.key, .int .i64 T.seg, .int .i64 T.pos, .int .i64 T.seq], .bool bt]) ∧ Below X.heap.size X w') := fun X hX => by
    have h := spotOf_any D ar cr key X (by omega) HSR.out (spotsAt_keep HDS.out hX)
    rw [HO.out, HTT.out, HBT.out] at h
    exact h
  have KS : Hid (∀ X, Below w1.heap.size w1 X → X.cell? ⟨g, 6, none⟩ = some (.slice ar D.length cr)) := fun X hX => (hX.cell (p := ⟨g, 6, none⟩) hgl).trans k6
  obtain ⟨R, HR⟩ : ∃ R, Hid (o.bind (valD fs) = R) := ⟨_, hide rfl⟩
  rw [HR.out]
  go_enter_defers Tryz.func48, Tryz.ntmps48
  go_wp2_with fail
  refine (Go.MuLone.lock_free Tryz.muLib ⟨g, 0, none⟩ w HK.out.1 HK.out.2.2.2.2.2.2.2.2).mono ?_
  rintro e w' ⟨rfl, rfl⟩
  rw [← hw1]
  clear hw1
  go_wp2_with fail
  refine (HSA.out _ (Below.refl _ _)).mono ?_
  rintro e w2 ⟨rfl, b2⟩
  obtain ⟨wn, hwn⟩ : ∃ x, x = w2.alloc (.cells #[.string T.key, .int .i64 T.seg, .int .i64 T.pos, .int .i64 T.seq] 89) := ⟨_, rfl⟩
  have BN : Hid (Below w1.heap.size w1 wn) := by rw [hwn]; exact b2.alloc b2.size _
  have HBN : Hid (wn.heap[w2.heap.size]? = some (.cells #[.string T.key, .int .i64 T.seg, .int .i64 T.pos, .int .i64 T.seq] 89 (0, 0))) := by rw [hwn]; exact heap_alloc_new _ _
  have hnl : w2.heap.size < wn.heap.size := heap_lt HBN.out
  have hgn : g < wn.heap.size := Nat.lt_of_lt_of_le hgl BN.out.size
  obtain ⟨hf0, hf1, hf2, hf3, -⟩ := fourC HBN.out
  have hg2 : wn.cell? ⟨g, 2, none⟩ = some (.slice ad fs.length cd) := (BN.out.cell (p := ⟨g, 2, none⟩) hgl).trans k2
  clear b2 KS HSA
  cases bt with
  | false =>
    have hR : Hid (R = none) := by
      show _ = _
      rw [← HR.out]
      cases o with
      | none => rfl
      | some S => exact absurd HBT.out (by simp)
    have h2 := BN.out
    have h0 : wn.cell? ⟨g, 0, none⟩ = some (.int .i32 1) := (h2.cell (p := ⟨g, 0, none⟩) hgl).trans k0
    have hz : wn.frozen? ⟨g, 0, none⟩ = false := frozen_of_row wn g 0 _ _ ((h2.block _ hgl).trans HB1.out)
    subst hwn
    go_wp2
    refine leaves_cons (f := 91) (args := #[.pointer (some ⟨g, 0, none⟩)]) (by simp) (by simp [go_sem]) ?_
    refine (Go.MuLone.unlock_deferred Tryz.muLib ⟨g, 0, none⟩ .returning _ h0 hz).mono ?_
    rintro e u' w'' ⟨rfl, rfl, rfl⟩
    rw [hR.out]
    exact ⟨_, results_tmp2 rfl _ _ _, rfl, (HW1.out.trans (h2.mono (Nat.le_of_lt (Nat.lt_of_le_of_lt hle hgl)))).setCell (p := ⟨g, 0, none⟩) hle _⟩
  | true =>
    obtain ⟨S, hS⟩ : ∃ S, o = some S := Option.isSome_iff_exists.1 HBT.out
    have hST : S = T := by have := HTT.out; rw [hS] at this; exact this
    have HV : Hid (valD fs T = R) := by show _ = _; rw [← HR.out, hS, ← hST]; rfl
    have HKK : Hid (T.key.size ≤ 1048576) := by
      have h1 := HO.out
      rw [hS, hST] at h1
      exact HKY.out T (List.mem_of_find?_eq_some h1)
    have KS : Hid (∀ X, Below wn.heap.size wn X → (X.cell? ⟨g, 2, none⟩ = some (.slice ad fs.length cd) ∧ X.cell? ⟨w2.heap.size, 0, none⟩ = some (.string T.key) ∧ X.cell? ⟨w2.heap.size, 1, none⟩ = some (.int .i64 T.seg) ∧ X.cell? ⟨w2.heap.size, 2, none⟩ = some (.int .i64 T.pos) ∧ X.cell? ⟨w2.heap.size, 3, none⟩ = some (.int .i64 T.seq))) := fun X hX => ⟨(hX.cell (p := ⟨g, 2, none⟩) hgn).trans hg2, (hX.cell (p := ⟨w2.heap.size, 0, none⟩) hnl).trans hf0, (hX.cell (p := ⟨w2.heap.size, 1, none⟩) hnl).trans hf1, (hX.cell (p := ⟨w2.heap.size, 2, none⟩) hnl).trans hf2, (hX.cell (p := ⟨w2.heap.size, 3, none⟩) hnl).trans hf3⟩
    have HVA : Hid (∀ X, Below wn.heap.size wn X → Calls Tryz.prog 92 #[.agg #[.slice ad fs.length cd], .agg #[.string T.key, .int .i64 T.seg, .int .i64 T.pos, .int .i64 T.seq]] X fun e w' => e = .returned (.tuple #[.string (outTx R), .bool R.isSome]) ∧ Below X.heap.size X w') := fun X hX => by
      have h := HVO.out T X (filesAt_keep HFS.out (BN.out.trans (hX.mono BN.out.size))) HKK.out (sumTab_later (BN.out.trans (hX.mono BN.out.size)) HT1.out)
      rw [HV.out] at h
      exact h
    clear HVO HV HKK hS hST HR
    go_wp2_with fail
    rw [← hwn]
    clear hwn
    go_region_held3 (fun w' => w'.cell? ⟨g, 2, none⟩ = some (.slice ad fs.length cd) ∧ w'.cell? ⟨w2.heap.size, 0, none⟩ = some (.string T.key) ∧ w'.cell? ⟨w2.heap.size, 1, none⟩ = some (.int .i64 T.seg) ∧ w'.cell? ⟨w2.heap.size, 2, none⟩ = some (.int .i64 T.pos) ∧ w'.cell? ⟨w2.heap.size, 3, none⟩ = some (.int .i64 T.seq)) ((refine KS.out _ ?_; first | (exact e3) | (exact (Below.refl _ _).drew) | fail)) ((go_at_call 92; refine (HVA.out _ ?_).mono ?_; exact (Below.refl _ _).drew; rintro e w3 ⟨rfl, b3⟩; have e3 : Below wn.heap.size wn w3 := ((Below.refl _ _).drew).trans b3))
    have h2 := BN.out.trans (e3.mono BN.out.size)
    have h0 : w3.cell? ⟨g, 0, none⟩ = some (.int .i32 1) := (h2.cell (p := ⟨g, 0, none⟩) hgl).trans k0
    have hz : w3.frozen? ⟨g, 0, none⟩ = false := frozen_of_row w3 g 0 _ _ ((h2.block _ hgl).trans HB1.out)
    go_wp2
    refine leaves_cons (f := 91) (args := #[.pointer (some ⟨g, 0, none⟩)]) (by simp) (by simp [go_sem]) ?_
    refine (Go.MuLone.unlock_deferred Tryz.muLib ⟨g, 0, none⟩ .returning _ h0 hz).mono ?_
    rintro e u' w'' ⟨rfl, rfl, rfl⟩
    exact ⟨_, results_tmp2 rfl _ _ _, rfl, (HW1.out.trans (h2.mono (Nat.le_of_lt (Nat.lt_of_le_of_lt hle hgl)))).setCell (p := ⟨g, 0, none⟩) hle _⟩
def getE (fs : List FileD) (room act seq : Int) (dir : List SpotD) (key : ByteArray) : Option ByteArray := bif engOkB fs room act seq dir then getL fs key dir else none
theorem getE_yes {fs : List FileD} {room act seq : Int} {dir : List SpotD} {key : ByteArray} (h : engOkB fs room act seq dir = true) : getE fs room act seq dir key = getL fs key dir := by
  unfold getE
  rw [h]
  rfl
theorem getE_no {fs : List FileD} {room act seq : Int} {dir : List SpotD} {key : ByteArray} (h : engOkB fs room act seq dir = false) : getE fs room act seq dir key = none := by
  unfold getE
  rw [h]
  rfl
theorem implGetValue_any (fs : List FileD) (ao ad : Option Addr) (cap cd : Nat) (room act seq : Int) (dir : List SpotD) (key : ByteArray) (w : World) (hl : fs.length ≤ 1048576) (hfs : FilesAt w ao fs) (hsz : ∀ F ∈ fs, F.name.size ≤ 1048576 ∧ F.text.size ≤ 1048576) (hds : SpotsAt w ad dir) (hT : SumTab w) :
    Calls Tryz.prog 13 #[.agg #[.slice ao fs.length cap, .int .i64 room, .int .i64 act, .int .i64 seq, .slice ad dir.length cd], .string key] w fun e w' => e = .returned (.tuple #[.string (outTx (getE fs room act seq dir key)), .bool (getE fs room act seq dir key).isSome]) ∧ Below w.heap.size w w' := by
  have HSO := hide (fun W h1 h2 hT => storeOf_any fs ao ad cap cd room act seq dir W hl h1 hsz h2 hT)
  have HUS := hide (fun wB g vd vr vs W => storeValue_any fs key room wB g vd vr vs W hl hsz)
  have HF := hide hfs
  have HD := hide hds
  have HT := hide hT
  clear hfs hds hsz hT
  obtain ⟨wb, hwb⟩ : ∃ wb, wb = w.alloc (.cells #[.slice ao fs.length cap, .int .i64 room, .int .i64 act, .int .i64 seq, .slice ad dir.length cd] 30) := ⟨_, rfl⟩
  have HB0 : Hid (Below w.heap.size w wb) := by rw [hwb]; exact (Below.refl _ w).alloc (Nat.le_refl _) _
  obtain ⟨R, HR⟩ : ∃ R, Hid (getE fs room act seq dir key = R) := ⟨_, hide rfl⟩
  rw [HR.out]
  go_enter Tryz.func13, Tryz.ntmps13
  go_wp2_with fail
  rw [← hwb]
  clear hwb
  refine (HSO.out _ (filesAt_keep HF.out HB0.out) (spotsAt_keep HD.out HB0.out) (sumTab_later HB0.out HT.out)).mono ?_
  rintro e w1 ⟨b1, ⟨he, g, vd, vr, vs, rfl, hst⟩ | ⟨he, s, rfl⟩⟩
  · have hR : Hid (getL fs key (dirD fs) = R) := by show _ = _; rw [← HR.out, getE_yes (engOkB_yes he), he.2.2.2.2.2]
    have HST := hide hst
    have HC := hide he.2.2.1
    have HW1 := hide (HB0.out.trans (b1.mono HB0.out.size))
    have HB1 := hide b1
    have HTB := hide (sumTab_later HB0.out HT.out)
    have HUV := hide (HUS.out wb g vd vr vs _ HST.out HC.out HB1.out HTB.out)
    rw [hR.out] at HUV
    clear hst he b1
    go_wp2_with fail
    refine HUV.out.mono ?_
    rintro e w2 ⟨rfl, b2⟩
    go_wp2
    refine bodyPost_ret (results_tmp2 rfl _ _ _) rfl ?_
    exact ⟨rfl, HW1.out.trans (b2.mono HB0.out.size)⟩
  · have hR : Hid (R = none) := HR.out.symm.trans (getE_no (engOkB_no he))
    go_wp2
    refine bodyPost_ret (results_tmp2 rfl _ _ _) rfl ?_
    rw [hR.out]
    exact ⟨rfl, HB0.out.trans (b1.mono HB0.out.size)⟩
theorem drawFormat_any (w : World) (ao : Option Addr) (len cap : Nat) (hlen : len ≤ 1048576) (hcode : Code w ao len) :
    Calls Tryz.prog 9 #[.slice ao len cap] w fun e w' => ∃ r : Int, e = .returned (.int .i64 r) ∧ Below w.heap.size w w' := by
  have HC := hide hcode
  clear hcode
  go_enter Tryz.func9, Tryz.ntmps9
  go_wp2_with fail
  refine (new_any _ ao len cap hlen HC.out).mono ?_
  rintro e w1 ⟨g, rfl, hc1⟩
  have U1 := hide hc1
  clear hc1
  go_wp2_with fail
  refine (once_any w _ g ao len cap 3 hlen (by omega) HC.out U1.out).mono ?_
  rintro e w2 ⟨b, rfl, hc2, -⟩
  have U2 := hide hc2
  clear hc2
  cases b with
  | true =>
    go_wp2_with fail
    obtain ⟨wA, hwA⟩ : ∃ x, x = w2.alloc (.cells #[.int .i64 (-1), .int .i64 0, .int .i64 99, .int .i64 100, .int .i64 20000, .int .i64 20001] 3) := ⟨_, rfl⟩
    have hg2 : g < w2.heap.size := by obtain ⟨i, h, T, -, hb⟩ := U2.out.2.2; exact heap_lt hb
    have HA := hide (heap_alloc_new w2 (.cells #[.int .i64 (-1), .int .i64 0, .int .i64 99, .int .i64 100, .int .i64 20000, .int .i64 20001] 3))
    have UA := hide (cur_keep U2.out ((Below.refl _ w2).alloc (Nat.le_refl _) (.cells #[.int .i64 (-1), .int .i64 0, .int .i64 99, .int .i64 100, .int .i64 20000, .int .i64 20001] 3)) hg2)
    refine (pickInt_any w _ g w2.heap.size ao len cap 6 [-1, 0, 99, 100, 20000, 20001] hlen HC.out UA.out (by omega) rfl (by omega) (by omega) (ints_cells _ HA.out)).mono ?_
    rintro e w3 ⟨z, rfl, hz, hc3, -⟩
    have U3 := hide hc3
    clear hc3
    go_wp2
    go_ret
    exact ⟨_, rfl, U3.out.1⟩
  | false =>
    go_wp2_with fail
    refine (below_any w _ g ao len cap 5000 hlen (by omega) HC.out U2.out).mono ?_
    rintro e w3 ⟨x, rfl, -, -, hc3, -⟩
    have U3 := hide hc3
    clear hc3
    go_wp2
    go_ret
    exact ⟨_, rfl, U3.out.1⟩
theorem fmt_used : 0 < usedL [fmtF] := by
  have h1 := fmt_len
  have h2 := fmt_size
  show 0 < (headT 0 0).size + 0
  omega
theorem formats_walk (w : World) (ao : Option Addr) (len cap : Nat) (hcode : len ≤ 1048576 → Code w ao len) (hT : SumTab w) :
    Calls Tryz.prog 3 #[.slice ao len cap] w fun e w' => e = .returned (.bool true) ∧ Below w.heap.size w w' := by
  have HT := hide hT
  clear hT
  by_cases hlen : len ≤ 1048576
  case neg =>
    have hbig : decide (1048576 < (len : Int)) = true := by simp; omega
    go_enter Tryz.func3, Tryz.ntmps3
    go_wp2_with fail
    refine (big_any _ ao len cap).mono ?_
    rintro e w0 ⟨rfl, rfl⟩
    go_wp2
    go_ret
    exact ⟨rfl, Below.refl _ _⟩
  have hbig : decide (1048576 < (len : Int)) = false := by simp; omega
  have HC := hide (hcode hlen)
  clear hcode
  go_enter Tryz.func3, Tryz.ntmps3
  go_wp2_with fail
  refine (big_any _ ao len cap).mono ?_
  rintro e w0 ⟨rfl, hw0⟩
  obtain rfl := hw0.symm
  go_wp2_with fail
  refine (drawFormat_any _ ao len cap hlen HC.out).mono ?_
  rintro e w1 ⟨room, rfl, b1⟩
  have B1 := hide b1
  clear b1
  go_wp2_with fail
  refine (implFormat_any room _ (sumTab_later B1.out HT.out)).mono ?_
  rintro e w2 ⟨b2, ⟨hr, vd, vr, rfl, hf, hd⟩ | ⟨hr, rfl⟩⟩
  · obtain ⟨ad, cd, hvd, hfs⟩ := rowF_at hf
    obtain ⟨ar, cr, hvr, hds⟩ := rowSpot_at hd
    subst hvd hvr
    have HF := hide hfs
    have HD := hide hds
    have B2 := hide (B1.out.trans (b2.mono B1.out.size))
    have HEG := hide (engOkB_yes (fmt_eng room hr))
    have HR := hide hr
    clear hf hd hfs hds b2
    obtain ⟨wA, hwA⟩ : ∃ x, x = w2.alloc (.cells #[.slice ad 1 cd, .int .i64 room, .int .i64 0, .int .i64 0, .slice ar 0 cr] 30) := ⟨_, rfl⟩
    have B2A : Hid (Below w2.heap.size w2 wA) := by rw [hwA]; exact (Below.refl _ w2).alloc (Nat.le_refl _) _
    have BA := hide (B2.out.trans (B2A.out.mono B2.out.size))
    have KA : Hid (wA.heap[w2.heap.size]? = some (.cells #[.slice ad 1 cd, .int .i64 room, .int .i64 0, .int .i64 0, .slice ar 0 cr] 30 (0, 0))) := by rw [hwA]; exact heap_alloc_new _ _
    have FA := hide (filesAt_keep HF.out B2A.out)
    have DA := hide (spotsAt_keep HD.out B2A.out)
    have HSF := hide (fun W => specFormat_any room W)
    have HCO := hide (fun W hB => implContents_any [fmtF] ad ar cd cr room 0 0 [] W (by simp) (filesAt_keep FA.out hB) fmt_small (by simp) (spotsAt_keep DA.out hB) (sumTab_later (BA.out.trans (hB.mono BA.out.size)) HT.out))
    have HGV := hide (fun key W hB => implGetValue_any [fmtF] ad ar cd cr room 0 0 [] key W (by simp) (filesAt_keep FA.out hB) fmt_small (spotsAt_keep DA.out hB) (sumTab_later (BA.out.trans (hB.mono BA.out.size)) HT.out))
    have HEO := hide (fun W hB => implEngineOk_any [fmtF] ad ar cd cr room 0 0 [] W (by simp) (filesAt_keep FA.out hB) fmt_small (spotsAt_keep DA.out hB) (sumTab_later (BA.out.trans (hB.mono BA.out.size)) HT.out))
    have HUS := hide (fun W hB => implUsed_any [fmtF] ad ar cd cr room 0 0 [] W (by simp) (filesAt_keep FA.out hB) fmt_small (spotsAt_keep DA.out hB) (sumTab_later (BA.out.trans (hB.mono BA.out.size)) HT.out))
    rw [contE_yes HEG.out, HEG.out] at HCO
    rw [HEG.out] at HEO
    rw [usedE_yes HEG.out] at HUS
    simp only [getE_yes HEG.out] at HGV
    go_wp2_with fail
    rw [← hwA]
    clear hwA
    refine (HSF.out _).mono ?_
    rintro e w3 ⟨b3, ⟨-, vd3, vr3, rfl, r3, s3⟩ | ⟨hr', -⟩⟩
    case inr => rw [hr] at hr'; cases hr'
    obtain ⟨a3, c3, rfl, -⟩ := rowF_at r3
    obtain ⟨d3, e3, rfl, -⟩ := rowSpot_at s3
    obtain ⟨wB, hwB⟩ : ∃ x, x = w3.alloc (.cells #[.slice a3 1 c3, .int .i64 room, .int .i64 0, .int .i64 0, .slice d3 0 e3] 30) := ⟨_, rfl⟩
    have B3B : Below w3.heap.size w3 wB := by rw [hwB]; exact (Below.refl _ w3).alloc (Nat.le_refl _) _
    have CB := hide (b3.trans (B3B.mono b3.size))
    have KB := hide ((CB.out.block _ (heap_lt KA.out)).trans KA.out)
    clear b3 r3 s3 B3B
    obtain ⟨hx0, hx1, hx2, hx3, hx4, -⟩ := five_cells KB.out
    have HC1 := hide (HCO.out _ CB.out)
    subst hwB
    go_wp2_with fail
    refine HC1.out.mono ?_
    rintro e w4 ⟨⟨v4, rfl, r4⟩, b4⟩
    have C4 := hide (CB.out.trans (b4.mono CB.out.size))
    have K4 := hide ((b4.block _ (heap_lt KB.out)).trans KB.out)
    obtain ⟨a4, c4, rfl, -⟩ := rowChange_at r4
    clear b4 r4 hx0 hx1 hx2 hx3 hx4 HC1 KB
    obtain ⟨hx0, hx1, hx2, hx3, hx4, -⟩ := five_cells K4.out
    go_wp2_with fail
    refine (HGV.out _ _ C4.out).mono ?_
    rintro e w5 ⟨rfl, b5⟩
    have C5 := hide (C4.out.trans (b5.mono C4.out.size))
    have K5 := hide ((b5.block _ (heap_lt K4.out)).trans K4.out)
    clear b5 hx0 hx1 hx2 hx3 hx4 K4
    have hcl : contD [fmtF] [] = [] := rfl
    have hgl : (getL [fmtF] ⟨#[97]⟩ []).isSome = false := rfl
    rw [hcl, hgl]
    have hul := fmt_used
    have hu1 : decide (0 < usedL [fmtF]) = true := by rw [decide_eq_true_eq]; exact hul
    obtain ⟨hx0, hx1, hx2, hx3, hx4, -⟩ := five_cells K5.out
    go_wp2_with fail
    refine (HEO.out _ C5.out).mono ?_
    rintro e w6 ⟨rfl, b6⟩
    have C6 := hide (C5.out.trans (b6.mono C5.out.size))
    have K6 := hide ((b6.block _ (heap_lt K5.out)).trans K5.out)
    clear b6 hx0 hx1 hx2 hx3 hx4 K5
    obtain ⟨hx0, hx1, hx2, hx3, hx4, -⟩ := five_cells K6.out
    go_wp2_with fail
    refine (HUS.out _ C6.out).mono ?_
    rintro e w7 ⟨rfl, b7⟩
    have C7 := hide (C6.out.trans (b7.mono C6.out.size))
    clear b7 hx0 hx1 hx2 hx3 hx4 K6
    generalize usedL [fmtF] = U at hu1
    go_wp2
    go_ret
    exact ⟨rfl, BA.out.trans (C7.out.mono BA.out.size)⟩
  · have HSF := hide (fun W => specFormat_any room W)
    have B2 := hide (B1.out.trans (b2.mono B1.out.size))
    clear b2
    obtain ⟨wA, hwA⟩ : ∃ x, x = w2.alloc (.cells #[.slice none 0 0, .int .i64 0, .int .i64 0, .int .i64 0, .slice none 0 0] 30) := ⟨_, rfl⟩
    have B2A : Hid (Below w2.heap.size w2 wA) := by rw [hwA]; exact (Below.refl _ w2).alloc (Nat.le_refl _) _
    have BA := hide (B2.out.trans (B2A.out.mono B2.out.size))
    have KA : Hid (wA.heap[w2.heap.size]? = some (.cells #[.slice none 0 0, .int .i64 0, .int .i64 0, .int .i64 0, .slice none 0 0] 30 (0, 0))) := by rw [hwA]; exact heap_alloc_new _ _
    go_wp2_with fail
    rw [← hwA]
    clear hwA
    refine (HSF.out _).mono ?_
    rintro e w3 ⟨b3, ⟨hr', -⟩ | ⟨-, rfl⟩⟩
    · rw [hr] at hr'; cases hr'
    obtain ⟨wB, hwB⟩ : ∃ x, x = w3.alloc (.cells #[.slice none 0 0, .int .i64 0, .int .i64 0, .int .i64 0, .slice none 0 0] 30) := ⟨_, rfl⟩
    have B3B : Below w3.heap.size w3 wB := by rw [hwB]; exact (Below.refl _ w3).alloc (Nat.le_refl _) _
    have CB := hide (b3.trans (B3B.mono b3.size))
    have KB := hide ((CB.out.block _ (heap_lt KA.out)).trans KA.out)
    clear b3 B3B
    obtain ⟨hx0, hx1, hx2, hx3, hx4, -⟩ := five_cells KB.out
    have BWB := hide (BA.out.trans (CB.out.mono BA.out.size))
    subst hwB
    go_wp2
    go_ret
    exact ⟨rfl, BWB.out⟩
end Go.Proofs.YtmmchemgegmhhaaGreatDoor
namespace Go.Proofs.YtmmchemgegmhhaaGreatDoor
open Go.RowKit Go.ChangeShapes
theorem code_of {w : World} {x : Addr} {len : Nat} {zs : List Int} (hl : len ≤ zs.length) (hcell : ∀ i, i < zs.length → w.cell? (x.add i) = some (.int .u8 (zs.getD i 0))) (hwz : ∀ n ∈ zs, (Lit.int .u8 n).wf = true) : Code w (some x) len := by
  intro j hj
  have hjl : j < zs.length := by omega
  have hc := hcell j hjl
  obtain ⟨b, off, spot⟩ := x
  have hspot : spot = none := by
    have h0 := hcell 0 (by omega)
    simpa [Addr.add] using World.cell?_spot h0
  subst hspot
  have hz : zs.getD j 0 = zs[j] := by simp [List.getD, hjl]
  have hb := bounds_u8 (hwz zs[j] (List.getElem_mem hjl))
  have ha : ((⟨b, off, none⟩ : Addr).add j) = ⟨b, off + j, none⟩ := by cases j <;> simp [Addr.add]
  rw [ha, hz] at hc
  obtain ⟨z, hzz⟩ := Int.eq_ofNat_of_zero_le hb.1
  rw [hzz] at hc
  refine ⟨b, off, z, rfl, ?_, hc, by omega⟩
  rcases Nat.lt_or_ge b w.heap.size with h | h
  · exact h
  · unfold World.cell? at hc
    rw [show w.heap[(⟨b, off + j, none⟩ : Addr).block]? = none from Array.getElem?_eq_none h] at hc
    cases hc
end Go.Proofs.YtmmchemgegmhhaaGreatDoor
