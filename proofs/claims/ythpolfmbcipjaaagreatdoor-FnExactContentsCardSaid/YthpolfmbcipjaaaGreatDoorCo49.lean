import Derived.Test.YthpolfmbcipjaaaGreatDoorCo47
import Derived.Test.YthpolfmbcipjaaaGreatDoorCo48
import Derived.Test.YthpolfmbcipjaaaGreatDoorCo3
import Derived.Test.YthpolfmbcipjaaaGreatDoorCo46
set_option maxRecDepth 100000
set_option maxHeartbeats 1600000
namespace Go.Proofs.YthpolfmbcipjaaaGreatDoor
open Go.RowKit
def contD (fs : List FileD) (dir : List SpotD) : List ChangeD := dir.map fun A => ⟨A.key, outTx (valD fs A), false⟩
theorem contD_len (fs : List FileD) (dir : List SpotD) : (contD fs dir).length = dir.length := by simp [contD]
theorem contD_take {fs : List FileD} {dir : List SpotD} {k : Nat} (h : k < dir.length) : contD fs (dir.take (k + 1)) = contD fs (dir.take k) ++ [⟨dir[k].key, outTx (valD fs dir[k]), false⟩] := by
  unfold contD
  rw [List.take_succ_eq_append_getElem h, List.map_append]
  rfl
theorem storeAt_dirC {w : World} {B g : Nat} {fs : List FileD} {room : Int} {vd vr vs : Value} (h : StoreAt w B g fs room vd vr vs) (z : Value) : RowSpot (w.setCell ⟨g, 0, none⟩ z) B vr (dirD fs) := by
  have hb := h.blk
  refine rowSpot_keep h.dir (fun x hx => ?_)
  have hne : x ≠ g := by
    rintro rfl
    rcases h.dir with ⟨rfl, -⟩ | ⟨g', cap, C, rfl, -, hC, -⟩
    · cases hx
    · obtain rfl : g' = x := by simpa [Value.ownBlock] using hx
      rw [hC] at hb
      simp at hb
  exact Below.heap_setCell _ _ _ _ hne
theorem rowChange_lock {w : World} {B g : Nat} {v : Value} {l : List ChangeD} {C : Array Value} (h : RowChange w B v l) (hb : w.heap[g]? = some (.cells C 104 (0, 0))) (z : Value) : RowChange (w.setCell ⟨g, 0, none⟩ z) B v l := by
  refine rowChange_keep h (fun x hx => ?_)
  have hne : x ≠ g := by
    rintro rfl
    rcases h with ⟨rfl, -⟩ | ⟨g', cap, C, rfl, -, hC, -⟩
    · cases hx
    · obtain rfl : g' = x := by simpa [Value.ownBlock] using hx
      rw [hC] at hb
      simp at hb
  exact Below.heap_setCell _ _ _ _ hne
theorem contents_any (fs : List FileD) (room : Int) (wB : World) (g : Nat) (vd vr vs : Value) (w : World) (hl : fs.length ≤ 1048576) (hsz : ∀ F ∈ fs, F.name.size ≤ 1048576 ∧ F.text.size ≤ 1048576) (hst : StoreAt w wB.heap.size g fs room vd vr vs) (hca : calmB fs = true) (hwB : Below wB.heap.size wB w) (hT : SumTab wB) :
    Calls Tryz.prog 27 #[.pointer (some ⟨g, 0, none⟩)] w fun e w' => (∃ v, e = .returned v ∧ RowChange w' wB.heap.size v (contD fs (dirD fs))) ∧ Below wB.heap.size w w' := by
  have hA : (actsF fs (actsI fs)).1 = fs := by rw [calm_acts hca]; rfl
  have hle := hst.le
  have hd1 := storeAt_disk hst (.int .i32 1)
  have hs1 := storeAt_dirC hst (.int .i32 1)
  rw [hA] at hd1
  obtain ⟨ad, cd, rfl, hfs⟩ := rowF_at hd1
  obtain ⟨ar, cr, rfl, hds⟩ := rowSpot_at hs1
  have HFS := hide hfs
  have HDS := hide hds
  have HB1 := hide (storeAt_lock hst (.int .i32 1))
  have HK := hide (eight_cells hst.blk)
  have hdl := dirD_len fs
  have HKY : Hid (∀ A ∈ dirD fs, A.key.size ≤ 1048576) := fun A hA => by have := (segsL_tell fs).2.2.2.1 A hA; omega
  have HVO := hide (fun s W h hk hT => implValueOf_any fs ad cd s W hl h hsz hk hT)
  clear hfs hds hd1 hs1 hst hsz
  obtain ⟨w1, hw1⟩ : ∃ w1, w1 = w.setCell ⟨g, 0, none⟩ (.int .i32 1) := ⟨_, rfl⟩
  rw [← hw1] at HB1 HFS HDS
  have HW1 : Hid (Below wB.heap.size w w1) := by show Below _ _ _; rw [hw1]; exact (Below.refl _ w).setCell (p := ⟨g, 0, none⟩) hle _
  have HWB : Hid (Below wB.heap.size wB w1) := hwB.trans HW1.out
  have HT1 : Hid (SumTab w1) := sumTab_later HWB.out hT
  have hgl : g < w1.heap.size := heap_lt HB1.out
  have hB1 : wB.heap.size ≤ w1.heap.size := Nat.le_of_lt (Nat.lt_of_le_of_lt hle hgl)
  obtain ⟨k0, k1, k2, k3, k4, k5, k6, k7, k8⟩ := eight_cells HB1.out
  clear hwB hT
  generalize dirD fs = D at HDS HKY hdl k6 HK HB1 ⊢
  go_enter_defers Tryz.func27, Tryz.ntmps27
  go_wp2_with fail
  refine (Go.MuLone.lock_free Tryz.muLib ⟨g, 0, none⟩ w HK.out.1 HK.out.2.2.2.2.2.2.2.2).mono ?_
  rintro e w' ⟨rfl, rfl⟩
  rw [← hw1]
  clear hw1
  go_wp2_with fail
  go_loopw [3, 21] (fun vo ii wr => ∃ (k : Nat), ii = .int .i64 k ∧ k ≤ D.length ∧ Hid (wr.ownsRow w1.heap.size 57 3 vo (contD fs (D.take k)).length (cellsChange (contD fs (D.take k)))) ∧ Hid (Below w1.heap.size w1 wr)) (fun _ ii _ => D.length - (intOf ii).toNat)
  case atStart => exact ⟨0, rfl, Nat.zero_le _, World.ownsRow_nil _ _ _ _, Below.refl _ _⟩
  case round =>
    obtain ⟨k, rfl, hk, HO, HB⟩ := hrel
    have hws := HB.out.size
    by_cases hlt : k < D.length
    · have hlt' : decide ((k : Int) < (D.length : Int)) = true := by simp; omega
      obtain ⟨b, off, rfl, hbw, hc0, hc1, hc2, hc3⟩ := spotsAt_keep HDS.out HB.out k hlt
      have HKK := hide (HKY.out D[k] (List.getElem_mem hlt))
      have htk := hide (contD_take (fs := fs) hlt)
      generalize D[k] = A at hc0 hc1 hc2 hc3 HKK htk
      obtain ⟨L, HL⟩ : ∃ L, Hid (contD fs (D.take k) = L) := ⟨_, hide rfl⟩
      have hLl : L.length ≤ 1048576 := by
        rw [← HL.out, contD_len, List.length_take]
        omega
      rw [HL.out] at HO htk
      have hi0 : (0 : Int) ≤ (k : Int) := by omega
      have hi1 : (k : Int) < (D.length : Int) := by omega
      obtain ⟨wn, hwn⟩ : ∃ x, x = wr.alloc (.cells #[.string A.key, .int .i64 A.seg, .int .i64 A.pos, .int .i64 A.seq] 55) := ⟨_, rfl⟩
      have BN0 : Hid (Below wr.heap.size wr wn) := by rw [hwn]; exact (Below.refl _ _).alloc (Nat.le_refl _) _
      have BN : Hid (Below w1.heap.size w1 wn) := HB.out.trans (BN0.out.mono hws)
      have hbn : wn.heap[wr.heap.size]? = some (.cells #[.string A.key, .int .i64 A.seg, .int .i64 A.pos, .int .i64 A.seq] 55 (0, 0)) := by rw [hwn]; exact heap_alloc_new _ _
      have hf0 : wn.cell? ⟨wr.heap.size, 0, none⟩ = some (.string A.key) := (cell_of_row wn _ 0 _ _ (0, 0) hbn).trans rfl
      have hf1 : wn.cell? ⟨wr.heap.size, 1, none⟩ = some (.int .i64 A.seg) := (cell_of_row wn _ 1 _ _ (0, 0) hbn).trans rfl
      have hf2 : wn.cell? ⟨wr.heap.size, 2, none⟩ = some (.int .i64 A.pos) := (cell_of_row wn _ 2 _ _ (0, 0) hbn).trans rfl
      have hf3 : wn.cell? ⟨wr.heap.size, 3, none⟩ = some (.int .i64 A.seq) := (cell_of_row wn _ 3 _ _ (0, 0) hbn).trans rfl
      have hg2 : wn.cell? ⟨g, 2, none⟩ = some (.slice ad fs.length cd) := (BN.out.cell (p := ⟨g, 2, none⟩) hgl).trans k2
      have hnl : wr.heap.size < wn.heap.size := heap_lt hbn
      have hgn : g < wn.heap.size := Nat.lt_of_lt_of_le hgl BN.out.size
      clear hbn
      have HON := hide (ownsRow_below HO.out BN0.out)
      go_wp2_with fail
      rw [← hwn] at ⊢
      clear hwn hc0 hc1 hc2 hc3
      have KS : Hid (∀ X, Below wn.heap.size wn X → (X.cell? ⟨g, 2, none⟩ = some (.slice ad fs.length cd) ∧ X.cell? ⟨wr.heap.size, 0, none⟩ = some (.string A.key) ∧ X.cell? ⟨wr.heap.size, 1, none⟩ = some (.int .i64 A.seg) ∧ X.cell? ⟨wr.heap.size, 2, none⟩ = some (.int .i64 A.pos) ∧ X.cell? ⟨wr.heap.size, 3, none⟩ = some (.int .i64 A.seq))) := fun X hX => ⟨(hX.cell (p := ⟨g, 2, none⟩) hgn).trans hg2, (hX.cell (p := ⟨wr.heap.size, 0, none⟩) hnl).trans hf0, (hX.cell (p := ⟨wr.heap.size, 1, none⟩) hnl).trans hf1, (hX.cell (p := ⟨wr.heap.size, 2, none⟩) hnl).trans hf2, (hX.cell (p := ⟨wr.heap.size, 3, none⟩) hnl).trans hf3⟩
      obtain ⟨R, HR⟩ : ∃ R, Hid (valD fs A = R) := ⟨_, hide rfl⟩
      rw [HR.out] at htk
      have HVA : Hid (∀ X, Below wn.heap.size wn X → Calls Tryz.prog 52 #[.agg #[.slice ad fs.length cd], .agg #[.string A.key, .int .i64 A.seg, .int .i64 A.pos, .int .i64 A.seq]] X fun e w' => e = .returned (.tuple #[.string (outTx R), .bool R.isSome]) ∧ Below X.heap.size X w') := fun X hX => by
        have h := HVO.out A X (filesAt_keep HFS.out (BN.out.trans (hX.mono BN.out.size))) HKK.out (sumTab_later (BN.out.trans (hX.mono BN.out.size)) HT1.out)
        rw [HR.out] at h
        exact h
      go_region_held3 (fun w' => w'.cell? ⟨g, 2, none⟩ = some (.slice ad fs.length cd) ∧ w'.cell? ⟨wr.heap.size, 0, none⟩ = some (.string A.key) ∧ w'.cell? ⟨wr.heap.size, 1, none⟩ = some (.int .i64 A.seg) ∧ w'.cell? ⟨wr.heap.size, 2, none⟩ = some (.int .i64 A.pos) ∧ w'.cell? ⟨wr.heap.size, 3, none⟩ = some (.int .i64 A.seq)) ((refine KS.out _ ?_; first | (exact e2) | (exact (Below.refl _ _).drew) | fail)) ((go_at_call 52; refine (HVA.out _ ?_).mono ?_; exact (Below.refl _ _).drew; rintro e w2 ⟨rfl, b2⟩; have e2 : Below wn.heap.size wn w2 := ((Below.refl _ _).drew).trans b2))
      have E2 := hide e2
      have he2 := e2.size
      have hq0 := (KS.out _ e2).2.1
      clear e2 b2 KS HVA hf0 hf1 hf2 hf3 hg2
      go_wp2_with (at_builtin; refine app_change _ w1.heap.size (by rfl) _ _ (by rfl) _ L ⟨A.key, outTx R, false⟩ (by rfl) ((ownsRow_below HON.out E2.out).alloc _) w2.heap.size (by rfl) (heap_alloc_new w2 _) hLl (by simp; omega) ?_; intro g5 cap5 w5 ho5 hb5 hg5 hgl5; have HO5 := hide ho5; have HB5 := hide hb5; clear ho5 hb5 hg5 hgl5)
      go_roundw
      case rel =>
        refine ⟨k + 1, by go_num, by omega, ?_, ((BN.out.trans (E2.out.mono BN.out.size)).alloc (by omega) _).trans HB5.out⟩
        show World.ownsRow _ _ _ _ _ _ _
        rw [htk.out]
        exact HO5.out
      case measure => simp [intOf]; omega
    · have hlt' : decide ((k : Int) < (D.length : Int)) = false := by simp; omega
      have hke : k = D.length := by omega
      subst hke
      rw [List.take_length] at HO
      have h2 := HB.out
      have h0 : wr.cell? ⟨g, 0, none⟩ = some (.int .i32 1) := (h2.cell (p := ⟨g, 0, none⟩) hgl).trans k0
      have hblk := (h2.block _ hgl).trans HB1.out
      have HBL := hide hblk
      have hz : wr.frozen? ⟨g, 0, none⟩ = false := frozen_of_row wr g 0 _ _ hblk
      clear hblk
      go_wp2
      refine leaves_cons (f := 51) (args := #[.pointer (some ⟨g, 0, none⟩)]) (by simp) (by simp [go_sem]) ?_
      refine (Go.MuLone.unlock_deferred Tryz.muLib ⟨g, 0, none⟩ .returning _ h0 hz).mono ?_
      rintro e u' w'' ⟨rfl, rfl, rfl⟩
      exact ⟨_, results_tmp rfl _ _ _, ⟨_, rfl, rowChange_lock (rowChange_le (rowChange_own HO.out) hB1) HBL.out _⟩, (HW1.out.trans (h2.mono hB1)).setCell (p := ⟨g, 0, none⟩) hle _⟩
def contE (fs : List FileD) (room act seq : Int) (dir : List SpotD) : List ChangeD := bif engOkB fs room act seq dir then contD fs dir else []
theorem contE_yes {fs : List FileD} {room act seq : Int} {dir : List SpotD} (h : engOkB fs room act seq dir = true) : contE fs room act seq dir = contD fs dir := by
  unfold contE
  rw [h]
  rfl
theorem contE_no {fs : List FileD} {room act seq : Int} {dir : List SpotD} (h : engOkB fs room act seq dir = false) : contE fs room act seq dir = [] := by
  unfold contE
  rw [h]
  rfl
theorem contE_len (fs : List FileD) (room act seq : Int) (dir : List SpotD) : (contE fs room act seq dir).length ≤ 1000000 := by
  cases h : engOkB fs room act seq dir with
  | false => rw [contE_no h]; exact Nat.zero_le _
  | true =>
    have := (engOkB_iff.1 h).2.2.2.2.2
    rw [contE_yes h, contD_len, ← this]
    have := dirD_len fs
    omega
theorem implContents_any (fs : List FileD) (ao ad : Option Addr) (cap cd : Nat) (room act seq : Int) (dir : List SpotD) (w : World) (hl : fs.length ≤ 1048576) (hfs : FilesAt w ao fs) (hsz : ∀ F ∈ fs, F.name.size ≤ 1048576 ∧ F.text.size ≤ 1048576) (_hld : dir.length ≤ 1048576) (hds : SpotsAt w ad dir) (hT : SumTab w) :
    Calls Tryz.prog 8 #[.agg #[.slice ao fs.length cap, .int .i64 room, .int .i64 act, .int .i64 seq, .slice ad dir.length cd]] w fun e w' => (∃ v, e = .returned (.tuple #[v, .bool (engOkB fs room act seq dir)]) ∧ RowChange w' w.heap.size v (contE fs room act seq dir)) ∧ Below w.heap.size w w' := by
  have HSO := hide (fun W h1 h2 hT => storeOf_any fs ao ad cap cd room act seq dir W hl h1 hsz h2 hT)
  have HUS := hide (fun wB g vd vr vs W => contents_any fs room wB g vd vr vs W hl hsz)
  have HF := hide hfs
  have HD := hide hds
  have HT := hide hT
  clear hfs hds hsz hT
  obtain ⟨wb, hwb⟩ : ∃ wb, wb = w.alloc (.cells #[.slice ao fs.length cap, .int .i64 room, .int .i64 act, .int .i64 seq, .slice ad dir.length cd] 37) := ⟨_, rfl⟩
  have HB0 : Hid (Below w.heap.size w wb) := by rw [hwb]; exact (Below.refl _ w).alloc (Nat.le_refl _) _
  obtain ⟨R, HR⟩ : ∃ R, Hid (contE fs room act seq dir = R) := ⟨_, hide rfl⟩
  obtain ⟨K, HK⟩ : ∃ K, Hid (engOkB fs room act seq dir = K) := ⟨_, hide rfl⟩
  rw [HR.out, HK.out]
  go_enter Tryz.func8, Tryz.ntmps8
  go_wp2_with fail
  rw [← hwb]
  clear hwb
  refine (HSO.out _ (filesAt_keep HF.out HB0.out) (spotsAt_keep HD.out HB0.out) (sumTab_later HB0.out HT.out)).mono ?_
  rintro e w1 ⟨b1, ⟨he, g, vd, vr, vs, rfl, hst⟩ | ⟨he, s, rfl⟩⟩
  · have hR : Hid (contD fs (dirD fs) = R) := by show _ = _; rw [← HR.out, contE_yes (engOkB_yes he), he.2.2.2.2.2]
    have hK : Hid (K = true) := HK.out.symm.trans (engOkB_yes he)
    have HST := hide hst
    have HC := hide he.2.2.1
    have HW1 := hide (HB0.out.trans (b1.mono HB0.out.size))
    have HB1 := hide b1
    have HTB := hide (sumTab_later HB0.out HT.out)
    have HUV := hide (HUS.out wb g vd vr vs _ HST.out HC.out HB1.out HTB.out)
    rw [hR.out] at HUV
    clear hst he b1
    go_wp2_with fail
    refine HUV.out.mono ?_
    rintro e w2 ⟨⟨v2, rfl, r2⟩, b2⟩
    have R2 := hide (rowChange_le r2 HB0.out.size)
    clear r2
    go_wp2
    refine bodyPost_ret (results_tmp2 rfl _ _ _) rfl ?_
    rw [hK.out]
    exact ⟨⟨_, rfl, R2.out⟩, HW1.out.trans (b2.mono HB0.out.size)⟩
  · have hR : Hid (R = []) := HR.out.symm.trans (contE_no (engOkB_no he))
    have hK : Hid (K = false) := HK.out.symm.trans (engOkB_no he)
    go_wp2
    refine bodyPost_ret (results_tmp2 rfl _ _ _) rfl ?_
    rw [hK.out, hR.out]
    exact ⟨⟨_, rfl, .inl ⟨rfl, rfl⟩⟩, HB0.out.trans (b1.mono HB0.out.size)⟩
theorem specContents_any (fs : List FileD) (ao ad : Option Addr) (cap cd : Nat) (room act seq : Int) (dir : List SpotD) (w : World) (hl : fs.length ≤ 1048576) (hfs : FilesAt w ao fs) (hsz : ∀ F ∈ fs, F.name.size ≤ 1048576 ∧ F.text.size ≤ 1048576) (hld : dir.length ≤ 1048576) (hds : SpotsAt w ad dir) :
    Calls Tryz.prog 6 #[.agg #[.slice ao fs.length cap, .int .i64 room, .int .i64 act, .int .i64 seq, .slice ad dir.length cd]] w fun e w' => (∃ v, e = .returned (.tuple #[v, .bool (engOkB fs room act seq dir)]) ∧ RowChange w' w.heap.size v (contE fs room act seq dir)) ∧ Below w.heap.size w w' := by
  have HEO := hide (fun W h1 h2 => specEngineOk_any fs ao ad cap cd room act seq dir W hl h1 hsz hld h2)
  have HUS := hide (fun s W h => specValueOf_any fs ao cap s W hl h hsz)
  have HF := hide hfs
  have HD := hide hds
  clear hfs hds hsz
  obtain ⟨wb, hwb⟩ : ∃ wb, wb = (w.alloc (.cells #[.slice ao fs.length cap, .int .i64 room, .int .i64 act, .int .i64 seq, .slice ad dir.length cd] 37)).alloc (.cells #[] 57) := ⟨_, rfl⟩
  have HB0 : Hid (Below w.heap.size w wb) := by rw [hwb]; exact ((Below.refl _ w).alloc (Nat.le_refl _) _).alloc (by simp) _
  have hbs : wb.heap.size = w.heap.size + 2 := by rw [hwb]; simp
  have HBK : Hid (wb.heap[w.heap.size]? = some (.cells #[.slice ao fs.length cap, .int .i64 room, .int .i64 act, .int .i64 seq, .slice ad dir.length cd] 37 (0, 0))) := by
    show _ = _
    rw [hwb]
    exact (Below.heap_alloc _ _ _ (by simp)).trans (heap_alloc_new w _)
  have HO0 : Hid (wb.ownsRow (w.heap.size + 1) 57 3 (.slice (some ⟨w.heap.size + 1, 0, none⟩) 0 0) 0 []) := by
    rw [hwb]
    have := World.ownsRow_lit (e := 57) (size := 3) (w.alloc (.cells #[.slice ao fs.length cap, .int .i64 room, .int .i64 act, .int .i64 seq, .slice ad dir.length cd] 37)) #[] 0 (Nat.le_refl _) (by unfold maxLen; omega) (by simp)
    show World.ownsRow _ _ _ _ _ _ _
    simpa using this
  obtain ⟨R, HR⟩ : ∃ R, Hid (contE fs room act seq dir = R) := ⟨_, hide rfl⟩
  obtain ⟨K, HK⟩ : ∃ K, Hid (engOkB fs room act seq dir = K) := ⟨_, hide rfl⟩
  rw [HK.out] at HEO
  rw [HR.out, HK.out]
  go_enter Tryz.func6, Tryz.ntmps6
  go_wp2_with fail
  rw [← hwb]
  obtain ⟨hz0, hz1, hz2, hz3, hz4, -⟩ := five_cells HBK.out
  clear hwb
  go_wp2_with fail
  refine (HEO.out _ (filesAt_keep HF.out HB0.out) (spotsAt_keep HD.out HB0.out)).mono ?_
  rintro e w1 ⟨rfl, b1⟩
  have HW1 := hide (HB0.out.trans (b1.mono HB0.out.size))
  have HBK1 := hide ((b1.block _ (heap_lt HBK.out)).trans HBK.out)
  have O1 := hide (ownsRow_below HO0.out b1)
  have hs1 : wb.heap.size ≤ w1.heap.size := b1.size
  clear hz0 hz1 hz2 hz3 hz4 b1
  obtain ⟨hy0, hy1, hy2, hy3, hy4, -⟩ := five_cells HBK1.out
  cases K with
  | true =>
    have hR : Hid (contD fs dir = R) := (contE_yes HK.out).symm.trans HR.out
    have hdl : dir.length ≤ 1000000 := by
      have := (engOkB_iff.1 HK.out).2.2.2.2.2
      rw [← this]
      have := dirD_len fs
      omega
    go_wp2_with fail
    go_loopw [4, 5] (fun vo ii wr => ∃ (k : Nat), ii = .int .i64 k ∧ k ≤ dir.length ∧ Hid (wr.ownsRow (w.heap.size + 1) 57 3 vo (contD fs (dir.take k)).length (cellsChange (contD fs (dir.take k)))) ∧ Hid (Below (w.heap.size + 1) w1 wr)) (fun _ ii _ => dir.length - (intOf ii).toNat)
    case atStart => exact ⟨0, rfl, Nat.zero_le _, O1, Below.refl _ _⟩
    case round =>
      obtain ⟨k, rfl, hk, HO, HB⟩ := hrel
      have hws := HB.out.size
      have HBK2 := hide ((HB.out.block _ (by omega)).trans HBK1.out)
      obtain ⟨hx0, hx1, hx2, hx3, hx4, -⟩ := five_cells HBK2.out
      have HWr := hide (HW1.out.trans (HB.out.mono (Nat.le_succ _)))
      by_cases hlt : k < dir.length
      · have hlt' : decide ((k : Int) < (dir.length : Int)) = true := by simp; omega
        obtain ⟨b, off, rfl, hbw, hc0, hc1, hc2, hc3⟩ := spotsAt_keep HD.out HWr.out k hlt
        have htk := hide (contD_take (fs := fs) hlt)
        generalize dir[k] = A at hc0 hc1 hc2 hc3 htk
        obtain ⟨L, HL⟩ : ∃ L, Hid (contD fs (dir.take k) = L) := ⟨_, hide rfl⟩
        have hLl : L.length ≤ 1048576 := by
          rw [← HL.out, contD_len, List.length_take]
          omega
        rw [HL.out] at HO htk
        have hi0 : (0 : Int) ≤ (k : Int) := by omega
        have hi1 : (k : Int) < (dir.length : Int) := by omega
        obtain ⟨V, HV⟩ : ∃ R, Hid (valD fs A = R) := ⟨_, hide rfl⟩
        rw [HV.out] at htk
        have hbl : w.heap.size < wr.heap.size := heap_lt HBK2.out
        have KS : Hid (∀ X, Below wr.heap.size wr X → (X.cell? ⟨w.heap.size, 0, none⟩ = some (.slice ao fs.length cap) ∧ X.cell? ⟨w.heap.size, 4, none⟩ = some (.slice (some ⟨b, off, none⟩) dir.length cd) ∧ X.cell? ⟨b, off + k * 4, none⟩ = some (.string A.key) ∧ X.cell? ⟨b, off + k * 4 + 1, none⟩ = some (.int .i64 A.seg) ∧ X.cell? ⟨b, off + k * 4 + 2, none⟩ = some (.int .i64 A.pos) ∧ X.cell? ⟨b, off + k * 4 + 3, none⟩ = some (.int .i64 A.seq))) := fun X hX => ⟨(hX.cell (p := ⟨w.heap.size, 0, none⟩) hbl).trans hx0, (hX.cell (p := ⟨w.heap.size, 4, none⟩) hbl).trans hx4, (hX.cell (p := ⟨b, off + k * 4, none⟩) hbw).trans hc0, (hX.cell (p := ⟨b, off + k * 4 + 1, none⟩) hbw).trans hc1, (hX.cell (p := ⟨b, off + k * 4 + 2, none⟩) hbw).trans hc2, (hX.cell (p := ⟨b, off + k * 4 + 3, none⟩) hbw).trans hc3⟩
        have HVA : Hid (∀ X, Below wr.heap.size wr X → Calls Tryz.prog 23 #[.agg #[.slice ao fs.length cap], .agg #[.string A.key, .int .i64 A.seg, .int .i64 A.pos, .int .i64 A.seq]] X fun e w' => e = .returned (.tuple #[.string (outTx V), .bool V.isSome]) ∧ Below X.heap.size X w') := fun X hX => by
          have h := HUS.out A X (filesAt_keep HF.out (HWr.out.trans (hX.mono HWr.out.size)))
          rw [HV.out] at h
          exact h
        go_wp2_with fail
        go_region_held3 (fun w' => w'.cell? ⟨w.heap.size, 0, none⟩ = some (.slice ao fs.length cap) ∧ w'.cell? ⟨w.heap.size, 4, none⟩ = some (.slice (some ⟨b, off, none⟩) dir.length cd) ∧ w'.cell? ⟨b, off + k * 4, none⟩ = some (.string A.key) ∧ w'.cell? ⟨b, off + k * 4 + 1, none⟩ = some (.int .i64 A.seg) ∧ w'.cell? ⟨b, off + k * 4 + 2, none⟩ = some (.int .i64 A.pos) ∧ w'.cell? ⟨b, off + k * 4 + 3, none⟩ = some (.int .i64 A.seq)) ((refine KS.out _ ?_; first | (exact e2) | (exact (Below.refl _ _).drew) | fail)) ((go_at_call 23; refine (HVA.out _ ?_).mono ?_; exact (Below.refl _ _).drew; rintro e w2 ⟨rfl, b2⟩; have e2 : Below wr.heap.size wr w2 := ((Below.refl _ _).drew).trans b2))
        have E2 := hide e2
        have he2 := e2.size
        obtain ⟨hq0, hq1, hq2, -⟩ := KS.out _ e2
        clear e2 b2 KS HVA hx0 hx1 hx2 hx3 hx4 hc0 hc1 hc2 hc3
        go_wp2_with (at_builtin; refine app_change _ (w.heap.size + 1) (by rfl) _ _ (by rfl) _ L ⟨A.key, outTx V, false⟩ (by rfl) ((ownsRow_below HO.out E2.out).alloc _) w2.heap.size (by rfl) (heap_alloc_new w2 _) hLl (by simp; omega) ?_; intro g5 cap5 w5 ho5 hb5 hg5 hgl5; have HO5 := hide ho5; have HB5 := hide hb5; clear ho5 hb5 hg5 hgl5)
        go_roundw
        case rel =>
          refine ⟨k + 1, by go_num, by omega, ?_, ((HB.out.trans (E2.out.mono (by omega))).alloc (by omega) _).trans HB5.out⟩
          show World.ownsRow _ _ _ _ _ _ _
          rw [htk.out]
          exact HO5.out
        case measure => simp [intOf]; omega
      · have hlt' : decide ((k : Int) < (dir.length : Int)) = false := by simp; omega
        have hke : k = dir.length := by omega
        subst hke
        rw [List.take_length, hR.out] at HO
        go_wp2
        refine bodyPost_ret (results_tmp2 rfl _ _ _) rfl ?_
        exact ⟨⟨_, rfl, rowChange_own (ownsRow_mono HO.out (Nat.le_succ _))⟩, HWr.out⟩
  | false =>
    have hR : Hid (R = []) := HR.out.symm.trans (contE_no HK.out)
    go_wp2
    refine bodyPost_ret (results_tmp2 rfl _ _ _) rfl ?_
    rw [hR.out]
    exact ⟨⟨_, rfl, rowChange_own (fs := []) (ownsRow_mono O1.out (Nat.le_succ _))⟩, HW1.out⟩
end Go.Proofs.YthpolfmbcipjaaaGreatDoor
