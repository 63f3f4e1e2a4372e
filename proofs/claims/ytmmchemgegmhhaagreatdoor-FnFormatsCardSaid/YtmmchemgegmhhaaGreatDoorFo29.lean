import Derived.Test.YtmmchemgegmhhaaGreatDoorFo27
import Derived.Test.YtmmchemgegmhhaaGreatDoorFo28
import Derived.Test.YtmmchemgegmhhaaGreatDoorFo2
import Derived.Test.YtmmchemgegmhhaaGreatDoorFo26
import Derived.Test.YtmmchemgegmhhaaGreatDoorFo10
import Derived.Test.YtmmchemgegmhhaaGreatDoorFo19
import Derived.Test.YtmmchemgegmhhaaGreatDoorFo20
import Derived.Test.YtmmchemgegmhhaaGreatDoorFo9
set_option maxRecDepth 100000
set_option maxHeartbeats 1600000
namespace Go.Proofs.YtmmchemgegmhhaaGreatDoor
open Go.RowKit
def contD (fs : List FileD) (dir : List SpotD) : List ChangeD := dir.map fun A => ⟨A.key, outTx (valD fs A), false⟩
theorem contD_len (fs : List FileD) (dir : List SpotD) : (contD fs dir).length = dir.length := by simp [contD]
theorem contD_take {fs : List FileD} {dir : List SpotD} {k : Nat} (h : k < dir.length) : contD fs (dir.take (k + 1)) = contD fs (dir.take k) ++ [⟨dir[k].key, outTx (valD fs dir[k]), false⟩] := by
  unfold contD
  rw [List.take_succ_eq_append_getElem h, List.map_append]
  rfl
theorem storeAt_dirC {w : World} {B g : Nat} {fs : List FileD} {room : Int} {vd vr vs : Value} (h : StoreAt w B g fs room vd vr vs) (z : Value) : RowSpot (w.setCell ⟨g, 0, none⟩ z) B vr (dirD fs) := by
  have hb := h.blk
  refine rowSpot_keep h.dir (fun x hx => ?_)
  have hne : x ≠ g := by
    rintro rfl
    rcases h.dir with ⟨rfl, -⟩ | ⟨g', cap, C, rfl, -, hC, -⟩
    · cases hx
    · obtain rfl : g' = x := by simpa [Value.ownBlock] using hx
      rw [hC] at hb
      simp at hb
  exact Below.heap_setCell _ _ _ _ hne
theorem rowChange_lock {w : World} {B g : Nat} {v : Value} {l : List ChangeD} {C : Array Value} (h : RowChange w B v l) (hb : w.heap[g]? = some (.cells C 140 (0, 0))) (z : Value) : RowChange (w.setCell ⟨g, 0, none⟩ z) B v l := by
  refine rowChange_keep h (fun x hx => ?_)
  have hne : x ≠ g := by
    rintro rfl
    rcases h with ⟨rfl, -⟩ | ⟨g', cap, C, rfl, -, hC, -⟩
    · cases hx
    · obtain rfl : g' = x := by simpa [Value.ownBlock] using hx
      rw [hC] at hb
      simp at hb
  exact Below.heap_setCell _ _ _ _ hne
theorem contents_any (fs : List FileD) (room : Int) (wB : World) (g : Nat) (vd vr vs : Value) (w : World) (hl : fs.length ≤ 1048576) (hsz : ∀ F ∈ fs, F.name.size ≤ 1048576 ∧ F.text.size ≤ 1048576) (hst : StoreAt w wB.heap.size g fs room vd vr vs) (hca : calmB fs = true) (hwB : Below wB.heap.size wB w) (hT : SumTab wB) :
    Calls Tryz.prog 47 #[.pointer (some ⟨g, 0, none⟩)] w fun e w' => (∃ v, e = .returned v ∧ RowChange w' wB.heap.size v (contD fs (dirD fs))) ∧ Below wB.heap.size w w' := by
  have hA : (actsF fs (actsI fs)).1 = fs := by rw [calm_acts hca]; rfl
  have hle := hst.le
  have hd1 := storeAt_disk hst (.int .i32 1)
  have hs1 := storeAt_dirC hst (.int .i32 1)
  rw [hA] at hd1
  obtain ⟨ad, cd, rfl, hfs⟩ := rowF_at hd1
  obtain ⟨ar, cr, rfl, hds⟩ := rowSpot_at hs1
  have HFS := hide hfs
  have HDS := hide hds
  have HB1 := hide (storeAt_lock hst (.int .i32 1))
  have HK := hide (eight_cells hst.blk)
  have hdl := dirD_len fs
  have HKY : Hid (∀ A ∈ dirD fs, A.key.size ≤ 1048576) := fun A hA => by have := (segsL_tell fs).2.2.2.1 A hA; omega
  have HVO := hide (fun s W h hk hT => implValueOf_any fs ad cd s W hl h hsz hk hT)
  clear hfs hds hd1 hs1 hst hsz
  obtain ⟨w1, hw1⟩ : ∃ w1, w1 = w.setCell ⟨g, 0, none⟩ (.int .i32 1) := ⟨_, rfl⟩
  rw [← hw1] at HB1 HFS HDS
  have HW1 : Hid (Below wB.heap.size w w1) := by show Below _ _ _; rw [hw1]; exact (Below.refl _ w).setCell (p := ⟨g, 0, none⟩) hle _
  have HWB : Hid (Below wB.heap.size wB w1) := hwB.trans HW1.out
  have HT1 : Hid (SumTab w1) := sumTab_later HWB.out hT
  have hgl : g < w1.heap.size := heap_lt HB1.out
  have hB1 : wB.heap.size ≤ w1.heap.size := Nat.le_of_lt (Nat.lt_of_le_of_lt hle hgl)
  obtain ⟨k0, k1, k2, k3, k4, k5, k6, k7, k8⟩ := eight_cells HB1.out
  clear hwB hT
  generalize dirD fs = D at HDS HKY hdl k6 HK HB1 ⊢
  go_enter_defers Tryz.func47, Tryz.ntmps47
  go_wp2_with fail
  refine (Go.MuLone.lock_free Tryz.muLib ⟨g, 0, none⟩ w HK.out.1 HK.out.2.2.2.2.2.2.2.2).mono ?_
  rintro e w' ⟨rfl, rfl⟩
  rw [← hw1]
  clear hw1
  go_wp2_with fail
  go_loopw [3, 21] (fun vo ii wr => ∃ (k : Nat), ii = .int .i64 k ∧ k ≤ D.length ∧ Hid (wr.ownsRow w1.heap.size 144 3 vo (contD fs (D.take k)).length (cellsChange (contD fs (D.take k)))) ∧ Hid (Below w1.heap.size w1 wr)) (fun _ ii _ => D.length - (intOf ii).toNat)
  case atStart => exact ⟨0, rfl, Nat.zero_le _, World.ownsRow_nil _ _ _ _, Below.refl _ _⟩
  case round =>
    obtain ⟨k, rfl, hk, HO, HB⟩ := hrel
    have hws := HB.out.size
    by_cases hlt : k < D.length
    · have hlt' : decide ((k : Int) < (D.length : Int)) = true := by simp; omega
      obtain ⟨b, off, rfl, hbw, hc0, hc1, hc2, hc3⟩ := spotsAt_keep HDS.out HB.out k hlt
      have HKK := hide (HKY.out D[k] (List.getElem_mem hlt))
      have htk := hide (contD_take (fs := fs) hlt)
      generalize D[k] = A at hc0 hc1 hc2 hc3 HKK htk
      obtain ⟨L, HL⟩ : ∃ L, Hid (contD fs (D.take k) = L) := ⟨_, hide rfl⟩
      have hLl : L.length ≤ 1048576 := by
        rw [← HL.out, contD_len, List.length_take]
        omega
      rw [HL.out] at HO htk
      have hi0 : (0 : Int) ≤ (k : Int) := by omega
      have hi1 : (k : Int) < (D.length : Int) := by omega
      obtain ⟨wn, hwn⟩ : ∃ x, x = wr.alloc (.cells #[.string A.key, .int .i64 A.seg, .int .i64 A.pos, .int .i64 A.seq] 89) := ⟨_, rfl⟩
      have BN0 : Hid (Below wr.heap.size wr wn) := by rw [hwn]; exact (Below.refl _ _).alloc (Nat.le_refl _) _
      have BN : Hid (Below w1.heap.size w1 wn) := HB.out.trans (BN0.out.mono hws)
      have hbn : wn.heap[wr.heap.size]? = some (.cells #[.string A.key, .int .i64 A.seg, .int .i64 A.pos, .int .i64 A.seq] 89 (0, 0)) := by rw [hwn]; exact heap_alloc_new _ _
      have hf0 : wn.cell? ⟨wr.heap.size, 0, none⟩ = some (.string A.key) := (cell_of_row wn _ 0 _ _ (0, 0) hbn).trans rfl
      have hf1 : wn.cell? ⟨wr.heap.size, 1, none⟩ = some (.int .i64 A.seg) := (cell_of_row wn _ 1 _ _ (0, 0) hbn).trans rfl
      have hf2 : wn.cell? ⟨wr.heap.size, 2, none⟩ = some (.int .i64 A.pos) := (cell_of_row wn _ 2 _ _ (0, 0) hbn).trans rfl
      have hf3 : wn.cell? ⟨wr.heap.size, 3, none⟩ = some (.int .i64 A.seq) := (cell_of_row wn _ 3 _ _ (0, 0) hbn).trans rfl
      have hg2 : wn.cell? ⟨g, 2, none⟩ = some (.slice ad fs.length cd) := (BN.out.cell (p := ⟨g, 2, none⟩) hgl).trans k2
      have hnl : wr.heap.size < wn.heap.size := heap_lt hbn
      have hgn : g < wn.heap.size := Nat.lt_of_lt_of_le hgl BN.out.size
      clear hbn
      have HON := hide (ownsRow_below HO.out BN0.out)
      go_wp2_with fail
      rw [← hwn] at ⊢
      clear hwn hc0 hc1 hc2 hc3
      have KS : Hid (∀ X, Below wn.heap.size wn X → (X.cell? ⟨g, 2, none⟩ = some (.slice ad fs.length cd) ∧ X.cell? ⟨wr.heap.size, 0, none⟩ = some (.string A.key) ∧ X.cell? ⟨wr.heap.size, 1, none⟩ = some (.int .i64 A.seg) ∧ X.cell? ⟨wr.heap.size, 2, none⟩ = some (.int .i64 A.pos) ∧ X.cell? ⟨wr.heap.size, 3, none⟩ = some (.int .i64 A.seq))) := fun X hX => ⟨(hX.cell (p := ⟨g, 2, none⟩) hgn).trans hg2, (hX.cell (p := ⟨wr.heap.size, 0, none⟩) hnl).trans hf0, (hX.cell (p := ⟨wr.heap.size, 1, none⟩) hnl).trans hf1, (hX.cell (p := ⟨wr.heap.size, 2, none⟩) hnl).trans hf2, (hX.cell (p := ⟨wr.heap.size, 3, none⟩) hnl).trans hf3⟩
      obtain ⟨R, HR⟩ : ∃ R, Hid (valD fs A = R) := ⟨_, hide rfl⟩
      rw [HR.out] at htk
      have HVA : Hid (∀ X, Below wn.heap.size wn X → Calls Tryz.prog 92 #[.agg #[.slice ad fs.length cd], .agg #[.string A.key, .int .i64 A.seg, .int .i64 A.pos, .int .i64 A.seq]] X fun e w' => e = .returned (.tuple #[.string (outTx R), .bool R.isSome]) ∧ Below X.heap.size X w') := fun X hX => by
        have h := HVO.out A X (filesAt_keep HFS.out (BN.out.trans (hX.mono BN.out.size))) HKK.out (sumTab_later (BN.out.trans (hX.mono BN.out.size)) HT1.out)
        rw [HR.out] at h
        exact h
      go_region_held3 (fun w' => w'.cell? ⟨g, 2, none⟩ = some (.slice ad fs.length cd) ∧ w'.cell? ⟨wr.heap.size, 0, none⟩ = some (.string A.key) ∧ w'.cell? ⟨wr.heap.size, 1, none⟩ = some (.int .i64 A.seg) ∧ w'.cell? ⟨wr.heap.size, 2, none⟩ = some (.int .i64 A.pos) ∧ w'.cell? ⟨wr.heap.size, 3, none⟩ = some (.int .i64 A.seq)) ((refine KS.out _ ?_; first | (exact e2) | (exact (Below.refl _ _).drew) | fail)) ((go_at_call 92; refine (HVA.out _ ?_).mono ?_; exact (Below.refl _ _).drew; rintro e w2 ⟨rfl, b2⟩; have e2 : Below wn.heap.size wn w2 := ((Below.refl _ _).drew).trans b2))
      have E2 := hide e2
      have he2 := e2.size
      have hq0 := (KS.out _ e2).2.1
      clear e2 b2 KS HVA hf0 hf1 hf2 hf3 hg2
      go_wp2_with (at_builtin; refine app_change _ w1.heap.size (by rfl) _ _ (by rfl) _ L ⟨A.key, outTx R, false⟩ (by rfl) ((ownsRow_below HON.out E2.out).alloc _) w2.heap.size (by rfl) (heap_alloc_new w2 _) hLl (by simp; omega) ?_; intro g5 cap5 w5 ho5 hb5 hg5 hgl5; have HO5 := hide ho5; have HB5 := hide hb5; clear ho5 hb5 hg5 hgl5)
      go_roundw
      case rel =>
        refine ⟨k + 1, by go_num, by omega, ?_, ((BN.out.trans (E2.out.mono BN.out.size)).alloc (by omega) _).trans HB5.out⟩
        show World.ownsRow _ _ _ _ _ _ _
        rw [htk.out]
        exact HO5.out
      case measure => simp [intOf]; omega
    · have hlt' : decide ((k : Int) < (D.length : Int)) = false := by simp; omega
      have hke : k = D.length := by omega
      subst hke
      rw [List.take_length] at HO
      have h2 := HB.out
      have h0 : wr.cell? ⟨g, 0, none⟩ = some (.int .i32 1) := (h2.cell (p := ⟨g, 0, none⟩) hgl).trans k0
      have hblk := (h2.block _ hgl).trans HB1.out
      have HBL := hide hblk
      have hz : wr.frozen? ⟨g, 0, none⟩ = false := frozen_of_row wr g 0 _ _ hblk
      clear hblk
      go_wp2
      refine leaves_cons (f := 91) (args := #[.pointer (some ⟨g, 0, none⟩)]) (by simp) (by simp [go_sem]) ?_
      refine (Go.MuLone.unlock_deferred Tryz.muLib ⟨g, 0, none⟩ .returning _ h0 hz).mono ?_
      rintro e u' w'' ⟨rfl, rfl, rfl⟩
      exact ⟨_, results_tmp rfl _ _ _, ⟨_, rfl, rowChange_lock (rowChange_le (rowChange_own HO.out) hB1) HBL.out _⟩, (HW1.out.trans (h2.mono hB1)).setCell (p := ⟨g, 0, none⟩) hle _⟩
def contE (fs : List FileD) (room act seq : Int) (dir : List SpotD) : List ChangeD := bif engOkB fs room act seq dir then contD fs dir else []
theorem contE_yes {fs : List FileD} {room act seq : Int} {dir : List SpotD} (h : engOkB fs room act seq dir = true) : contE fs room act seq dir = contD fs dir := by
  unfold contE
  rw [h]
  rfl
theorem contE_no {fs : List FileD} {room act seq : Int} {dir : List SpotD} (h : engOkB fs room act seq dir = false) : contE fs room act seq dir = [] := by
  unfold contE
  rw [h]
  rfl
theorem implContents_any (fs : List FileD) (ao ad : Option Addr) (cap cd : Nat) (room act seq : Int) (dir : List SpotD) (w : World) (hl : fs.length ≤ 1048576) (hfs : FilesAt w ao fs) (hsz : ∀ F ∈ fs, F.name.size ≤ 1048576 ∧ F.text.size ≤ 1048576) (_hld : dir.length ≤ 1048576) (hds : SpotsAt w ad dir) (hT : SumTab w) :
    Calls Tryz.prog 12 #[.agg #[.slice ao fs.length cap, .int .i64 room, .int .i64 act, .int .i64 seq, .slice ad dir.length cd]] w fun e w' => (∃ v, e = .returned (.tuple #[v, .bool (engOkB fs room act seq dir)]) ∧ RowChange w' w.heap.size v (contE fs room act seq dir)) ∧ Below w.heap.size w w' := by
  have HSO := hide (fun W h1 h2 hT => storeOf_any fs ao ad cap cd room act seq dir W hl h1 hsz h2 hT)
  have HUS := hide (fun wB g vd vr vs W => contents_any fs room wB g vd vr vs W hl hsz)
  have HF := hide hfs
  have HD := hide hds
  have HT := hide hT
  clear hfs hds hsz hT
  obtain ⟨wb, hwb⟩ : ∃ wb, wb = w.alloc (.cells #[.slice ao fs.length cap, .int .i64 room, .int .i64 act, .int .i64 seq, .slice ad dir.length cd] 30) := ⟨_, rfl⟩
  have HB0 : Hid (Below w.heap.size w wb) := by rw [hwb]; exact (Below.refl _ w).alloc (Nat.le_refl _) _
  obtain ⟨R, HR⟩ : ∃ R, Hid (contE fs room act seq dir = R) := ⟨_, hide rfl⟩
  obtain ⟨K, HK⟩ : ∃ K, Hid (engOkB fs room act seq dir = K) := ⟨_, hide rfl⟩
  rw [HR.out, HK.out]
  go_enter Tryz.func12, Tryz.ntmps12
  go_wp2_with fail
  rw [← hwb]
  clear hwb
  refine (HSO.out _ (filesAt_keep HF.out HB0.out) (spotsAt_keep HD.out HB0.out) (sumTab_later HB0.out HT.out)).mono ?_
  rintro e w1 ⟨b1, ⟨he, g, vd, vr, vs, rfl, hst⟩ | ⟨he, s, rfl⟩⟩
  · have hR : Hid (contD fs (dirD fs) = R) := by show _ = _; rw [← HR.out, contE_yes (engOkB_yes he), he.2.2.2.2.2]
    have hK : Hid (K = true) := HK.out.symm.trans (engOkB_yes he)
    have HST := hide hst
    have HC := hide he.2.2.1
    have HW1 := hide (HB0.out.trans (b1.mono HB0.out.size))
    have HB1 := hide b1
    have HTB := hide (sumTab_later HB0.out HT.out)
    have HUV := hide (HUS.out wb g vd vr vs _ HST.out HC.out HB1.out HTB.out)
    rw [hR.out] at HUV
    clear hst he b1
    go_wp2_with fail
    refine HUV.out.mono ?_
    rintro e w2 ⟨⟨v2, rfl, r2⟩, b2⟩
    have R2 := hide (rowChange_le r2 HB0.out.size)
    clear r2
    go_wp2
    refine bodyPost_ret (results_tmp2 rfl _ _ _) rfl ?_
    rw [hK.out]
    exact ⟨⟨_, rfl, R2.out⟩, HW1.out.trans (b2.mono HB0.out.size)⟩
  · have hR : Hid (R = []) := HR.out.symm.trans (contE_no (engOkB_no he))
    have hK : Hid (K = false) := HK.out.symm.trans (engOkB_no he)
    go_wp2
    refine bodyPost_ret (results_tmp2 rfl _ _ _) rfl ?_
    rw [hK.out, hR.out]
    exact ⟨⟨_, rfl, .inl ⟨rfl, rfl⟩⟩, HB0.out.trans (b1.mono HB0.out.size)⟩
def findS (dir : List SpotD) (key : ByteArray) : Option SpotD := dir.find? fun S => S.key.toList == key.toList
theorem filter_key {dir : List SpotD} (h : srtS dir) (key : ByteArray) : (dir.filter fun S => S.key.toList == key.toList) = (findS dir key).toList := by
  unfold findS
  induction dir with
  | nil => rfl
  | cons A r ih =>
    have hr : srtS r := (List.pairwise_cons.1 h).2
    have ha := (List.pairwise_cons.1 h).1
    cases hk : (A.key.toList == key.toList) with
    | true =>
      have : (r.filter fun S => S.key.toList == key.toList) = [] := by
        rw [List.filter_eq_nil_iff]
        intro S hS e
        have h1 := ha S hS
        rw [eq_of_beq hk, eq_of_beq e, less_irrefl] at h1
        cases h1
      simp [hk, this]
    | false => simp only [List.filter_cons, hk, List.find?_cons]; exact ih hr
theorem findS_mem {dir : List SpotD} (h : srtS dir) {S : SpotD} (hS : S ∈ dir) : findS dir S.key = some S := by
  have h1 : S ∈ (dir.filter fun T => T.key.toList == S.key.toList) := List.mem_filter.2 ⟨hS, beq_self_eq_true _⟩
  rw [filter_key h] at h1
  cases hf : findS dir S.key with
  | none => rw [hf] at h1; simp at h1
  | some T => rw [hf] at h1; simp at h1; rw [h1]
theorem dirD_srt (fs : List FileD) : srtS (dirD fs) := by
  unfold dirD
  generalize segsL fs = l
  have hb : ∀ (seg : Int) (bs : List BatchD) (dir : List SpotD) (e : Nat), srtS dir → srtS (batsIn seg dir e bs) := by
    intro seg bs
    induction bs with
    | nil => intro dir e h; exact h
    | cons b r ih => intro dir e h; unfold batsIn; exact ih _ _ (srtS_chs seg e b.seq b.chs dir h)
  have hl : ∀ (l : List SegD) (dir : List SpotD), srtS dir → srtS (dirSegs dir l) := by
    intro l
    induction l with
    | nil => intro dir h; exact h
    | cons s r ih => intro dir h; unfold dirSegs; exact ih _ (hb _ _ _ _ h)
  exact hl l [] List.Pairwise.nil
theorem isNaN_str (s : ByteArray) (w : World) : Calls Tryz.prog 185 #[.string s] w fun e w' => e = .returned (.bool false) ∧ w' = w := by
  have h : (s.toList == s.toList) = true := beq_self_eq_true _
  go_enter Tryz.func185, Tryz.ntmps185
  go_wp2
  go_ret
  exact ⟨rfl, rfl⟩
def cmpI (a b : ByteArray) : Int := if Op.bytesLess a.toList b.toList = true then -1 else if (a.toList == b.toList) = true then 0 else 1
theorem compare_str (a b : ByteArray) (w : World) : Calls Tryz.prog 142 #[.string a, .string b] w fun e w' => e = .returned (.int .i64 (cmpI a b)) ∧ w' = w := by
  have HN := hide isNaN_str
  unfold cmpI
  cases h1 : Op.bytesLess a.toList b.toList with
  | true =>
    rw [if_pos rfl]
    go_enter Tryz.func142, Tryz.ntmps142
    go_wp2_with fail
    refine (HN.out _ _).mono ?_
    rintro e w1 ⟨rfl, rfl⟩
    go_wp2_with fail
    refine (HN.out _ _).mono ?_
    rintro e w1 ⟨rfl, rfl⟩
    go_wp2
    go_ret
    exact ⟨rfl, rfl⟩
  | false =>
    rw [if_neg (by decide)]
    cases h2 : (a.toList == b.toList) with
    | true =>
      rw [if_pos rfl]
      go_enter Tryz.func142, Tryz.ntmps142
      go_wp2_with fail
      refine (HN.out _ _).mono ?_
      rintro e w1 ⟨rfl, rfl⟩
      go_wp2_with fail
      refine (HN.out _ _).mono ?_
      rintro e w1 ⟨rfl, rfl⟩
      go_wp2
      go_ret
      exact ⟨rfl, rfl⟩
    | false =>
      rw [if_neg (by decide)]
      go_enter Tryz.func142, Tryz.ntmps142
      go_wp2_with fail
      refine (HN.out _ _).mono ?_
      rintro e w1 ⟨rfl, rfl⟩
      go_wp2_with fail
      refine (HN.out _ _).mono ?_
      rintro e w1 ⟨rfl, rfl⟩
      go_wp2
      go_ret
      exact ⟨rfl, rfl⟩
theorem spotCmp_any (A : SpotD) (key : ByteArray) (w : World) : Calls Tryz.prog 141 #[.agg #[.string A.key, .int .i64 A.seg, .int .i64 A.pos, .int .i64 A.seq], .string key] w fun e w' => e = .returned (.int .i64 (cmpI A.key key)) ∧ Below w.heap.size w w' := by
  go_enter Tryz.func141, Tryz.ntmps141
  go_wp2_with fail
  refine (compare_str _ _ _).mono ?_
  rintro e w1 ⟨rfl, rfl⟩
  go_wp2
  go_ret
  exact ⟨rfl, (Below.refl _ w).alloc (Nat.le_refl _) _⟩
theorem name_eqS {a b : ByteArray} (h : a.toList = b.toList) : a = b :=
  Decidable.byContradiction fun hne => by
    have h1 := (toList_ne).2 hne
    rw [h, beq_self_eq_true] at h1
    cases h1
theorem fourC {W : World} {g : Nat} {a b c d : Value} {t : TypeId} (h : W.heap[g]? = some (.cells #[a, b, c, d] t (0, 0))) : W.cell? ⟨g, 0, none⟩ = some a ∧ W.cell? ⟨g, 1, none⟩ = some b ∧ W.cell? ⟨g, 2, none⟩ = some c ∧ W.cell? ⟨g, 3, none⟩ = some d ∧ W.frozen? ⟨g, 0, none⟩ = false ∧ W.frozen? ⟨g, 1, none⟩ = false ∧ W.frozen? ⟨g, 2, none⟩ = false ∧ W.frozen? ⟨g, 3, none⟩ = false :=
  ⟨(cell_of_row W g 0 _ _ (0, 0) h).trans rfl, (cell_of_row W g 1 _ _ (0, 0) h).trans rfl, (cell_of_row W g 2 _ _ (0, 0) h).trans rfl, (cell_of_row W g 3 _ _ (0, 0) h).trans rfl, frozen_of_row W g 0 _ _ h, frozen_of_row W g 1 _ _ h, frozen_of_row W g 2 _ _ h, frozen_of_row W g 3 _ _ h⟩
theorem search_any (D : List SpotD) (ad : Option Addr) (cd : Nat) (key : ByteArray) (w : World) (hl : D.length ≤ 1000000) (hs : srtS D) (hds : SpotsAt w ad D) :
    Calls Tryz.prog 140 #[.slice ad D.length cd, .string key, .func (.func 141) #[] #[]] w fun e w' => (∃ (p : Nat) (b : Bool), e = .returned (.tuple #[.int .i64 p, .bool b]) ∧ (b = true → ∃ h : p < D.length, findS D key = some D[p]) ∧ (b = false → findS D key = none)) ∧ Below w.heap.size w w' := by
  have HD := hide hds
  have HS := hide hs
  have HC := hide spotCmp_any
  clear hds hs
  go_enter Tryz.func140, Tryz.ntmps140
  go_wp2_with fail
  go_loopw [9, 10] (fun ii jj wr => ∃ (i j : Nat), ii = .int .i64 i ∧ jj = .int .i64 j ∧ i ≤ j ∧ j ≤ D.length ∧ Hid (∀ k (h : k < D.length), k < i → Op.bytesLess D[k].key.toList key.toList = true) ∧ Hid (∀ k (h : k < D.length), j ≤ k → Op.bytesLess D[k].key.toList key.toList = false) ∧ Hid (Below w.heap.size w wr)) (fun ii jj _ => (intOf jj).toNat - (intOf ii).toNat)
  case atStart => exact ⟨0, D.length, rfl, rfl, Nat.zero_le _, Nat.le_refl _, fun k h hk => absurd hk (by omega), fun k h hk => absurd hk (by omega), Below.refl _ _⟩
  case round =>
    obtain ⟨i, j, rfl, rfl, hij, hjn, HI, HJ, HB⟩ := hrel
    by_cases hlt : i < j
    · have hlt' : decide ((i : Int) < (j : Int)) = true := by simp; omega
      obtain ⟨m, hm⟩ : ∃ m : Nat, (i + j) / 2 = m := ⟨_, rfl⟩
      have hmi : i ≤ m ∧ m < j := by omega
      have hmD : m < D.length := by omega
      obtain ⟨b, off, rfl, hbw, hc0, hc1, hc2, hc3⟩ := spotsAt_keep HD.out HB.out m hmD
      have hi0 : (0 : Int) ≤ ((i : Int) + (j : Int)) / 2 := by omega
      have hi1 : ((i : Int) + (j : Int)) / 2 < (D.length : Int) := by omega
      have hin : (((i : Int) + (j : Int)) / 2).toNat = m := by omega
      have hie : ((i : Int) + (j : Int)) / 2 = (m : Int) := by omega
      obtain ⟨A, HA⟩ : ∃ A, Hid (D[m] = A) := ⟨_, hide rfl⟩
      rw [HA.out] at hc0 hc1 hc2 hc3
      go_wp2_with fail
      refine (HC.out A key _).mono ?_
      rintro e w1 ⟨rfl, b1⟩
      have HB1 := hide (HB.out.trans (b1.mono HB.out.size))
      clear b1 hc0 hc1 hc2 hc3
      cases hl2 : Op.bytesLess A.key.toList key.toList with
      | true =>
        have hx : cmpI A.key key = -1 := by unfold cmpI; rw [if_pos hl2]
        rw [hx]
        have HI2 : Hid (∀ k (h : k < D.length), k < m + 1 → Op.bytesLess D[k].key.toList key.toList = true) := fun k h hk => by
          rcases Nat.lt_or_ge k m with h2 | h2
          · have h3 := List.pairwise_iff_getElem.1 HS.out k m h hmD h2
            rw [HA.out] at h3
            exact less_trans h3 hl2
          · obtain rfl : k = m := by omega
            rw [HA.out]
            exact hl2
        clear hl2 hx
        go_wp2
        go_roundw
        case rel => exact ⟨m + 1, j, by go_num, rfl, by omega, by omega, HI2, HJ, HB1⟩
        case measure => simp [intOf]; omega
      | false =>
        obtain ⟨x, hx, hx0⟩ : ∃ x, cmpI A.key key = x ∧ 0 ≤ x := by
          refine ⟨_, rfl, ?_⟩
          unfold cmpI
          rw [hl2, if_neg (by decide)]
          split <;> decide
        rw [hx]
        have hx1 : decide (x < 0) = false := by simp; omega
        have HJ2 : Hid (∀ k (h : k < D.length), m ≤ k → Op.bytesLess D[k].key.toList key.toList = false) := fun k h hk => by
          rcases Nat.lt_or_ge m k with h2 | h2
          · have h3 := List.pairwise_iff_getElem.1 HS.out m k hmD h h2
            rw [HA.out] at h3
            cases h4 : Op.bytesLess D[k].key.toList key.toList with
            | false => rfl
            | true => rw [less_trans h3 h4] at hl2; cases hl2
          · obtain rfl : k = m := by omega
            rw [HA.out]
            exact hl2
        clear hl2 hx
        go_wp2
        go_roundw
        case rel => exact ⟨i, m, rfl, rfl, by omega, by omega, HI, HJ2, HB1⟩
        case measure => simp [intOf]; omega
    · have hlt' : decide ((i : Int) < (j : Int)) = false := by simp; omega
      obtain rfl : i = j := by omega
      by_cases hin : i < D.length
      · have hin' : decide ((i : Int) < (D.length : Int)) = true := by simp; omega
        obtain ⟨b, off, rfl, hbw, hc0, hc1, hc2, hc3⟩ := spotsAt_keep HD.out HB.out i hin
        have hi0 : (0 : Int) ≤ (i : Int) := by omega
        have hi1 : (i : Int) < (D.length : Int) := by omega
        obtain ⟨A, HA⟩ : ∃ A, Hid (D[i] = A) := ⟨_, hide rfl⟩
        rw [HA.out] at hc0 hc1 hc2 hc3
        have hl2 := HJ.out i hin (Nat.le_refl _)
        rw [HA.out] at hl2
        go_wp2_with fail
        refine (HC.out A key _).mono ?_
        rintro e w1 ⟨rfl, b1⟩
        have HB1 := hide (HB.out.trans (b1.mono HB.out.size))
        clear b1 hc0 hc1 hc2 hc3
        cases hq : (A.key.toList == key.toList) with
        | true =>
          have hx : cmpI A.key key = 0 := by unfold cmpI; rw [hl2, if_neg (by decide), if_pos hq]
          have HF : Hid (findS D key = some D[i]) := by
            have := findS_mem HS.out (List.getElem_mem hin)
            rw [HA.out, name_eqS (eq_of_beq hq)] at this
            rw [HA.out]
            exact this
          rw [hx]
          clear hl2 hx hq
          go_wp2
          refine bodyPost_ret (results_tmp2 rfl _ _ _) rfl ?_
          exact ⟨⟨i, true, rfl, fun _ => ⟨hin, HF.out⟩, fun h => by cases h⟩, HB1.out⟩
        | false =>
          have hx : cmpI A.key key = 1 := by unfold cmpI; rw [hl2, if_neg (by decide), hq, if_neg (by decide)]
          have HF : Hid (findS D key = none) := by
            refine List.find?_eq_none.2 (fun S hS e => ?_)
            obtain ⟨k, hk, rfl⟩ := List.mem_iff_getElem.1 hS
            have e2 := eq_of_beq e
            rcases Nat.lt_trichotomy k i with h2 | h2 | h2
            · have h3 := HI.out k hk h2
              rw [e2, less_irrefl] at h3
              cases h3
            · subst h2
              rw [HA.out] at e
              rw [hq] at e
              cases e
            · have h3 := List.pairwise_iff_getElem.1 HS.out i k hin hk h2
              rw [HA.out, e2, hl2] at h3
              cases h3
          rw [hx]
          clear hl2 hx hq
          go_wp2
          refine bodyPost_ret (results_tmp2 rfl _ _ _) rfl ?_
          exact ⟨⟨i, false, rfl, fun h => by (cases h), fun _ => HF.out⟩, HB1.out⟩
      · have hin' : decide ((i : Int) < (D.length : Int)) = false := by simp; omega
        have HF : Hid (findS D key = none) := by
          refine List.find?_eq_none.2 (fun S hS e => ?_)
          obtain ⟨k, hk, rfl⟩ := List.mem_iff_getElem.1 hS
          have h3 := HI.out k hk (by omega)
          rw [eq_of_beq e, less_irrefl] at h3
          cases h3
        go_wp2
        refine bodyPost_ret (results_tmp2 rfl _ _ _) rfl ?_
        exact ⟨⟨i, false, rfl, fun h => by (cases h), fun _ => HF.out⟩, HB.out⟩
theorem box4s {W w0 : World} {β B : Nat} {c0 c1 c2 c3 : Value} {t : TypeId} (a0 a1 a2 a3 : Value) (hb : W.heap[β]? = some (.cells #[c0, c1, c2, c3] t (0, 0))) (h0 : Below B w0 W) (hB : B ≤ β) (W6 : World) (hW : W6 = (((W.setCell ⟨β, 0, none⟩ a0).setCell ⟨β, 1, none⟩ a1).setCell ⟨β, 2, none⟩ a2).setCell ⟨β, 3, none⟩ a3) :
    W6.heap[β]? = some (.cells #[a0, a1, a2, a3] t (0, 0)) ∧ Below B w0 W6 := by
  have d0 := (heap_setCell_same W β 0 _ _ a0 hb).trans rfl
  have d1 := (heap_setCell_same _ β 1 _ _ a1 d0).trans rfl
  have d2 := (heap_setCell_same _ β 2 _ _ a2 d1).trans rfl
  have d3 := (heap_setCell_same _ β 3 _ _ a3 d2).trans rfl
  subst hW
  exact ⟨by rw [d3]; rfl, (((h0.setCell (p := ⟨β, 0, none⟩) hB _).setCell (p := ⟨β, 1, none⟩) hB _).setCell (p := ⟨β, 2, none⟩) hB _).setCell (p := ⟨β, 3, none⟩) hB _⟩
def outSp : Option SpotD → SpotD
  | none => ⟨⟨#[]⟩, 0, 0, 0⟩
  | some S => S
theorem spotOf_any (D : List SpotD) (ad : Option Addr) (cd : Nat) (key : ByteArray) (w : World) (hl : D.length ≤ 1000000) (hs : srtS D) (hds : SpotsAt w ad D) :
    Calls Tryz.prog 93 #[.slice ad D.length cd, .string key] w fun e w' => e = .returned (.tuple #[.agg #[.string (outSp (findS D key)).key, .int .i64 (outSp (findS D key)).seg, .int .i64 (outSp (findS D key)).pos, .int .i64 (outSp (findS D key)).seq], .bool (findS D key).isSome]) ∧ Below w.heap.size w w' := by
  have HD := hide hds
  have HSE := hide (fun W h => search_any D ad cd key W hl hs h)
  clear hds hs
  obtain ⟨wb, hwb⟩ : ∃ wb, wb = w.alloc (.cells #[.string ⟨#[]⟩, .int .i64 0, .int .i64 0, .int .i64 0] 89) := ⟨_, rfl⟩
  have HB0 : Hid (Below w.heap.size w wb) := by rw [hwb]; exact (Below.refl _ w).alloc (Nat.le_refl _) _
  have HBK : Hid (wb.heap[w.heap.size]? = some (.cells #[.string ⟨#[]⟩, .int .i64 0, .int .i64 0, .int .i64 0] 89 (0, 0))) := by rw [hwb]; exact heap_alloc_new w _
  go_enter Tryz.func93, Tryz.ntmps93
  go_wp2_with fail
  rw [← hwb]
  clear hwb
  refine (HSE.out _ (spotsAt_keep HD.out HB0.out)).mono ?_
  rintro e w1 ⟨⟨p, b, rfl, hb1, hb2⟩, b1⟩
  have HW1 := hide (HB0.out.trans (b1.mono HB0.out.size))
  have HBK1 := hide ((b1.block _ (heap_lt HBK.out)).trans HBK.out)
  clear b1
  obtain ⟨x0, x1, x2, x3, f0, f1, f2, f3⟩ := fourC HBK1.out
  cases b with
  | false =>
    have HF := hide (hb2 rfl)
    clear hb1 hb2
    go_wp2
    obtain ⟨y0, y1⟩ := box4s (.string ⟨#[]⟩) (.int .i64 0) (.int .i64 0) (.int .i64 0) HBK1.out HW1.out (Nat.le_refl _) _ rfl
    obtain ⟨z0, z1, z2, z3, -⟩ := fourC y0
    refine bodyPost_ret (v := .tuple #[.agg #[.string ⟨#[]⟩, .int .i64 0, .int .i64 0, .int .i64 0], .bool false]) ?_ rfl ?_
    · simp [results, Tryz.results93, go_sem, z0, z1, z2, z3]
    · rw [HF.out]
      exact ⟨rfl, y1⟩
  | true =>
    obtain ⟨hp, hF⟩ := hb1 rfl
    have HF := hide hF
    obtain ⟨bb, off, rfl, hbw, hc0, hc1, hc2, hc3⟩ := spotsAt_keep HD.out HW1.out p hp
    clear hb1 hb2 hF
    generalize D[p] = A at hc0 hc1 hc2 hc3 HF
    have hi0 : (0 : Int) ≤ (p : Int) := by omega
    have hi1 : (p : Int) < (D.length : Int) := by omega
    go_wp2
    obtain ⟨y0, y1⟩ := box4s (.string A.key) (.int .i64 A.seg) (.int .i64 A.pos) (.int .i64 A.seq) HBK1.out HW1.out (Nat.le_refl _) _ rfl
    obtain ⟨z0, z1, z2, z3, -⟩ := fourC y0
    refine bodyPost_ret (v := .tuple #[.agg #[.string A.key, .int .i64 A.seg, .int .i64 A.pos, .int .i64 A.seq], .bool true]) ?_ rfl ?_
    · simp [results, Tryz.results93, go_sem, z0, z1, z2, z3]
    · rw [HF.out]
      exact ⟨rfl, y1⟩
end Go.Proofs.YtmmchemgegmhhaaGreatDoor
