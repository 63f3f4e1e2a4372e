import Derived.Test.YtmmchemgegmhhaaGreatDoorGv25
import Derived.Test.YtmmchemgegmhhaaGreatDoorGv30
import Derived.Test.YtmmchemgegmhhaaGreatDoorGv32
import Derived.Test.YtmmchemgegmhhaaGreatDoorGv9
import Derived.Test.YtmmchemgegmhhaaGreatDoorGv22
import Derived.Test.YtmmchemgegmhhaaGreatDoorGv39
import Derived.Test.YtmmchemgegmhhaaGreatDoorGv3
set_option maxRecDepth 100000
set_option maxHeartbeats 1600000
namespace Go.Proofs.YtmmchemgegmhhaaGreatDoor
open Go.RowKit
def findS (dir : List SpotD) (key : ByteArray) : Option SpotD := dir.find? fun S => S.key.toList == key.toList
def liveB (dir : List SpotD) (seg pos q : Int) (C : ChangeD) : Bool := ((findS dir C.key).map fun S => (S.seg == seg) && ((S.pos == pos) && (S.seq == q))).getD false
def liveI (dir : List SpotD) (seg pos q : Int) (chs : List ChangeD) : List ChangeD := chs.filter (liveB dir seg pos q)
def toldB (dir : List SpotD) (seg pos : Int) : Bool := dir.any fun S => (S.seg == seg) && (S.pos == pos)
theorem liveI_take {dir : List SpotD} {seg pos q : Int} {chs : List ChangeD} {k : Nat} (h : k < chs.length) : liveI dir seg pos q (chs.take (k + 1)) = liveI dir seg pos q (chs.take k) ++ (if liveB dir seg pos q chs[k] then [chs[k]] else []) := by
  unfold liveI
  rw [List.take_succ_eq_append_getElem h, List.filter_append]
  congr 1
  cases hb : liveB dir seg pos q chs[k] <;> simp [hb]
theorem liveI_len (dir : List SpotD) (seg pos q : Int) (chs : List ChangeD) : (liveI dir seg pos q chs).length ≤ chs.length := List.length_filter_le _ _
theorem filter_key {dir : List SpotD} (h : srtS dir) (key : ByteArray) : (dir.filter fun S => S.key.toList == key.toList) = (findS dir key).toList := by
  unfold findS
  induction dir with
  | nil => rfl
  | cons A r ih =>
    have hr : srtS r := (List.pairwise_cons.1 h).2
    have ha := (List.pairwise_cons.1 h).1
    cases hk : (A.key.toList == key.toList) with
    | true =>
      have : (r.filter fun S => S.key.toList == key.toList) = [] := by
        rw [List.filter_eq_nil_iff]
        intro S hS e
        have h1 := ha S hS
        rw [eq_of_beq hk, eq_of_beq e, less_irrefl] at h1
        cases h1
      simp [hk, this]
    | false => simp only [List.filter_cons, hk, List.find?_cons]; exact ih hr
theorem findS_mem {dir : List SpotD} (h : srtS dir) {S : SpotD} (hS : S ∈ dir) : findS dir S.key = some S := by
  have h1 : S ∈ (dir.filter fun T => T.key.toList == S.key.toList) := List.mem_filter.2 ⟨hS, beq_self_eq_true _⟩
  rw [filter_key h] at h1
  cases hf : findS dir S.key with
  | none => rw [hf] at h1; simp at h1
  | some T => rw [hf] at h1; simp at h1; rw [h1]
theorem told_live {dir : List SpotD} (h : srtS dir) {seg pos q : Int} {chs : List ChangeD} (hq : ∀ S ∈ dir, S.seg = seg → S.pos = pos → S.seq = q ∧ ∃ C ∈ chs, C.key = S.key) : toldB dir seg pos = decide (0 < (liveI dir seg pos q chs).length) := by
  cases ht : toldB dir seg pos with
  | true =>
    unfold toldB at ht
    rw [List.any_eq_true] at ht
    obtain ⟨S, hS, e⟩ := ht
    rw [Bool.and_eq_true] at e
    obtain ⟨h1, C, hC, hk⟩ := hq S hS (eq_of_beq e.1) (eq_of_beq e.2)
    have hL : C ∈ liveI dir seg pos q chs := by
      refine List.mem_filter.2 ⟨hC, ?_⟩
      unfold liveB
      rw [hk, findS_mem h hS]
      simp [e.1, e.2, h1]
    symm
    rw [decide_eq_true_eq]
    exact List.length_pos_of_mem hL
  | false =>
    symm
    rw [decide_eq_false_iff_not]
    intro hp
    obtain ⟨C, hC⟩ := List.exists_mem_of_length_pos hp
    have hb := (List.mem_filter.1 hC).2
    unfold liveB at hb
    cases hf : findS dir C.key with
    | none => rw [hf] at hb; simp at hb
    | some S =>
      rw [hf] at hb
      simp only [Option.map_some, Option.getD_some, Bool.and_eq_true] at hb
      have hm : S ∈ dir := List.mem_of_find?_eq_some hf
      unfold toldB at ht
      rw [List.any_eq_false] at ht
      exact ht S hm (by rw [Bool.and_eq_true]; exact ⟨hb.1, hb.2.1⟩)
theorem spots_chs (seg pos q : Int) : ∀ (chs : List ChangeD) (dir : List SpotD), ∀ S ∈ chsIn seg pos q dir chs, S ∈ dir ∨ (S.seg = seg ∧ S.pos = pos ∧ S.seq = q ∧ ∃ C ∈ chs, C.key = S.key ∧ C.gone = false)
  | [], dir, S, h => .inl h
  | A :: r, dir, S, h => by
    unfold chsIn at h
    rcases spots_chs seg pos q r _ S h with h | ⟨h1, h2, h3, C, hC, h4⟩
    · rcases set_mem.1 h with ⟨hg, rfl⟩ | ⟨h, -⟩
      · exact .inr ⟨rfl, rfl, rfl, A, List.mem_cons_self, rfl, hg⟩
      · exact .inl h
    · exact .inr ⟨h1, h2, h3, C, List.mem_cons_of_mem _ hC, h4⟩
def tellsB (S : SpotD) (e : Nat) (bs : List BatchD) (j : Nat) : Prop := ∃ h : j < bs.length, S.pos = ((e + totD (bs.take j) : Nat) : Int) ∧ S.seq = bs[j].seq ∧ ∃ C ∈ bs[j].chs, C.key = S.key ∧ C.gone = false
theorem spots_bats (seg : Int) : ∀ (bs : List BatchD) (dir : List SpotD) (e : Nat), ∀ S ∈ batsIn seg dir e bs, S ∈ dir ∨ (S.seg = seg ∧ ∃ j, tellsB S e bs j)
  | [], dir, e, S, h => .inl h
  | b :: r, dir, e, S, h => by
    unfold batsIn at h
    rcases spots_bats seg r _ _ S h with h | ⟨h1, j, hj, h2, h3⟩
    · rcases spots_chs seg e b.seq b.chs dir S h with h | ⟨h1, h2, h3⟩
      · exact .inl h
      · exact .inr ⟨h1, 0, by simp, by simpa [totD] using h2, h3⟩
    · refine .inr ⟨h1, j + 1, by simpa using hj, ?_, ?_⟩
      · rw [h2, List.take_succ_cons]
        simp only [totD]
        omega
      · simpa using h3
theorem spots_segs : ∀ (l : List SegD) (dir : List SpotD), ∀ S ∈ dirSegs dir l, S ∈ dir ∨ ∃ s ∈ l, S.seg = (s.num : Int) ∧ ∃ j, tellsB S s.hd s.bs j
  | [], dir, S, h => .inl h
  | s :: r, dir, S, h => by
    unfold dirSegs at h
    rcases spots_segs r _ S h with h | ⟨t, ht, h1⟩
    · rcases spots_bats _ s.bs dir s.hd S h with h | ⟨h1, h2⟩
      · exact .inl h
      · exact .inr ⟨s, List.mem_cons_self, h1, h2⟩
    · exact .inr ⟨t, List.mem_cons_of_mem _ ht, h1⟩
theorem spots_tell {fs : List FileD} {S : SpotD} (h : S ∈ dirD fs) : ∃ s ∈ segsL fs, S.seg = (s.num : Int) ∧ ∃ j, tellsB S s.hd s.bs j := by
  rcases spots_segs (segsL fs) [] S h with h | h
  · exact absurd h List.not_mem_nil
  · exact h
theorem segs_same {fs : List FileD} {s t : SegD} (hs : s ∈ segsL fs) (ht : t ∈ segsL fs) (h : s.num = t.num) : s = t := by
  obtain ⟨-, -, F, -, h1, h2⟩ := segsTo_mem (segsL_mem hs)
  obtain ⟨-, -, G, -, h3, h4⟩ := segsTo_mem (segsL_mem ht)
  rw [h] at h1 h2
  rw [h2] at h4
  cases h4
  rw [h1, ← h3]
theorem size_pos {q : Int} {cs : List ChangeD} (h : textOkD q cs = true) : 0 < sizeD q cs := by
  have h1 : 1 ≤ (textD q cs).size := by
    unfold textD
    rw [if_pos h]
    show 1 ≤ (batchL q.toNat cs).toArray.size
    rw [List.size_toArray]
    unfold batchL headB
    simp
  unfold sizeD
  rw [if_pos h1]
  unfold frameB
  simp only [ByteArray.size_append]
  omega
theorem totD_lt {bs : List BatchD} (hb : ∀ b ∈ bs, textOkD b.seq b.chs = true) {j k : Nat} (hj : j < k) (hk : k ≤ bs.length) : totD (bs.take j) < totD (bs.take k) := by
  induction k with
  | zero => omega
  | succ k ih =>
    rw [List.take_succ_eq_append_getElem (by omega), totD_snoc]
    have := size_pos (hb bs[k] (List.getElem_mem _))
    rcases Nat.lt_or_ge j k with h | h
    · have := ih h (by omega); omega
    · obtain rfl : j = k := by omega
      omega
theorem totD_inj {bs : List BatchD} (hb : ∀ b ∈ bs, textOkD b.seq b.chs = true) {j k : Nat} (hj : j < bs.length) (hk : k < bs.length) (h : totD (bs.take j) = totD (bs.take k)) : j = k := by
  rcases Nat.lt_trichotomy j k with h1 | h1 | h1
  · have := totD_lt hb h1 (by omega); omega
  · exact h1
  · have := totD_lt hb h1 (by omega); omega
theorem dirD_srt (fs : List FileD) : srtS (dirD fs) := by
  unfold dirD
  generalize segsL fs = l
  have hb : ∀ (seg : Int) (bs : List BatchD) (dir : List SpotD) (e : Nat), srtS dir → srtS (batsIn seg dir e bs) := by
    intro seg bs
    induction bs with
    | nil => intro dir e h; exact h
    | cons b r ih => intro dir e h; unfold batsIn; exact ih _ _ (srtS_chs seg e b.seq b.chs dir h)
  have hl : ∀ (l : List SegD) (dir : List SpotD), srtS dir → srtS (dirSegs dir l) := by
    intro l
    induction l with
    | nil => intro dir h; exact h
    | cons s r ih => intro dir h; unfold dirSegs; exact ih _ (hb _ _ _ _ h)
  exact hl l [] List.Pairwise.nil
theorem spot_place {fs : List FileD} {s : SegD} (hs : s ∈ segsL fs) {j : Nat} (hj : j < s.bs.length) : ∀ S ∈ dirD fs, S.seg = (s.num : Int) → S.pos = ((s.hd + totD (s.bs.take j) : Nat) : Int) → S.seq = s.bs[j].seq ∧ ∃ C ∈ s.bs[j].chs, C.key = S.key := by
  intro S hS h1 h2
  obtain ⟨t, ht, h3, k, hk, h4, h5, C, hC, h6, -⟩ := spots_tell hS
  obtain rfl : s = t := segs_same hs ht (by omega)
  obtain rfl : j = k := totD_inj (segsL_ok hs) hj hk (by omega)
  exact ⟨h5, C, hC, h6⟩
theorem told_live_at {fs : List FileD} {s : SegD} (hs : s ∈ segsL fs) {j : Nat} (hj : j < s.bs.length) : toldB (dirD fs) (s.num : Int) ((s.hd + totD (s.bs.take j) : Nat) : Int) = decide (0 < (liveI (dirD fs) (s.num : Int) ((s.hd + totD (s.bs.take j) : Nat) : Int) s.bs[j].seq s.bs[j].chs).length) :=
  told_live (dirD_srt fs) (fun S hS h1 h2 => spot_place hs hj S hS h1 h2)
def recAt (fs : List FileD) (seg pos : Int) : Option ByteArray :=
  match fileD fs (segNm seg) with
  | none => none
  | some F => if 0 ≤ pos ∧ pos ≤ F.text.size then
      match unf (F.text.extract pos.toNat F.text.size) with
      | [] => none
      | x :: _ => some ((F.text.extract pos.toNat F.text.size).extract x.1 x.2)
    else none
def batSeq (o : Option ByteArray) : Int := (o.map rdSeq).getD 0
def batOk (o : Option ByteArray) : Bool := (o.map rdOk).getD false
def batChs (o : Option ByteArray) : List ChangeD := (o.map rdChanges).getD []
theorem recAt_none {fs : List FileD} {seg pos : Int} (h : fileD fs (segNm seg) = none) : recAt fs seg pos = none := by unfold recAt; rw [h]
theorem recAt_out {fs : List FileD} {seg pos : Int} {F : FileD} (h : fileD fs (segNm seg) = some F) (hp : ¬ (0 ≤ pos ∧ pos ≤ F.text.size)) : recAt fs seg pos = none := by
  unfold recAt; rw [h]; simp only []; rw [if_neg hp]
theorem recAt_nil {fs : List FileD} {seg : Int} {p : Nat} {F : FileD} {T : ByteArray} (h : fileD fs (segNm seg) = some F) (hp : p ≤ F.text.size) (hT : F.text.extract p F.text.size = T) (hu : unf T = []) : recAt fs seg (p : Int) = none := by
  unfold recAt; rw [h]; simp only []; rw [if_pos ⟨by omega, by omega⟩, Int.toNat_natCast, hT, hu]
theorem recAt_some {fs : List FileD} {seg : Int} {p : Nat} {F : FileD} {T : ByteArray} {x : Nat × Nat} {r : List (Nat × Nat)} (h : fileD fs (segNm seg) = some F) (hp : p ≤ F.text.size) (hT : F.text.extract p F.text.size = T) (hu : unf T = x :: r) : recAt fs seg (p : Int) = some (T.extract x.1 x.2) := by
  unfold recAt; rw [h]; simp only []; rw [if_pos ⟨by omega, by omega⟩, Int.toNat_natCast, hT, hu]
theorem two_cells {wb W : World} {g : Nat} {x y : Value} {t : Nat} (h : wb.heap[g]? = some (.cells #[x, y] t (0, 0))) (hb : Below wb.heap.size wb W) :
    W.heap[g]? = some (.cells #[x, y] t (0, 0)) := (hb.block g (heap_lt h)).trans h
theorem l07Batch_any (fs : List FileD) (ao : Option Addr) (cap : Nat) (seg pos : Int) (w : World) (hl : fs.length ≤ 1048576) (hfs : FilesAt w ao fs) (hsz : ∀ F ∈ fs, F.name.size ≤ 1048576 ∧ F.text.size ≤ 1048576) :
    Calls Tryz.prog 58 #[.agg #[.slice ao fs.length cap], .int .i64 seg, .int .i64 pos] w fun e w' => (∃ v, e = .returned (.tuple #[.agg #[.int .i64 (batSeq (recAt fs seg pos)), v], .bool (batOk (recAt fs seg pos))]) ∧ RowChange w' w.heap.size v (batChs (recAt fs seg pos))) ∧ Below w.heap.size w w' := by
  have HF := hide hfs
  have HS := hide hsz
  clear hfs hsz
  obtain ⟨wb, hwb⟩ : ∃ wb, wb = (w.alloc (.cells #[.slice ao fs.length cap] 27)).alloc (.cells #[.int .i64 0, .slice none 0 0] 96) := ⟨_, rfl⟩
  have HB0 : Hid (Below w.heap.size w wb) := by rw [hwb]; exact ((Below.refl _ w).alloc (Nat.le_refl _) _).alloc (by simp) _
  have hbs2 : w.heap.size + 2 ≤ wb.heap.size := by rw [hwb]; simp
  have hbs : w.heap.size < wb.heap.size := by omega
  have hc0 : wb.cell? ⟨w.heap.size, 0, none⟩ = some (.slice ao fs.length cap) := by
    have h1 : (w.alloc (.cells #[.slice ao fs.length cap] 27)).cell? ⟨w.heap.size, 0, none⟩ = some (.slice ao fs.length cap) := (cell_of_row _ _ 0 _ _ (0, 0) (heap_alloc_new w _)).trans rfl
    rw [hwb]
    exact ((((Below.refl _ (w.alloc (.cells #[.slice ao fs.length cap] 27))).alloc (Nat.le_refl _) (.cells #[.int .i64 0, .slice none 0 0] 96)).cell (p := ⟨w.heap.size, 0, none⟩) (by simp))).trans h1
  have HR0 : Hid (wb.heap[w.heap.size + 1]? = some (.cells #[.int .i64 0, .slice none 0 0] 96 (0, 0))) := by
    show _ = _
    rw [hwb, show w.heap.size + 1 = (w.alloc (.cells #[.slice ao fs.length cap] 27)).heap.size from by simp]
    exact heap_alloc_new _ _
  obtain ⟨NM, HNM⟩ : ∃ NM, Hid (segNm seg = NM) := ⟨_, rfl⟩
  have HN : Hid (∀ W : World, Calls Tryz.prog 45 #[.int .i64 seg] W fun e w' => e = .returned (.string NM) ∧ Below W.heap.size W w') := fun W => by rw [← HNM.out]; exact specSegName_any seg W
  cases hfd : fileD fs (segNm seg) with
  | none =>
    have HE := hide (recAt_none (pos := pos) hfd)
    have HAT : Hid (∀ W, Below wb.heap.size wb W → Calls Tryz.prog 62 #[.agg #[.slice ao fs.length cap], .string NM] W fun e w' => e = .returned (.tuple #[.string ⟨#[]⟩, .bool false]) ∧ Below W.heap.size W w') := fun W hW => specFileAt_none' fs ao cap NM W hl (filesAt_keep (filesAt_keep HF.out HB0.out) hW) (by rw [← HNM.out]; exact hfd)
    clear hfd
    go_enter Tryz.func58, Tryz.ntmps58
    go_wp2_with fail
    rw [← hwb]
    clear hwb
    go_region_held3 (fun w' => w'.cell? ⟨w.heap.size, 0, none⟩ = some (.slice ao fs.length cap)) (first | go_keep | (exact hc0) | (exact (b1.cell (p := ⟨w.heap.size, 0, none⟩) hbs).trans hc0) | (exact ((b1.trans (b2.mono b1.size)).cell (p := ⟨w.heap.size, 0, none⟩) hbs).trans hc0)) ((first | (go_at_call 45; refine (HN.out _).mono ?_; rintro e w1 ⟨rfl, b1⟩) | (go_at_call 62; refine (HAT.out _ (by first | exact b1 | exact (Below.refl _ _).drew.trans b1)).mono ?_; rintro e w2 ⟨rfl, b2⟩)))
    have B2 : Hid (Below wb.heap.size wb w2) := (Below.refl _ _).drew.trans (b1.trans (b2.mono b1.size))
    clear b1 b2
    have B3 := hide (HB0.out.trans (B2.out.mono HB0.out.size))
    have hr0 : w2.cell? ⟨w.heap.size + 1, 0, none⟩ = some (.int .i64 0) := (cell_of_row w2 _ 0 _ _ (0, 0) (two_cells HR0.out B2.out)).trans rfl
    have hr1 : w2.cell? ⟨w.heap.size + 1, 1, none⟩ = some (.slice none 0 0) := (cell_of_row w2 _ 1 _ _ (0, 0) (two_cells HR0.out B2.out)).trans rfl
    have hrf0 := frozen_of_row w2 (w.heap.size + 1) 0 _ _ (two_cells HR0.out B2.out)
    have hrf1 := frozen_of_row w2 (w.heap.size + 1) 1 _ _ (two_cells HR0.out B2.out)
    go_wp2_with fail
    refine bodyPost_ret (v := .tuple #[.agg #[.int .i64 0, .slice none 0 0], .bool false]) (by simp [results, Tryz.results58, go_sem, hr0, hr1]) rfl ⟨⟨.slice none 0 0, by rw [HE.out]; rfl, by rw [HE.out]; exact .inl ⟨rfl, rfl⟩⟩, ?_⟩
    exact (B3.out.setCell (p := ⟨w.heap.size + 1, 0, none⟩) (by simp) _).setCell (p := ⟨w.heap.size + 1, 1, none⟩) (by simp) _
  | some F =>
    have hFs := (HS.out F (List.mem_of_find?_eq_some hfd)).2
    have HAT : Hid (∀ W, Below wb.heap.size wb W → Calls Tryz.prog 62 #[.agg #[.slice ao fs.length cap], .string NM] W fun e w' => e = .returned (.tuple #[.string F.text, .bool true]) ∧ Below W.heap.size W w') := fun W hW => specFileAt_some' fs ao cap NM W F hl (filesAt_keep (filesAt_keep HF.out HB0.out) hW) (by rw [← HNM.out]; exact hfd)
    have HFD := hide hfd
    clear hfd
    go_enter Tryz.func58, Tryz.ntmps58
    go_wp2_with fail
    rw [← hwb]
    clear hwb
    go_region_held3 (fun w' => w'.cell? ⟨w.heap.size, 0, none⟩ = some (.slice ao fs.length cap)) (first | go_keep | (exact hc0) | (exact (b1.cell (p := ⟨w.heap.size, 0, none⟩) hbs).trans hc0) | (exact ((b1.trans (b2.mono b1.size)).cell (p := ⟨w.heap.size, 0, none⟩) hbs).trans hc0)) ((first | (go_at_call 45; refine (HN.out _).mono ?_; rintro e w1 ⟨rfl, b1⟩) | (go_at_call 62; refine (HAT.out _ (by first | exact b1 | exact (Below.refl _ _).drew.trans b1)).mono ?_; rintro e w2 ⟨rfl, b2⟩)))
    have B2 : Hid (Below wb.heap.size wb w2) := (Below.refl _ _).drew.trans (b1.trans (b2.mono b1.size))
    clear b1 b2
    have B3 := hide (HB0.out.trans (B2.out.mono HB0.out.size))
    have HR2 := hide (two_cells HR0.out B2.out)
    by_cases hp : 0 ≤ pos ∧ pos ≤ F.text.size
    · obtain ⟨p, rfl⟩ := Int.eq_ofNat_of_zero_le hp.1
      have hp2 : p ≤ F.text.size := by omega
      obtain ⟨T, hTT⟩ : ∃ T, F.text.extract p F.text.size = T := ⟨_, rfl⟩
      have hTz : T.size ≤ 1048576 := by rw [← hTT, ByteArray.size_extract]; omega
      have hcut := cut_from F.text p (p : Int) T rfl hp2 hTT
      have HTT := hide hTT
      clear hTT
      have HU := hide (fun W => specUnframe_any T W hTz)
      obtain ⟨U, HUU⟩ : ∃ U, Hid (unf T = U) := ⟨_, rfl⟩
      have HCH : Hid (chained T 0 U) := by show chained _ _ _; rw [← HUU.out]; exact unf_chained T
      obtain ⟨L, HL⟩ : ∃ L, Hid (recs T U = L) := ⟨_, rfl⟩
      have hUl : U.length ≤ 20001 := by rw [← HUU.out]; exact unf_len T
      have hLl : L.length = U.length := by rw [← HL.out, recs_len]
      obtain ⟨eo, HEO⟩ : ∃ eo : Int, Hid (((endOf U : Nat) : Int) = eo) := ⟨_, rfl⟩
      have HUN : Hid (∀ W, Calls Tryz.prog 102 #[.string T] W fun e w' => ∃ v, e = .returned (.tuple #[v, .int .i64 eo]) ∧ w'.ownsRow W.heap.size 9 1 v L.length (L.map sv) ∧ Below W.heap.size W w') := by
        intro W
        have h := HU.out W
        unfold FramesLeft at h
        rw [HUU.out, HL.out, HEO.out] at h
        exact h
      clear HU HEO
      go_wp2_with fail
      refine (l01In_yes _ _ _ _ (by omega) (by omega)).mono ?_
      rintro e w3 ⟨rfl, rfl⟩
      go_wp2_with fail
      refine (HUN.out _).mono ?_
      rintro e w4 ⟨lv, rfl, hown, b4⟩
      have B4 := hide (B2.out.trans (b4.mono B2.out.size))
      have B5 := hide (HB0.out.trans (B4.out.mono HB0.out.size))
      have HO := hide hown
      clear hown b4 HR2
      cases U with
      | nil =>
        have HE := hide (recAt_nil (p := p) HFD.out hp2 HTT.out HUU.out)
        obtain rfl : L = [] := List.eq_nil_of_length_eq_zero hLl
        obtain ⟨a, c, rfl⟩ := slice_form HO.out
        have hr0 : w4.cell? ⟨w.heap.size + 1, 0, none⟩ = some (.int .i64 0) := (cell_of_row w4 _ 0 _ _ (0, 0) (two_cells HR0.out B4.out)).trans rfl
        have hr1 : w4.cell? ⟨w.heap.size + 1, 1, none⟩ = some (.slice none 0 0) := (cell_of_row w4 _ 1 _ _ (0, 0) (two_cells HR0.out B4.out)).trans rfl
        have hrf0 := frozen_of_row w4 (w.heap.size + 1) 0 _ _ (two_cells HR0.out B4.out)
        have hrf1 := frozen_of_row w4 (w.heap.size + 1) 1 _ _ (two_cells HR0.out B4.out)
        go_wp2_with fail
        refine bodyPost_ret (v := .tuple #[.agg #[.int .i64 0, .slice none 0 0], .bool false]) (by simp [results, Tryz.results58, go_sem, hr0, hr1]) rfl ⟨⟨.slice none 0 0, by rw [HE.out]; rfl, by rw [HE.out]; exact .inl ⟨rfl, rfl⟩⟩, ?_⟩
        exact (B5.out.setCell (p := ⟨w.heap.size + 1, 0, none⟩) (by simp) _).setCell (p := ⟨w.heap.size + 1, 1, none⟩) (by simp) _
      | cons x0 r =>
        have HE := hide (recAt_some (p := p) HFD.out hp2 HTT.out HUU.out)
        have hx0 := chained_get HCH.out x0 (List.mem_cons_self ..)
        obtain ⟨T0, HT0⟩ : ∃ T0, Hid (T.extract x0.1 x0.2 = T0) := ⟨_, rfl⟩
        rw [HT0.out] at hx0 HE
        have hg0 : L[0]? = some T0.data.toList := by rw [← HL.out, recs_get T (x0 :: r) 0 x0 rfl, HT0.out]
        have hL1 : 1 ≤ L.length := by rw [hLl]; simp
        have hz : ((L.length : Int) == 0) = false := by rw [beq_eq_false_iff_ne]; omega
        obtain ⟨g, cap, hlv⟩ : ∃ g cap, lv = .slice (some ⟨g, 0, none⟩) L.length cap := by
          rcases HO.out.2 with ⟨-, h⟩ | ⟨g, cap, cur, h, _⟩
          · omega
          · exact ⟨g, cap, h⟩
        subst hlv
        have hcell := str_cell HO.out 0 (by omega) _ hg0
        rw [data_back] at hcell
        clear hg0
        have HRB := hide (fun W => specReadBatch_any T0 W (by omega))
        obtain ⟨q, HQ⟩ : ∃ q, Hid (rdSeq T0 = q) := ⟨_, rfl⟩
        obtain ⟨ok, HOK⟩ : ∃ q, Hid (rdOk T0 = q) := ⟨_, rfl⟩
        obtain ⟨cs, HCS⟩ : ∃ q, Hid (rdChanges T0 = q) := ⟨_, rfl⟩
        rw [HQ.out, HOK.out, HCS.out] at HRB
        go_wp2_with fail
        refine (HRB.out _).mono ?_
        rintro e w6 ⟨⟨v6, rfl, r6⟩, b6⟩
        have B6 := hide (B4.out.trans (b6.mono B4.out.size))
        have B7 := hide (HB0.out.trans (B6.out.mono HB0.out.size))
        have h4 : wb.heap.size ≤ w4.heap.size := B4.out.size
        have R6 := hide r6
        clear r6 b6 hcell
        have hr0 : w6.cell? ⟨w.heap.size + 1, 0, none⟩ = some (.int .i64 0) := (cell_of_row w6 _ 0 _ _ (0, 0) (two_cells HR0.out B6.out)).trans rfl
        have hr1 : w6.cell? ⟨w.heap.size + 1, 1, none⟩ = some (.slice none 0 0) := (cell_of_row w6 _ 1 _ _ (0, 0) (two_cells HR0.out B6.out)).trans rfl
        have hrf0 := frozen_of_row w6 (w.heap.size + 1) 0 _ _ (two_cells HR0.out B6.out)
        have hrf1 := frozen_of_row w6 (w.heap.size + 1) 1 _ _ (two_cells HR0.out B6.out)
        obtain ⟨a6, c6, rfl, -⟩ := rowChange_at R6.out
        go_wp2_with fail
        refine bodyPost_ret (v := .tuple #[.agg #[.int .i64 q, .slice a6 cs.length c6], .bool ok]) (by simp [results, Tryz.results58, go_sem, hr0, hr1]) rfl ⟨⟨.slice a6 cs.length c6, by rw [HE.out]; show _ = Ending.returned (.tuple #[.agg #[.int .i64 (rdSeq T0), _], .bool (rdOk T0)]); rw [HQ.out, HOK.out], ?_⟩, ?_⟩
        · rw [HE.out]
          show RowChange _ _ _ (rdChanges T0)
          rw [HCS.out]
          exact rowChange_le (rowChange_grown R6.out (grownBy_store (grownBy_store (World.grownBy.refl _ _) 0 _) 1 _) (fun g hg => by have := (rowChange_lt R6.out g hg).1; simp; omega)) (by omega)
        · exact (B7.out.setCell (p := ⟨w.heap.size + 1, 0, none⟩) (by simp) _).setCell (p := ⟨w.heap.size + 1, 1, none⟩) (by simp) _
    · have HE := hide (recAt_out HFD.out hp)
      have hpo : pos < 0 ∨ (F.text.size : Int) < pos := by omega
      clear hp
      go_wp2_with fail
      refine (l01In_no _ _ _ _ hpo).mono ?_
      rintro e w3 ⟨rfl, rfl⟩
      have hr0 : w3.cell? ⟨w.heap.size + 1, 0, none⟩ = some (.int .i64 0) := (cell_of_row w3 _ 0 _ _ (0, 0) HR2.out).trans rfl
      have hr1 : w3.cell? ⟨w.heap.size + 1, 1, none⟩ = some (.slice none 0 0) := (cell_of_row w3 _ 1 _ _ (0, 0) HR2.out).trans rfl
      have hrf0 := frozen_of_row w3 (w.heap.size + 1) 0 _ _ HR2.out
      have hrf1 := frozen_of_row w3 (w.heap.size + 1) 1 _ _ HR2.out
      go_wp2_with fail
      refine bodyPost_ret (v := .tuple #[.agg #[.int .i64 0, .slice none 0 0], .bool false]) (by simp [results, Tryz.results58, go_sem, hr0, hr1]) rfl ⟨⟨.slice none 0 0, by rw [HE.out]; rfl, by rw [HE.out]; exact .inl ⟨rfl, rfl⟩⟩, ?_⟩
      exact (B3.out.setCell (p := ⟨w.heap.size + 1, 0, none⟩) (by simp) _).setCell (p := ⟨w.heap.size + 1, 1, none⟩) (by simp) _
end Go.Proofs.YtmmchemgegmhhaaGreatDoor
