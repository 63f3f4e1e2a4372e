import Derived.Deep.LoopGhost
import Derived.WalkMore
import Derived.WalkSmall
import Derived.Test.YtlcfblodflgleaaGreatDoorBe28
import Derived.Test.YtlcfblodflgleaaGreatDoorBe14
import Derived.Test.YtlcfblodflgleaaGreatDoorBe16
import Derived.Test.YtlcfblodflgleaaGreatDoorBe2
import Derived.Test.YtlcfblodflgleaaGreatDoorBe6
import Derived.Test.YtlcfblodflgleaaGreatDoorBe13
set_option maxRecDepth 100000
set_option maxHeartbeats 1600000
namespace Go.Proofs.YtlcfblodflgleaaGreatDoor
open Go.RowKit
def chsIn (seg pos q : Int) (dir : List SpotD) : List ChangeD → List SpotD
  | [] => dir
  | A :: r => chsIn seg pos q (setD dir ⟨A.key, seg, pos, q⟩ A.gone) r
def batsIn (seg : Int) (dir : List SpotD) (pos : Nat) : List BatchD → List SpotD
  | [] => dir
  | b :: r => batsIn seg (chsIn seg (pos : Int) b.seq dir b.chs) (pos + sizeD b.seq b.chs) r
theorem chsIn_len (seg pos q : Int) : ∀ (l : List ChangeD) (dir : List SpotD), (chsIn seg pos q dir l).length ≤ dir.length + l.length
  | [], dir => Nat.le_refl _
  | A :: r, dir => by
    have h1 := chsIn_len seg pos q r (setD dir ⟨A.key, seg, pos, q⟩ A.gone)
    have h2 := setD_le dir ⟨A.key, seg, pos, q⟩ A.gone
    simp only [chsIn, List.length_cons]
    omega
def chsN : List BatchD → Nat
  | [] => 0
  | b :: r => b.chs.length + chsN r
theorem batsIn_len (seg : Int) : ∀ (l : List BatchD) (dir : List SpotD) (pos : Nat), (batsIn seg dir pos l).length ≤ dir.length + chsN l
  | [], dir, _ => Nat.le_refl _
  | b :: r, dir, pos => by
    have h1 := batsIn_len seg r (chsIn seg (pos : Int) b.seq dir b.chs) (pos + sizeD b.seq b.chs)
    have h2 := chsIn_len seg (pos : Int) b.seq b.chs dir
    simp only [batsIn, chsN]
    omega
theorem varF_pos (n : Nat) : 1 ≤ (Wd.varF 5 n).length := by
  unfold Wd.varF
  split <;> simp
theorem changeB_three (A : ChangeD) : 3 ≤ (changeB A).size := by
  have h1 := shortB_len A.key
  have h2 := shortB_len A.value
  have h3 := varF_pos A.key.size
  have h4 := varF_pos A.value.size
  have h5 : (flagB A.gone).size = 1 := by cases A.gone <;> rfl
  unfold changeB
  rw [ByteArray.size_append, ByteArray.size_append]
  omega
theorem changesL_three : ∀ l : List ChangeD, 3 * l.length ≤ (changesL l).length
  | [] => Nat.le_refl _
  | A :: r => by
    have h1 := changesL_three r
    have h2 := changeB_three A
    have h3 : (changeB A).data.toList.length = (changeB A).size := rfl
    simp only [changesL, List.length_append, List.length_cons]
    omega
theorem rd_three (t : ByteArray) : 3 * (rdChanges t).length ≤ t.size := by
  cases h : rdOk t with
  | false => simp [rdChanges, h]
  | true =>
    obtain ⟨h1, h2⟩ := rd_text h
    have h3 := changesL_three (rdChanges t)
    have h4 : (textD (rdSeq t) (rdChanges t)).size = (batchL (rdSeq t).toNat (rdChanges t)).length := by unfold textD; rw [if_pos h1]; rfl
    rw [h2] at h4
    unfold batchL at h4
    rw [List.length_append] at h4
    omega
theorem ris_three (s : ByteArray) : ∀ (l : List (Nat × Nat)) (i : Nat) (last : Int) (e : Nat), i ≤ s.size → chained s i l → 3 * chsN (ris s l last e).1 + i ≤ s.size
  | [], i, _, _, hi, _ => by simp [ris, chsN]; exact hi
  | x :: r, i, last, e, hi, hc => by
    obtain ⟨hf, hr⟩ := hc
    have hb := frB_bounds s i x hf
    have ht := rd_three (s.extract x.1 x.2)
    rw [ByteArray.size_extract] at ht
    by_cases h : rdOk (s.extract x.1 x.2) = true ∧ last < rdSeq (s.extract x.1 x.2)
    · rw [ris_more h.1 h.2]
      have ih := ris_three s r x.2 (rdSeq (s.extract x.1 x.2)) x.2 hb.2.2 hr
      simp only [chsN]
      omega
    · rw [ris_no h]
      simp [chsN]
      exact hi
theorem segBatches_three (n : Int) (s : ByteArray) : 3 * chsN (segBatches n s) ≤ 20000 := by
  by_cases hs : s.size ≤ 20000
  · unfold segBatches segRead
    have hc := unf_chained s
    cases hu : unf s with
    | nil => exact Nat.zero_le _
    | cons x r =>
      rw [hu] at hc
      simp only []
      cases hh : hdFrom n (s.extract x.1 x.2) with
      | none => exact Nat.zero_le _
      | some f =>
        have := ris_three s r x.2 (-1) x.2 (frB_bounds s 0 x hc.1).2.2 hc.2
        show 3 * chsN (ris s r (-1) x.2).1 ≤ 20000
        omega
  · unfold segBatches segRead
    have hu : unf s = [] := by unfold unf; rw [if_neg hs]
    rw [hu]
    exact Nat.zero_le _
theorem chsIn_snoc (seg pos q : Int) : ∀ (l : List ChangeD) (dir : List SpotD) (A : ChangeD), chsIn seg pos q dir (l ++ [A]) = setD (chsIn seg pos q dir l) ⟨A.key, seg, pos, q⟩ A.gone
  | [], _, _ => rfl
  | B :: r, dir, A => chsIn_snoc seg pos q r (setD dir ⟨B.key, seg, pos, q⟩ B.gone) A
def totD : List BatchD → Nat
  | [] => 0
  | b :: r => sizeD b.seq b.chs + totD r
theorem batsIn_snoc (seg : Int) : ∀ (l : List BatchD) (b : BatchD) (dir : List SpotD) (e : Nat), batsIn seg dir e (l ++ [b]) = chsIn seg ((e + totD l : Nat) : Int) b.seq (batsIn seg dir e l) b.chs
  | [], _, _, _ => rfl
  | c :: r, b, dir, e => by
    have h := batsIn_snoc seg r b (chsIn seg (e : Int) c.seq dir c.chs) (e + sizeD c.seq c.chs)
    simp only [List.cons_append, batsIn, totD]
    rw [h, Nat.add_assoc]
theorem totD_snoc : ∀ (l : List BatchD) (b : BatchD), totD (l ++ [b]) = totD l + sizeD b.seq b.chs
  | [], b => by simp [totD]
  | c :: r, b => by simp only [List.cons_append, totD]; rw [totD_snoc r b]; omega
theorem plsB_get : ∀ (l : List BatchD) (e j : Nat) (h : j < (plsB e l).length), (plsB e l)[j] = e + totD (l.take j)
  | [], _, _, h => absurd h (by simp [plsB])
  | b :: r, e, 0, _ => by simp [plsB, totD]
  | b :: r, e, j + 1, h => by
    have h' : j < (plsB (e + sizeD b.seq b.chs) r).length := by simpa [plsB] using h
    have := plsB_get r (e + sizeD b.seq b.chs) j h'
    simp only [plsB, List.getElem_cons_succ, List.take_succ_cons, totD]
    rw [this]
    omega
theorem chsN_snoc : ∀ (l : List BatchD) (b : BatchD), chsN (l ++ [b]) = chsN l + b.chs.length
  | [], b => by simp [chsN]
  | c :: r, b => by simp only [List.cons_append, chsN]; rw [chsN_snoc r b]; omega
theorem chsN_take_le (l : List BatchD) (j : Nat) : chsN (l.take j) ≤ chsN l := by
  have h := List.take_append_drop j l
  have : ∀ (a b : List BatchD), chsN (a ++ b) = chsN a + chsN b := by
    intro a
    induction a with
    | nil => intro b; simp [chsN]
    | cons c r ih => intro b; simp only [List.cons_append, chsN]; rw [ih]; omega
  have h2 := this (l.take j) (l.drop j)
  rw [h] at h2
  omega
def SegD.hd (s : SegD) : Nat := (frameB ⟨(headL s.num s.frm).toArray⟩).size
def dirSegs : List SpotD → List SegD → List SpotD
  | dir, [] => dir
  | dir, s :: r => dirSegs (batsIn (s.num : Int) dir s.hd s.bs) r
theorem dirSegs_snoc : ∀ (l : List SegD) (dir : List SpotD) (s : SegD), dirSegs dir (l ++ [s]) = batsIn (s.num : Int) (dirSegs dir l) s.hd s.bs
  | [], _, _ => rfl
  | _ :: r, _, s => dirSegs_snoc r _ s
def segsN : List SegD → Nat
  | [] => 0
  | s :: r => chsN s.bs + segsN r
theorem segsN_snoc : ∀ (l : List SegD) (s : SegD), segsN (l ++ [s]) = segsN l + chsN s.bs
  | [], s => by simp [segsN]
  | c :: r, s => by simp only [List.cons_append, segsN]; rw [segsN_snoc r s]; omega
theorem segsN_le : ∀ (l : List SegD), (∀ s ∈ l, 3 * chsN s.bs ≤ 20000) → 3 * segsN l ≤ 20000 * l.length
  | [], _ => by simp [segsN]
  | c :: r, h => by
    have h1 := segsN_le r (fun s hs => h s (List.mem_cons_of_mem _ hs))
    have h2 := h c (List.mem_cons_self ..)
    simp only [segsN, List.length_cons]
    omega
theorem dirSegs_len : ∀ (l : List SegD) (dir : List SpotD), (dirSegs dir l).length ≤ dir.length + segsN l
  | [], dir => Nat.le_refl _
  | s :: r, dir => by
    have h1 := dirSegs_len r (batsIn (s.num : Int) dir s.hd s.bs)
    have h2 := batsIn_len (s.num : Int) s.bs dir s.hd
    simp only [dirSegs, segsN]
    omega
def dirD (fs : List FileD) : List SpotD := dirSegs [] (segsL fs)
theorem segsL_three {fs : List FileD} {s : SegD} (h : s ∈ segsL fs) : 3 * chsN s.bs ≤ 20000 := by
  obtain ⟨-, -, F, -, hF, -⟩ := segsTo_mem (segsL_mem h)
  rw [hF]
  exact segBatches_three _ _
theorem segsL_N (fs : List FileD) : segsN (segsL fs) ≤ 666700 := by
  have h1 := segsN_le (segsL fs) (fun s hs => segsL_three hs)
  have h2 := segsL_len fs
  omega
theorem dirD_len (fs : List FileD) : (dirD fs).length ≤ 666700 := by
  have h1 := dirSegs_len (segsL fs) []
  have h2 := segsL_N fs
  unfold dirD
  simp at h1
  omega
theorem segsN_take_le : ∀ (l : List SegD) (j : Nat), segsN (l.take j) ≤ segsN l
  | [], j => by simp [segsN]
  | _ :: _, 0 => by simp [segsN]
  | c :: r, j + 1 => by
    have := segsN_take_le r j
    simp only [List.take_succ_cons, segsN]
    omega
theorem ris_ok (s : ByteArray) : ∀ (l : List (Nat × Nat)) (last : Int) (e : Nat), ∀ b ∈ (ris s l last e).1, textOkD b.seq b.chs = true
  | [], _, _, _, h => absurd h (by simp [ris])
  | x :: r, last, e, b, h => by
    by_cases hc : rdOk (s.extract x.1 x.2) = true ∧ last < rdSeq (s.extract x.1 x.2)
    · rw [ris_more hc.1 hc.2] at h
      rcases List.mem_cons.1 h with rfl | h
      · exact (rd_text hc.1).1
      · exact ris_ok s r _ _ b h
    · rw [ris_no hc] at h
      exact absurd h List.not_mem_nil
theorem segBatches_ok {n : Int} {s : ByteArray} {b : BatchD} (h : b ∈ segBatches n s) : textOkD b.seq b.chs = true := by
  cases hr : segRead n s with
  | none => rw [(seg_none hr).2.1] at h; exact absurd h List.not_mem_nil
  | some q =>
    obtain ⟨f, bs, e⟩ := q
    rw [(seg_some hr).2.1] at h
    cases hu : unf s with
    | nil => rw [segRead_nil hu] at hr; simp at hr
    | cons x r =>
      cases hh : hdFrom n (s.extract x.1 x.2) with
      | none => rw [segRead_head hu hh] at hr; simp at hr
      | some f' =>
        rw [segRead_some hu hh] at hr
        simp only [Option.some.injEq, Prod.mk.injEq] at hr
        refine ris_ok s r (-1) x.2 b ?_
        rw [hr.2]
        exact h
theorem textOk_small {q : Int} {cs : List ChangeD} (h : textOkD q cs = true) : cs.length ≤ 40 ∧ (0 ≤ q ∧ q ≤ 1000000000) ∧ ∀ A ∈ cs, A.key.size ≤ 20 ∧ A.value.size ≤ 2000 := by
  unfold textOkD at h
  simp only [Bool.and_eq_true] at h
  have h1 := batchOkD_bounds h.1
  refine ⟨h1.2.2.2, ⟨h1.1, h1.2.1⟩, ?_⟩
  have h2 := h.1
  unfold batchOkD at h2
  simp only [Bool.and_eq_true] at h2
  exact okChg_small cs none h2.2.2
theorem segsL_ok {fs : List FileD} {s : SegD} (h : s ∈ segsL fs) : ∀ b ∈ s.bs, textOkD b.seq b.chs = true := by
  obtain ⟨-, -, F, -, hF, -⟩ := segsTo_mem (segsL_mem h)
  intro b hb
  rw [hF] at hb
  exact segBatches_ok hb
def keysUp (m : Nat) (dir : List SpotD) : Prop := ∀ A ∈ dir, A.key.size ≤ m
theorem keysUp_set {m : Nat} {dir : List SpotD} {F : SpotD} {gone : Bool} (h : keysUp m dir) (hF : F.key.size ≤ m) : keysUp m (setD dir F gone) := by
  intro A hA
  unfold setD at hA
  rcases List.mem_append.1 hA with hA | hA
  · rcases List.mem_append.1 hA with hA | hA
    · exact h A (List.mem_filter.1 hA).1
    · cases gone
      · obtain rfl : A = F := by simpa using hA
        exact hF
      · simp at hA
  · exact h A (List.mem_filter.1 hA).1
theorem keysUp_chs {m : Nat} (seg pos q : Int) : ∀ (l : List ChangeD) (dir : List SpotD), keysUp m dir → (∀ A ∈ l, A.key.size ≤ m) → keysUp m (chsIn seg pos q dir l)
  | [], _, h, _ => h
  | A :: r, _, h, hl => keysUp_chs seg pos q r _ (keysUp_set h (hl A (List.mem_cons_self ..))) (fun B hB => hl B (List.mem_cons_of_mem _ hB))
theorem keysUp_bats {m : Nat} (seg : Int) : ∀ (l : List BatchD) (dir : List SpotD) (e : Nat), keysUp m dir → (∀ b ∈ l, ∀ A ∈ b.chs, A.key.size ≤ m) → keysUp m (batsIn seg dir e l)
  | [], _, _, h, _ => h
  | b :: r, _, _, h, hl => keysUp_bats seg r _ _ (keysUp_chs seg _ _ b.chs _ h (hl b (List.mem_cons_self ..))) (fun c hc => hl c (List.mem_cons_of_mem _ hc))
theorem keysUp_segs {m : Nat} : ∀ (l : List SegD) (dir : List SpotD), keysUp m dir → (∀ s ∈ l, ∀ b ∈ s.bs, ∀ A ∈ b.chs, A.key.size ≤ m) → keysUp m (dirSegs dir l)
  | [], _, h, _ => h
  | s :: r, _, h, hl => keysUp_segs r _ (keysUp_bats _ s.bs _ _ h (hl s (List.mem_cons_self ..))) (fun c hc => hl c (List.mem_cons_of_mem _ hc))
theorem dirD_keys (fs : List FileD) : keysUp 20 (dirD fs) :=
  keysUp_segs (segsL fs) [] (fun _ hA => absurd hA List.not_mem_nil) (fun _ hs b hb A hA => ((textOk_small (segsL_ok hs b hb)).2.2 A hA).1)
theorem allKept_any (fs : List FileD) (ao : Option Addr) (cap : Nat) (w : World) (hl : fs.length ≤ 1048576) (hfs : FilesAt w ao fs) (hsz : ∀ F ∈ fs, F.name.size ≤ 1048576 ∧ F.text.size ≤ 1048576) :
    Calls Tryz.prog 133 #[.agg #[.slice ao fs.length cap]] w fun e w' => e = .returned (.bool (allKeptD fs)) ∧ Below w.heap.size w w' := by
  have HF := hide hfs
  have HS := hide hsz
  clear hfs hsz
  have b0 : Below w.heap.size w (w.alloc (.cells #[.slice ao fs.length cap] 31)) := (Below.refl _ w).alloc (Nat.le_refl _) _
  have HB0 := hide b0
  clear b0
  cases hok : diskOkD fs
  · go_enter Tryz.func133, Tryz.ntmps133
    go_wp2_with fail
    refine (diskOk_any fs ao cap _ hl (filesAt_keep HF.out HB0.out) (fun F h => ⟨small_max (HS.out F h).1, small_max (HS.out F h).2⟩)).mono ?_
    rintro e w1 ⟨rfl, b1⟩
    rw [hok]
    have HB1 := hide (HB0.out.trans (b1.mono HB0.out.size))
    clear b1
    go_wp2
    go_ret
    rw [allKeptD, hok]
    exact ⟨rfl, HB1.out⟩
  · obtain ⟨R, HR⟩ : ∃ R, Hid (keptD (fs.drop 0) = R) := ⟨_, hide rfl⟩
    have e : allKeptD fs = R := by rw [allKeptD, hok, ← HR.out]; rfl
    rw [e]
    clear e
    go_enter Tryz.func133, Tryz.ntmps133
    go_wp2_with fail
    refine (diskOk_any fs ao cap _ hl (filesAt_keep HF.out HB0.out) (fun F h => ⟨small_max (HS.out F h).1, small_max (HS.out F h).2⟩)).mono ?_
    rintro e w1 ⟨rfl, b1⟩
    rw [hok]
    have hbox : w1.cell? ⟨w.heap.size, 0, none⟩ = some (.slice ao fs.length cap) := (b1.cell (p := ⟨w.heap.size, 0, none⟩) (by simp)).trans (by rw [cell_of_row _ _ _ _ _ (0, 0) (heap_alloc_new w _)]; rfl)
    have HB1 := hide (HB0.out.trans (b1.mono HB0.out.size))
    clear b1
    go_wp2
    go_loopw [11] (fun ii wr => ∃ (k : Nat), ii = .int .i64 k ∧ k ≤ fs.length ∧ Hid (keptD (fs.drop k) = R) ∧ Hid (Below w.heap.size w wr)) (fun ii _ => fs.length - (intOf ii).toNat)
    case atStart => exact ⟨0, rfl, Nat.zero_le _, HR, HB1⟩
    case round =>
      obtain ⟨k, rfl, hk, HK, HB⟩ := hrel
      by_cases hlt : k < fs.length
      · have hlt' : decide ((k : Int) < (fs.length : Int)) = true := by simp; omega
        obtain ⟨b, off, rfl, hbw, hc0, hc1, hc2⟩ := filesAt_keep HF.out HB.out k hlt
        have HX := hide (HS.out fs[k] (List.getElem_mem hlt))
        obtain ⟨F, HFk⟩ : ∃ F, Hid (fs[k] = F) := ⟨fs[k], hide rfl⟩
        rw [HFk.out] at hc0 hc1 hc2
        have hi0 : (0 : Int) ≤ (k : Int) := by omega
        have hi1 : (k : Int) < (fs.length : Int) := by omega
        have hs2 : F.text.size ≤ 1048576 := by have := HX.out.2; rw [HFk.out] at this; exact this
        cases hq : decide (F.kept < (F.text.size : Int))
        · have HK1 : Hid (keptD (fs.drop (k + 1)) = R) := by show _ = _; rw [← HK.out]; exact (kept_more hlt (by rw [HFk.out]; exact hq)).symm
          go_wp2
          go_roundw
          case rel => exact ⟨k + 1, by go_num, by omega, HK1, HB.out.alloc HB.out.size _⟩
          case measure => simp [intOf]; omega
        · have hR : Hid (R = false) := by show _ = _; rw [← HK.out]; exact kept_bad hlt (by rw [HFk.out]; exact hq)
          go_wp2
          go_ret
          rw [hR.out]
          exact ⟨rfl, HB.out.alloc HB.out.size _⟩
      · have hlt' : decide ((k : Int) < (fs.length : Int)) = false := by simp; omega
        have hR : Hid (R = true) := by show _ = _; rw [← HK.out]; exact kept_end (by omega)
        go_wp2
        go_ret
        rw [hR.out]
        exact ⟨rfl, HB.out⟩
abbrev nmNew : ByteArray := ⟨#[109, 43]⟩
def isBelow (m : Nat) (nm : ByteArray) : Bool := (List.range m).any fun n => (segNm (n : Int)).toList == nm.toList
theorem isBelow_succ (m : Nat) (nm : ByteArray) : isBelow (m + 1) nm = (isBelow m nm || ((segNm (m : Int)).toList == nm.toList)) := by
  unfold isBelow
  rw [List.range_succ, List.any_append]
  simp
theorem isBelow_at {m k : Nat} {nm : ByteArray} (hk : k < m) (h : ((segNm (k : Int)).toList == nm.toList) = true) : isBelow m nm = true := by
  unfold isBelow
  rw [List.any_eq_true]
  exact ⟨k, List.mem_range.2 hk, h⟩
def lastB (q : Int) (bs : List BatchD) : Int := (bs.getLast?.map BatchD.seq).getD q
def seqD (l : List SegD) : Int := l.foldl (fun q s => lastB q s.bs) 0
theorem seqD_snoc (l : List SegD) (s : SegD) : seqD (l ++ [s]) = lastB (seqD l) s.bs := by simp [seqD]
theorem lastB_last (q : Int) (bs : List BatchD) (h : 0 < bs.length) : lastB q bs = (bs[bs.length - 1]'(by omega)).seq := by
  unfold lastB
  rw [List.getLast?_eq_getElem?, List.getElem?_eq_getElem (by omega)]
  rfl
theorem seqD_take_succ {l : List SegD} {k : Nat} (h : k < l.length) : seqD (l.take (k + 1)) = lastB (seqD (l.take k)) l[k].bs := by
  rw [List.take_succ_eq_append_getElem h, seqD_snoc]
def dropA (nm : ByteArray) : ActD := ⟨4, nm, ⟨#[]⟩, ⟨#[]⟩⟩
def newA (nm text : ByteArray) : List ActD := [⟨1, nmNew, text, ⟨#[]⟩⟩, ⟨2, nmNew, ⟨#[]⟩, ⟨#[]⟩⟩, ⟨3, nmNew, ⟨#[]⟩, nm⟩]
def addA (t : ByteArray) : ActD := ⟨1, nmNew, t, ⟨#[]⟩⟩
def newsA (nm : ByteArray) (ts : List ByteArray) : List ActD := ts.map addA ++ [⟨2, nmNew, ⟨#[]⟩, ⟨#[]⟩⟩, ⟨3, nmNew, ⟨#[]⟩, nm⟩]
def isNew (nm : ByteArray) : Bool := nm.toList == nmNew.toList
def goesB (m : Nat) (F : FileD) : Bool := isNew F.name || isBelow m F.name
def dropsI (m : Nat) (fs : List FileD) : List ActD := (fs.filter (goesB m)).map fun F => dropA F.name
theorem dropsI_snoc_yes {m : Nat} {fs : List FileD} {F : FileD} (h : goesB m F = true) : dropsI m (fs ++ [F]) = dropsI m fs ++ [dropA F.name] := by simp [dropsI, h]
theorem dropsI_snoc_no {m : Nat} {fs : List FileD} {F : FileD} (h : goesB m F = false) : dropsI m (fs ++ [F]) = dropsI m fs := by simp [dropsI, h]
theorem dropsI_len (m : Nat) (fs : List FileD) : (dropsI m fs).length ≤ fs.length := by
  unfold dropsI
  rw [List.length_map]
  exact List.length_filter_le _ _
def dropsS (m : Nat) (fs : List FileD) : List ActD := (if (fileD fs nmNew).isSome then [dropA nmNew] else []) ++ (fs.filter fun F => isBelow m F.name).map fun F => dropA F.name
def firstG (fs : List FileD) : Nat := ((segsL fs).head?.map SegD.num).getD 0
def lastG (fs : List FileD) : SegD := (segsL fs).getLast?.getD ⟨0, 0, [], 0, false, false⟩
def mendA (fs : List FileD) : List ActD := if (lastG fs).torn then newA (segNm ((lastG fs).num : Int)) ((((fileD fs (segNm ((lastG fs).num : Int))).map FileD.text).getD ⟨#[]⟩).extract 0 (lastG fs).fin) else []
def actsI (fs : List FileD) : List ActD := dropsI (firstG fs) fs ++ mendA fs
def actsS (fs : List FileD) : List ActD := dropsS (firstG fs) fs ++ mendA fs
def wholeB (fs : List FileD) : Bool := (segsL fs).dropLast.all fun s => !s.torn
def soundB (fs : List FileD) : Bool := seqsRise fs && (allKeptD fs && wholeB fs)
def roomB (room : Int) : Bool := decide (100 ≤ room) && decide (room ≤ 20000)
def openIB (fs : List FileD) (room : Int) : Bool := roomB room && (soundB fs && decide ((actsF fs (actsI fs)).2 = (actsI fs).length))
def openSB (fs : List FileD) (room : Int) : Bool := roomB room && (soundB fs && decide ((actsF fs (actsS fs)).2 = (actsS fs).length))
theorem soundB_segs {fs : List FileD} (h : soundB fs = true) : segsOk fs = true ∧ seqsRise fs = true ∧ allKeptD fs = true ∧ wholeB fs = true ∧ diskOkD fs = true ∧ 0 < (segsL fs).length := by
  unfold soundB at h
  simp only [Bool.and_eq_true] at h
  obtain ⟨h1, h2, h3⟩ := h
  have h4 : segsOk fs = true := by
    unfold seqsRise at h1
    simp only [Bool.and_eq_true] at h1
    exact h1.1
  have h5 := h4
  unfold segsOk at h5
  simp only [Bool.and_eq_true, decide_eq_true_eq] at h5
  refine ⟨h4, h1, h2, h3, h5.1, ?_⟩
  unfold segsL
  rw [if_pos h4]
  exact h5.2.2
theorem fileD_some_iff {fs : List FileD} {nm : ByteArray} : (fileD fs nm).isSome = fs.any fun F => F.name.toList == nm.toList := by
  unfold fileD
  rw [List.isSome_find?]
theorem l08Seq_any (fs : List FileD) (ao : Option Addr) (cap : Nat) (a1 : Option Addr) (c1 NL B : Nat) (w : World) (hl : fs.length ≤ 1048576) (hfs : FilesAt w ao fs) (hsz : ∀ F ∈ fs, F.name.size ≤ 1048576 ∧ F.text.size ≤ 1048576)
    (hNL : (segsL fs).length = NL) (hrow : w.ownsRow B 3 1 (.slice a1 NL c1) NL (((segsL fs).map SegD.num).map iv)) :
    Calls Tryz.prog 70 #[.agg #[.slice ao fs.length cap], .slice a1 NL c1] w fun e w' => e = .returned (.int .i64 (seqD (segsL fs))) ∧ Below w.heap.size w w' := by
  have HF := hide hfs
  have HS := hide hsz
  have G1 := hide hrow
  obtain ⟨wb, hwb⟩ : ∃ wb, wb = w.alloc (.cells #[.slice ao fs.length cap] 31) := ⟨_, rfl⟩
  have HB0 : Hid (Below w.heap.size w wb) := by rw [hwb]; exact (Below.refl _ w).alloc (Nat.le_refl _) _
  have hbs : w.heap.size < wb.heap.size := by rw [hwb]; simp
  have HBC : Hid (wb.cell? ⟨w.heap.size, 0, none⟩ = some (.slice ao fs.length cap)) := by rw [hwb]; exact (cell_of_row _ _ 0 _ _ (0, 0) (heap_alloc_new w _)).trans rfl
  obtain ⟨l, HLL⟩ : ∃ l, Hid (segsL fs = l) := ⟨_, rfl⟩
  have HLM : Hid (∀ s ∈ l, s.bs.length ≤ 20001 ∧ ∃ F, segBatches (s.num : Int) F.text = s.bs ∧ fileD fs (segNm s.num) = some F) := fun s hs => by
    rw [← HLL.out] at hs
    obtain ⟨-, -, F, -, hF, hD⟩ := segsTo_mem (segsL_mem hs)
    refine ⟨?_, F, ?_, hD⟩
    · rw [hF]
      exact (segBatches_bounds _ _).1
    · conv => rhs; rw [hF]
      rfl
  have HNL := hide hNL
  have hN1 : NL ≤ 100 := by rw [← hNL]; exact segsL_len fs
  rw [HLL.out] at HNL G1
  rw [HLL.out]
  clear hfs hsz hrow hNL HLL
  go_enter Tryz.func70, Tryz.ntmps70
  go_wp2_with fail
  rw [← hwb]
  clear hwb
  go_loopg [5, 6] NL (fun gg vl ii wr => ∃ (k : Nat), k + gg = NL ∧ vl = .int .i64 (seqD (l.take k)) ∧ ii = .int .i64 k ∧ k ≤ NL ∧ Hid (Below wb.heap.size wb wr))
  case atStart => exact ⟨0, by omega, rfl, rfl, Nat.zero_le _, Below.refl _ _⟩
  case round =>
    obtain ⟨k, hkg, rfl, rfl, hk, HB⟩ := hrel
    have hws : wb.heap.size ≤ wr.heap.size := HB.out.size
    have HBw : Hid (Below w.heap.size w wr) := HB0.out.trans (HB.out.mono HB0.out.size)
    cases gk with
    | zero =>
      have hlt' : decide ((k : Int) < (NL : Int)) = false := by simp; omega
      have hltn : decide (k < NL) = false := by simp; omega
      rw [List.take_of_length_le (by rw [HNL.out]; omega)]
      go_wp2
      go_ret
      exact ⟨rfl, HBw.out⟩
    | succ g0 =>
      have hlt : k < l.length := by rw [HNL.out]; omega
      have hlt' : decide ((k : Int) < (NL : Int)) = true := by simp; omega
      have hltn : decide (k < NL) = true := by simp; omega
      have hi0 : (0 : Int) ≤ (k : Int) := by omega
      have hi1 : (k : Int) < (NL : Int) := by omega
      obtain ⟨hbl, F, hFb, hFd⟩ := HLM.out l[k] (List.getElem_mem hlt)
      obtain ⟨g, hg, hgw, hc1⟩ := num_cell (ownsRow_below G1.out HBw.out) k (by omega) l[k].num (by rw [List.getElem?_map, List.getElem?_eq_getElem hlt]; rfl)
      subst hg
      have hsq := hide (seqD_take_succ hlt)
      have HLB := hide (fun W hW => l06Batches_any fs ao cap l[k].num F W hl hW HS.out hFd)
      rw [hFb] at HLB
      clear hFb hFd
      generalize l[k] = D at hsq hc1 HLB hbl
      generalize seqD (l.take k) = q0 at hsq
      clear hlt
      have hlt0 : w.heap.size < wr.heap.size := by omega
      have hc0 : wr.cell? ⟨w.heap.size, 0, none⟩ = some (.slice ao fs.length cap) := (HB.out.cell (p := ⟨w.heap.size, 0, none⟩) (by show w.heap.size < _; omega)).trans HBC.out
      have HFW := hide (filesAt_keep HF.out HBw.out)
      go_wp2_with fail
      go_region_held3 (fun w' => w'.cell? ⟨w.heap.size, 0, none⟩ = some (.slice ao fs.length cap) ∧ w'.cell? ⟨g, k, none⟩ = some (.int .i64 (D.num : Int))) (first | go_keep | (exact ⟨hc0, hc1⟩) | (exact ⟨(b2.cell (p := ⟨w.heap.size, 0, none⟩) hlt0).trans hc0, (b2.cell (p := ⟨g, k, none⟩) hgw).trans hc1⟩)) ((go_at_call 100; refine (HLB.out _ (by first | exact HFW.out | exact filesAt_keep HFW.out (Below.refl _ _).drew)).mono ?_; rintro e w2 ⟨⟨v2, rfl, r2⟩, b2⟩; obtain ⟨a2, c2, rfl, -⟩ := rowBatch_at r2))
      have B2 : Hid (Below wr.heap.size wr w2) := (Below.refl _ _).drew.trans b2
      have HRB := hide (rowBatch_rows r2).2
      clear r2 b2 hc0 hc1
      by_cases hz : D.bs.length = 0
      · have hz' : decide ((0 : Int) < (D.bs.length : Int)) = false := by rw [decide_eq_false_iff_not]; omega
        have hzn : decide (0 < D.bs.length) = false := by rw [decide_eq_false_iff_not]; omega
        have hE : Hid (lastB q0 D.bs = q0) := by show _ = _; rw [List.eq_nil_of_length_eq_zero hz]; rfl
        clear hz
        go_wp2
        go_roundg g0
        case measure => omega
        case rel => exact ⟨k + 1, by omega, by rw [hsq.out, hE.out], by go_num, by omega, HB.out.trans (B2.out.mono hws)⟩
      · have hz' : decide ((0 : Int) < (D.bs.length : Int)) = true := by rw [decide_eq_true_eq]; omega
        have hzn : decide (0 < D.bs.length) = true := by rw [decide_eq_true_eq]; omega
        obtain ⟨b, off, hab, hbw, hd0, -⟩ := HRB.out (D.bs.length - 1) (by omega)
        have hE := hide (lastB_last q0 D.bs (by omega))
        generalize D.bs[D.bs.length - 1]'(by omega) = E at hd0 hE
        subst hab
        have hj0 : (0 : Int) ≤ (D.bs.length : Int) - 1 := by omega
        have hj1 : (D.bs.length : Int) - 1 < (D.bs.length : Int) := by omega
        have hjn : ((D.bs.length : Int) - 1).toNat = D.bs.length - 1 := by omega
        have hjw : IntKind.i64.wrap ((D.bs.length : Int) - 1) = (D.bs.length : Int) - 1 := by rw [IntKind.wrap_i64]; omega
        go_wp2
        go_roundg g0
        case measure => omega
        case rel => exact ⟨k + 1, by omega, by rw [hsq.out, hE.out], by go_num, by omega, HB.out.trans (B2.out.mono hws)⟩
def Wd.good (s : ByteArray) : Prop := s.size ≠ 0 ∧ s.size ≤ 10 ∧ Wd.digs s s.size ∧ (s.size = 1 ∨ Wd.bt s 0 ≠ 48) ∧ Wd.numF s s.size ≤ 1000000000
theorem Wd.numF_bound (s : ByteArray) (k : Nat) (hk : k ≤ 10) (hd : Wd.digs s k) : Wd.numF s k ≤ 9999999999 := by
  have h1 := Wd.numF_lt s k hd
  have h2 : 10 ^ k ≤ 10 ^ 10 := Nat.pow_le_pow_right (by omega) hk
  omega
theorem digs_more {s : ByteArray} {k b : Nat} (HI : Wd.digs s k) (hB : Wd.bt s k = b) (h1 : 48 ≤ b) (h2 : b ≤ 57) : Wd.digs s (k + 1) := by
  intro p hp
  by_cases h : p < k
  · exact HI p h
  · have : p = k := by omega
    subst this
    omega
theorem specDec_long (s : ByteArray) (w : World) (ws : s.size ≤ 1048576) (h : 10 < s.size) :
    Calls Tryz.prog 130 #[.string s] w fun e w' => e = .returned (.tuple #[.int .i64 0, .bool false]) ∧ w' = w := by
  go_enter Tryz.func130, Tryz.ntmps130
  go_wp2
  go_ret2
  exact ⟨rfl, rfl⟩
theorem dec_test (s : ByteArray) (k M : Nat) (hk : k = s.size) (hd : Wd.digs s k) (h10 : s.size ≤ 10) (hM : Wd.numF s k = M) :
    (Wd.decS (M : Int) == s.toList) = decide (s.size ≠ 0 ∧ (s.size = 1 ∨ Wd.bt s 0 ≠ 48)) := by
  subst hk hM
  rw [Bool.eq_iff_iff, beq_iff_eq, decide_eq_true_iff, ByteArray.toList_eq]
  exact Wd.dec_canon s hd h10
theorem specDec_in (s : ByteArray) (w : World) (h : s.size ≤ 10) :
    Calls Tryz.prog 130 #[.string s] w fun e w' => Below w.heap.size w w' ∧ ((Wd.good s ∧ e = .returned (.tuple #[.int .i64 (Wd.numF s s.size), .bool true])) ∨ (¬ Wd.good s ∧ e = .returned (.tuple #[.int .i64 0, .bool false]))) := by
  have h1' : decide (10 < (s.size : Int)) = false := by simp; omega
  go_enter Tryz.func130, Tryz.ntmps130
  go_wp2
  go_loop [4, 5] (fun n i => ∃ k M : Nat, k ≤ s.size ∧ i = .int .i64 k ∧ n = .int .i64 M ∧ Hid (Wd.numF s k = M) ∧ Hid (Wd.digs s k) ∧ M ≤ 9999999999) (fun _ i => s.size - (intOf i).toNat)
  case atStart => exact ⟨0, 0, Nat.zero_le _, rfl, rfl, rfl, fun p hp => absurd hp (by omega), by omega⟩
  case round =>
    obtain ⟨k, M, hk, rfl, rfl, HM, HI, hM⟩ := hrel
    by_cases hlt : k < s.size
    · obtain ⟨b, hB, hbt, hb256⟩ : ∃ b : Nat, Hid (Wd.bt s k = b) ∧ (s[k]'hlt).toNat = b ∧ b < 256 := ⟨_, rfl, Wd.bt_eq s k hlt, Wd.bt_lt s k⟩
      by_cases h3 : b < 48
      · have h3' : decide ((b : Int) < 48) = true := by simp; omega
        have hno : Hid (¬ Wd.good s) := fun hg => by have := (hg.2.2.1 k hlt).1; rw [hB.out] at this; omega
        go_wp2
        go_ret2
        exact ⟨Below.refl _ _, .inr ⟨hno.out, rfl⟩⟩
      · have h3' : decide ((b : Int) < 48) = false := by simp; omega
        by_cases h4 : 57 < b
        · have h4' : decide (57 < (b : Int)) = true := by simp; omega
          have hno : Hid (¬ Wd.good s) := fun hg => by have := (hg.2.2.1 k hlt).2; rw [hB.out] at this; omega
          go_wp2
          go_ret2
          exact ⟨Below.refl _ _, .inr ⟨hno.out, rfl⟩⟩
        · have h4' : decide (57 < (b : Int)) = false := by simp; omega
          have hd' := hide (digs_more HI.out hB.out (by omega) (by omega))
          have hbd := Wd.numF_bound s (k + 1) (by omega) hd'.out
          have hnum : Wd.numF s (k + 1) = 10 * M + (b - 48) := by rw [Wd.numF, HM.out, hB.out]
          rw [hnum] at hbd
          have HN := hide hnum
          clear hnum
          go_wp2
          go_round
          case rel => exact ⟨k + 1, 10 * M + (b - 48), by omega, by go_num, by go_num, HN, hd', hbd⟩
          case measure => simp [intOf]; omega
    · have hks : Hid (k = s.size) := by show _ = _; omega
      by_cases h5 : M ≤ 1000000000
      · have h5' : decide (1000000000 < (M : Int)) = false := by simp; omega
        have ht := dec_test s k M hks.out HI.out h HM.out
        by_cases h6 : s.size ≠ 0 ∧ (s.size = 1 ∨ Wd.bt s 0 ≠ 48)
        · rw [decide_eq_true h6] at ht
          have hg : Hid (Wd.good s ∧ Wd.numF s s.size = M) := ⟨⟨h6.1, h, by rw [← hks.out]; exact HI.out, h6.2, by rw [← hks.out, HM.out]; exact h5⟩, by rw [← hks.out]; exact HM.out⟩
          clear h6
          go_wp2_with (go_at_call 91; refine (decimal_any _ _ (by omega) (by omega)).mono ?_; rintro e w1 ⟨rfl, hb1⟩)
          go_ret2
          refine ⟨hb1, .inl ⟨hg.out.1, ?_⟩⟩
          rw [hg.out.2]
          rfl
        · rw [decide_eq_false h6] at ht
          have hno : Hid (¬ Wd.good s) := fun hg => h6 ⟨hg.1, hg.2.2.2.1⟩
          clear h6
          go_wp2_with (go_at_call 91; refine (decimal_any _ _ (by omega) (by omega)).mono ?_; rintro e w1 ⟨rfl, hb1⟩)
          go_ret2
          exact ⟨hb1, .inr ⟨hno.out, rfl⟩⟩
      · have h5' : decide (1000000000 < (M : Int)) = true := by simp; omega
        have hno : Hid (¬ Wd.good s) := fun hg => by have := hg.2.2.2.2; rw [← hks.out, HM.out] at this; omega
        go_wp2
        go_ret2
        exact ⟨Below.refl _ _, .inr ⟨hno.out, rfl⟩⟩
theorem specDec_yes (s : ByteArray) (w : World) (hg : Wd.good s) :
    Calls Tryz.prog 130 #[.string s] w fun e w' => e = .returned (.tuple #[.int .i64 (Wd.numF s s.size), .bool true]) ∧ Below w.heap.size w w' := by
  refine (specDec_in s w hg.2.1).mono ?_
  rintro e w' ⟨hb, ⟨_, he⟩ | ⟨hno, _⟩⟩
  · exact ⟨he, hb⟩
  · exact absurd hg hno
theorem specDec_no (s : ByteArray) (w : World) (ws : s.size ≤ 1048576) (hno : ¬ Wd.good s) :
    Calls Tryz.prog 130 #[.string s] w fun e w' => e = .returned (.tuple #[.int .i64 0, .bool false]) ∧ Below w.heap.size w w' := by
  by_cases h : 10 < s.size
  · exact (specDec_long s w ws h).mono fun e w' ⟨he, hw⟩ => ⟨he, hw ▸ Below.refl _ _⟩
  · refine (specDec_in s w (by omega)).mono ?_
    rintro e w' ⟨hb, ⟨hg, _⟩ | ⟨_, he⟩⟩
    · exact absurd hg hno
    · exact ⟨he, hb⟩
end Go.Proofs.YtlcfblodflgleaaGreatDoor
