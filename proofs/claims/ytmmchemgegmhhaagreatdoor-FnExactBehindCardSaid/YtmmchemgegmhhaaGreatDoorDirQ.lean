/- The directory of a disk, plainly. -/
import Derived.Test.YtmmchemgegmhhaaGreatDoorDirS1
import Derived.Test.YtmmchemgegmhhaaGreatDoorDirS2
import Derived.Test.YtmmchemgegmhhaaGreatDoorSegQ
import Derived.Test.YtmmchemgegmhhaaGreatDoorSegS0
namespace Go.Proofs.YtmmchemgegmhhaaGreatDoor
open Go.RowKit

/-- The changes of a batch put into a directory. -/
def chsIn (seg pos q : Int) (dir : List SpotD) : List ChangeD → List SpotD
  | [] => dir
  | A :: r => chsIn seg pos q (setD dir ⟨A.key, seg, pos, q⟩ A.gone) r
/-- The batches of a segment, from a place on. -/
def batsIn (seg : Int) (dir : List SpotD) (pos : Nat) : List BatchD → List SpotD
  | [] => dir
  | b :: r => batsIn seg (chsIn seg (pos : Int) b.seq dir b.chs) (pos + sizeD b.seq b.chs) r
theorem chsIn_len (seg pos q : Int) : ∀ (l : List ChangeD) (dir : List SpotD), (chsIn seg pos q dir l).length ≤ dir.length + l.length
  | [], dir => Nat.le_refl _
  | A :: r, dir => by
    have h1 := chsIn_len seg pos q r (setD dir ⟨A.key, seg, pos, q⟩ A.gone)
    have h2 := setD_le dir ⟨A.key, seg, pos, q⟩ A.gone
    simp only [chsIn, List.length_cons]
    omega
/-- How many changes batches have. -/
def chsN : List BatchD → Nat
  | [] => 0
  | b :: r => b.chs.length + chsN r
theorem batsIn_len (seg : Int) : ∀ (l : List BatchD) (dir : List SpotD) (pos : Nat), (batsIn seg dir pos l).length ≤ dir.length + chsN l
  | [], dir, _ => Nat.le_refl _
  | b :: r, dir, pos => by
    have h1 := batsIn_len seg r (chsIn seg (pos : Int) b.seq dir b.chs) (pos + sizeD b.seq b.chs)
    have h2 := chsIn_len seg (pos : Int) b.seq b.chs dir
    simp only [batsIn, chsN]
    omega
theorem varF_pos (n : Nat) : 1 ≤ (Wd.varF 5 n).length := by
  unfold Wd.varF
  split <;> simp
theorem changeB_three (A : ChangeD) : 3 ≤ (changeB A).size := by
  have h1 := shortB_len A.key
  have h2 := shortB_len A.value
  have h3 := varF_pos A.key.size
  have h4 := varF_pos A.value.size
  have h5 : (flagB A.gone).size = 1 := by cases A.gone <;> rfl
  unfold changeB
  rw [ByteArray.size_append, ByteArray.size_append]
  omega
theorem changesL_three : ∀ l : List ChangeD, 3 * l.length ≤ (changesL l).length
  | [] => Nat.le_refl _
  | A :: r => by
    have h1 := changesL_three r
    have h2 := changeB_three A
    have h3 : (changeB A).data.toList.length = (changeB A).size := rfl
    simp only [changesL, List.length_append, List.length_cons]
    omega
theorem rd_three (t : ByteArray) : 3 * (rdChanges t).length ≤ t.size := by
  cases h : rdOk t with
  | false => simp [rdChanges, h]
  | true =>
    obtain ⟨h1, h2⟩ := rd_text h
    have h3 := changesL_three (rdChanges t)
    have h4 : (textD (rdSeq t) (rdChanges t)).size = (batchL (rdSeq t).toNat (rdChanges t)).length := by unfold textD; rw [if_pos h1]; rfl
    rw [h2] at h4
    unfold batchL at h4
    rw [List.length_append] at h4
    omega
theorem ris_three (s : ByteArray) : ∀ (l : List (Nat × Nat)) (i : Nat) (last : Int) (e : Nat), i ≤ s.size → chained s i l → 3 * chsN (ris s l last e).1 + i ≤ s.size
  | [], i, _, _, hi, _ => by simp [ris, chsN]; exact hi
  | x :: r, i, last, e, hi, hc => by
    obtain ⟨hf, hr⟩ := hc
    have hb := frB_bounds s i x hf
    have ht := rd_three (s.extract x.1 x.2)
    rw [ByteArray.size_extract] at ht
    by_cases h : rdOk (s.extract x.1 x.2) = true ∧ last < rdSeq (s.extract x.1 x.2)
    · rw [ris_more h.1 h.2]
      have ih := ris_three s r x.2 (rdSeq (s.extract x.1 x.2)) x.2 hb.2.2 hr
      simp only [chsN]
      omega
    · rw [ris_no h]
      simp [chsN]
      exact hi
theorem segBatches_three (n : Int) (s : ByteArray) : 3 * chsN (segBatches n s) ≤ 20000 := by
  by_cases hs : s.size ≤ 20000
  · unfold segBatches segRead
    have hc := unf_chained s
    cases hu : unf s with
    | nil => exact Nat.zero_le _
    | cons x r =>
      rw [hu] at hc
      simp only []
      cases hh : hdFrom n (s.extract x.1 x.2) with
      | none => exact Nat.zero_le _
      | some f =>
        have := ris_three s r x.2 (-1) x.2 (frB_bounds s 0 x hc.1).2.2 hc.2
        show 3 * chsN (ris s r (-1) x.2).1 ≤ 20000
        omega
  · unfold segBatches segRead
    have hu : unf s = [] := by unfold unf; rw [if_neg hs]
    rw [hu]
    exact Nat.zero_le _
theorem chsIn_snoc (seg pos q : Int) : ∀ (l : List ChangeD) (dir : List SpotD) (A : ChangeD), chsIn seg pos q dir (l ++ [A]) = setD (chsIn seg pos q dir l) ⟨A.key, seg, pos, q⟩ A.gone
  | [], _, _ => rfl
  | B :: r, dir, A => chsIn_snoc seg pos q r (setD dir ⟨B.key, seg, pos, q⟩ B.gone) A
/-! ### One behind the other -/
/-- How many bytes the frames of batches have. -/
def totD : List BatchD → Nat
  | [] => 0
  | b :: r => sizeD b.seq b.chs + totD r
theorem batsIn_snoc (seg : Int) : ∀ (l : List BatchD) (b : BatchD) (dir : List SpotD) (e : Nat), batsIn seg dir e (l ++ [b]) = chsIn seg ((e + totD l : Nat) : Int) b.seq (batsIn seg dir e l) b.chs
  | [], _, _, _ => rfl
  | c :: r, b, dir, e => by
    have h := batsIn_snoc seg r b (chsIn seg (e : Int) c.seq dir c.chs) (e + sizeD c.seq c.chs)
    simp only [List.cons_append, batsIn, totD]
    rw [h, Nat.add_assoc]
theorem totD_snoc : ∀ (l : List BatchD) (b : BatchD), totD (l ++ [b]) = totD l + sizeD b.seq b.chs
  | [], b => by simp [totD]
  | c :: r, b => by simp only [List.cons_append, totD]; rw [totD_snoc r b]; omega
theorem plsB_get : ∀ (l : List BatchD) (e j : Nat) (h : j < (plsB e l).length), (plsB e l)[j] = e + totD (l.take j)
  | [], _, _, h => absurd h (by simp [plsB])
  | b :: r, e, 0, _ => by simp [plsB, totD]
  | b :: r, e, j + 1, h => by
    have h' : j < (plsB (e + sizeD b.seq b.chs) r).length := by simpa [plsB] using h
    have := plsB_get r (e + sizeD b.seq b.chs) j h'
    simp only [plsB, List.getElem_cons_succ, List.take_succ_cons, totD]
    rw [this]
    omega
theorem chsN_snoc : ∀ (l : List BatchD) (b : BatchD), chsN (l ++ [b]) = chsN l + b.chs.length
  | [], b => by simp [chsN]
  | c :: r, b => by simp only [List.cons_append, chsN]; rw [chsN_snoc r b]; omega
theorem chsN_take_le (l : List BatchD) (j : Nat) : chsN (l.take j) ≤ chsN l := by
  have h := List.take_append_drop j l
  have : ∀ (a b : List BatchD), chsN (a ++ b) = chsN a + chsN b := by
    intro a
    induction a with
    | nil => intro b; simp [chsN]
    | cons c r ih => intro b; simp only [List.cons_append, chsN]; rw [ih]; omega
  have h2 := this (l.take j) (l.drop j)
  rw [h] at h2
  omega
/-- The place behind a segment's head. -/
def SegD.hd (s : SegD) : Nat := (frameB ⟨(headL s.num s.frm).toArray⟩).size
/-- The directory of segments, one behind the other. -/
def dirSegs : List SpotD → List SegD → List SpotD
  | dir, [] => dir
  | dir, s :: r => dirSegs (batsIn (s.num : Int) dir s.hd s.bs) r
theorem dirSegs_snoc : ∀ (l : List SegD) (dir : List SpotD) (s : SegD), dirSegs dir (l ++ [s]) = batsIn (s.num : Int) (dirSegs dir l) s.hd s.bs
  | [], _, _ => rfl
  | _ :: r, _, s => dirSegs_snoc r _ s
/-- How many changes segments have. -/
def segsN : List SegD → Nat
  | [] => 0
  | s :: r => chsN s.bs + segsN r
theorem segsN_snoc : ∀ (l : List SegD) (s : SegD), segsN (l ++ [s]) = segsN l + chsN s.bs
  | [], s => by simp [segsN]
  | c :: r, s => by simp only [List.cons_append, segsN]; rw [segsN_snoc r s]; omega
theorem segsN_le : ∀ (l : List SegD), (∀ s ∈ l, 3 * chsN s.bs ≤ 20000) → 3 * segsN l ≤ 20000 * l.length
  | [], _ => by simp [segsN]
  | c :: r, h => by
    have h1 := segsN_le r (fun s hs => h s (List.mem_cons_of_mem _ hs))
    have h2 := h c (List.mem_cons_self ..)
    simp only [segsN, List.length_cons]
    omega
theorem dirSegs_len : ∀ (l : List SegD) (dir : List SpotD), (dirSegs dir l).length ≤ dir.length + segsN l
  | [], dir => Nat.le_refl _
  | s :: r, dir => by
    have h1 := dirSegs_len r (batsIn (s.num : Int) dir s.hd s.bs)
    have h2 := batsIn_len (s.num : Int) s.bs dir s.hd
    simp only [dirSegs, segsN]
    omega
/-- The directory of a disk. -/
def dirD (fs : List FileD) : List SpotD := dirSegs [] (segsL fs)
theorem segsL_three {fs : List FileD} {s : SegD} (h : s ∈ segsL fs) : 3 * chsN s.bs ≤ 20000 := by
  obtain ⟨-, -, F, -, hF, -⟩ := segsTo_mem (segsL_mem h)
  rw [hF]
  exact segBatches_three _ _
theorem segsL_N (fs : List FileD) : segsN (segsL fs) ≤ 666700 := by
  have h1 := segsN_le (segsL fs) (fun s hs => segsL_three hs)
  have h2 := segsL_len fs
  omega
theorem dirD_len (fs : List FileD) : (dirD fs).length ≤ 666700 := by
  have h1 := dirSegs_len (segsL fs) []
  have h2 := segsL_N fs
  unfold dirD
  simp at h1
  omega
theorem segsN_take_le : ∀ (l : List SegD) (j : Nat), segsN (l.take j) ≤ segsN l
  | [], j => by simp [segsN]
  | _ :: _, 0 => by simp [segsN]
  | c :: r, j + 1 => by
    have := segsN_take_le r j
    simp only [List.take_succ_cons, segsN]
    omega
/-! ### Batches that are read are right -/
theorem ris_ok (s : ByteArray) : ∀ (l : List (Nat × Nat)) (last : Int) (e : Nat), ∀ b ∈ (ris s l last e).1, textOkD b.seq b.chs = true
  | [], _, _, _, h => absurd h (by simp [ris])
  | x :: r, last, e, b, h => by
    by_cases hc : rdOk (s.extract x.1 x.2) = true ∧ last < rdSeq (s.extract x.1 x.2)
    · rw [ris_more hc.1 hc.2] at h
      rcases List.mem_cons.1 h with rfl | h
      · exact (rd_text hc.1).1
      · exact ris_ok s r _ _ b h
    · rw [ris_no hc] at h
      exact absurd h List.not_mem_nil
theorem segBatches_ok {n : Int} {s : ByteArray} {b : BatchD} (h : b ∈ segBatches n s) : textOkD b.seq b.chs = true := by
  cases hr : segRead n s with
  | none => rw [(seg_none hr).2.1] at h; exact absurd h List.not_mem_nil
  | some q =>
    obtain ⟨f, bs, e⟩ := q
    rw [(seg_some hr).2.1] at h
    cases hu : unf s with
    | nil => rw [segRead_nil hu] at hr; simp at hr
    | cons x r =>
      cases hh : hdFrom n (s.extract x.1 x.2) with
      | none => rw [segRead_head hu hh] at hr; simp at hr
      | some f' =>
        rw [segRead_some hu hh] at hr
        simp only [Option.some.injEq, Prod.mk.injEq] at hr
        refine ris_ok s r (-1) x.2 b ?_
        rw [hr.2]
        exact h
theorem textOk_small {q : Int} {cs : List ChangeD} (h : textOkD q cs = true) : cs.length ≤ 40 ∧ (0 ≤ q ∧ q ≤ 1000000000) ∧ ∀ A ∈ cs, A.key.size ≤ 20 ∧ A.value.size ≤ 2000 := by
  unfold textOkD at h
  simp only [Bool.and_eq_true] at h
  have h1 := batchOkD_bounds h.1
  refine ⟨h1.2.2.2, ⟨h1.1, h1.2.1⟩, ?_⟩
  have h2 := h.1
  unfold batchOkD at h2
  simp only [Bool.and_eq_true] at h2
  exact okChg_small cs none h2.2.2
theorem segsL_ok {fs : List FileD} {s : SegD} (h : s ∈ segsL fs) : ∀ b ∈ s.bs, textOkD b.seq b.chs = true := by
  obtain ⟨-, -, F, -, hF, -⟩ := segsTo_mem (segsL_mem h)
  intro b hb
  rw [hF] at hb
  exact segBatches_ok hb
/-- Keys of a directory are short. -/
def keysUp (m : Nat) (dir : List SpotD) : Prop := ∀ A ∈ dir, A.key.size ≤ m
theorem keysUp_set {m : Nat} {dir : List SpotD} {F : SpotD} {gone : Bool} (h : keysUp m dir) (hF : F.key.size ≤ m) : keysUp m (setD dir F gone) := by
  intro A hA
  unfold setD at hA
  rcases List.mem_append.1 hA with hA | hA
  · rcases List.mem_append.1 hA with hA | hA
    · exact h A (List.mem_filter.1 hA).1
    · cases gone
      · obtain rfl : A = F := by simpa using hA
        exact hF
      · simp at hA
  · exact h A (List.mem_filter.1 hA).1
theorem keysUp_chs {m : Nat} (seg pos q : Int) : ∀ (l : List ChangeD) (dir : List SpotD), keysUp m dir → (∀ A ∈ l, A.key.size ≤ m) → keysUp m (chsIn seg pos q dir l)
  | [], _, h, _ => h
  | A :: r, _, h, hl => keysUp_chs seg pos q r _ (keysUp_set h (hl A (List.mem_cons_self ..))) (fun B hB => hl B (List.mem_cons_of_mem _ hB))
theorem keysUp_bats {m : Nat} (seg : Int) : ∀ (l : List BatchD) (dir : List SpotD) (e : Nat), keysUp m dir → (∀ b ∈ l, ∀ A ∈ b.chs, A.key.size ≤ m) → keysUp m (batsIn seg dir e l)
  | [], _, _, h, _ => h
  | b :: r, _, _, h, hl => keysUp_bats seg r _ _ (keysUp_chs seg _ _ b.chs _ h (hl b (List.mem_cons_self ..))) (fun c hc => hl c (List.mem_cons_of_mem _ hc))
theorem keysUp_segs {m : Nat} : ∀ (l : List SegD) (dir : List SpotD), keysUp m dir → (∀ s ∈ l, ∀ b ∈ s.bs, ∀ A ∈ b.chs, A.key.size ≤ m) → keysUp m (dirSegs dir l)
  | [], _, h, _ => h
  | s :: r, _, h, hl => keysUp_segs r _ (keysUp_bats _ s.bs _ _ h (hl s (List.mem_cons_self ..))) (fun c hc => hl c (List.mem_cons_of_mem _ hc))
theorem dirD_keys (fs : List FileD) : keysUp 20 (dirD fs) :=
  keysUp_segs (segsL fs) [] (fun _ hA => absurd hA List.not_mem_nil) (fun _ hs b hb A hA => ((textOk_small (segsL_ok hs b hb)).2.2 A hA).1)
end Go.Proofs.YtmmchemgegmhhaaGreatDoor
