/- The segments of a disk, plainly: those that are there, the greatest from, and those that count. -/
import Derived.Test.YtmmchemgegmhhaaGreatDoorSegPl
import Derived.Test.YtmmchemgegmhhaaGreatDoorSegN
import Derived.Test.YtmmchemgegmhhaaGreatDoorDiskK
namespace Go.Proofs.YtmmchemgegmhhaaGreatDoor
open Go.RowKit

/-- What the file of a number tells. -/
structure SegD where
  num : Nat
  frm : Nat
  bs : List BatchD
  fin : Nat
  right : Bool
  torn : Bool
/-- The places of its batches. -/
def SegD.pls (s : SegD) : List Nat := plsB (frameB ⟨(headL s.num s.frm).toArray⟩).size s.bs
theorem SegD.pls_len (s : SegD) : s.pls.length = s.bs.length := plsB_len _ _
/-- Bytes stand behind the last batch. -/
def segTorn (n : Int) (s : ByteArray) : Bool := segOk n s && decide (segEnd n s < s.size)
def segOfFile (n : Nat) (F : FileD) : SegD := ⟨n, segFrom n F.text, segBatches n F.text, segEnd n F.text, segOk n F.text, segTorn n F.text⟩
theorem segOfFile_pls (n : Nat) (F : FileD) : (segOfFile n F).pls = segPls n F.text := rfl
/-- The segment of a number, where there is a file of its name. -/
def segD (fs : List FileD) (n : Nat) : Option SegD := (fileD fs (segNm n)).map (segOfFile n)
/-- The segments of the numbers below k. -/
def segsTo (fs : List FileD) : Nat → List SegD
  | 0 => []
  | k + 1 => segsTo fs k ++ (segD fs k).toList
theorem segsTo_none {fs : List FileD} {k : Nat} (h : fileD fs (segNm k) = none) : segsTo fs (k + 1) = segsTo fs k := by
  show segsTo fs k ++ (segD fs k).toList = _
  unfold segD
  rw [h]
  exact List.append_nil _
theorem segsTo_some {fs : List FileD} {k : Nat} {F : FileD} (h : fileD fs (segNm k) = some F) : segsTo fs (k + 1) = segsTo fs k ++ [segOfFile k F] := by
  show segsTo fs k ++ (segD fs k).toList = _
  unfold segD
  rw [h]
  rfl
theorem segsTo_len (fs : List FileD) : ∀ k, (segsTo fs k).length ≤ k
  | 0 => Nat.le_refl _
  | k + 1 => by
    have := segsTo_len fs k
    cases h : fileD fs (segNm k) with
    | none => rw [segsTo_none h]; omega
    | some F => rw [segsTo_some h, List.length_append, List.length_singleton]; omega
theorem segFrom_le (n : Nat) (s : ByteArray) : segFrom n s ≤ 99 := by
  cases hr : segRead n s with
  | none => rw [(seg_none hr).1]; omega
  | some q =>
    obtain ⟨f, bs, e⟩ := q
    rw [(seg_some hr).1]
    cases hu : unf s with
    | nil => rw [segRead_nil hu] at hr; simp at hr
    | cons x r =>
      cases hh : hdFrom n (s.extract x.1 x.2) with
      | none => rw [segRead_head hu hh] at hr; simp at hr
      | some f' =>
        have := hdFrom_le hh
        rw [segRead_some hu hh] at hr
        simp only [Option.some.injEq, Prod.mk.injEq] at hr
        omega
theorem segFrom_not {n : Int} {s : ByteArray} (h : segOk n s = false) : segFrom n s = 0 := by
  cases hr : segRead n s with
  | none => exact (seg_none hr).1
  | some q =>
    obtain ⟨f, bs, e⟩ := q
    rw [(seg_some hr).2.2.2] at h
    cases h
theorem segsTo_mem {fs : List FileD} : ∀ {k : Nat} {s : SegD}, s ∈ segsTo fs k → s.num < k ∧ s.frm ≤ 99 ∧ ∃ F ∈ fs, s = segOfFile s.num F ∧ fileD fs (segNm s.num) = some F
  | 0, _, h => absurd h List.not_mem_nil
  | k + 1, s, h => by
    cases hf : fileD fs (segNm k) with
    | none =>
      rw [segsTo_none hf] at h
      have := segsTo_mem h
      exact ⟨by omega, this.2⟩
    | some F =>
      rw [segsTo_some hf] at h
      rcases List.mem_append.1 h with h | h
      · have := segsTo_mem h
        exact ⟨by omega, this.2⟩
      · obtain rfl : s = segOfFile k F := by simpa using h
        exact ⟨Nat.lt_succ_self _, segFrom_le _ _, F, List.mem_of_find?_eq_some hf, rfl, hf⟩

/-- The greatest from. -/
def topFrom (l : List SegD) : Nat := l.foldl (fun m s => max m s.frm) 0
theorem topFrom_snoc (l : List SegD) (s : SegD) : topFrom (l ++ [s]) = max (topFrom l) s.frm := by simp [topFrom]
theorem topFrom_le (l : List SegD) (m : Nat) (h : ∀ s ∈ l, s.frm ≤ m) : topFrom l ≤ m := by
  unfold topFrom
  suffices H : ∀ (l : List SegD) (k : Nat), k ≤ m → (∀ s ∈ l, s.frm ≤ m) → l.foldl (fun m s => max m s.frm) k ≤ m from H l 0 (Nat.zero_le _) h
  intro l
  induction l with
  | nil => intro k hk _; exact hk
  | cons a r ih =>
    intro k hk hl
    exact ih _ (by have := hl a (List.mem_cons_self ..); show max k a.frm ≤ m; omega) (fun s hs => hl s (List.mem_cons_of_mem _ hs))
/-- Those whose number is not below m. -/
def counting (m : Nat) (l : List SegD) : List SegD := l.filter (fun s => decide (m ≤ s.num))
theorem counting_snoc_in {m : Nat} {l : List SegD} {s : SegD} (h : m ≤ s.num) : counting m (l ++ [s]) = counting m l ++ [s] := by simp [counting, h]
theorem counting_snoc_out {m : Nat} {l : List SegD} {s : SegD} (h : s.num < m) : counting m (l ++ [s]) = counting m l := by simp [counting, h]
theorem counting_len (m : Nat) (l : List SegD) : (counting m l).length ≤ l.length := List.length_filter_le _ _
/-- All are right. -/
def allRight (l : List SegD) : Bool := l.all SegD.right
theorem allRight_snoc (l : List SegD) (s : SegD) : allRight (l ++ [s]) = (allRight l && s.right) := by simp [allRight]
theorem allRight_app (l r : List SegD) : allRight (l ++ r) = (allRight l && allRight r) := by simp [allRight]
theorem counting_app (m : Nat) (l r : List SegD) : counting m (l ++ r) = counting m l ++ counting m r := by simp [counting]

/-- Those of a disk that count, and whether all is right. -/
def segsC (fs : List FileD) : List SegD := counting (topFrom (segsTo fs 100)) (segsTo fs 100)
def segsOk (fs : List FileD) : Bool := diskOkD fs && (allRight (segsC fs) && decide (0 < (segsC fs).length))
def segsL (fs : List FileD) : List SegD := if segsOk fs then segsC fs else []
theorem segsOk_disk {fs : List FileD} (h : diskOkD fs = false) : segsOk fs = false ∧ segsL fs = [] := by
  have : segsOk fs = false := by unfold segsOk; rw [h]; rfl
  exact ⟨this, by unfold segsL; rw [this]; rfl⟩
theorem segsOk_wrong {fs : List FileD} (h : allRight (segsC fs) = false) : segsOk fs = false ∧ segsL fs = [] := by
  have : segsOk fs = false := by unfold segsOk; rw [h]; simp
  exact ⟨this, by unfold segsL; rw [this]; rfl⟩
theorem segsOk_rest {fs : List FileD} (hd : diskOkD fs = true) (h : allRight (segsC fs) = true) : segsOk fs = decide (0 < (segsC fs).length) ∧ segsL fs = segsC fs := by
  have h1 : segsOk fs = decide (0 < (segsC fs).length) := by unfold segsOk; rw [hd, h]; simp
  refine ⟨h1, ?_⟩
  unfold segsL
  rw [h1]
  by_cases he : 0 < (segsC fs).length
  · rw [decide_eq_true he]; rfl
  · rw [decide_eq_false he, show segsC fs = [] from List.eq_nil_of_length_eq_zero (by omega)]; rfl
theorem segsC_len (fs : List FileD) : (segsC fs).length ≤ 100 := Nat.le_trans (counting_len _ _) (segsTo_len fs 100)
theorem segsL_len (fs : List FileD) : (segsL fs).length ≤ 100 := by
  unfold segsL
  split
  · exact segsC_len fs
  · exact Nat.zero_le _
theorem segsL_mem {fs : List FileD} {s : SegD} (h : s ∈ segsL fs) : s ∈ segsTo fs 100 := by
  unfold segsL at h
  split at h
  · exact (List.mem_filter.1 h).1
  · exact absurd h List.not_mem_nil

/-! ### The numbers rise -/

/-- Numbers rise behind a last one. -/
def riseI : Int → List Int → Bool
  | _, [] => true
  | last, q :: r => decide (last < q) && riseI q r
/-- The numbers of the batches of segments. -/
def seqsOf (l : List SegD) : List Int := l.flatMap fun s => s.bs.map BatchD.seq
theorem seqsOf_cons (s : SegD) (l : List SegD) : seqsOf (s :: l) = s.bs.map BatchD.seq ++ seqsOf l := by simp [seqsOf]
def seqsRise (fs : List FileD) : Bool := segsOk fs && riseI (-1) (seqsOf (segsL fs))
end Go.Proofs.YtmmchemgegmhhaaGreatDoor
