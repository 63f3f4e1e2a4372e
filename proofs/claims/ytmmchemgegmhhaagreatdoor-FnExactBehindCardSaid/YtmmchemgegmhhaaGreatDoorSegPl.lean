/- The places of a segment's batches, plainly: where the frame of each begins. -/
import Derived.Test.YtmmchemgegmhhaaGreatDoorSegP
namespace Go.Proofs.YtmmchemgegmhhaaGreatDoor
open Go.RowKit

/-- How many bytes the frame of a batch has. -/
def sizeD (q : Int) (fs : List ChangeD) : Nat := if 1 ≤ (textD q fs).size then (frameB (textD q fs)).size else 0
theorem textD_small (q : Int) (fs : List ChangeD) : (textD q fs).size ≤ 9000 := by
  unfold textD
  split
  · rename_i h
    unfold textOkD at h
    simp only [Bool.and_eq_true, decide_eq_true_eq] at h
    exact h.2
  · exact Nat.zero_le _
/-- The batches of some frames. -/
def batchesOf (s : ByteArray) (l : List (Nat × Nat)) : List BatchD := l.map fun x => ⟨rdSeq (s.extract x.1 x.2), rdChanges (s.extract x.1 x.2)⟩
theorem batchesOf_snoc (s : ByteArray) (l : List (Nat × Nat)) (x : Nat × Nat) : batchesOf s (l ++ [x]) = batchesOf s l ++ [⟨rdSeq (s.extract x.1 x.2), rdChanges (s.extract x.1 x.2)⟩] := by simp [batchesOf]
theorem batchesOf_len (s : ByteArray) (l : List (Nat × Nat)) : (batchesOf s l).length = l.length := by simp [batchesOf]

/-- The places of batches one behind the other, from a place on. -/
def plsB : Nat → List BatchD → List Nat
  | _, [] => []
  | e, b :: r => e :: plsB (e + sizeD b.seq b.chs) r
theorem plsB_len : ∀ (l : List BatchD) (e : Nat), (plsB e l).length = l.length
  | [], _ => rfl
  | b :: r, e => by simp [plsB, plsB_len r]
theorem plsB_shift (h : Nat) : ∀ (l : List BatchD) (e : Nat), plsB (h + e) l = (plsB e l).map (h + ·)
  | [], _ => rfl
  | b :: r, e => by
    simp only [plsB, List.map_cons]
    rw [Nat.add_assoc, plsB_shift h r]
/-- The places of frames one behind the other. -/
def plsOf : Nat → List (Nat × Nat) → List Nat
  | _, [] => []
  | e, x :: r => e :: plsOf x.2 r
theorem plsOf_len : ∀ (l : List (Nat × Nat)) (e : Nat), (plsOf e l).length = l.length
  | [], _ => rfl
  | x :: r, e => by simp [plsOf, plsOf_len r]
theorem plsOf_snoc2 (y : Nat × Nat) : ∀ (l : List (Nat × Nat)) (x : Nat × Nat) (e : Nat), plsOf e (x :: l ++ [y]) = plsOf e (x :: l) ++ [endOf (x :: l)]
  | [], x, e => rfl
  | z :: l, x, e => by
    have h := plsOf_snoc2 y l z x.2
    have h2 : endOf (x :: z :: l) = endOf (z :: l) := by simp [endOf, List.getLast?_cons]
    rw [h2]
    show e :: plsOf x.2 (z :: l ++ [y]) = e :: (plsOf x.2 (z :: l) ++ [endOf (z :: l)])
    rw [h]
theorem plsOf_snoc (l : List (Nat × Nat)) (x : Nat × Nat) : plsOf 0 (l ++ [x]) = plsOf 0 l ++ [endOf l] := by
  cases l with
  | nil => rfl
  | cons y r => exact plsOf_snoc2 x r y 0
theorem frame_sizeD {s : ByteArray} {i : Nat} {x : Nat × Nat} (h : frB s i = some x) (hr : rdOk (s.extract x.1 x.2) = true) : i + sizeD (rdSeq (s.extract x.1 x.2)) (rdChanges (s.extract x.1 x.2)) = x.2 := by
  obtain ⟨h1, h2, h3⟩ := frB_size h
  unfold sizeD
  rw [(rd_text hr).2, if_pos h2]
  exact h1
theorem plsOf_B (s : ByteArray) : ∀ (l : List (Nat × Nat)) (e : Nat), chained s e l → (∀ x ∈ l, rdOk (s.extract x.1 x.2) = true) → plsOf e l = plsB e (batchesOf s l)
  | [], _, _, _ => rfl
  | x :: r, e, hc, hr => by
    show e :: plsOf x.2 r = e :: plsB (e + sizeD (rdSeq (s.extract x.1 x.2)) (rdChanges (s.extract x.1 x.2))) (batchesOf s r)
    rw [frame_sizeD hc.1 (hr x (List.mem_cons_self ..)), plsOf_B s r x.2 hc.2 (fun y hy => hr y (List.mem_cons_of_mem _ hy))]
theorem chained_take {s : ByteArray} : ∀ (l r : List (Nat × Nat)) (e : Nat), chained s e (l ++ r) → chained s e l
  | [], _, _, _ => trivial
  | x :: l, r, _, h => ⟨h.1, chained_take l r x.2 h.2⟩
/-- The places of a segment's batches. -/
def segPls (n : Int) (s : ByteArray) : List Nat := plsB (frameB ⟨(headL n.toNat (segFrom n s)).toArray⟩).size (segBatches n s)
theorem head_frame {n : Int} {s : ByteArray} {x : Nat × Nat} {f : Nat} (h : frB s 0 = some x) (hf : hdFrom n (s.extract x.1 x.2) = some f) : (frameB ⟨(headL n.toNat f).toArray⟩).size = x.2 := by
  rw [← ((hdFrom_iff _ _ _).1 hf).2.2.2]
  have := (frB_size h).1
  omega
theorem segPls_none {n : Int} {s : ByteArray} (h : segRead n s = none) : segPls n s = [] := by
  unfold segPls
  rw [(seg_none h).2.1]
  rfl
theorem segPls_len (n : Int) (s : ByteArray) : (segPls n s).length = (segBatches n s).length := plsB_len _ _
/-- The places that are read of a file without its head. -/
theorem segPls_tail {n : Int} {s : ByteArray} {x : Nat × Nat} {r l : List (Nat × Nat)} {f : Nat} (hu : unf s = x :: r) (hf : hdFrom n (s.extract x.1 x.2) = some f) {T : ByteArray} (hT : s.extract x.2 s.size = T)
    (hl : (ris T (frs T (T.size + 1) 0) (-1) 0).1 = batchesOf T l) (hp : ∃ rest, frs T (T.size + 1) 0 = l ++ rest) (hr : ∀ y ∈ l, rdOk (T.extract y.1 y.2) = true) : segPls n s = (plsOf 0 l).map (x.2 + ·) := by
  obtain ⟨rest, hp⟩ := hp
  obtain ⟨h1, h2, h3⟩ := seg_tail hu (-1)
  have hc : chained T 0 l := chained_take l rest 0 (by rw [← hp]; exact frs_chained T _ _)
  obtain ⟨k1, k2, k3, k4⟩ := seg_some (segRead_some hu hf)
  unfold segPls
  rw [k1, k2, head_frame h1 hf, ← h2, hT, hl, plsOf_B T l 0 hc hr, ← plsB_shift, Nat.add_zero]
theorem plsB_snoc : ∀ (l : List BatchD) (b : BatchD) (e : Nat), ∃ p, plsB e (l ++ [b]) = plsB e l ++ [p]
  | [], b, e => ⟨e, rfl⟩
  | c :: r, b, e => by
    obtain ⟨p, hp⟩ := plsB_snoc r b (e + sizeD c.seq c.chs)
    exact ⟨p, by simp only [List.cons_append, plsB, hp]⟩
end Go.Proofs.YtmmchemgegmhhaaGreatDoor
