/- Rows of batches as the laws hold them: held against each other, marked, and held against their marks. -/
import Derived.Test.YtmmchemgegmhhaaGreatDoorBatchRow
namespace Go.Proofs.YtmmchemgegmhhaaGreatDoor
open Go.RowKit

/-- The number behind the marks of batches. -/
def markBEnd : Nat → List BatchD → Nat
  | k, [] => k
  | k, b :: r => markBEnd (k + 1 + 3 * b.chs.length) r
/-- The batches marked from k on. -/
def markBatchDs : Nat → List BatchD → List BatchD
  | _, [] => []
  | k, b :: r => ⟨(k : Int), markChangeDs (k + 1) b.chs.length⟩ :: markBatchDs (k + 1 + 3 * b.chs.length) r
theorem markBatchDs_length : ∀ (bs : List BatchD) (k : Nat), (markBatchDs k bs).length = bs.length
  | [], _ => rfl
  | b :: r, k => by simp [markBatchDs, markBatchDs_length r]
theorem markBEnd_snoc : ∀ (bs : List BatchD) (k : Nat) (b : BatchD), markBEnd k (bs ++ [b]) = markBEnd k bs + 1 + 3 * b.chs.length
  | [], _, _ => rfl
  | _ :: r, _, b => markBEnd_snoc r _ b
theorem markBatchDs_snoc : ∀ (bs : List BatchD) (k : Nat) (b : BatchD), markBatchDs k (bs ++ [b]) = markBatchDs k bs ++ [⟨(markBEnd k bs : Nat), markChangeDs (markBEnd k bs + 1) b.chs.length⟩]
  | [], _, _ => rfl
  | c :: r, k, b => by
    show _ :: markBatchDs _ (r ++ [b]) = _ :: (_ ++ _)
    rw [markBatchDs_snoc r _ b]
    rfl
theorem markBEnd_le : ∀ (bs : List BatchD) (k : Nat), (∀ b ∈ bs, b.chs.length ≤ 40) → k ≤ markBEnd k bs ∧ markBEnd k bs ≤ k + 121 * bs.length
  | [], _, _ => by simp [markBEnd]
  | b :: r, k, h => by
    have h1 := h b (List.mem_cons_self ..)
    have h2 := markBEnd_le r (k + 1 + 3 * b.chs.length) (fun c hc => h c (List.mem_cons_of_mem _ hc))
    simp only [markBEnd, List.length_cons]
    omega
theorem markBatchDs_get (bs : List BatchD) (k j : Nat) (h : j < bs.length) : (markBatchDs k bs)[j]? = some ⟨(markBEnd k (bs.take j) : Nat), markChangeDs (markBEnd k (bs.take j) + 1) bs[j].chs.length⟩ := by
  induction bs generalizing k j with
  | nil => simp at h
  | cons b r ih =>
    cases j with
    | zero => rfl
    | succ j =>
      have := ih (k + 1 + 3 * b.chs.length) j (by simpa using h)
      simpa [markBatchDs, markBEnd] using this
/-- The first i are marked, the others as they were. -/
def mixB (k : Nat) (bs : List BatchD) (i : Nat) : List BatchD := markBatchDs k (bs.take i) ++ bs.drop i
theorem mixB_length (k : Nat) (bs : List BatchD) (i : Nat) : (mixB k bs i).length = bs.length := by
  unfold mixB
  rw [List.length_append, markBatchDs_length, ← List.length_append, List.take_append_drop]
theorem mixB_here (k : Nat) (bs : List BatchD) (i : Nat) (h : i < bs.length) : (mixB k bs i)[i]? = some bs[i] := by
  unfold mixB
  rw [List.getElem?_append_right (by rw [markBatchDs_length, List.length_take]; omega), markBatchDs_length, List.length_take, Nat.min_eq_left (by omega), Nat.sub_self, List.getElem?_drop]
  simp [h]
theorem mixB_next (k : Nat) (bs : List BatchD) (i : Nat) (h : i < bs.length) : mixB k bs (i + 1) = (mixB k bs i).set i ⟨(markBEnd k (bs.take i) : Nat), markChangeDs (markBEnd k (bs.take i) + 1) bs[i].chs.length⟩ := by
  unfold mixB
  have hd : bs.drop i = bs[i] :: bs.drop (i + 1) := List.drop_eq_getElem_cons h
  rw [List.take_succ_eq_append_getElem h, markBatchDs_snoc, hd]
  have hl : (markBatchDs k (bs.take i)).length = i := by rw [markBatchDs_length, List.length_take]; omega
  rw [List.set_append_right _ _ (by omega), hl, Nat.sub_self, List.set_cons_zero, List.append_assoc]
  rfl
theorem mixB_end (k : Nat) (bs : List BatchD) : mixB k bs bs.length = markBatchDs k bs := by
  unfold mixB
  rw [List.take_length, List.drop_length, List.append_nil]

/-- One batch of a row gets another number and other changes. -/
theorem kidsIn_set {w w1 w2 : World} {B g i : Nat} {C : Array Value} {L : List BatchD} {x : Value} {q : Int} {fs : List ChangeD} (hI : KidsIn w B g C L) (hi : i < L.length) (hx : C[i * 2 + 1]? = some x) (hs : L.length * 2 ≤ C.size)
    (h1 : ∀ k, k ≠ g → w1.heap[k]? = w.heap[k]?) (hsz : w1.heap.size = w.heap.size) (h2 : w1.grownBy w2 x.ownBlock) (hr : RowChange w2 B x fs) : KidsIn w2 B g (C.setIfInBounds (i * 2) (.int .i64 q)) (L.set i ⟨q, fs⟩) := by
  have odd : ∀ j, (C.setIfInBounds (i * 2) (.int .i64 q))[j * 2 + 1]? = C[j * 2 + 1]? := fun j => Array.getElem?_setIfInBounds_ne (by omega)
  refine ⟨fun j hj => ?_, ?_⟩
  · have hj2 : j < L.length := by rw [List.length_set] at hj; exact hj
    by_cases hji : j = i
    · subst hji
      obtain ⟨-, x', k2, k3, k4⟩ := hI.1 j hj2
      rw [hx] at k2
      obtain rfl := Option.some.inj k2
      refine ⟨?_, x, by rw [odd]; exact hx, ?_, k4⟩
      · rw [Array.getElem?_setIfInBounds_self_of_lt (by omega)]
        simp
      · simpa using hr
    · obtain ⟨k1, y, k2, k3, k4⟩ := hI.1 j hj2
      refine ⟨?_, y, by rw [odd]; exact k2, ?_, k4⟩
      · rw [Array.getElem?_setIfInBounds_ne (by omega), List.getElem_set_ne (by omega)]
        exact k1
      · rw [List.getElem_set_ne (by omega)]
        refine rowChange_keep k3 (fun k hk => ?_)
        have hlt := (rowChange_lt k3 k hk).2
        rw [h2.block k (by omega) (fun e => hI.2 j i y x k hji hj2 hi k2 hx hk e.symm), h1 k (fun e => k4 (by rw [hk, e]))]
  · intro a b y z h hab ha hb hy hz
    rw [List.length_set] at ha hb
    rw [odd] at hy hz
    exact hI.2 a b y z h hab ha hb hy hz

end Go.Proofs.YtmmchemgegmhhaaGreatDoor
