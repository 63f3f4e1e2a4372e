/- Hints of a directory, plainly: written and read back. -/
import Derived.Test.YtijmlgdeeodehabDoorDirs
import Derived.Test.YtijmlgdeeodehabDoorBatchQ
import Derived.Test.YtijmlgdeeodehabDoorSumI2
namespace Go.Proofs.YtijmlgdeeodehabDoor
open Go.RowKit

/-- A spot in bytes. -/
def spotL (A : SpotD) : List UInt8 := (shortB A.key).data.toList ++ Wd.varF 5 A.seg.toNat ++ Wd.varF 5 A.pos.toNat ++ Wd.varF 5 A.seq.toNat
def spotsL : List SpotD → List UInt8
  | [] => []
  | A :: r => spotL A ++ spotsL r
/-- What is sealed. -/
def hintL (fs : List SpotD) : List UInt8 := Wd.varF 5 fs.length ++ spotsL fs
/-- The hint of a directory, or none. -/
def hintD (fs : List SpotD) : ByteArray := if dirOkD fs then sealB ⟨(hintL fs).toArray⟩ else ⟨#[]⟩
theorem spotsL_snoc : ∀ (a : List SpotD) (A : SpotD), spotsL (a ++ [A]) = spotsL a ++ spotL A
  | [], A => by simp [spotsL]
  | B :: r, A => by simp [spotsL, spotsL_snoc r A, List.append_assoc]

theorem okSpt_all : ∀ (fs : List SpotD) (p : Option ByteArray), okSpt p fs = true → ∀ A ∈ fs, spotOkD A = true
  | [], _, _, _, h => absurd h List.not_mem_nil
  | B :: r, p, h, A, hA => by
    have h1 : spotOkD B = true ∧ okSpt (some B.key) r = true := by
      cases p <;> simp only [okSpt, Bool.and_eq_true] at h
      · exact h
      · exact ⟨h.1, h.2.2⟩
    rcases List.mem_cons.1 hA with rfl | hA
    · exact h1.1
    · exact okSpt_all r _ h1.2 A hA
theorem dirOkD_all {fs : List SpotD} (h : dirOkD fs = true) : fs.length ≤ 200 ∧ ∀ A ∈ fs, (1 ≤ A.key.size ∧ A.key.size ≤ 20) ∧ (0 ≤ A.seg ∧ A.seg ≤ 99) ∧ (0 ≤ A.pos ∧ A.pos ≤ 20000) ∧ (0 ≤ A.seq ∧ A.seq ≤ 1000000000) := by
  unfold dirOkD at h
  simp only [Bool.and_eq_true, decide_eq_true_eq] at h
  refine ⟨h.1, fun A hA => ?_⟩
  have := okSpt_all fs none h.2 A hA
  unfold spotOkD at this
  simpa using this
theorem spotL_le (A : SpotD) (h : A.key.size ≤ 20) : (spotL A).length ≤ 40 := by
  have h1 := shortB_len A.key
  have h2 := Wd.varF_length 5 A.key.size
  have h3 := Wd.varF_length 5 A.seg.toNat
  have h4 := Wd.varF_length 5 A.pos.toNat
  have h5 := Wd.varF_length 5 A.seq.toNat
  have e : (shortB A.key).data.toList.length = (shortB A.key).size := rfl
  unfold spotL
  simp only [List.length_append]
  omega
theorem spotsL_le : ∀ fs : List SpotD, (∀ A ∈ fs, A.key.size ≤ 20) → (spotsL fs).length ≤ 40 * fs.length
  | [], _ => Nat.le_refl _
  | A :: r, h => by
    have h1 := spotL_le A (h A (List.mem_cons_self ..))
    have h2 := spotsL_le r (fun B hB => h B (List.mem_cons_of_mem _ hB))
    simp only [spotsL, List.length_append, List.length_cons]
    omega
/-- A right directory's hint always fits. -/
theorem hintL_le {fs : List SpotD} (h : dirOkD fs = true) : (hintL fs).length ≤ 8005 := by
  obtain ⟨h1, h2⟩ := dirOkD_all h
  have h3 := spotsL_le fs (fun A hA => (h2 A hA).1.2)
  have h4 := Wd.varF_length 5 fs.length
  unfold hintL
  rw [List.length_append]
  omega

/-- One spot is read. -/
def spStep (t : ByteArray) (i : Nat) (bad : Bool) : SpotD × Nat × Bool :=
  let a := shortC t i bad
  let b := varC t a.2.1 a.2.2
  let c := varC t b.2.1 b.2.2
  let d := varC t c.2.1 c.2.2
  (⟨a.1, b.1, c.1, d.1⟩, d.2)
def spF (t : ByteArray) : Nat → Nat → Bool → List SpotD → List SpotD × Bool
  | 0, _, bad, acc => (acc, bad)
  | _ + 1, _, true, acc => (acc, true)
  | f + 1, i, false, acc => spF t f (spStep t i false).2.1 (spStep t i false).2.2 (acc ++ [(spStep t i false).1])
theorem spF_bad (t : ByteArray) (f i : Nat) (acc : List SpotD) : spF t f i true acc = (acc, true) := by cases f <;> rfl
/-- The spots, and whether the text is not of the form. -/
def hintRaw (t : ByteArray) (bad : Bool) : List SpotD × Bool :=
  let a := varC t 0 bad
  spF t (min a.1 300) a.2.1 a.2.2 []
/-- Is a text sealed? What stands in it? -/
def unsOk (s : ByteArray) : Bool := decide (4 ≤ s.size ∧ s.size ≤ 20004 ∧ sealB (foreB s) = s)
def unsD (s : ByteArray) : ByteArray := if unsOk s then foreB s else ⟨#[]⟩
/-- Is a text a hint? Of which directory? -/
def hintOk (s : ByteArray) : Bool := !(hintRaw (unsD s) (!unsOk s)).2 && (dirOkD (hintRaw (unsD s) (!unsOk s)).1 && decide (hintD (hintRaw (unsD s) (!unsOk s)).1 = s))
def hintDir (s : ByteArray) : List SpotD := if hintOk s then (hintRaw (unsD s) (!unsOk s)).1 else []
theorem hintDir_len (s : ByteArray) : (hintDir s).length ≤ 200 := by
  unfold hintDir
  split
  · rename_i h
    unfold hintOk at h
    simp only [Bool.and_eq_true] at h
    exact (dirOkD_all h.2.1).1
  · exact Nat.zero_le _

theorem spStep_at {t : ByteArray} (a b : List UInt8) (A : SpotD) (hk : A.key.size ≤ 20) (h1 : 0 ≤ A.seg ∧ A.seg ≤ 1000000000) (h2 : 0 ≤ A.pos ∧ A.pos ≤ 1000000000) (h3 : 0 ≤ A.seq ∧ A.seq ≤ 1000000000) (ht : t = ⟨(a ++ spotL A ++ b).toArray⟩) : spStep t a.length false = (A, a.length + (spotL A).length, false) := by
  unfold spotL at ht
  have k1 := shortC_at (t := t) a (Wd.varF 5 A.seg.toNat ++ Wd.varF 5 A.pos.toNat ++ Wd.varF 5 A.seq.toNat ++ b) A.key (by omega) (by rw [ht]; simp only [List.append_assoc])
  have k2 := varC_at (t := t) (a ++ (shortB A.key).data.toList) (Wd.varF 5 A.pos.toNat ++ Wd.varF 5 A.seq.toNat ++ b) A.seg.toNat (by omega) (by rw [ht]; simp only [List.append_assoc])
  have k3 := varC_at (t := t) (a ++ (shortB A.key).data.toList ++ Wd.varF 5 A.seg.toNat) (Wd.varF 5 A.seq.toNat ++ b) A.pos.toNat (by omega) (by rw [ht]; simp only [List.append_assoc])
  have k4 := varC_at (t := t) (a ++ (shortB A.key).data.toList ++ Wd.varF 5 A.seg.toNat ++ Wd.varF 5 A.pos.toNat) b A.seq.toNat (by omega) (by rw [ht]; simp only [List.append_assoc])
  have e1 : (shortB A.key).data.toList.length = (shortB A.key).size := rfl
  simp only [List.length_append, e1] at k2 k3 k4
  unfold spStep spotL
  simp only [k1, k2, k3, k4, List.length_append, e1]
  obtain ⟨key, seg, pos, seq⟩ := A
  simp only at h1 h2 h3 ⊢
  rw [Int.toNat_of_nonneg h1.1, Int.toNat_of_nonneg h2.1, Int.toNat_of_nonneg h3.1]
  simp only [Nat.add_assoc]
theorem spF_at {t : ByteArray} : ∀ (fs : List SpotD) (a b : List UInt8) (acc : List SpotD), (∀ A ∈ fs, A.key.size ≤ 20 ∧ (0 ≤ A.seg ∧ A.seg ≤ 1000000000) ∧ (0 ≤ A.pos ∧ A.pos ≤ 1000000000) ∧ (0 ≤ A.seq ∧ A.seq ≤ 1000000000)) → t = ⟨(a ++ spotsL fs ++ b).toArray⟩ → spF t fs.length a.length false acc = (acc ++ fs, false)
  | [], a, b, acc, _, _ => by simp [spF]
  | A :: r, a, b, acc, hs, ht => by
    obtain ⟨h1, h2, h3, h4⟩ := hs A (List.mem_cons_self ..)
    have k1 := spStep_at (t := t) a (spotsL r ++ b) A h1 h2 h3 h4 (by rw [ht]; simp only [spotsL, List.append_assoc])
    have k2 := spF_at (t := t) r (a ++ spotL A) b (acc ++ [A]) (fun B hB => hs B (List.mem_cons_of_mem _ hB)) (by rw [ht]; simp only [spotsL, List.append_assoc])
    rw [List.length_append] at k2
    rw [List.length_cons]
    simp only [spF, k1]
    rw [k2]
    simp
theorem hintRaw_back {fs : List SpotD} (h : dirOkD fs = true) : hintRaw ⟨(hintL fs).toArray⟩ false = (fs, false) := by
  obtain ⟨h1, h2⟩ := dirOkD_all h
  obtain ⟨t, ht⟩ : ∃ t : ByteArray, t = ⟨(hintL fs).toArray⟩ := ⟨_, rfl⟩
  rw [← ht]
  unfold hintL at ht
  have k1 := varC_at (t := t) [] (spotsL fs) fs.length (by omega) (by rw [ht, List.nil_append])
  have k2 := spF_at (t := t) fs (Wd.varF 5 fs.length) [] [] (fun A hA => by have := h2 A hA; exact ⟨this.1.2, by omega, by omega, by omega⟩) (by rw [ht, List.append_nil])
  simp only [List.length_nil, Nat.zero_add, List.nil_append] at k1 k2
  unfold hintRaw
  simp only [k1]
  rw [Nat.min_eq_left (by omega), k2]
theorem foreB_seal (s : ByteArray) : foreB (sealB s) = s := by
  have e : (sealB s).size = s.size + 4 := by unfold sealB; rw [ByteArray.size_append]; rfl
  unfold foreB
  rw [e, Nat.add_sub_cancel]
  unfold sealB
  exact ByteArray.extract_append_eq_left rfl
/-- A hint is read back. -/
theorem hint_back {fs : List SpotD} (h : dirOkD fs = true) : hintOk (hintD fs) = true ∧ hintDir (hintD fs) = fs := by
  have hz := hintL_le h
  obtain ⟨t, ht⟩ : ∃ t : ByteArray, t = ⟨(hintL fs).toArray⟩ := ⟨_, rfl⟩
  have htz : t.size ≤ 8005 := by rw [ht, size_of_list]; exact hz
  have hD : hintD fs = sealB t := by unfold hintD; rw [if_pos h, ht]
  have e : (sealB t).size = t.size + 4 := by unfold sealB; rw [ByteArray.size_append]; rfl
  have hu : unsOk (hintD fs) = true := by
    rw [hD]
    unfold unsOk
    rw [foreB_seal, e]
    simp
    omega
  have hr := hintRaw_back h
  rw [← ht] at hr
  have hd : unsD (hintD fs) = t := by unfold unsD; rw [if_pos hu, hD, foreB_seal]
  have hok : hintOk (hintD fs) = true := by
    unfold hintOk
    rw [hd, hu, Bool.not_true, hr]
    simp [h]
  refine ⟨hok, ?_⟩
  unfold hintDir
  rw [if_pos hok, hd, hu, Bool.not_true, hr]
end Go.Proofs.YtijmlgdeeodehabDoor
