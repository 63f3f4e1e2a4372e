/- Frames in plain words: records come back from their frames; of frames cut anywhere just the whole ones do. -/
import Derived.Test.YtijmlgdeeodehabDoorOne
namespace Go.Proofs.YtijmlgdeeodehabDoor
open Go.RowKit

/-- A number is read the same where more bytes stand behind it. -/
theorem Wd.rvF_mono (s t : ByteArray) : ∀ f p k q n a b, Wd.rvF s f p k q n = some (a, b) → (∀ j, p ≤ j → j < b → Wd.bt s j = Wd.bt t j) → b ≤ t.size → Wd.rvF t f p k q n = some (a, b) := by
  intro f
  induction f with
  | zero => intro p k q n a b h; simp [Wd.rvF] at h
  | succ f ih =>
    intro p k q n a b h he hb
    have hbd := Wd.rvF_bounds s (f + 1) p k q n a b h
    have e := he p (Nat.le_refl _) (by omega)
    have h1 : p < s.size := by omega
    have h1' : p < t.size := by omega
    by_cases h2 : Wd.bt s p < 128
    · by_cases h3 : n + Wd.bt s p % 128 * q ≤ 1000000000 ∧ (0 < Wd.bt s p ∨ k = 0)
      · rw [Wd.rvF_last s f p k q n h1 h2 h3.1 h3.2] at h
        rw [e] at h2 h3 h
        rw [Wd.rvF_last t f p k q n h1' h2 h3.1 h3.2]
        exact h
      · rw [Wd.rvF_not s f p k q n h2 h3] at h; simp at h
    · rw [Wd.rvF_more s f p k q n h1 h2] at h
      rw [e] at h2 h
      rw [Wd.rvF_more t f p k q n h1' h2]
      exact ih _ _ _ _ _ _ h (fun j hj hjb => he j (by omega) hjb) hb

/-- A file of bytes. -/
abbrev file (L : List UInt8) : ByteArray := ⟨L.toArray⟩
theorem file_size (L : List UInt8) : (file L).size = L.length := rfl
theorem file_bt (L : List UInt8) (p : Nat) : Wd.bt (file L) p = (L[p]?.map UInt8.toNat).getD 0 := by
  by_cases h : p < L.length
  · rw [bt_list L p h, List.getElem?_eq_getElem h]; rfl
  · unfold Wd.bt
    rw [dif_neg (by rw [file_size]; omega), List.getElem?_eq_none (by omega)]; rfl
theorem file_extract (L : List UInt8) (a b : Nat) : (file L).extract a b = file ((L.drop a).take (b - a)) := by
  apply ByteArray.ext
  apply Array.toList_inj.1
  simp [List.extract_eq_take_drop]

/-- A record in its frame, as bytes. -/
def frameL (t : List UInt8) : List UInt8 := Wd.varF 5 t.length ++ four (sumL 4294967295 t) ++ t
theorem frameL_of (t : List UInt8) : frameB (file t) = file (frameL t) := by
  apply ByteArray.ext
  apply Array.toList_inj.1
  rw [frameB_list]
  rfl
theorem frameL_len (t : List UInt8) : (frameL t).length = (Wd.varF 5 t.length).length + 4 + t.length := by
  unfold frameL
  rw [List.length_append, List.length_append]
  rfl

/-- A whole frame is told where it stands. -/
theorem frB_at (a t b : List UInt8) (h1 : 1 ≤ t.length) (h2 : t.length ≤ 9000) :
    ∃ x : Nat × Nat, frB (file (a ++ frameL t ++ b)) a.length = some x ∧ x.2 = a.length + (frameL t).length ∧ ((file (a ++ frameL t ++ b)).extract x.1 x.2).data.toList = t := by
  have e : a ++ frameL t ++ b = a ++ Wd.varF 5 t.length ++ (four (sumL 4294967295 t) ++ t ++ b) := by
    unfold frameL; simp only [List.append_assoc]
  have hlen := frameL_len t
  have hr : Wd.rv (file (a ++ frameL t ++ b)) a.length = some (t.length, a.length + (Wd.varF 5 t.length).length) := by
    have := rvI_at a (four (sumL 4294967295 t) ++ t ++ b) t.length (by omega) (a.length : Int) rfl
    rw [← e] at this
    unfold Wd.rvI at this
    rw [if_neg (by
      have : (⟨(a ++ frameL t ++ b).toArray⟩ : ByteArray).size = a.length + (frameL t).length + b.length := by
        show (a ++ frameL t ++ b).length = _
        rw [List.length_append, List.length_append]
      rw [this]; omega), Int.toNat_natCast] at this
    exact this
  have hsz : (file (a ++ frameL t ++ b)).size = a.length + (frameL t).length + b.length := by
    rw [file_size, List.length_append, List.length_append]
  have x1 : (file (a ++ frameL t ++ b)).extract (a.length + (Wd.varF 5 t.length).length) (a.length + (Wd.varF 5 t.length).length + 4) = file (four (sumL 4294967295 t)) := by
    rw [file_extract, e, ← List.length_append, List.drop_left, Nat.add_sub_cancel_left, List.append_assoc (four (sumL 4294967295 t)), List.take_left' (show (four (sumL 4294967295 t)).length = 4 from rfl)]
  have x2 : (file (a ++ frameL t ++ b)).extract (a.length + (Wd.varF 5 t.length).length + 4) (a.length + (Wd.varF 5 t.length).length + 4 + t.length) = file t := by
    rw [file_extract, e, Nat.add_sub_cancel_left]
    have : a ++ Wd.varF 5 t.length ++ (four (sumL 4294967295 t) ++ t ++ b) = (a ++ Wd.varF 5 t.length ++ four (sumL 4294967295 t)) ++ (t ++ b) := by simp only [List.append_assoc]
    rw [this, List.drop_left' (by rw [List.length_append, List.length_append]; rfl), List.take_left' rfl]
  refine ⟨_, frB_yes _ _ _ _ hr ⟨h1, h2, by rw [hsz, hlen]; omega, ?_⟩, by show _ = _; rw [hlen]; omega, ?_⟩
  · rw [x1, x2]; rfl
  · show ((file (a ++ frameL t ++ b)).extract (a.length + (Wd.varF 5 t.length).length + 4) (a.length + (Wd.varF 5 t.length).length + 4 + t.length)).data.toList = t
    rw [x2]

/-- A frame that is cut is none. -/
theorem frB_cut (a t b : List UInt8) (k : Nat) (h1 : 1 ≤ t.length) (h2 : t.length ≤ 9000) (hk : k < a.length + (frameL t).length) : frB (file ((a ++ frameL t ++ b).take k)) a.length = none := by
  cases h : frB (file ((a ++ frameL t ++ b).take k)) a.length with
  | none => rfl
  | some x =>
    exfalso
    obtain ⟨y, hy, hy2, _⟩ := frB_at a t b h1 h2
    have hb := frB_bounds _ _ _ h
    have hz : (file ((a ++ frameL t ++ b).take k)).size ≤ k := by rw [file_size, List.length_take]; omega
    cases hr : Wd.rv (file ((a ++ frameL t ++ b).take k)) a.length with
    | none => rw [frB_num _ _ hr] at h; simp at h
    | some q =>
      obtain ⟨n, p⟩ := q
      have hrb := Wd.rv_bounds _ _ _ _ hr
      have hr2 : Wd.rv (file (a ++ frameL t ++ b)) a.length = some (n, p) := by
        refine Wd.rvF_mono _ _ _ _ _ _ _ _ _ hr (fun j _ hj => ?_) ?_
        · rw [file_bt, file_bt, List.getElem?_take_of_lt (by omega)]
        · have : (file ((a ++ frameL t ++ b).take k)).size ≤ (file (a ++ frameL t ++ b)).size := by rw [file_size, file_size, List.length_take]; omega
          omega
      have hx : x = (p + 4, p + 4 + n) := by
        by_cases hc : 1 ≤ n ∧ n ≤ 9000 ∧ p + 4 + n ≤ (file ((a ++ frameL t ++ b).take k)).size ∧ (file ((a ++ frameL t ++ b).take k)).extract p (p + 4) = ⟨(four (sumB 4294967295 ((file ((a ++ frameL t ++ b).take k)).extract (p + 4) (p + 4 + n)))).toArray⟩
        · rw [frB_yes _ _ n p hr hc] at h; exact (Option.some.inj h).symm
        · rw [frB_no _ _ n p hr hc] at h; simp at h
      have hy' : y = (p + 4, p + 4 + n) := by
        by_cases hc : 1 ≤ n ∧ n ≤ 9000 ∧ p + 4 + n ≤ (file (a ++ frameL t ++ b)).size ∧ (file (a ++ frameL t ++ b)).extract p (p + 4) = ⟨(four (sumB 4294967295 ((file (a ++ frameL t ++ b)).extract (p + 4) (p + 4 + n)))).toArray⟩
        · rw [frB_yes _ _ n p hr2 hc] at hy; exact (Option.some.inj hy).symm
        · rw [frB_no _ _ n p hr2 hc] at hy; simp at hy
      rw [hx] at hb
      rw [hy'] at hy2
      dsimp only at hb hy2
      omega

/-- The frames of records, one behind the other. -/
def framesL : List (List UInt8) → List UInt8
  | [] => []
  | t :: ts => frameL t ++ framesL ts
theorem framesL_snoc (ts : List (List UInt8)) (t : List UInt8) : framesL (ts ++ [t]) = framesL ts ++ frameL t := by
  induction ts with
  | nil => simp [framesL]
  | cons u us ih => simp [framesL, ih, List.append_assoc]

/-- Of frames cut at k just the whole ones are told: from the place behind 'as' on, 'ts' to come. -/
theorem frs_cut (k : Nat) : ∀ (ts : List (List UInt8)) (a : List UInt8) (f : Nat), (∀ t ∈ ts, 1 ≤ t.length ∧ t.length ≤ 9000) → k ≤ (a ++ framesL ts).length → a.length ≤ k → ts.length < f →
    ∃ m, m ≤ ts.length ∧ recs (file ((a ++ framesL ts).take k)) (frs (file ((a ++ framesL ts).take k)) f a.length) = ts.take m ∧
      (match (frs (file ((a ++ framesL ts).take k)) f a.length).getLast? with | some x => x.2 | none => a.length) = (a ++ framesL (ts.take m)).length ∧
      (a ++ framesL (ts.take m)).length ≤ k ∧ (m = ts.length ∨ k < (a ++ framesL (ts.take (m + 1))).length)
  | [], a, f, _, hk, ha, hf => by
    refine ⟨0, Nat.le_refl _, ?_, ?_, by simpa [framesL] using ha, .inl rfl⟩
    all_goals
      have hn : frB (file ((a ++ framesL []).take k)) a.length = none := frB_num _ _ (Wd.rv_at_end _ _ (by rw [file_size, List.length_take]; simp [framesL] at hk ⊢; omega))
      rw [frs_none _ f _ hn]
      simp [recs, framesL]
  | t :: ts, a, 0, _, _, _, hf => absurd hf (by simp)
  | t :: ts, a, f + 1, ht, hk, ha, hf => by
    have e : a ++ framesL (t :: ts) = a ++ frameL t ++ framesL ts := by simp [framesL, List.append_assoc]
    have htt := ht t (by simp)
    by_cases hc : a.length + (frameL t).length ≤ k
    · have hk2 : (a ++ framesL (t :: ts)).take k = (a ++ frameL t) ++ (framesL ts).take (k - (a ++ frameL t).length) := by
        rw [e, List.take_append, List.take_of_length_le (by rw [List.length_append]; omega)]
      obtain ⟨x, hx, hx2, hx3⟩ := frB_at a t ((framesL ts).take (k - (a ++ frameL t).length)) htt.1 htt.2
      rw [← hk2] at hx hx3
      obtain ⟨m, hm, h1, h2, h3, h4⟩ := frs_cut k ts (a ++ frameL t) f (fun u hu => ht u (by simp [hu])) (by rw [← e]; exact hk) (by rw [List.length_append]; exact hc) (by simp at hf; omega)
      rw [← e] at h1 h2
      have hxl : x.2 = (a ++ frameL t).length := by rw [hx2, List.length_append]
      refine ⟨m + 1, by simp; omega, ?_, ?_, ?_, ?_⟩
      · rw [frs_some _ f _ x hx, hxl, List.take_succ_cons]
        show (((file ((a ++ framesL (t :: ts)).take k)).extract x.1 x.2).data.toList) :: recs _ _ = _
        rw [hx3, h1]
      · rw [frs_some _ f _ x hx, hxl, List.take_succ_cons]
        show _ = (a ++ (frameL t ++ framesL (ts.take m))).length
        rw [← List.append_assoc, ← h2]
        cases hl : (frs (file ((a ++ framesL (t :: ts)).take k)) f (a ++ frameL t).length).getLast? with
        | none =>
          have : frs (file ((a ++ framesL (t :: ts)).take k)) f (a ++ frameL t).length = [] := List.getLast?_eq_none_iff.1 hl
          rw [this]
          simpa using hxl
        | some y =>
          rw [List.getLast?_cons, hl]
          rfl
      · rw [List.take_succ_cons]
        show (a ++ (frameL t ++ framesL (ts.take m))).length ≤ k
        rw [← List.append_assoc]; exact h3
      · rcases h4 with h4 | h4
        · left; simp [h4]
        · right
          rw [List.take_succ_cons]
          show k < (a ++ (frameL t ++ framesL (ts.take (m + 1)))).length
          rw [← List.append_assoc]; exact h4
    · refine ⟨0, Nat.zero_le _, ?_, ?_, by simpa [framesL] using ha, .inr ?_⟩
      rotate_left 2
      · simp [framesL]; omega
      all_goals
        have hn : frB (file ((a ++ framesL (t :: ts)).take k)) a.length = none := by rw [e]; exact frB_cut a t (framesL ts) k htt.1 htt.2 (by omega)
        rw [frs_none _ _ _ hn]
        simp [recs, framesL]

/-- Of the frames of records, cut at k, just the whole ones come back. -/
theorem unf_cut (ts : List (List UInt8)) (k : Nat) (ht : ∀ t ∈ ts, 1 ≤ t.length ∧ t.length ≤ 9000) (hk : k ≤ (framesL ts).length) (hs : (framesL ts).length ≤ 20000) :
    ∃ m, m ≤ ts.length ∧ recs (file ((framesL ts).take k)) (unf (file ((framesL ts).take k))) = ts.take m ∧ endOf (unf (file ((framesL ts).take k))) = (framesL (ts.take m)).length ∧
      (framesL (ts.take m)).length ≤ k ∧ (m = ts.length ∨ k < (framesL (ts.take (m + 1))).length) := by
  have hz : (file ((framesL ts).take k)).size = k := by rw [file_size, List.length_take]; omega
  have hu : unf (file ((framesL ts).take k)) = frs (file ((framesL ts).take k)) (ts.length + k + 1) 0 := by
    unfold unf
    rw [if_pos (by rw [hz]; omega)]
    exact frs_same _ _ _ 0 (by omega) (by omega)
  obtain ⟨m, h0, h1, h2, h3, h4⟩ := frs_cut k ts [] (ts.length + k + 1) ht (by simpa using hk) (by simp) (by omega)
  simp only [List.nil_append, List.length_nil] at h1 h2 h3 h4
  refine ⟨m, h0, ?_, ?_, h3, h4⟩
  · rw [hu]; exact h1
  · rw [hu, ← h2]; rfl
end Go.Proofs.YtijmlgdeeodehabDoor
