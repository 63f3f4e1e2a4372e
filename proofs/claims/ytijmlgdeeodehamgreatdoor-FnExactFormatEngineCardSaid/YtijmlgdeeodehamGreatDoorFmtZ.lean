/- Of: FrameQ SegT MarkF MarkD LawReadHint FmtP EngI8 FmtI FmtS EngM LawFormat. -/
import Derived.Test.YtijmlgdeeodehamGreatDoorOne
import Derived.Test.YtijmlgdeeodehamGreatDoorSegs
import Derived.Test.YtijmlgdeeodehamGreatDoorFiles
import Derived.Test.YtijmlgdeeodehamGreatDoorMarkText
import Derived.Test.YtijmlgdeeodehamGreatDoorSpotL
import Derived.Test.YtijmlgdeeodehamGreatDoorEngA
import Derived.Test.YtijmlgdeeodehamGreatDoorEngD
import Derived.Test.YtijmlgdeeodehamGreatDoorEngF
import Derived.Test.YtijmlgdeeodehamGreatDoorSegS0
/- Frames in plain words: records come back from their frames; of frames cut anywhere just the whole ones do. -/
namespace Go.Proofs.YtijmlgdeeodehamGreatDoor
open Go.RowKit

/-- A number is read the same where more bytes stand behind it. -/
theorem Wd.rvF_mono (s t : ByteArray) : ∀ f p k q n a b, Wd.rvF s f p k q n = some (a, b) → (∀ j, p ≤ j → j < b → Wd.bt s j = Wd.bt t j) → b ≤ t.size → Wd.rvF t f p k q n = some (a, b) := by
  intro f
  induction f with
  | zero => intro p k q n a b h; simp [Wd.rvF] at h
  | succ f ih =>
    intro p k q n a b h he hb
    have hbd := Wd.rvF_bounds s (f + 1) p k q n a b h
    have e := he p (Nat.le_refl _) (by omega)
    have h1 : p < s.size := by omega
    have h1' : p < t.size := by omega
    by_cases h2 : Wd.bt s p < 128
    · by_cases h3 : n + Wd.bt s p % 128 * q ≤ 1000000000 ∧ (0 < Wd.bt s p ∨ k = 0)
      · rw [Wd.rvF_last s f p k q n h1 h2 h3.1 h3.2] at h
        rw [e] at h2 h3 h
        rw [Wd.rvF_last t f p k q n h1' h2 h3.1 h3.2]
        exact h
      · rw [Wd.rvF_not s f p k q n h2 h3] at h; simp at h
    · rw [Wd.rvF_more s f p k q n h1 h2] at h
      rw [e] at h2 h
      rw [Wd.rvF_more t f p k q n h1' h2]
      exact ih _ _ _ _ _ _ h (fun j hj hjb => he j (by omega) hjb) hb

/-- A file of bytes. -/
abbrev file (L : List UInt8) : ByteArray := ⟨L.toArray⟩
theorem file_size (L : List UInt8) : (file L).size = L.length := rfl
theorem file_bt (L : List UInt8) (p : Nat) : Wd.bt (file L) p = (L[p]?.map UInt8.toNat).getD 0 := by
  by_cases h : p < L.length
  · rw [bt_list L p h, List.getElem?_eq_getElem h]; rfl
  · unfold Wd.bt
    rw [dif_neg (by rw [file_size]; omega), List.getElem?_eq_none (by omega)]; rfl
theorem file_extract (L : List UInt8) (a b : Nat) : (file L).extract a b = file ((L.drop a).take (b - a)) := by
  apply ByteArray.ext
  apply Array.toList_inj.1
  simp [List.extract_eq_take_drop]

/-- A record in its frame, as bytes. -/
def frameL (t : List UInt8) : List UInt8 := Wd.varF 5 t.length ++ four (sumL 4294967295 t) ++ t
theorem frameL_of (t : List UInt8) : frameB (file t) = file (frameL t) := by
  apply ByteArray.ext
  apply Array.toList_inj.1
  rw [frameB_list]
  rfl
theorem frameL_len (t : List UInt8) : (frameL t).length = (Wd.varF 5 t.length).length + 4 + t.length := by
  unfold frameL
  rw [List.length_append, List.length_append]
  rfl

/-- A whole frame is told where it stands. -/
theorem frB_at (a t b : List UInt8) (h1 : 1 ≤ t.length) (h2 : t.length ≤ 9000) :
    ∃ x : Nat × Nat, frB (file (a ++ frameL t ++ b)) a.length = some x ∧ x.2 = a.length + (frameL t).length ∧ ((file (a ++ frameL t ++ b)).extract x.1 x.2).data.toList = t := by
  have e : a ++ frameL t ++ b = a ++ Wd.varF 5 t.length ++ (four (sumL 4294967295 t) ++ t ++ b) := by
    unfold frameL; simp only [List.append_assoc]
  have hlen := frameL_len t
  have hr : Wd.rv (file (a ++ frameL t ++ b)) a.length = some (t.length, a.length + (Wd.varF 5 t.length).length) := by
    have := rvI_at a (four (sumL 4294967295 t) ++ t ++ b) t.length (by omega) (a.length : Int) rfl
    rw [← e] at this
    unfold Wd.rvI at this
    rw [if_neg (by
      have : (⟨(a ++ frameL t ++ b).toArray⟩ : ByteArray).size = a.length + (frameL t).length + b.length := by
        show (a ++ frameL t ++ b).length = _
        rw [List.length_append, List.length_append]
      rw [this]; omega), Int.toNat_natCast] at this
    exact this
  have hsz : (file (a ++ frameL t ++ b)).size = a.length + (frameL t).length + b.length := by
    rw [file_size, List.length_append, List.length_append]
  have x1 : (file (a ++ frameL t ++ b)).extract (a.length + (Wd.varF 5 t.length).length) (a.length + (Wd.varF 5 t.length).length + 4) = file (four (sumL 4294967295 t)) := by
    rw [file_extract, e, ← List.length_append, List.drop_left, Nat.add_sub_cancel_left, List.append_assoc (four (sumL 4294967295 t)), List.take_left' (show (four (sumL 4294967295 t)).length = 4 from rfl)]
  have x2 : (file (a ++ frameL t ++ b)).extract (a.length + (Wd.varF 5 t.length).length + 4) (a.length + (Wd.varF 5 t.length).length + 4 + t.length) = file t := by
    rw [file_extract, e, Nat.add_sub_cancel_left]
    have : a ++ Wd.varF 5 t.length ++ (four (sumL 4294967295 t) ++ t ++ b) = (a ++ Wd.varF 5 t.length ++ four (sumL 4294967295 t)) ++ (t ++ b) := by simp only [List.append_assoc]
    rw [this, List.drop_left' (by rw [List.length_append, List.length_append]; rfl), List.take_left' rfl]
  refine ⟨_, frB_yes _ _ _ _ hr ⟨h1, h2, by rw [hsz, hlen]; omega, ?_⟩, by show _ = _; rw [hlen]; omega, ?_⟩
  · rw [x1, x2]; rfl
  · show ((file (a ++ frameL t ++ b)).extract (a.length + (Wd.varF 5 t.length).length + 4) (a.length + (Wd.varF 5 t.length).length + 4 + t.length)).data.toList = t
    rw [x2]

/-- A frame that is cut is none. -/
theorem frB_cut (a t b : List UInt8) (k : Nat) (h1 : 1 ≤ t.length) (h2 : t.length ≤ 9000) (hk : k < a.length + (frameL t).length) : frB (file ((a ++ frameL t ++ b).take k)) a.length = none := by
  cases h : frB (file ((a ++ frameL t ++ b).take k)) a.length with
  | none => rfl
  | some x =>
    exfalso
    obtain ⟨y, hy, hy2, _⟩ := frB_at a t b h1 h2
    have hb := frB_bounds _ _ _ h
    have hz : (file ((a ++ frameL t ++ b).take k)).size ≤ k := by rw [file_size, List.length_take]; omega
    cases hr : Wd.rv (file ((a ++ frameL t ++ b).take k)) a.length with
    | none => rw [frB_num _ _ hr] at h; simp at h
    | some q =>
      obtain ⟨n, p⟩ := q
      have hrb := Wd.rv_bounds _ _ _ _ hr
      have hr2 : Wd.rv (file (a ++ frameL t ++ b)) a.length = some (n, p) := by
        refine Wd.rvF_mono _ _ _ _ _ _ _ _ _ hr (fun j _ hj => ?_) ?_
        · rw [file_bt, file_bt, List.getElem?_take_of_lt (by omega)]
        · have : (file ((a ++ frameL t ++ b).take k)).size ≤ (file (a ++ frameL t ++ b)).size := by rw [file_size, file_size, List.length_take]; omega
          omega
      have hx : x = (p + 4, p + 4 + n) := by
        by_cases hc : 1 ≤ n ∧ n ≤ 9000 ∧ p + 4 + n ≤ (file ((a ++ frameL t ++ b).take k)).size ∧ (file ((a ++ frameL t ++ b).take k)).extract p (p + 4) = ⟨(four (sumB 4294967295 ((file ((a ++ frameL t ++ b).take k)).extract (p + 4) (p + 4 + n)))).toArray⟩
        · rw [frB_yes _ _ n p hr hc] at h; exact (Option.some.inj h).symm
        · rw [frB_no _ _ n p hr hc] at h; simp at h
      have hy' : y = (p + 4, p + 4 + n) := by
        by_cases hc : 1 ≤ n ∧ n ≤ 9000 ∧ p + 4 + n ≤ (file (a ++ frameL t ++ b)).size ∧ (file (a ++ frameL t ++ b)).extract p (p + 4) = ⟨(four (sumB 4294967295 ((file (a ++ frameL t ++ b)).extract (p + 4) (p + 4 + n)))).toArray⟩
        · rw [frB_yes _ _ n p hr2 hc] at hy; exact (Option.some.inj hy).symm
        · rw [frB_no _ _ n p hr2 hc] at hy; simp at hy
      rw [hx] at hb
      rw [hy'] at hy2
      dsimp only at hb hy2
      omega

/-- The frames of records, one behind the other. -/
def framesL : List (List UInt8) → List UInt8
  | [] => []
  | t :: ts => frameL t ++ framesL ts
theorem framesL_snoc (ts : List (List UInt8)) (t : List UInt8) : framesL (ts ++ [t]) = framesL ts ++ frameL t := by
  induction ts with
  | nil => simp [framesL]
  | cons u us ih => simp [framesL, ih, List.append_assoc]

/-- Of frames cut at k just the whole ones are told: from the place behind 'as' on, 'ts' to come. -/
theorem frs_cut (k : Nat) : ∀ (ts : List (List UInt8)) (a : List UInt8) (f : Nat), (∀ t ∈ ts, 1 ≤ t.length ∧ t.length ≤ 9000) → k ≤ (a ++ framesL ts).length → a.length ≤ k → ts.length < f →
    ∃ m, m ≤ ts.length ∧ recs (file ((a ++ framesL ts).take k)) (frs (file ((a ++ framesL ts).take k)) f a.length) = ts.take m ∧
      (match (frs (file ((a ++ framesL ts).take k)) f a.length).getLast? with | some x => x.2 | none => a.length) = (a ++ framesL (ts.take m)).length ∧
      (a ++ framesL (ts.take m)).length ≤ k ∧ (m = ts.length ∨ k < (a ++ framesL (ts.take (m + 1))).length)
  | [], a, f, _, hk, ha, hf => by
    refine ⟨0, Nat.le_refl _, ?_, ?_, by simpa [framesL] using ha, .inl rfl⟩
    all_goals
      have hn : frB (file ((a ++ framesL []).take k)) a.length = none := frB_num _ _ (Wd.rv_at_end _ _ (by rw [file_size, List.length_take]; simp [framesL] at hk ⊢; omega))
      rw [frs_none _ f _ hn]
      simp [recs, framesL]
  | t :: ts, a, 0, _, _, _, hf => absurd hf (by simp)
  | t :: ts, a, f + 1, ht, hk, ha, hf => by
    have e : a ++ framesL (t :: ts) = a ++ frameL t ++ framesL ts := by simp [framesL, List.append_assoc]
    have htt := ht t (by simp)
    by_cases hc : a.length + (frameL t).length ≤ k
    · have hk2 : (a ++ framesL (t :: ts)).take k = (a ++ frameL t) ++ (framesL ts).take (k - (a ++ frameL t).length) := by
        rw [e, List.take_append, List.take_of_length_le (by rw [List.length_append]; omega)]
      obtain ⟨x, hx, hx2, hx3⟩ := frB_at a t ((framesL ts).take (k - (a ++ frameL t).length)) htt.1 htt.2
      rw [← hk2] at hx hx3
      obtain ⟨m, hm, h1, h2, h3, h4⟩ := frs_cut k ts (a ++ frameL t) f (fun u hu => ht u (by simp [hu])) (by rw [← e]; exact hk) (by rw [List.length_append]; exact hc) (by simp at hf; omega)
      rw [← e] at h1 h2
      have hxl : x.2 = (a ++ frameL t).length := by rw [hx2, List.length_append]
      refine ⟨m + 1, by simp; omega, ?_, ?_, ?_, ?_⟩
      · rw [frs_some _ f _ x hx, hxl, List.take_succ_cons]
        show (((file ((a ++ framesL (t :: ts)).take k)).extract x.1 x.2).data.toList) :: recs _ _ = _
        rw [hx3, h1]
      · rw [frs_some _ f _ x hx, hxl, List.take_succ_cons]
        show _ = (a ++ (frameL t ++ framesL (ts.take m))).length
        rw [← List.append_assoc, ← h2]
        cases hl : (frs (file ((a ++ framesL (t :: ts)).take k)) f (a ++ frameL t).length).getLast? with
        | none =>
          have : frs (file ((a ++ framesL (t :: ts)).take k)) f (a ++ frameL t).length = [] := List.getLast?_eq_none_iff.1 hl
          rw [this]
          simpa using hxl
        | some y =>
          rw [List.getLast?_cons, hl]
          rfl
      · rw [List.take_succ_cons]
        show (a ++ (frameL t ++ framesL (ts.take m))).length ≤ k
        rw [← List.append_assoc]; exact h3
      · rcases h4 with h4 | h4
        · left; simp [h4]
        · right
          rw [List.take_succ_cons]
          show k < (a ++ (frameL t ++ framesL (ts.take (m + 1)))).length
          rw [← List.append_assoc]; exact h4
    · refine ⟨0, Nat.zero_le _, ?_, ?_, by simpa [framesL] using ha, .inr ?_⟩
      rotate_left 2
      · simp [framesL]; omega
      all_goals
        have hn : frB (file ((a ++ framesL (t :: ts)).take k)) a.length = none := by rw [e]; exact frB_cut a t (framesL ts) k htt.1 htt.2 (by omega)
        rw [frs_none _ _ _ hn]
        simp [recs, framesL]

/-- Of the frames of records, cut at k, just the whole ones come back. -/
theorem unf_cut (ts : List (List UInt8)) (k : Nat) (ht : ∀ t ∈ ts, 1 ≤ t.length ∧ t.length ≤ 9000) (hk : k ≤ (framesL ts).length) (hs : (framesL ts).length ≤ 20000) :
    ∃ m, m ≤ ts.length ∧ recs (file ((framesL ts).take k)) (unf (file ((framesL ts).take k))) = ts.take m ∧ endOf (unf (file ((framesL ts).take k))) = (framesL (ts.take m)).length ∧
      (framesL (ts.take m)).length ≤ k ∧ (m = ts.length ∨ k < (framesL (ts.take (m + 1))).length) := by
  have hz : (file ((framesL ts).take k)).size = k := by rw [file_size, List.length_take]; omega
  have hu : unf (file ((framesL ts).take k)) = frs (file ((framesL ts).take k)) (ts.length + k + 1) 0 := by
    unfold unf
    rw [if_pos (by rw [hz]; omega)]
    exact frs_same _ _ _ 0 (by omega) (by omega)
  obtain ⟨m, h0, h1, h2, h3, h4⟩ := frs_cut k ts [] (ts.length + k + 1) ht (by simpa using hk) (by simp) (by omega)
  simp only [List.nil_append, List.length_nil] at h1 h2 h3 h4
  refine ⟨m, h0, ?_, ?_, h3, h4⟩
  · rw [hu]; exact h1
  · rw [hu, ← h2]; rfl
end Go.Proofs.YtijmlgdeeodehamGreatDoor

/- Segments in plain words: what is put behind a head is read again; bytes behind it that are none, and any cut, change nothing ahead. -/
namespace Go.Proofs.YtijmlgdeeodehamGreatDoor
open Go.RowKit

theorem back_file (t : ByteArray) (L : List UInt8) (h : t.data.toList = L) : t = file L := by
  subst h
  cases t
  rfl
/-- Texts of batches whose numbers rise behind a last one. -/
def risingT : Int → List (List UInt8) → Prop
  | _, [] => True
  | last, t :: r => rdOk (file t) = true ∧ last < rdSeq (file t) ∧ risingT (rdSeq (file t)) r
/-- The batches of such texts. -/
def bsT (ts : List (List UInt8)) : List BatchD := ts.map fun t => ⟨rdSeq (file t), rdChanges (file t)⟩
theorem bsT_take (ts : List (List UInt8)) (m : Nat) : bsT (ts.take m) = (bsT ts).take m := by unfold bsT; rw [List.map_take]
theorem risingT_take : ∀ (ts : List (List UInt8)) (last : Int) (m : Nat), risingT last ts → risingT last (ts.take m)
  | [], _, _, _ => by simp [risingT]
  | _ :: _, _, 0, _ => by simp [risingT]
  | t :: r, last, m + 1, h => ⟨h.1, h.2.1, risingT_take r _ m h.2.2⟩
/-- The place behind the last of some frames. -/
def endOr (e : Nat) (l : List (Nat × Nat)) : Nat := match l.getLast? with
  | some x => x.2
  | none => e
theorem endOr_cons (e : Nat) (x : Nat × Nat) (r : List (Nat × Nat)) : endOr e (x :: r) = endOr x.2 r := by
  unfold endOr
  rw [List.getLast?_cons]
  cases r.getLast? <;> rfl
theorem ris_T (s : ByteArray) : ∀ (l : List (Nat × Nat)) (ts : List (List UInt8)) (last : Int) (e : Nat), recs s l = ts → risingT last ts → ris s l last e = (bsT ts, endOr e l)
  | [], ts, last, e, h, _ => by
    obtain rfl : ts = [] := h.symm
    rfl
  | x :: r, ts, last, e, h, hr => by
    cases ts with
    | nil => simp [recs] at h
    | cons t q =>
      have h1 : (s.extract x.1 x.2).data.toList = t := by simp [recs] at h; simpa using h.1
      have h2 : recs s r = q := by simp only [recs, List.map_cons, List.cons.injEq] at h; exact h.2
      have hx := back_file _ _ h1
      obtain ⟨k1, k2, k3⟩ := hr
      rw [ris_more (by rw [hx]; exact k1) (by rw [hx]; exact k2), hx, ris_T s r q _ x.2 h2 k3, endOr_cons]
      rfl

/-- Frames, and bytes behind them that are none. -/
theorem frs_tail (b : List UInt8) : ∀ (ts : List (List UInt8)) (a : List UInt8) (f : Nat), (∀ t ∈ ts, 1 ≤ t.length ∧ t.length ≤ 9000) → ts.length < f → frB (file (a ++ framesL ts ++ b)) (a ++ framesL ts).length = none →
    recs (file (a ++ framesL ts ++ b)) (frs (file (a ++ framesL ts ++ b)) f a.length) = ts ∧ endOr a.length (frs (file (a ++ framesL ts ++ b)) f a.length) = (a ++ framesL ts).length
  | [], a, f, _, _, hn => by
    have e : a ++ framesL [] = a := by simp [framesL]
    rw [e] at hn ⊢
    rw [frs_none _ f _ hn]
    exact ⟨rfl, rfl⟩
  | t :: r, a, 0, _, hf, _ => absurd hf (by simp)
  | t :: r, a, f + 1, ht, hf, hn => by
    have e : a ++ framesL (t :: r) = a ++ frameL t ++ framesL r := by simp [framesL, List.append_assoc]
    have htt := ht t (by simp)
    rw [e] at hn ⊢
    obtain ⟨x, hx, hx2, hx3⟩ := frB_at a t (framesL r ++ b) htt.1 htt.2
    rw [show a ++ frameL t ++ (framesL r ++ b) = a ++ frameL t ++ framesL r ++ b by simp only [List.append_assoc]] at hx hx3
    have ih := frs_tail b r (a ++ frameL t) f (fun u hu => ht u (by simp [hu])) (by simpa using hf) hn
    have hxl : x.2 = (a ++ frameL t).length := by rw [hx2, List.length_append]
    rw [frs_some _ f _ x hx, endOr_cons, hxl]
    refine ⟨?_, ih.2⟩
    show ((file (a ++ frameL t ++ framesL r ++ b)).extract x.1 x.2).data.toList :: recs _ _ = _
    rw [hx3, ih.1]

theorem headL_len (n f : Nat) : 1 ≤ (headL n f).length ∧ (headL n f).length ≤ 11 := by
  have h1 := Wd.varF_len 5 n
  have h2 := Wd.varF_len 5 f
  unfold headL
  rw [List.length_append, List.length_append]
  simp only [List.length_cons, List.length_nil]
  omega
theorem hd_file (n f : Nat) (hn : n ≤ 99) (hf : f ≤ n) : hdFrom (n : Int) (file (headL n f)) = some f := (hdFrom_iff _ _ _).2 ⟨by omega, by omega, by omega, by rw [Int.toNat_natCast]⟩

/-- What is read of a file whose records are a head and texts of batches. -/
theorem seg_read {n f : Nat} (hn : n ≤ 99) (hf : f ≤ n) {ts : List (List UInt8)} (hts : risingT (-1) ts) {s : ByteArray} (hs : recs s (unf s) = headL n f :: ts) : segRead (n : Int) s = some (f, bsT ts, endOf (unf s)) := by
  cases hu : unf s with
  | nil => rw [hu] at hs; simp [recs] at hs
  | cons x r =>
    rw [hu] at hs
    have h1 : (s.extract x.1 x.2).data.toList = headL n f := by simp only [recs, List.map_cons, List.cons.injEq] at hs; exact hs.1
    have h2 : recs s r = ts := by simp only [recs, List.map_cons, List.cons.injEq] at hs; exact hs.2
    have hx := back_file _ _ h1
    rw [segRead_some hu (f := f) (by rw [hx]; exact hd_file n f hn hf), ris_T s r ts (-1) x.2 h2 hts]
    have : endOf (x :: r) = endOr x.2 r := by
      have := endOr_cons 0 x r
      rw [← this]
      unfold endOf endOr
      cases (x :: r).getLast? <;> rfl
    rw [this]

theorem seg_whole (n f : Nat) (hn : n ≤ 99) (hf : f ≤ n) (ts : List (List UInt8)) (hts : risingT (-1) ts) (hl : ∀ t ∈ ts, 1 ≤ t.length ∧ t.length ≤ 9000) (b : List UInt8) (hsz : (framesL (headL n f :: ts) ++ b).length ≤ 20000)
    (hb : frB (file (framesL (headL n f :: ts) ++ b)) (framesL (headL n f :: ts)).length = none) : segRead (n : Int) (file (framesL (headL n f :: ts) ++ b)) = some (f, bsT ts, (framesL (headL n f :: ts)).length) := by
  have hH := headL_len n f
  have hall : ∀ t ∈ headL n f :: ts, 1 ≤ t.length ∧ t.length ≤ 9000 := by
    intro t ht
    rcases List.mem_cons.1 ht with rfl | ht
    · omega
    · exact hl t ht
  obtain ⟨F, hF⟩ : ∃ F, F = (headL n f :: ts).length + (file (framesL (headL n f :: ts) ++ b)).size + 1 := ⟨_, rfl⟩
  have hu : unf (file (framesL (headL n f :: ts) ++ b)) = frs (file (framesL (headL n f :: ts) ++ b)) F 0 := by
    unfold unf
    rw [if_pos (by rw [file_size]; exact hsz)]
    exact frs_same _ _ _ 0 (by omega) (by omega)
  have ht := frs_tail b (headL n f :: ts) [] F hall (by omega) (by simpa using hb)
  simp only [List.nil_append, List.length_nil] at ht
  have h := seg_read hn hf hts (s := file (framesL (headL n f :: ts) ++ b)) (by rw [hu]; exact ht.1)
  rw [h, hu]
  have : ∀ l, endOf l = endOr 0 l := fun l => by unfold endOf endOr; cases l.getLast? <;> rfl
  rw [this, ht.2]

theorem end_none (L : List UInt8) : frB (file (L ++ [])) L.length = none := frB_num _ _ (Wd.rv_at_end _ _ (by rw [file_size]; simp))
/-- The bytes "torn" are no frame. -/
theorem torn_none (L : List UInt8) : frB (file (L ++ [116, 111, 114, 110])) L.length = none := by
  have hz : (file (L ++ [116, 111, 114, 110])).size = L.length + 4 := by rw [file_size, List.length_append]; rfl
  have hb : Wd.bt (file (L ++ [116, 111, 114, 110])) L.length = 116 := by
    rw [file_bt, List.getElem?_append_right (Nat.le_refl _), Nat.sub_self]
    rfl
  have hr : Wd.rv (file (L ++ [116, 111, 114, 110])) L.length = some (116, L.length + 1) := by
    show Wd.rvF _ 5 _ 0 1 0 = _
    rw [Wd.rvF_lastB (b := 116) hb (by rw [hz]; omega) (by omega) (by omega) (.inl (by omega))]
  exact frB_no _ _ _ _ hr (fun h => by have := h.2.2.1; rw [hz] at this; omega)

theorem seg_cut (n f : Nat) (hn : n ≤ 99) (hf : f ≤ n) (ts : List (List UInt8)) (hts : risingT (-1) ts) (hl : ∀ t ∈ ts, 1 ≤ t.length ∧ t.length ≤ 9000) (k : Nat) (hk : (frameL (headL n f)).length ≤ k) (hk2 : k ≤ (framesL (headL n f :: ts)).length) (hsz : (framesL (headL n f :: ts)).length ≤ 20000) :
    ∃ m e, segRead (n : Int) (file ((framesL (headL n f :: ts)).take k)) = some (f, (bsT ts).take m, e) ∧ e ≤ k := by
  have hH := headL_len n f
  have hall : ∀ t ∈ headL n f :: ts, 1 ≤ t.length ∧ t.length ≤ 9000 := by
    intro t ht
    rcases List.mem_cons.1 ht with rfl | ht
    · omega
    · exact hl t ht
  obtain ⟨m, h0, h1, h2, h3, h4⟩ := unf_cut (headL n f :: ts) k hall hk2 hsz
  cases m with
  | zero =>
    rcases h4 with h4 | h4
    · simp at h4
    · simp [framesL] at h4
      omega
  | succ m =>
    rw [List.take_succ_cons] at h1
    have h := seg_read hn hf (risingT_take ts (-1) m hts) h1
    exact ⟨m, _, by rw [h, bsT_take], by rw [h2]; exact h3⟩

theorem seg_other (n f : Nat) (hn : n ≤ 99) (ts : List (List UInt8)) (hl : ∀ t ∈ ts, 1 ≤ t.length ∧ t.length ≤ 9000) (hsz : (framesL (headL n f :: ts)).length ≤ 20000) : segRead ((n : Int) + 1) (file (framesL (headL n f :: ts))) = none := by
  have hH := headL_len n f
  have hall : ∀ t ∈ headL n f :: ts, 1 ≤ t.length ∧ t.length ≤ 9000 := by
    intro t ht
    rcases List.mem_cons.1 ht with rfl | ht
    · omega
    · exact hl t ht
  obtain ⟨m, h0, h1, h2, h3, h4⟩ := unf_cut (headL n f :: ts) (framesL (headL n f :: ts)).length hall (Nat.le_refl _) hsz
  rw [List.take_length] at h1
  cases hu : unf (file (framesL (headL n f :: ts))) with
  | nil => exact segRead_nil hu
  | cons x r =>
    rw [hu] at h1
    refine segRead_head hu ?_
    cases m with
    | zero => simp [recs] at h1
    | succ m =>
      rw [List.take_succ_cons] at h1
      have hx := back_file _ _ (show ((file (framesL (headL n f :: ts))).extract x.1 x.2).data.toList = headL n f by simp only [recs, List.map_cons, List.cons.injEq] at h1; exact h1.1)
      rw [hx]
      exact hd_none_other ((headL_first n f).2 (by omega)) (by omega)

/-! ### One more is put behind -/
theorem risingT_snoc : ∀ (ts : List (List UInt8)) (last : Int) (t : List UInt8), risingT last ts → rdOk (file t) = true → (∀ u ∈ ts, rdSeq (file u) < rdSeq (file t)) → last < rdSeq (file t) → risingT last (ts ++ [t])
  | [], _, _, _, h1, _, h3 => ⟨h1, h3, trivial⟩
  | u :: r, _, t, h, h1, h2, _ => ⟨h.1, h.2.1, risingT_snoc r _ t h.2.2 h1 (fun v hv => h2 v (List.mem_cons_of_mem _ hv)) (h2 u (List.mem_cons_self ..))⟩
end Go.Proofs.YtijmlgdeeodehamGreatDoor

/- Files of a call's own are marked, and held against their marks. -/
namespace Go.Proofs.YtijmlgdeeodehamGreatDoor
open Go.RowKit

/-- The file that is marked from k on. -/
def markF (k : Nat) : FileD := ⟨⟨(mk k).toArray⟩, ⟨(mk (k + 1)).toArray⟩, ((k + 2 : Nat) : Int)⟩
/-- The first j files are marked, from k on. -/
def marksF (k n : Nat) : List FileD := (List.range n).map (fun j => markF (k + 3 * j))
theorem marksF_length (k n : Nat) : (marksF k n).length = n := by simp [marksF]
theorem marksF_get (k n j : Nat) (h : j < (marksF k n).length) : (marksF k n)[j] = markF (k + 3 * j) := by simp [marksF]

theorem filesIn_put' {C : Array Value} {fs : List FileD} {k : Nat} (h : FilesIn C fs k) (hk : k < fs.length) (hs : fs.length * 3 ≤ C.size) : FilesIn (putFile C k fs[k]) fs (k + 1) := by
  intro j hj hjk
  unfold putFile
  by_cases e : j = k
  · subst e
    refine ⟨?_, ?_, ?_⟩ <;> simp [Array.getElem?_setIfInBounds] <;> omega
  · obtain ⟨h1, h2, h3⟩ := h j hj (by omega)
    refine ⟨?_, ?_, ?_⟩
    · rw [Array.getElem?_setIfInBounds_ne (by omega), Array.getElem?_setIfInBounds_ne (by omega), Array.getElem?_setIfInBounds_ne (by omega)]; exact h1
    · rw [Array.getElem?_setIfInBounds_ne (by omega), Array.getElem?_setIfInBounds_ne (by omega), Array.getElem?_setIfInBounds_ne (by omega)]; exact h2
    · rw [Array.getElem?_setIfInBounds_ne (by omega), Array.getElem?_setIfInBounds_ne (by omega), Array.getElem?_setIfInBounds_ne (by omega)]; exact h3

theorem mark_next (K : Nat) (w : World) (h : K ≤ 20000000) : Calls Tryz.prog 52 #[.int .i64 ((K : Int) + 1)] w fun e w' => e = .returned (.string ⟨(mk (K + 1)).toArray⟩) ∧ Below w.heap.size w w' := by
  have h := mark_any (K + 1) w (by omega) (by omega)
  rw [show (((K + 1 : Nat)) : Int) = (K : Int) + 1 from by omega] at h
  exact h

set_option maxRecDepth 100000 in
set_option maxHeartbeats 1600000 in
theorem markFileS_row (g cap n : Nat) (C0 : Array Value) (k : Nat) (w : World) (hn : n ≤ 1048576) (hk0 : 0 < k) (hk : k ≤ 10000000) (hC : w.heap[g]? = some (.cells C0 61 (0, 0))) (hs : n * 3 ≤ C0.size) :
    Calls Tryz.prog 51 #[.slice (some ⟨g, 0, none⟩) n cap, .int .i64 (k : Int)] w fun e w' => e = .returned (.int .i64 ((k + 3 * n : Nat) : Int)) ∧ (∃ C : Array Value, w'.heap[g]? = some (.cells C 61 (0, 0)) ∧ C.size = C0.size ∧ FilesIn C (marksF k n) n) ∧ w.grownBy w' (some g) := by
  have HC0 := hide hC
  clear hC
  go_enter Tryz.func51, Tryz.ntmps51
  go_wp2
  go_loopw [1, 5] (fun kk ii wr => ∃ (j : Nat) (C : Array Value), kk = .int .i64 ((k + 3 * j : Nat) : Int) ∧ ii = .int .i64 j ∧ j ≤ n ∧ Hid (wr.heap[g]? = some (.cells C 61 (0, 0))) ∧ C.size = C0.size ∧ Hid (FilesIn C (marksF k n) j) ∧ Hid (w.grownBy wr (some g))) (fun _ ii _ => n - (intOf ii).toNat)
  case atStart => exact ⟨0, C0, rfl, rfl, Nat.zero_le _, HC0, rfl, fun j _ hj => absurd hj (by omega), World.grownBy.refl _ _⟩
  case round =>
    obtain ⟨j, C, rfl, rfl, hj, HC, hCs, HI, HG⟩ := hrel
    by_cases hlt : j < n
    · have hlt' : decide ((j : Int) < (n : Int)) = true := by simp; omega
      have hi0 : (0 : Int) ≤ (j : Int) := by omega
      have hi1 : (j : Int) < (n : Int) := by omega
      have hgw : g < wr.heap.size := (Array.getElem?_eq_some_iff.1 HC.out).1
      obtain ⟨K, HK⟩ : ∃ K : Nat, Hid (K = k + 3 * j) := ⟨_, hide rfl⟩
      have hKb : 0 < K ∧ K ≤ 14000000 := by have := HK.out; omega
      rw [← HK.out]
      go_wp2_with fail
      refine (mark_any K _ (by omega) (by omega)).mono ?_
      rintro e w1 ⟨rfl, b1⟩
      have hC1 : w1.heap[g]? = some (.cells C 61 (0, 0)) := (b1.block g hgw).trans HC.out
      have hq0 := cell_of_row w1 g (j * 3) C _ (0, 0) hC1
      have hf0 := frozen_of_row w1 g (j * 3) C _ hC1
      rw [Array.getElem?_eq_getElem (by omega)] at hq0
      have HB1 := hide b1
      have HC1 := hide hC1
      clear b1 hC1
      go_wp2_with fail
      refine (mark_next K _ (by omega)).mono ?_
      rintro e w2 ⟨rfl, b2⟩
      have hC2 : w2.heap[g]? = some (.cells (C.setIfInBounds (j * 3) (.string ⟨(mk K).toArray⟩)) 61 (0, 0)) := (b2.block g (by have := HB1.out.size; simpa [World.setCell] using Nat.lt_of_lt_of_le hgw this)).trans (heap_setCell_same w1 g (j * 3) C _ _ HC1.out)
      have hr1 := cell_of_row w2 g (j * 3 + 1) _ _ (0, 0) hC2
      have hr2 := cell_of_row w2 g (j * 3 + 2) _ _ (0, 0) hC2
      have he1 := frozen_of_row w2 g (j * 3 + 1) _ _ hC2
      have he2 := frozen_of_row w2 g (j * 3 + 2) _ _ hC2
      rw [Array.getElem?_eq_getElem (by simp; omega)] at hr1 hr2
      have HC2 := hide hC2
      have HB2 := hide b2
      clear hC2 b2 hq0 hf0
      go_wp2_with fail
      go_roundw
      case rel =>
        have hl := marksF_length k n
        have HP := filesIn_put' HI.out (by omega) (by omega)
        rw [marksF_get, ← HK.out] at HP
        have hg2 : w.grownBy w2 (some g) := grownBy_trans (grownBy_store (grownBy_trans HG.out (grownBy_below _ HB1.out)) (j * 3) (.string ⟨(mk K).toArray⟩)) (grownBy_below _ HB2.out)
        refine ⟨j + 1, putFile C j (markF K), ?_, by go_num, by omega, heap_setCell_same _ g _ _ _ _ (heap_setCell_same _ g _ _ _ _ HC2.out), by rw [putFile_size]; exact hCs, HP, grownBy_store (grownBy_store hg2 (j * 3 + 1) _) (j * 3 + 2) _⟩
        have := HK.out
        congr 1
        omega
      case measure => simp [intOf]; omega
    · have hlt' : decide ((j : Int) < (n : Int)) = false := by simp; omega
      have hje : j = n := by omega
      subst hje
      go_wp2
      go_ret
      exact ⟨rfl, ⟨C, HC.out, hCs, HI.out⟩, HG.out⟩
end Go.Proofs.YtijmlgdeeodehamGreatDoor

/- Disks of a call's own are marked, and held against their marks. -/
namespace Go.Proofs.YtijmlgdeeodehamGreatDoor
open Go.RowKit

set_option maxRecDepth 100000 in
theorem markFileS_nil (k : Int) (w : World) :
    Calls Tryz.prog 51 #[.slice none 0 0, .int .i64 k] w fun e w' => e = .returned (.int .i64 k) ∧ w' = w := by
  go_enter Tryz.func51, Tryz.ntmps51
  go_wp2
  go_loop [1, 5] (fun kk ii => kk = .int .i64 k ∧ ii = .int .i64 0) (fun _ _ => 0)
  case atStart => exact ⟨rfl, rfl⟩
  case round =>
    obtain ⟨rfl, rfl⟩ := hrel
    go_wp2
    go_ret
    exact ⟨rfl, rfl⟩

set_option maxRecDepth 100000 in
theorem markDisk_row (v : Value) (fs : List FileD) (B k : Nat) (w : World) (hn : fs.length ≤ 1048576) (hk0 : 0 < k) (hk : k ≤ 10000000) (h : RowF w B v fs) :
    Calls Tryz.prog 19 #[.agg #[v], .int .i64 (k : Int)] w fun e w' => e = .returned (.int .i64 ((k + 3 * fs.length : Nat) : Int)) ∧ RowF w' B v (marksF k fs.length) ∧ w.grownBy w' v.ownBlock := by
  rcases h with ⟨rfl, rfl⟩ | ⟨g, cap, C, rfl, hB, hC, hs, hI⟩
  · go_enter Tryz.func19, Tryz.ntmps19
    go_wp2_with fail
    refine (markFileS_nil _ _).mono ?_
    rintro e w1 ⟨rfl, rfl⟩
    go_wp2
    go_ret
    exact ⟨rfl, .inl ⟨rfl, rfl⟩, grownBy_below _ ((Below.refl _ w).alloc (Nat.le_refl _) _)⟩
  · have hgw : g < w.heap.size := (Array.getElem?_eq_some_iff.1 hC).1
    have HC := hide hC
    clear hC hI
    obtain ⟨n, hN⟩ : ∃ n, n = fs.length := ⟨_, rfl⟩
    rw [← hN] at hn hs ⊢
    clear hN
    have b0 : Below w.heap.size w (w.alloc (.cells #[.slice (some ⟨g, 0, none⟩) n cap] 24)) := (Below.refl _ w).alloc (Nat.le_refl _) _
    have HB0 := hide b0
    clear b0
    go_enter Tryz.func19, Tryz.ntmps19
    go_wp2_with fail
    refine (markFileS_row g cap n C k _ hn hk0 hk ((HB0.out.block g hgw).trans HC.out) hs).mono ?_
    rintro e w1 ⟨rfl, ⟨C1, hC1, hCs, hI1⟩, hg1⟩
    have H1 := hide hC1
    have H2 := hide hI1
    have H3 := hide hg1
    clear hC1 hI1 hg1
    go_wp2
    go_ret
    have hl := marksF_length k n
    refine ⟨rfl, .inr ⟨g, cap, C1, by rw [hl], hB, H1.out, by omega, by rw [hl]; exact H2.out⟩, grownBy_trans (grownBy_below _ HB0.out) H3.out⟩

set_option maxRecDepth 100000 in
set_option maxHeartbeats 1600000 in
theorem heldFileS_any (ao : Option Addr) (cap n k : Nat) (w : World) (hn : n ≤ 1048576) (hk0 : 0 < k) (hk : k ≤ 10000000) (h : FilesAt w ao (marksF k n)) :
    Calls Tryz.prog 68 #[.slice ao n cap, .int .i64 (k : Int)] w fun e w' => e = .returned (.int .i64 ((k + 3 * n : Nat) : Int)) ∧ Below w.heap.size w w' := by
  have HF := hide h
  clear h
  go_enter Tryz.func68, Tryz.ntmps68
  go_wp2
  go_loopw [1, 5] (fun kk ii wr => ∃ (j : Nat), kk = .int .i64 ((k + 3 * j : Nat) : Int) ∧ ii = .int .i64 j ∧ j ≤ n ∧ Hid (Below w.heap.size w wr)) (fun _ ii _ => n - (intOf ii).toNat)
  case atStart => exact ⟨0, rfl, rfl, Nat.zero_le _, Below.refl _ _⟩
  case round =>
    obtain ⟨j, rfl, rfl, hj, HB⟩ := hrel
    by_cases hlt : j < n
    · have hlt' : decide ((j : Int) < (n : Int)) = true := by simp; omega
      have hi0 : (0 : Int) ≤ (j : Int) := by omega
      have hi1 : (j : Int) < (n : Int) := by omega
      obtain ⟨b, off, rfl, hbw, hc0, hc1, hc2⟩ := filesAt_keep HF.out HB.out j (by rw [marksF_length]; exact hlt)
      rw [marksF_get] at hc0 hc1 hc2
      obtain ⟨K, HK⟩ : ∃ K : Nat, Hid (K = k + 3 * j) := ⟨_, hide rfl⟩
      have hKb : 0 < K ∧ K ≤ 14000000 := by have := HK.out; omega
      rw [← HK.out] at hc0 hc1 hc2 ⊢
      have hd0 : wr.cell? ⟨b, off + j * 3, none⟩ = some (.string ⟨(mk K).toArray⟩) := hc0
      have hd1 : wr.cell? ⟨b, off + j * 3 + 1, none⟩ = some (.string ⟨(mk (K + 1)).toArray⟩) := hc1
      have hd2 : wr.cell? ⟨b, off + j * 3 + 2, none⟩ = some (.int .i64 ((K : Int) + 1 + 1)) := hc2.trans (by simp only [markF]; congr 2)
      clear hc0 hc1 hc2
      have he0 : ((⟨(mk K).toArray⟩ : ByteArray).toList == (⟨(mk K).toArray⟩ : ByteArray).toList) = true := beq_self_eq_true _
      have he1 : ((⟨(mk (K + 1)).toArray⟩ : ByteArray).toList == (⟨(mk (K + 1)).toArray⟩ : ByteArray).toList) = true := beq_self_eq_true _
      obtain ⟨s0, hs0⟩ : ∃ s0 : ByteArray, s0 = ⟨(mk K).toArray⟩ := ⟨_, rfl⟩
      obtain ⟨s1, hs1⟩ : ∃ s1 : ByteArray, s1 = ⟨(mk (K + 1)).toArray⟩ := ⟨_, rfl⟩
      have hm0 : ∀ W, Calls Tryz.prog 52 #[.int .i64 (K : Int)] W fun e w' => e = .returned (.string s0) ∧ Below W.heap.size W w' := fun W => by rw [hs0]; exact mark_any K W (by omega) (by omega)
      have hm1 : ∀ W, Calls Tryz.prog 52 #[.int .i64 ((K : Int) + 1)] W fun e w' => e = .returned (.string s1) ∧ Below W.heap.size W w' := fun W => by rw [hs1]; exact mark_next K W (by omega)
      rw [← hs0] at hd0 he0
      rw [← hs1] at hd1 he1
      have HM0 := hide hm0
      have HM1 := hide hm1
      clear hs0 hs1 hm0 hm1
      have HBW := hide hbw
      clear hbw
      go_wp2_with fail
      go_region_held3 (fun w' => w'.cell? ⟨b, off + j * 3, none⟩ = some (.string s0)) (first | go_keep | (exact (b1.cell (p := ⟨b, off + j * 3, none⟩) HBW.out).trans hd0)) ((go_at_call 52; refine (HM0.out _).mono ?_; rintro e w1 ⟨rfl, b1⟩))
      have B1 : Hid (Below wr.heap.size wr w1) := (Below.refl _ _).drew.trans b1
      have hg1 : w1.cell? ⟨b, off + j * 3 + 1, none⟩ = some (.string s1) := (B1.out.cell (p := ⟨b, off + j * 3 + 1, none⟩) HBW.out).trans hd1
      have hbw1 : b < w1.heap.size := Nat.lt_of_lt_of_le HBW.out B1.out.size
      clear b1
      go_wp2_with fail
      go_region_held3 (fun w' => w'.cell? ⟨b, off + j * 3 + 1, none⟩ = some (.string s1)) (first | go_keep | (exact (b2.cell (p := ⟨b, off + j * 3 + 1, none⟩) hbw1).trans hg1)) ((go_at_call 52; refine (HM1.out _).mono ?_; rintro e w2 ⟨rfl, b2⟩))
      have B2 : Hid (Below wr.heap.size wr w2) := B1.out.trans (((Below.refl _ _).drew.trans b2).mono B1.out.size)
      have hg2 : w2.cell? ⟨b, off + j * 3 + 2, none⟩ = some (.int .i64 ((K : Int) + 1 + 1)) := (B2.out.cell (p := ⟨b, off + j * 3 + 2, none⟩) HBW.out).trans hd2
      clear b2
      have he2 : (((K : Int) + 1 + 1) == ((K : Int) + 1 + 1)) = true := beq_self_eq_true _
      go_wp2
      go_roundw
      case rel =>
        refine ⟨j + 1, ?_, by go_num, by omega, HB.out.trans (B2.out.mono HB.out.size)⟩
        have := HK.out
        congr 1
        omega
      case measure => simp [intOf]; omega
    · have hlt' : decide ((j : Int) < (n : Int)) = false := by simp; omega
      have hje : j = n := by omega
      subst hje
      go_wp2
      go_ret
      exact ⟨rfl, HB.out⟩

set_option maxRecDepth 100000 in
theorem heldDisk_row (v : Value) (n B k : Nat) (w : World) (hn : n ≤ 1048576) (hk0 : 0 < k) (hk : k ≤ 10000000) (h : RowF w B v (marksF k n)) :
    Calls Tryz.prog 37 #[.agg #[v], .int .i64 (k : Int)] w fun e w' => e = .returned (.int .i64 ((k + 3 * n : Nat) : Int)) ∧ Below w.heap.size w w' := by
  obtain ⟨ao, cap, rfl, h1⟩ := rowF_at h
  clear h
  rw [marksF_length]
  have H1 := hide h1
  clear h1
  have HB0 : Hid (Below w.heap.size w (w.alloc (.cells #[.slice ao n cap] 24))) := (Below.refl _ w).alloc (Nat.le_refl _) _
  obtain ⟨R, HR⟩ : ∃ R : Int, Hid (((k + 3 * n : Nat) : Int) = R) := ⟨_, hide rfl⟩
  have hneg : decide (R < 0) = false := by have := HR.out; simp; omega
  rw [HR.out]
  go_enter Tryz.func37, Tryz.ntmps37
  go_wp2_with fail
  refine (heldFileS_any ao cap n k _ hn hk0 hk (filesAt_keep H1.out HB0.out)).mono ?_
  rintro e w1 ⟨rfl, b1⟩
  rw [HR.out]
  have HB1 := hide (HB0.out.trans (b1.mono HB0.out.size))
  clear b1
  go_wp2
  go_ret
  exact ⟨rfl, HB1.out⟩
end Go.Proofs.YtijmlgdeeodehamGreatDoor

/- The law of ReadHint, but for the contracts of both functions. -/
namespace Go.Proofs.YtijmlgdeeodehamGreatDoor
open Go.RowKit

set_option maxRecDepth 100000 in
theorem markSpotS_nil (k : Int) (w : World) :
    Calls Tryz.prog 36 #[.slice none 0 0, .int .i64 k] w fun e w' => e = .returned (.int .i64 k) ∧ w' = w := by
  go_enter Tryz.func36, Tryz.ntmps36
  go_wp2
  go_loop [1, 5] (fun kk ii => kk = .int .i64 k ∧ ii = .int .i64 0) (fun _ _ => 0)
  case atStart => exact ⟨rfl, rfl⟩
  case round =>
    obtain ⟨rfl, rfl⟩ := hrel
    go_wp2
    go_ret
    exact ⟨rfl, rfl⟩
theorem markSpotS_own (v : Value) (fs : List SpotD) (B k : Nat) (w : World) (hn : fs.length ≤ 1048576) (hk0 : 0 < k) (hk : k ≤ 10000000) (h : RowSpot w B v fs) :
    Calls Tryz.prog 36 #[v, .int .i64 (k : Int)] w fun e w' => e = .returned (.int .i64 ((k + 4 * fs.length : Nat) : Int)) ∧ RowSpot w' B v (markSpotDs k fs.length) ∧ w.grownBy w' v.ownBlock := by
  rcases h with ⟨rfl, rfl⟩ | ⟨g, cap, C, rfl, hB, hC, hs, hI⟩
  · refine (markSpotS_nil _ _).mono ?_
    rintro e w1 ⟨rfl, rfl⟩
    exact ⟨rfl, .inl ⟨rfl, rfl⟩, World.grownBy.refl _ _⟩
  · refine (markSpotS_row g cap fs.length C k w hn hk0 hk hC hs).mono ?_
    rintro e w1 ⟨rfl, ⟨C1, hC1, hs1, hI1⟩, hg⟩
    refine ⟨rfl, .inr ⟨g, cap, C1, by rw [markSpotDs_length], hB, hC1, by rw [markSpotDs_length]; omega, by rw [markSpotDs_length]; exact hI1⟩, hg⟩

end Go.Proofs.YtijmlgdeeodehamGreatDoor

/- The disk of a formatted engine, plainly. -/
namespace Go.Proofs.YtijmlgdeeodehamGreatDoor
open Go.RowKit

/-- The one file. -/
def fmtF : FileD := ⟨segNm 0, headT 0 0, ((headT 0 0).size : Int)⟩
theorem fmt_text : headT 0 0 = file (framesL [headL 0 0] ++ []) := by
  have h := headT_in 0 0 (by omega) (by omega)
  rw [show ((0 : Nat) : Int) = 0 from rfl] at h
  rw [h, show framesL [headL 0 0] ++ [] = frameL (headL 0 0) from by simp [framesL]]
  exact frameL_of _
theorem fmt_len : (framesL [headL 0 0]).length ≤ 100 ∧ 1 ≤ (framesL [headL 0 0]).length := by
  have h := headL_len 0 0
  have h1 := Wd.varF_len 5 (headL 0 0).length
  have h2 : (framesL [headL 0 0]).length = (frameL (headL 0 0)).length := by simp [framesL]
  rw [h2]
  unfold frameL
  rw [List.length_append, List.length_append]
  have h3 : (four (sumL 4294967295 (headL 0 0))).length = 4 := by first | rfl | simp [four]
  omega
theorem fmt_size : (headT 0 0).size = (framesL [headL 0 0]).length := by
  rw [fmt_text, file_size]
  simp
theorem fmt_read : segRead (0 : Int) (headT 0 0) = some (0, [], (headT 0 0).size) := by
  have h := seg_whole 0 0 (by omega) (by omega) [] (by trivial) (by simp) [] (by have := fmt_len; simp only [List.append_nil]; omega) (end_none _)
  rw [fmt_size, fmt_text]
  exact h
theorem fmt_names : ∀ k : Fin 100, 0 < k.val → (Wd.decS (k.val : Int) == Wd.decS 0) = false := by decide
theorem fmt_other (k : Nat) (h0 : 0 < k) (hk : k ≤ 99) : ((segNm 0).toList == (segNm (k : Int)).toList) = false := by
  have h := fmt_names ⟨k, by omega⟩ h0
  cases hq : ((segNm 0).toList == (segNm (k : Int)).toList) with
  | false => rfl
  | true =>
    rw [beq_iff_eq] at hq
    rw [ByteArray.toList_eq, ByteArray.toList_eq] at hq
    have e : segNm 0 = segNm (k : Int) := ByteArray.ext (Array.toList_inj.1 hq)
    unfold segNm at e
    rw [if_pos (by omega), if_pos (by omega)] at e
    have e2 := congrArg (fun b : ByteArray => b.data.toList) e
    simp at e2
    rw [← e2] at h
    simp at h
theorem fmt_to (k : Nat) (hk : k ≤ 99) : segsTo [fmtF] (k + 1) = [segOfFile 0 fmtF] := by
  induction k with
  | zero =>
    rw [segsTo_some (F := fmtF) (by unfold fileD; simp [fmtF])]
    rfl
  | succ k ih =>
    rw [segsTo_none (by unfold fileD; simp only [List.find?_cons, List.find?_nil]; rw [show (fmtF.name.toList == (segNm ((k + 1 : Nat) : Int)).toList) = false from fmt_other (k + 1) (by omega) hk])]
    exact ih (by omega)
theorem fmt_seg : segOfFile 0 fmtF = ⟨0, 0, [], (headT 0 0).size, true, false⟩ := by
  unfold segOfFile segTorn segFrom segBatches segEnd segOk
  show SegD.mk 0 (((segRead (0 : Int) (headT 0 0)).map _).getD 0) (((segRead (0 : Int) (headT 0 0)).map _).getD []) (((segRead (0 : Int) (headT 0 0)).map _).getD 0) (segRead (0 : Int) (headT 0 0)).isSome ((segRead (0 : Int) (headT 0 0)).isSome && decide (((segRead (0 : Int) (headT 0 0)).map _).getD 0 < (headT 0 0).size)) = _
  rw [fmt_read]
  simp
theorem fmt_disk : diskOkD [fmtF] = true := by
  have h1 := fmt_len
  have h2 := fmt_size
  unfold diskOkD okFrom okFrom fileOkD nameOkD fmtF
  have h3 : (segNm 0).size = 2 := by unfold segNm; rw [if_pos (by omega)]; rfl
  simp only [h3]
  simp
  omega
theorem fmt_segs : segsOk [fmtF] = true ∧ segsL [fmtF] = [⟨0, 0, [], (headT 0 0).size, true, false⟩] := by
  have h := fmt_to 99 (by omega)
  have hC : segsC [fmtF] = [⟨0, 0, [], (headT 0 0).size, true, false⟩] := by
    unfold segsC
    rw [h, fmt_seg]
    rfl
  have hr : allRight (segsC [fmtF]) = true := by rw [hC]; rfl
  have h2 := segsOk_rest fmt_disk hr
  rw [h2.1, h2.2, hC]
  exact ⟨by decide, rfl⟩
theorem fmt_eng (room : Int) (hr : roomB room = true) : engB [fmtF] room 0 0 [] := by
  obtain ⟨h1, h2⟩ := fmt_segs
  refine ⟨hr, ?_, ?_, ?_, ?_, ?_⟩
  · unfold soundB seqsRise wholeB allKeptD keptD
    rw [h1, h2, fmt_disk]
    simp [seqsOf, riseI, fmtF]
  · have hg : firstG [fmtF] = 0 := by unfold firstG; rw [h2]; rfl
    have hd : dropsI (firstG [fmtF]) [fmtF] = [] := by
      rw [hg, dropsI_empty]
      intro F hF
      obtain rfl : F = fmtF := by simpa using hF
      have hn : ((segNm 0).toList == nmNew.toList) = false := by rw [ByteArray.toList_eq, ByteArray.toList_eq]; unfold segNm; rw [if_pos (by omega)]; rfl
      unfold goesB isNew fmtF
      rw [isBelow_zero]
      simp only [hn]
      rfl
    have hm : mendA [fmtF] = [] := by unfold mendA lastG; rw [h2]; rfl
    unfold calmB actsI
    rw [hd, hm]
    rfl
  · unfold lastG; rw [h2]; rfl
  · rw [h2]; rfl
  · unfold dirD; rw [h2]; rfl
end Go.Proofs.YtijmlgdeeodehamGreatDoor

/- The program's OpenEngine. -/
namespace Go.Proofs.YtijmlgdeeodehamGreatDoor
open Go.RowKit

set_option maxRecDepth 100000 in
set_option maxHeartbeats 1600000 in
theorem implOpenEngine_any (fs : List FileD) (ao : Option Addr) (cap : Nat) (room : Int) (w : World) (hl : fs.length ≤ 1048576) (hfs : FilesAt w ao fs) (hsz : ∀ F ∈ fs, F.name.size ≤ 1048576 ∧ F.text.size ≤ 1048576) (hT : SumTab w) :
    Calls Tryz.prog 16 #[.agg #[.slice ao fs.length cap], .int .i64 room] w fun e w' => Below w.heap.size w w' ∧
      ((openIB fs room = true ∧ ∃ vd vr va, e = .returned (.tuple #[.agg #[vd, .int .i64 room, .int .i64 ((lastG fs).num : Int), .int .i64 (seqD (segsL fs)), vr], va, .bool true]) ∧ RowF w' w.heap.size vd (actsF fs (actsI fs)).1 ∧ RowSpot w' w.heap.size vr (dirD fs) ∧ w'.ownsRow w.heap.size 94 4 va (actsI fs).length (cellsAct (actsI fs))) ∨
       (openIB fs room = false ∧ e = .returned (.tuple #[.agg #[.slice none 0 0, .int .i64 0, .int .i64 0, .int .i64 0, .slice none 0 0], .slice none 0 0, .bool false]))) := by
  have HF := hide hfs
  have HT := hide hT
  have HOS := hide (fun W hW hT => openStore_any fs ao cap room W hl hW hsz hT)
  clear hfs hsz hT
  obtain ⟨wb, hwb⟩ : ∃ wb, wb = (w.alloc (.cells #[.slice ao fs.length cap] 24)).alloc (.cells #[.slice none 0 0, .int .i64 0, .int .i64 0, .int .i64 0, .slice none 0 0] 27) := ⟨_, rfl⟩
  have HB0 : Hid (Below w.heap.size w wb) := by rw [hwb]; exact ((Below.refl _ w).alloc (Nat.le_refl _) _).alloc (by simp) _
  have HBE : Hid (wb.heap[w.heap.size + 1]? = some (.cells #[.slice none 0 0, .int .i64 0, .int .i64 0, .int .i64 0, .slice none 0 0] 27 (0, 0))) := by
    show _ = _
    rw [hwb, show w.heap.size + 1 = (w.alloc (.cells #[.slice ao fs.length cap] 24)).heap.size from by simp]
    exact heap_alloc_new _ _
  go_enter Tryz.func16, Tryz.ntmps16
  go_wp2_with fail
  rw [← hwb]
  clear hwb
  refine (HOS.out _ (filesAt_keep HF.out HB0.out) (sumTab_later HB0.out HT.out)).mono ?_
  rintro e w1 ⟨b1, ⟨ho, g, vd, vr, vs, va, rfl, hst, hac⟩ | ⟨ho, s1, rfl⟩⟩
  · have B1 := hide (HB0.out.trans (b1.mono HB0.out.size))
    have HE1 := hide ((b1.block _ (heap_lt HBE.out)).trans HBE.out)
    obtain ⟨ad3, cd3, hvd, -⟩ := rowF_at hst.disk
    obtain ⟨ar3, cr3, hvr, -⟩ := rowSpot_at hst.dir
    subst hvd hvr
    obtain ⟨k0, k1, k2, k3, k4, k5, k6, k7, -⟩ := eight_cells hst.blk
    have HRF := hide (rowF_le hst.disk HB0.out.size)
    have HRS := hide (rowSpot_le hst.dir HB0.out.size)
    have HAC := hide hac
    have HO := hide ho
    clear hst hac ho b1
    obtain ⟨z0, z1, z2, z3, z4, f0, f1, f2, f3, f4⟩ := five_cells HE1.out
    go_wp2
    clear z0 z1 z2 z3 z4 f0 f1 f2 f3 f4
    obtain ⟨y0, y1, y2⟩ := box5 (.slice ad3 (actsF fs (actsI fs)).1.length cd3) (.int .i64 room) (.int .i64 ((lastG fs).num : Int)) (.int .i64 (seqD (segsL fs))) (.slice ar3 (dirD fs).length cr3) HE1.out B1.out (Nat.le_succ _) _ rfl
    obtain ⟨x0, x1, x2, x3, x4, -⟩ := five_cells y0
    refine bodyPost_ret (v := .tuple #[.agg #[.slice ad3 (actsF fs (actsI fs)).1.length cd3, .int .i64 room, .int .i64 ((lastG fs).num : Int), .int .i64 (seqD (segsL fs)), .slice ar3 (dirD fs).length cr3], va, .bool true]) ?_ rfl ?_
    · simp [results, Tryz.results16, go_sem, x0, x1, x2, x3, x4]
    · exact ⟨y1, .inl ⟨HO.out, _, _, _, rfl, files_box HRF.out HE1.out y2, spots_box HRS.out HE1.out y2, acts_box (ownsRow_mono HAC.out HB0.out.size) HE1.out y2⟩⟩
  · have B1 := hide (HB0.out.trans (b1.mono HB0.out.size))
    have HE1 := hide ((b1.block _ (heap_lt HBE.out)).trans HBE.out)
    have HO := hide ho
    clear ho b1
    obtain ⟨z0, z1, z2, z3, z4, f0, f1, f2, f3, f4⟩ := five_cells HE1.out
    go_wp2
    clear z0 z1 z2 z3 z4 f0 f1 f2 f3 f4
    obtain ⟨y0, y1, y2⟩ := box5 (.slice none 0 0) (.int .i64 0) (.int .i64 0) (.int .i64 0) (.slice none 0 0) HE1.out B1.out (Nat.le_succ _) _ rfl
    obtain ⟨x0, x1, x2, x3, x4, -⟩ := five_cells y0
    refine bodyPost_ret (v := .tuple #[.agg #[.slice none 0 0, .int .i64 0, .int .i64 0, .int .i64 0, .slice none 0 0], .slice none 0 0, .bool false]) ?_ rfl ?_
    · simp [results, Tryz.results16, go_sem, x0, x1, x2, x3, x4]
    · exact ⟨y1, .inr ⟨HO.out, rfl⟩⟩
end Go.Proofs.YtijmlgdeeodehamGreatDoor

/- The program's FormatEngine. -/
namespace Go.Proofs.YtijmlgdeeodehamGreatDoor
open Go.RowKit

theorem fmt_small : ∀ F ∈ [fmtF], F.name.size ≤ 1048576 ∧ F.text.size ≤ 1048576 := by
  intro F hF
  obtain rfl : F = fmtF := by simpa using hF
  have h1 := fmt_len
  have h2 := fmt_size
  exact ⟨segNm_size 0, by show (headT 0 0).size ≤ _; omega⟩
theorem fmt_calm (room : Int) : openIB [fmtF] room = roomB room ∧ actsI [fmtF] = [] ∧ (actsF [fmtF] (actsI [fmtF])).1 = [fmtF] ∧ (lastG [fmtF]).num = 0 ∧ seqD (segsL [fmtF]) = 0 ∧ dirD [fmtF] = [] := by
  obtain ⟨-, h2, h3, h4, h5, h6⟩ := fmt_eng 100 (by decide)
  have hA := calm_acts h3
  refine ⟨?_, hA, by rw [hA]; rfl, by omega, h5, h6⟩
  rw [open_calm h3, h2, Bool.and_true]

set_option maxRecDepth 100000 in
set_option maxHeartbeats 1600000 in
theorem implFormat_any (room : Int) (w : World) (hT : SumTab w) :
    Calls Tryz.prog 9 #[.int .i64 room] w fun e w' => Below w.heap.size w w' ∧
      ((roomB room = true ∧ ∃ vd vr, e = .returned (.tuple #[.agg #[vd, .int .i64 room, .int .i64 0, .int .i64 0, vr], .bool true]) ∧ RowF w' w.heap.size vd [fmtF] ∧ RowSpot w' w.heap.size vr []) ∨
       (roomB room = false ∧ e = .returned (.tuple #[.agg #[.slice none 0 0, .int .i64 0, .int .i64 0, .int .i64 0, .slice none 0 0], .bool false]))) := by
  have HT := hide hT
  have HOE := hide (fun ao cap W hW hT => implOpenEngine_any [fmtF] ao cap room W (by simp) hW fmt_small hT)
  obtain ⟨hc1, hc2, hc3, hc4, hc5, hc6⟩ := fmt_calm room
  rw [hc1, hc3, hc4, hc5, hc6] at HOE
  have HHT := hide (fun W hT => implHeadText_any 0 0 W hT)
  have HSN := hide (fun W => implSegName_any 0 W)
  have hF : fmtF = ⟨segNm 0, headT 0 0, ((headT 0 0).size : Int)⟩ := rfl
  have hts : (headT 0 0).size ≤ 1048576 := (fmt_small fmtF (by simp)).2
  rw [hF] at HOE ⊢
  clear hc1 hc2 hc3 hc4 hc5 hc6 hT hF
  generalize headT 0 0 = T at HOE HHT hts ⊢
  generalize segNm 0 = NM at HOE HSN ⊢
  obtain ⟨wb, hwb⟩ : ∃ wb, wb = w.alloc (.cells #[.slice none 0 0, .int .i64 0, .int .i64 0, .int .i64 0, .slice none 0 0] 27) := ⟨_, rfl⟩
  have HB0 : Hid (Below w.heap.size w wb) := by rw [hwb]; exact (Below.refl _ w).alloc (Nat.le_refl _) _
  have HBE : Hid (wb.heap[w.heap.size]? = some (.cells #[.slice none 0 0, .int .i64 0, .int .i64 0, .int .i64 0, .slice none 0 0] 27 (0, 0))) := by rw [hwb]; exact heap_alloc_new _ _
  go_enter Tryz.func9, Tryz.ntmps9
  go_wp2_with fail
  rw [← hwb]
  clear hwb
  refine (HHT.out _ (sumTab_later HB0.out HT.out)).mono ?_
  rintro e w1 ⟨rfl, b1⟩
  have B1 := hide (HB0.out.trans (b1.mono HB0.out.size))
  have HE1 := hide ((b1.block _ (heap_lt HBE.out)).trans HBE.out)
  clear b1
  go_wp2_with fail
  refine (HSN.out _).mono ?_
  rintro e w2 ⟨rfl, rfl⟩
  go_wp2_with fail
  obtain ⟨w3, hw3⟩ : ∃ w3, w3 = (w2.alloc (.cells #[.string NM, .string T, .int .i64 (T.size : Int)] 61)).alloc (.cells #[.slice (some ⟨w2.heap.size, 0, none⟩) 1 1] 24) := ⟨_, rfl⟩
  have B3 : Hid (Below w2.heap.size w2 w3) := by rw [hw3]; exact ((Below.refl _ w2).alloc (Nat.le_refl _) _).alloc (by simp) _
  have HK3 : Hid (w3.heap[w2.heap.size]? = some (.cells #[.string NM, .string T, .int .i64 (T.size : Int)] 61 (0, 0))) := by
    show _ = _
    rw [hw3]
    exact (Below.heap_alloc _ _ _ (by simp)).trans (heap_alloc_new _ _)
  have HF3 : Hid (FilesAt w3 (some ⟨w2.heap.size, 0, none⟩) [⟨NM, T, (T.size : Int)⟩]) := by
    intro j hj
    obtain rfl : j = 0 := by simpa using hj
    exact ⟨w2.heap.size, 0, rfl, heap_lt HK3.out, (cell_of_row w3 _ 0 _ _ (0, 0) HK3.out).trans rfl, (cell_of_row w3 _ 1 _ _ (0, 0) HK3.out).trans rfl, (cell_of_row w3 _ 2 _ _ (0, 0) HK3.out).trans rfl⟩
  have BW3 := hide (B1.out.trans (B3.out.mono B1.out.size))
  rw [← hw3]
  clear hw3
  refine (HOE.out (some ⟨w2.heap.size, 0, none⟩) 1 _ HF3.out (sumTab_later BW3.out HT.out)).mono ?_
  have HE3 := hide ((B3.out.block _ (heap_lt HE1.out)).trans HE1.out)
  rintro e w4 ⟨b4, ⟨hr, vd, vr, va, rfl, hrf, hrs, hac⟩ | ⟨hr, rfl⟩⟩
  · obtain ⟨ad3, cd3, hvd, -⟩ := rowF_at hrf
    obtain ⟨ar3, cr3, hvr, -⟩ := rowSpot_at hrs
    obtain ⟨aa, ca, hva⟩ := slice_form hac
    subst hvd hvr hva
    have BW4 := hide (BW3.out.trans (b4.mono BW3.out.size))
    have HE4 := hide ((b4.block _ (heap_lt HE3.out)).trans HE3.out)
    have HRF := hide (rowF_le hrf BW3.out.size)
    have HRS := hide (rowSpot_le hrs BW3.out.size)
    clear hrf hrs hac b4
    have HE5 : Hid ((w4.alloc (.cells #[.slice ad3 1 cd3, .int .i64 room, .int .i64 0, .int .i64 0, .slice ar3 0 cr3] 27)).heap[w.heap.size]? = some (.cells #[.slice none 0 0, .int .i64 0, .int .i64 0, .int .i64 0, .slice none 0 0] 27 (0, 0))) := (Below.heap_alloc _ _ _ (heap_lt HE4.out)).trans HE4.out
    have BW5 : Hid (Below w.heap.size w (w4.alloc (.cells #[.slice ad3 1 cd3, .int .i64 room, .int .i64 0, .int .i64 0, .slice ar3 0 cr3] 27))) := BW4.out.alloc BW4.out.size _
    obtain ⟨z0, z1, z2, z3, z4, f0, f1, f2, f3, f4⟩ := five_cells HE5.out
    go_wp2
    clear z0 z1 z2 z3 z4 f0 f1 f2 f3 f4
    obtain ⟨y0, y1, y2⟩ := box5 (.slice ad3 1 cd3) (.int .i64 room) (.int .i64 0) (.int .i64 0) (.slice ar3 0 cr3) HE5.out BW5.out (Nat.le_refl _) _ rfl
    obtain ⟨x0, x1, x2, x3, x4, -⟩ := five_cells y0
    refine bodyPost_ret (v := .tuple #[.agg #[.slice ad3 1 cd3, .int .i64 room, .int .i64 0, .int .i64 0, .slice ar3 0 cr3], .bool true]) ?_ rfl ?_
    · simp [results, Tryz.results9, go_sem, x0, x1, x2, x3, x4]
    · exact ⟨y1, .inl ⟨hr, _, _, rfl, files_box (rowF_below HRF.out ((Below.refl _ _).alloc (Nat.le_refl _) _)) HE5.out y2, spots_box (rowSpot_below HRS.out ((Below.refl _ _).alloc (Nat.le_refl _) _)) HE5.out y2⟩⟩
  · have BW4 := hide (BW3.out.trans (b4.mono BW3.out.size))
    have HE4 := hide ((b4.block _ (heap_lt HE3.out)).trans HE3.out)
    clear b4
    have HE5 : Hid ((w4.alloc (.cells #[.slice none 0 0, .int .i64 0, .int .i64 0, .int .i64 0, .slice none 0 0] 27)).heap[w.heap.size]? = some (.cells #[.slice none 0 0, .int .i64 0, .int .i64 0, .int .i64 0, .slice none 0 0] 27 (0, 0))) := (Below.heap_alloc _ _ _ (heap_lt HE4.out)).trans HE4.out
    have BW5 : Hid (Below w.heap.size w (w4.alloc (.cells #[.slice none 0 0, .int .i64 0, .int .i64 0, .int .i64 0, .slice none 0 0] 27))) := BW4.out.alloc BW4.out.size _
    obtain ⟨z0, z1, z2, z3, z4, f0, f1, f2, f3, f4⟩ := five_cells HE5.out
    go_wp2
    clear z0 z1 z2 z3 z4 f0 f1 f2 f3 f4
    obtain ⟨y0, y1, y2⟩ := box5 (.slice none 0 0) (.int .i64 0) (.int .i64 0) (.int .i64 0) (.slice none 0 0) HE5.out BW5.out (Nat.le_refl _) _ rfl
    obtain ⟨x0, x1, x2, x3, x4, -⟩ := five_cells y0
    refine bodyPost_ret (v := .tuple #[.agg #[.slice none 0 0, .int .i64 0, .int .i64 0, .int .i64 0, .slice none 0 0], .bool false]) ?_ rfl ?_
    · simp [results, Tryz.results9, go_sem, x0, x1, x2, x3, x4]
    · exact ⟨y1, .inr ⟨hr, rfl⟩⟩
end Go.Proofs.YtijmlgdeeodehamGreatDoor

/- The specification's FormatEngine. -/
namespace Go.Proofs.YtijmlgdeeodehamGreatDoor
open Go.RowKit

set_option maxRecDepth 100000 in
set_option maxHeartbeats 1600000 in
theorem specFormat_any (room : Int) (w : World) :
    Calls Tryz.prog 8 #[.int .i64 room] w fun e w' => Below w.heap.size w w' ∧
      ((roomB room = true ∧ ∃ vd vr, e = .returned (.tuple #[.agg #[vd, .int .i64 room, .int .i64 0, .int .i64 0, vr], .bool true]) ∧ RowF w' w.heap.size vd [fmtF] ∧ RowSpot w' w.heap.size vr []) ∨
       (roomB room = false ∧ e = .returned (.tuple #[.agg #[.slice none 0 0, .int .i64 0, .int .i64 0, .int .i64 0, .slice none 0 0], .bool false]))) := by
  have HHT := hide (fun W => specHeadText_any 0 0 W)
  have HSN := hide (fun W => specSegName_any 0 W)
  have HIN := hide (fun W => l01In_any room 100 20000 W)
  have hF : fmtF = ⟨segNm 0, headT 0 0, ((headT 0 0).size : Int)⟩ := rfl
  have hts : (headT 0 0).size ≤ 1048576 := (fmt_small fmtF (by simp)).2
  rw [hF]
  clear hF
  generalize headT 0 0 = T at HHT hts ⊢
  generalize segNm 0 = NM at HSN ⊢
  obtain ⟨R, HR⟩ : ∃ R, Hid (roomB room = R) := ⟨_, hide rfl⟩
  have HR2 : (decide (100 ≤ room) && decide (room ≤ 20000)) = R := HR.out
  rw [HR2] at HIN
  rw [HR.out]
  clear HR2
  obtain ⟨wb, hwb⟩ : ∃ wb, wb = w.alloc (.cells #[.slice none 0 0, .int .i64 0, .int .i64 0, .int .i64 0, .slice none 0 0] 27) := ⟨_, rfl⟩
  have HB0 : Hid (Below w.heap.size w wb) := by rw [hwb]; exact (Below.refl _ w).alloc (Nat.le_refl _) _
  have HBE : Hid (wb.heap[w.heap.size]? = some (.cells #[.slice none 0 0, .int .i64 0, .int .i64 0, .int .i64 0, .slice none 0 0] 27 (0, 0))) := by rw [hwb]; exact heap_alloc_new _ _
  go_enter Tryz.func8, Tryz.ntmps8
  go_wp2_with fail
  rw [← hwb]
  clear hwb
  refine (HIN.out _).mono ?_
  rintro e w0 ⟨rfl, rfl⟩
  cases R with
  | false =>
    obtain ⟨z0, z1, z2, z3, z4, f0, f1, f2, f3, f4⟩ := five_cells HBE.out
    go_wp2
    clear z0 z1 z2 z3 z4 f0 f1 f2 f3 f4
    obtain ⟨y0, y1, y2⟩ := box5 (.slice none 0 0) (.int .i64 0) (.int .i64 0) (.int .i64 0) (.slice none 0 0) HBE.out HB0.out (Nat.le_refl _) _ rfl
    obtain ⟨x0, x1, x2, x3, x4, -⟩ := five_cells y0
    refine bodyPost_ret (v := .tuple #[.agg #[.slice none 0 0, .int .i64 0, .int .i64 0, .int .i64 0, .slice none 0 0], .bool false]) ?_ rfl ?_
    · simp [results, Tryz.results8, go_sem, x0, x1, x2, x3, x4]
    · first | exact ⟨y1, .inr ⟨rfl, rfl⟩⟩ | exact ⟨y1, rfl⟩
  | true =>
    go_wp2_with fail
    refine (HHT.out _).mono ?_
    rintro e w1 ⟨rfl, b1⟩
    have B1 := hide (HB0.out.trans (b1.mono HB0.out.size))
    have HE1 := hide ((b1.block _ (heap_lt HBE.out)).trans HBE.out)
    clear b1
    go_wp2_with fail
    refine (HSN.out _).mono ?_
    rintro e w2 ⟨rfl, b2⟩
    have B2 := hide (B1.out.trans (b2.mono B1.out.size))
    have HE2 := hide ((b2.block _ (heap_lt HE1.out)).trans HE1.out)
    clear b2
    have HE3 : Hid ((w2.alloc (.cells #[.string NM, .string T, .int .i64 (T.size : Int)] 61)).heap[w.heap.size]? = some (.cells #[.slice none 0 0, .int .i64 0, .int .i64 0, .int .i64 0, .slice none 0 0] 27 (0, 0))) := (Below.heap_alloc _ _ _ (heap_lt HE2.out)).trans HE2.out
    have B3 : Hid (Below w.heap.size w (w2.alloc (.cells #[.string NM, .string T, .int .i64 (T.size : Int)] 61))) := B2.out.alloc B2.out.size _
    have HK3 := heap_alloc_new w2 (.cells #[.string NM, .string T, .int .i64 (T.size : Int)] 61)
    have HRF : Hid (RowF (w2.alloc (.cells #[.string NM, .string T, .int .i64 (T.size : Int)] 61)) w.heap.size (.slice (some ⟨w2.heap.size, 0, none⟩) 1 1) [⟨NM, T, (T.size : Int)⟩]) := by
      refine .inr ⟨w2.heap.size, 1, _, rfl, B2.out.size, HK3, by simp, ?_⟩
      intro j hj _
      obtain rfl : j = 0 := by simpa using hj
      exact ⟨rfl, rfl, rfl⟩
    clear HK3
    obtain ⟨z0, z1, z2, z3, z4, f0, f1, f2, f3, f4⟩ := five_cells HE3.out
    go_wp2
    clear z0 z1 z2 z3 z4 f0 f1 f2 f3 f4
    obtain ⟨y0, y1, y2⟩ := box5 (.slice (some ⟨w2.heap.size, 0, none⟩) 1 1) (.int .i64 room) (.int .i64 0) (.int .i64 0) (.slice none 0 0) HE3.out B3.out (Nat.le_refl _) _ rfl
    obtain ⟨x0, x1, x2, x3, x4, -⟩ := five_cells y0
    refine bodyPost_ret (v := .tuple #[.agg #[.slice (some ⟨w2.heap.size, 0, none⟩) 1 1, .int .i64 room, .int .i64 0, .int .i64 0, .slice none 0 0], .bool true]) ?_ rfl ?_
    · simp [results, Tryz.results8, go_sem, x0, x1, x2, x3, x4]
    · have r9 := files_box HRF.out HE3.out y2
      first | exact ⟨y1, .inl ⟨rfl, _, _, rfl, r9, .inl ⟨rfl, rfl⟩⟩⟩ | exact ⟨y1, _, _, rfl, r9, .inl ⟨rfl, rfl⟩⟩
end Go.Proofs.YtijmlgdeeodehamGreatDoor

/- Marks of an engine's rows. -/
namespace Go.Proofs.YtijmlgdeeodehamGreatDoor
open Go.RowKit

theorem files_spots_ne {w : World} {B B' g : Nat} {vd vr : Value} {fs : List FileD} {dir : List SpotD} (h1 : RowF w B vd fs) (h2 : RowSpot w B' vr dir) (e1 : vd.ownBlock = some g) (e2 : vr.ownBlock = some g) : False := by
  rcases h1 with ⟨rfl, -⟩ | ⟨g1, c1, C1, rfl, -, hC1, -⟩
  · cases e1
  · rcases h2 with ⟨rfl, -⟩ | ⟨g2, c2, C2, rfl, -, hC2, -⟩
    · cases e2
    · obtain rfl : g1 = g := by simpa [Value.ownBlock] using e1
      obtain rfl : g2 = g1 := by simpa [Value.ownBlock] using e2
      rw [hC1] at hC2
      simp at hC2

set_option maxRecDepth 100000 in
set_option maxHeartbeats 1600000 in
theorem markEngine_own (vd vr : Value) (fs : List FileD) (dir : List SpotD) (room act seq : Int) (B k : Nat) (w : World) (hn : fs.length ≤ 1048576) (hm : dir.length ≤ 1048576) (hk0 : 0 < k) (hk : k ≤ 1000000) (hB : B ≤ w.heap.size) (h1 : RowF w B vd fs) (h2 : RowSpot w B vr dir) :
    Calls Tryz.prog 11 #[.agg #[vd, .int .i64 room, .int .i64 act, .int .i64 seq, vr], .int .i64 (k : Int)] w fun e w' => e = .returned (.int .i64 ((k + 3 * fs.length + 4 * dir.length : Nat) : Int)) ∧ RowF w' B vd (marksF k fs.length) ∧ RowSpot w' B vr (markSpotDs (k + 3 * fs.length) dir.length) ∧ Below B w w' ∧ (∀ x, x < w.heap.size → vd.ownBlock ≠ some x → vr.ownBlock ≠ some x → w'.heap[x]? = w.heap[x]?) := by
  obtain ⟨ad, cd, hvd, -⟩ := rowF_at h1
  obtain ⟨ar, cr, hvr, -⟩ := rowSpot_at h2
  subst hvd hvr
  have HRF := hide h1
  have HRS := hide h2
  clear h1 h2
  obtain ⟨wb, hwb⟩ : ∃ wb, wb = w.alloc (.cells #[.slice ad fs.length cd, .int .i64 room, .int .i64 act, .int .i64 seq, .slice ar dir.length cr] 27) := ⟨_, rfl⟩
  have HB0 : Hid (Below w.heap.size w wb) := by rw [hwb]; exact (Below.refl _ w).alloc (Nat.le_refl _) _
  have HBE : Hid (wb.heap[w.heap.size]? = some (.cells #[.slice ad fs.length cd, .int .i64 room, .int .i64 act, .int .i64 seq, .slice ar dir.length cr] 27 (0, 0))) := by rw [hwb]; exact heap_alloc_new _ _
  have HMD := hide (markDisk_row (.slice ad fs.length cd) fs B k wb hn hk0 (by omega) (rowF_below HRF.out HB0.out))
  obtain ⟨z0, z1, z2, z3, z4, -⟩ := five_cells HBE.out
  go_enter Tryz.func11, Tryz.ntmps11
  go_wp2_with fail
  rw [← hwb]
  clear hwb
  go_wp2_with fail
  refine HMD.out.mono ?_
  rintro e w1 ⟨rfl, rf1, g1⟩
  have RS1 := hide (rowSpot_grown (rowSpot_below HRS.out HB0.out) g1 (fun g hg e => files_spots_ne (rowF_below HRF.out HB0.out) (rowSpot_below HRS.out HB0.out) e.symm hg))
  have RF1 := hide rf1
  have B1 : Hid (Below B w w1) := (HB0.out.mono hB).grown g1 (Nat.le_trans hB HB0.out.size) (fun g hg => (rowF_lt HRF.out g hg).1)
  have HE1 : Hid (w1.heap[w.heap.size]? = some (.cells #[.slice ad fs.length cd, .int .i64 room, .int .i64 act, .int .i64 seq, .slice ar dir.length cr] 27 (0, 0))) := by
    show _ = _
    rw [g1.block _ (heap_lt HBE.out) (fun e => by have := (rowF_lt HRF.out _ e.symm).2; omega)]
    exact HBE.out
  have hw1 : w.heap.size < w1.heap.size := heap_lt HE1.out
  have X1 : Hid (∀ x, x < w.heap.size → (Value.slice ad fs.length cd).ownBlock ≠ some x → w1.heap[x]? = w.heap[x]?) := fun x hx h => (g1.block x (by have := HB0.out.size; omega) (fun e => h e.symm)).trans (HB0.out.block x hx)
  clear rf1 g1 HMD z0 z1 z2 z3 z4 HBE
  have HMS := hide (markSpotS_own (.slice ar dir.length cr) dir B (k + 3 * fs.length) w1 hm (by omega) (by omega) RS1.out)
  obtain ⟨z0, z1, z2, z3, z4, -⟩ := five_cells HE1.out
  go_wp2_with fail
  refine HMS.out.mono ?_
  rintro e w2 ⟨rfl, rs2, g2⟩
  have RF2 := hide (rowF_grown RF1.out g2 (fun g hg e => files_spots_ne RF1.out RS1.out hg e.symm))
  have RS2 := hide rs2
  have B2 : Hid (Below B w w2) := B1.out.grown g2 (by omega) (fun g hg => (rowSpot_lt RS1.out g hg).1)
  have X2 : Hid (∀ x, x < w.heap.size → (Value.slice ad fs.length cd).ownBlock ≠ some x → (Value.slice ar dir.length cr).ownBlock ≠ some x → w2.heap[x]? = w.heap[x]?) := fun x hx h h' => (g2.block x (by omega) (fun e => h' e.symm)).trans (X1.out x hx h)
  clear rs2 g2 HMS z0 z1 z2 z3 z4
  go_wp2
  go_ret
  exact ⟨rfl, RF2.out, RS2.out, B2.out, X2.out⟩

set_option maxRecDepth 100000 in
set_option maxHeartbeats 1600000 in
theorem heldEngine_own (vd vr : Value) (n m : Nat) (room act seq : Int) (B k : Nat) (w : World) (hn : n ≤ 1048576) (hm : m ≤ 1048576) (hk0 : 0 < k) (hk : k ≤ 1000000) (h1 : RowF w B vd (marksF k n)) (h2 : RowSpot w B vr (markSpotDs (k + 3 * n) m)) :
    Calls Tryz.prog 12 #[.agg #[vd, .int .i64 room, .int .i64 act, .int .i64 seq, vr], .int .i64 (k : Int)] w fun e w' => e = .returned (.int .i64 ((k + 3 * n + 4 * m : Nat) : Int)) ∧ Below w.heap.size w w' := by
  obtain ⟨ad, cd, hvd, -⟩ := rowF_at h1
  obtain ⟨ar, cr, hvr, h3⟩ := rowSpot_at h2
  rw [marksF_length] at hvd
  rw [markSpotDs_length] at hvr
  subst hvd hvr
  have HRF := hide h1
  have HRS := hide h3
  clear h1 h2 h3
  obtain ⟨wb, hwb⟩ : ∃ wb, wb = w.alloc (.cells #[.slice ad n cd, .int .i64 room, .int .i64 act, .int .i64 seq, .slice ar m cr] 27) := ⟨_, rfl⟩
  have HB0 : Hid (Below w.heap.size w wb) := by rw [hwb]; exact (Below.refl _ w).alloc (Nat.le_refl _) _
  have HBE : Hid (wb.heap[w.heap.size]? = some (.cells #[.slice ad n cd, .int .i64 room, .int .i64 act, .int .i64 seq, .slice ar m cr] 27 (0, 0))) := by rw [hwb]; exact heap_alloc_new _ _
  have HMD := hide (heldDisk_row (.slice ad n cd) n B k wb hn hk0 (by omega) (rowF_below HRF.out HB0.out))
  have hk1 : decide (((k + 3 * n : Nat) : Int) < 0) = false := by simp; omega
  have hk2 : decide (((k + 3 * n + 4 * m : Nat) : Int) < 0) = false := by simp; omega
  obtain ⟨z0, z1, z2, z3, z4, -⟩ := five_cells HBE.out
  obtain ⟨X, HX⟩ : ∃ X : Nat, Hid (k + 3 * n = X) := ⟨_, hide rfl⟩
  obtain ⟨Y, HY⟩ : ∃ Y : Nat, Hid (X + 4 * m = Y) := ⟨_, hide rfl⟩
  rw [HX.out] at HMD HRS hk1 hk2 ⊢
  rw [HY.out] at hk2 ⊢
  have hX0 : 0 < X ∧ X ≤ 10000000 := by have := HX.out; omega
  go_enter Tryz.func12, Tryz.ntmps12
  go_wp2_with fail
  rw [← hwb]
  clear hwb
  go_wp2_with fail
  refine HMD.out.mono ?_
  rintro e w1 ⟨rfl, b1⟩
  have B1 := hide (HB0.out.trans (b1.mono HB0.out.size))
  have HE1 := hide ((b1.block _ (heap_lt HBE.out)).trans HBE.out)
  clear b1 z0 z1 z2 z3 z4
  obtain ⟨z0, z1, z2, z3, z4, -⟩ := five_cells HE1.out
  have HMS := hide (heldSpotS_any ar cr m X w1 hm hX0.1 hX0.2 (spotsAt_keep HRS.out B1.out))
  rw [HY.out] at HMS
  go_wp2_with fail
  refine HMS.out.mono ?_
  rintro e w2 ⟨rfl, b2⟩
  have B2 := hide (B1.out.trans (b2.mono B1.out.size))
  clear b2 z0 z1 z2 z3 z4
  go_wp2
  go_ret
  exact ⟨rfl, B2.out⟩
end Go.Proofs.YtijmlgdeeodehamGreatDoor

/- The law of FormatEngine. -/
namespace Go.Proofs.YtijmlgdeeodehamGreatDoor
open Go.RowKit

def fmtFs (room : Int) : List FileD := bif roomB room then [fmtF] else []
def fmtR (room : Int) : Int := bif roomB room then room else 0
/-- What FormatEngine leaves, in one form. -/
def FmtPost (room : Int) (w : World) (e : Ending) (w' : World) : Prop := (∃ vd vr, e = .returned (.tuple #[.agg #[vd, .int .i64 (fmtR room), .int .i64 0, .int .i64 0, vr], .bool (roomB room)]) ∧ RowF w' w.heap.size vd (fmtFs room) ∧ RowSpot w' w.heap.size vr []) ∧ Below w.heap.size w w'
theorem fmt_post {room : Int} {w w' : World} {e : Ending} (h : Below w.heap.size w w' ∧
      ((roomB room = true ∧ ∃ vd vr, e = .returned (.tuple #[.agg #[vd, .int .i64 room, .int .i64 0, .int .i64 0, vr], .bool true]) ∧ RowF w' w.heap.size vd [fmtF] ∧ RowSpot w' w.heap.size vr []) ∨
       (roomB room = false ∧ e = .returned (.tuple #[.agg #[.slice none 0 0, .int .i64 0, .int .i64 0, .int .i64 0, .slice none 0 0], .bool false])))) : FmtPost room w e w' := by
  obtain ⟨b, ⟨hr, vd, vr, rfl, h1, h2⟩ | ⟨hr, rfl⟩⟩ := h
  · refine ⟨⟨vd, vr, ?_, ?_, h2⟩, b⟩
    · unfold fmtR; rw [hr]; rfl
    · unfold fmtFs; rw [hr]; exact h1
  · refine ⟨⟨.slice none 0 0, .slice none 0 0, ?_, ?_, .inl ⟨rfl, rfl⟩⟩, b⟩
    · unfold fmtR; rw [hr]; rfl
    · unfold fmtFs; rw [hr]; exact .inl ⟨rfl, rfl⟩
theorem rowF_rowsF {w : World} {B n c : Nat} {a : Option Addr} {fs : List FileD} (h : RowF w B (.slice a n c) fs) : FilesAt w a fs := by
  obtain ⟨ao, cap, e, h1⟩ := rowF_at h
  cases e
  exact h1
theorem fmtFs_len (room : Int) : (fmtFs room).length ≤ 1 := by unfold fmtFs; cases roomB room <;> simp

set_option maxRecDepth 100000 in
set_option maxHeartbeats 3200000 in
theorem lawFormat (room : Int) (w : World) (hT : SumTab w) :
    Calls Tryz.prog 3 #[.int .i64 room] w fun e w' => e = .returned (.bool true) ∧ Below w.heap.size w w' := by
  have HT := hide hT
  have HI := hide (fun W hW => (implFormat_any room W hW).mono fun _ _ h => fmt_post h)
  have HS := hide (fun W => (specFormat_any room W).mono fun _ _ h => fmt_post h)
  have hn := fmtFs_len room
  unfold FmtPost at HI HS
  clear hT
  generalize fmtFs room = fs at HI HS hn
  generalize fmtR room = rm at HI HS
  generalize roomB room = ok at HI HS
  obtain ⟨dr, hdr⟩ : ∃ dr : List SpotD, dr = [] := ⟨_, rfl⟩
  have hdl : dr.length ≤ 1 := by rw [hdr]; simp
  rw [← hdr] at HI HS
  clear hdr
  have hml : fs.length ≤ maxLen := by unfold maxLen; omega
  have hml0 : dr.length ≤ maxLen := by unfold maxLen; omega
  obtain ⟨R, HR⟩ : ∃ R : Int, Hid (((1 + 3 * fs.length + 4 * dr.length : Nat) : Int) = R) := ⟨_, hide rfl⟩
  have hR : decide (R < 0) = false := by have := HR.out; simp; omega
  have hRR : (!(R == R)) = false := by simp
  go_enter Tryz.func3, Tryz.ntmps3
  go_wp2_with fail
  refine (HS.out _).mono ?_
  rintro e w1 ⟨⟨v1, u1, rfl, r1, s1⟩, b1⟩
  obtain ⟨a1, c1, rfl, F1⟩ := rowF_at r1
  obtain ⟨d1, e1, rfl, D1⟩ := rowSpot_at s1
  obtain ⟨wA, hwA⟩ : ∃ x, x = w1.alloc (.cells #[.slice a1 fs.length c1, .int .i64 rm, .int .i64 0, .int .i64 0, .slice d1 dr.length e1] 27) := ⟨_, rfl⟩
  have B1A : Below w1.heap.size w1 wA := by rw [hwA]; exact (Below.refl _ w1).alloc (Nat.le_refl _) _
  have BA := hide (b1.trans (B1A.mono b1.size))
  have KA : Hid (wA.heap[w1.heap.size]? = some (.cells #[.slice a1 fs.length c1, .int .i64 rm, .int .i64 0, .int .i64 0, .slice d1 dr.length e1] 27 (0, 0))) := by rw [hwA]; exact heap_alloc_new _ _
  have FA := hide (filesAt_keep F1 B1A)
  have DA := hide (spotsAt_keep D1 B1A)
  have hlA : w1.heap.size < wA.heap.size := heap_lt KA.out
  clear r1 s1 b1 F1 D1 B1A
  go_wp2_with fail
  rw [← hwA]
  clear hwA
  refine (HI.out _ (sumTab_later BA.out HT.out)).mono ?_
  rintro e w2 ⟨⟨v2, u2, rfl, r2, s2⟩, b2⟩
  obtain ⟨a2, c2, rfl, -⟩ := rowF_at r2
  obtain ⟨d2, e2, rfl, -⟩ := rowSpot_at s2
  obtain ⟨wB, hwB⟩ : ∃ x, x = w2.alloc (.cells #[.slice a2 fs.length c2, .int .i64 rm, .int .i64 0, .int .i64 0, .slice d2 dr.length e2] 27) := ⟨_, rfl⟩
  have B2B : Below w2.heap.size w2 wB := by rw [hwB]; exact (Below.refl _ w2).alloc (Nat.le_refl _) _
  have CB := hide (b2.trans (B2B.mono b2.size))
  have KB : Hid (wB.heap[w2.heap.size]? = some (.cells #[.slice a2 fs.length c2, .int .i64 rm, .int .i64 0, .int .i64 0, .slice d2 dr.length e2] 27 (0, 0))) := by rw [hwB]; exact heap_alloc_new _ _
  have RB := hide (rowF_below r2 B2B)
  have SB := hide (rowSpot_below s2 B2B)
  have HG : Hid (∀ g, (Value.slice a2 fs.length c2).ownBlock = some g → g < w2.heap.size) := fun g h => (rowF_lt r2 g h).2
  have HGs : Hid (∀ g, (Value.slice d2 dr.length e2).ownBlock = some g → g < w2.heap.size) := fun g h => (rowSpot_lt s2 g h).2
  have hA2 : wA.heap.size ≤ w2.heap.size := b2.size
  have hlB : w2.heap.size < wB.heap.size := heap_lt KB.out
  have KAB := hide ((CB.out.block _ hlA).trans KA.out)
  have HEQ := hide (eqEngine_same fs a2 a1 d2 d1 c2 c1 e2 e1 rm 0 0 dr wB hml (rowF_rowsF RB.out) (filesAt_keep FA.out CB.out) hml0 (rowSpot_rows SB.out) (spotsAt_keep DA.out CB.out))
  clear r2 s2 b2 B2B
  cases ok
  all_goals
    obtain ⟨x0, x1, x2, x3, x4, -⟩ := five_cells KAB.out
    obtain ⟨z0, z1, z2, z3, z4, -⟩ := five_cells KB.out
    subst hwB
    go_wp2_with fail
    refine HEQ.out.mono ?_
    rintro e w3 ⟨rfl, b3⟩
    have C3 := hide (CB.out.trans (b3.mono CB.out.size))
    have KB3 := hide ((b3.block _ hlB).trans KB.out)
    have R3 := hide (rowF_below RB.out b3)
    have S3 := hide (rowSpot_below SB.out b3)
    have h3 : w2.heap.size < w3.heap.size := heap_lt KB3.out
    clear b3 x0 x1 x2 x3 x4 z0 z1 z2 z3 z4 HEQ KB KAB RB SB
    have HMK := hide (markEngine_own (.slice a2 fs.length c2) (.slice d2 dr.length e2) fs dr rm 0 0 wA.heap.size 1 w3 (by omega) (by omega) (by omega) (by omega) (by omega) R3.out S3.out)
    rw [HR.out] at HMK
    obtain ⟨z0, z1, z2, z3, z4, -⟩ := five_cells KB3.out
    go_wp2_with fail
    refine HMK.out.mono ?_
    rintro e w4 ⟨rfl, r4, s4, b4, k4⟩
    have C4 := hide (C3.out.trans b4)
    have KB4 := hide ((k4 _ h3 (fun e => by have := HG.out _ e; omega) (fun e => by have := HGs.out _ e; omega)).trans KB3.out)
    have R4 := hide r4
    have S4 := hide s4
    clear r4 s4 b4 k4 z0 z1 z2 z3 z4 HMK R3 S3
    have HHE := hide (fun W h1 h2 => heldEngine_own (.slice a2 fs.length c2) (.slice d2 dr.length e2) fs.length dr.length rm 0 0 wA.heap.size 1 W (by omega) (by omega) (by omega) (by omega) h1 h2)
    rw [HR.out] at HHE
    obtain ⟨z0, z1, z2, z3, z4, -⟩ := five_cells KB4.out
    go_wp2_with fail
    refine (HHE.out _ R4.out S4.out).mono ?_
    rintro e w5 ⟨rfl, b5⟩
    have C5 := hide (C4.out.trans (b5.mono C4.out.size))
    have KB5 := hide ((b5.block _ (heap_lt KB4.out)).trans KB4.out)
    have R5 := hide (rowF_below R4.out b5)
    have S5 := hide (rowSpot_below S4.out b5)
    have BW5 := hide (BA.out.trans (C5.out.mono BA.out.size))
    clear b5 z0 z1 z2 z3 z4
    go_wp2_with fail
    refine (HI.out _ (sumTab_later BW5.out HT.out)).mono ?_
    rintro e w6 ⟨⟨v6, u6, rfl, r6, s6⟩, b6⟩
    obtain ⟨a6, c6, rfl, f6⟩ := rowF_at r6
    obtain ⟨d6, e6, rfl, p6⟩ := rowSpot_at s6
    obtain ⟨wC, hwC⟩ : ∃ x, x = w6.alloc (.cells #[.slice a6 fs.length c6, .int .i64 rm, .int .i64 0, .int .i64 0, .slice d6 dr.length e6] 27) := ⟨_, rfl⟩
    have B6C : Below w6.heap.size w6 wC := by rw [hwC]; exact (Below.refl _ w6).alloc (Nat.le_refl _) _
    have b5C := b6.trans (B6C.mono b6.size)
    have C6 := hide (C5.out.trans (b5C.mono C5.out.size))
    have KC : Hid (wC.heap[w6.heap.size]? = some (.cells #[.slice a6 fs.length c6, .int .i64 rm, .int .i64 0, .int .i64 0, .slice d6 dr.length e6] 27 (0, 0))) := by rw [hwC]; exact heap_alloc_new _ _
    have KA6 := hide ((C6.out.block _ hlA).trans KA.out)
    have KB6 := hide ((b5C.block _ (heap_lt KB5.out)).trans KB5.out)
    have R6 := hide (rowF_below R5.out b5C)
    have S6 := hide (rowSpot_below S5.out b5C)
    have HEQ := hide (eqEngine_same fs a6 a1 d6 d1 c6 c1 e6 e1 rm 0 0 dr wC hml (filesAt_keep f6 B6C) (filesAt_keep FA.out C6.out) hml0 (spotsAt_keep p6 B6C) (spotsAt_keep DA.out C6.out))
    clear r6 s6 b6 f6 p6 B6C b5C
    obtain ⟨x0, x1, x2, x3, x4, -⟩ := five_cells KA6.out
    obtain ⟨z0, z1, z2, z3, z4, -⟩ := five_cells KC.out
    subst hwC
    go_wp2_with fail
    refine HEQ.out.mono ?_
    rintro e w7 ⟨rfl, b7⟩
    have C7 := hide (C6.out.trans (b7.mono C6.out.size))
    have KB7 := hide ((b7.block _ (heap_lt KB6.out)).trans KB6.out)
    have R7 := hide (rowF_below R6.out b7)
    have S7 := hide (rowSpot_below S6.out b7)
    clear b7 x0 x1 x2 x3 x4 z0 z1 z2 z3 z4 HEQ
    obtain ⟨z0, z1, z2, z3, z4, -⟩ := five_cells KB7.out
    go_wp2_with fail
    refine (HHE.out _ R7.out S7.out).mono ?_
    rintro e w8 ⟨rfl, b8⟩
    have BW8 := hide (BA.out.trans ((C7.out.trans (b8.mono C7.out.size)).mono BA.out.size))
    clear b8 z0 z1 z2 z3 z4
    go_wp2
    go_ret
    exact ⟨rfl, BW8.out⟩
end Go.Proofs.YtijmlgdeeodehamGreatDoor
