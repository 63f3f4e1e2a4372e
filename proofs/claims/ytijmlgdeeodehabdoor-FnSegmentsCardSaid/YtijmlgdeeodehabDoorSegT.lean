/- Segments in plain words: what is put behind a head is read again; bytes behind it that are none, and any cut, change nothing ahead. -/
import Derived.Test.YtijmlgdeeodehabDoorSegs
import Derived.Test.YtijmlgdeeodehabDoorFrameQ
namespace Go.Proofs.YtijmlgdeeodehabDoor
open Go.RowKit

theorem back_file (t : ByteArray) (L : List UInt8) (h : t.data.toList = L) : t = file L := by
  subst h
  cases t
  rfl
/-- Texts of batches whose numbers rise behind a last one. -/
def risingT : Int → List (List UInt8) → Prop
  | _, [] => True
  | last, t :: r => rdOk (file t) = true ∧ last < rdSeq (file t) ∧ risingT (rdSeq (file t)) r
/-- The batches of such texts. -/
def bsT (ts : List (List UInt8)) : List BatchD := ts.map fun t => ⟨rdSeq (file t), rdChanges (file t)⟩
theorem bsT_take (ts : List (List UInt8)) (m : Nat) : bsT (ts.take m) = (bsT ts).take m := by unfold bsT; rw [List.map_take]
theorem risingT_take : ∀ (ts : List (List UInt8)) (last : Int) (m : Nat), risingT last ts → risingT last (ts.take m)
  | [], _, _, _ => by simp [risingT]
  | _ :: _, _, 0, _ => by simp [risingT]
  | t :: r, last, m + 1, h => ⟨h.1, h.2.1, risingT_take r _ m h.2.2⟩
/-- The place behind the last of some frames. -/
def endOr (e : Nat) (l : List (Nat × Nat)) : Nat := match l.getLast? with
  | some x => x.2
  | none => e
theorem endOr_cons (e : Nat) (x : Nat × Nat) (r : List (Nat × Nat)) : endOr e (x :: r) = endOr x.2 r := by
  unfold endOr
  rw [List.getLast?_cons]
  cases r.getLast? <;> rfl
theorem ris_T (s : ByteArray) : ∀ (l : List (Nat × Nat)) (ts : List (List UInt8)) (last : Int) (e : Nat), recs s l = ts → risingT last ts → ris s l last e = (bsT ts, endOr e l)
  | [], ts, last, e, h, _ => by
    obtain rfl : ts = [] := h.symm
    rfl
  | x :: r, ts, last, e, h, hr => by
    cases ts with
    | nil => simp [recs] at h
    | cons t q =>
      have h1 : (s.extract x.1 x.2).data.toList = t := by simp [recs] at h; simpa using h.1
      have h2 : recs s r = q := by simp only [recs, List.map_cons, List.cons.injEq] at h; exact h.2
      have hx := back_file _ _ h1
      obtain ⟨k1, k2, k3⟩ := hr
      rw [ris_more (by rw [hx]; exact k1) (by rw [hx]; exact k2), hx, ris_T s r q _ x.2 h2 k3, endOr_cons]
      rfl

/-- Frames, and bytes behind them that are none. -/
theorem frs_tail (b : List UInt8) : ∀ (ts : List (List UInt8)) (a : List UInt8) (f : Nat), (∀ t ∈ ts, 1 ≤ t.length ∧ t.length ≤ 9000) → ts.length < f → frB (file (a ++ framesL ts ++ b)) (a ++ framesL ts).length = none →
    recs (file (a ++ framesL ts ++ b)) (frs (file (a ++ framesL ts ++ b)) f a.length) = ts ∧ endOr a.length (frs (file (a ++ framesL ts ++ b)) f a.length) = (a ++ framesL ts).length
  | [], a, f, _, _, hn => by
    have e : a ++ framesL [] = a := by simp [framesL]
    rw [e] at hn ⊢
    rw [frs_none _ f _ hn]
    exact ⟨rfl, rfl⟩
  | t :: r, a, 0, _, hf, _ => absurd hf (by simp)
  | t :: r, a, f + 1, ht, hf, hn => by
    have e : a ++ framesL (t :: r) = a ++ frameL t ++ framesL r := by simp [framesL, List.append_assoc]
    have htt := ht t (by simp)
    rw [e] at hn ⊢
    obtain ⟨x, hx, hx2, hx3⟩ := frB_at a t (framesL r ++ b) htt.1 htt.2
    rw [show a ++ frameL t ++ (framesL r ++ b) = a ++ frameL t ++ framesL r ++ b by simp only [List.append_assoc]] at hx hx3
    have ih := frs_tail b r (a ++ frameL t) f (fun u hu => ht u (by simp [hu])) (by simpa using hf) hn
    have hxl : x.2 = (a ++ frameL t).length := by rw [hx2, List.length_append]
    rw [frs_some _ f _ x hx, endOr_cons, hxl]
    refine ⟨?_, ih.2⟩
    show ((file (a ++ frameL t ++ framesL r ++ b)).extract x.1 x.2).data.toList :: recs _ _ = _
    rw [hx3, ih.1]

theorem headL_len (n f : Nat) : 1 ≤ (headL n f).length ∧ (headL n f).length ≤ 11 := by
  have h1 := Wd.varF_len 5 n
  have h2 := Wd.varF_len 5 f
  unfold headL
  rw [List.length_append, List.length_append]
  simp only [List.length_cons, List.length_nil]
  omega
theorem hd_file (n f : Nat) (hn : n ≤ 99) (hf : f ≤ n) : hdFrom (n : Int) (file (headL n f)) = some f := (hdFrom_iff _ _ _).2 ⟨by omega, by omega, by omega, by rw [Int.toNat_natCast]⟩

/-- What is read of a file whose records are a head and texts of batches. -/
theorem seg_read {n f : Nat} (hn : n ≤ 99) (hf : f ≤ n) {ts : List (List UInt8)} (hts : risingT (-1) ts) {s : ByteArray} (hs : recs s (unf s) = headL n f :: ts) : segRead (n : Int) s = some (f, bsT ts, endOf (unf s)) := by
  cases hu : unf s with
  | nil => rw [hu] at hs; simp [recs] at hs
  | cons x r =>
    rw [hu] at hs
    have h1 : (s.extract x.1 x.2).data.toList = headL n f := by simp only [recs, List.map_cons, List.cons.injEq] at hs; exact hs.1
    have h2 : recs s r = ts := by simp only [recs, List.map_cons, List.cons.injEq] at hs; exact hs.2
    have hx := back_file _ _ h1
    rw [segRead_some hu (f := f) (by rw [hx]; exact hd_file n f hn hf), ris_T s r ts (-1) x.2 h2 hts]
    have : endOf (x :: r) = endOr x.2 r := by
      have := endOr_cons 0 x r
      rw [← this]
      unfold endOf endOr
      cases (x :: r).getLast? <;> rfl
    rw [this]

theorem seg_whole (n f : Nat) (hn : n ≤ 99) (hf : f ≤ n) (ts : List (List UInt8)) (hts : risingT (-1) ts) (hl : ∀ t ∈ ts, 1 ≤ t.length ∧ t.length ≤ 9000) (b : List UInt8) (hsz : (framesL (headL n f :: ts) ++ b).length ≤ 20000)
    (hb : frB (file (framesL (headL n f :: ts) ++ b)) (framesL (headL n f :: ts)).length = none) : segRead (n : Int) (file (framesL (headL n f :: ts) ++ b)) = some (f, bsT ts, (framesL (headL n f :: ts)).length) := by
  have hH := headL_len n f
  have hall : ∀ t ∈ headL n f :: ts, 1 ≤ t.length ∧ t.length ≤ 9000 := by
    intro t ht
    rcases List.mem_cons.1 ht with rfl | ht
    · omega
    · exact hl t ht
  obtain ⟨F, hF⟩ : ∃ F, F = (headL n f :: ts).length + (file (framesL (headL n f :: ts) ++ b)).size + 1 := ⟨_, rfl⟩
  have hu : unf (file (framesL (headL n f :: ts) ++ b)) = frs (file (framesL (headL n f :: ts) ++ b)) F 0 := by
    unfold unf
    rw [if_pos (by rw [file_size]; exact hsz)]
    exact frs_same _ _ _ 0 (by omega) (by omega)
  have ht := frs_tail b (headL n f :: ts) [] F hall (by omega) (by simpa using hb)
  simp only [List.nil_append, List.length_nil] at ht
  have h := seg_read hn hf hts (s := file (framesL (headL n f :: ts) ++ b)) (by rw [hu]; exact ht.1)
  rw [h, hu]
  have : ∀ l, endOf l = endOr 0 l := fun l => by unfold endOf endOr; cases l.getLast? <;> rfl
  rw [this, ht.2]

theorem end_none (L : List UInt8) : frB (file (L ++ [])) L.length = none := frB_num _ _ (Wd.rv_at_end _ _ (by rw [file_size]; simp))
/-- The bytes "torn" are no frame. -/
theorem torn_none (L : List UInt8) : frB (file (L ++ [116, 111, 114, 110])) L.length = none := by
  have hz : (file (L ++ [116, 111, 114, 110])).size = L.length + 4 := by rw [file_size, List.length_append]; rfl
  have hb : Wd.bt (file (L ++ [116, 111, 114, 110])) L.length = 116 := by
    rw [file_bt, List.getElem?_append_right (Nat.le_refl _), Nat.sub_self]
    rfl
  have hr : Wd.rv (file (L ++ [116, 111, 114, 110])) L.length = some (116, L.length + 1) := by
    show Wd.rvF _ 5 _ 0 1 0 = _
    rw [Wd.rvF_lastB (b := 116) hb (by rw [hz]; omega) (by omega) (by omega) (.inl (by omega))]
  exact frB_no _ _ _ _ hr (fun h => by have := h.2.2.1; rw [hz] at this; omega)

theorem seg_cut (n f : Nat) (hn : n ≤ 99) (hf : f ≤ n) (ts : List (List UInt8)) (hts : risingT (-1) ts) (hl : ∀ t ∈ ts, 1 ≤ t.length ∧ t.length ≤ 9000) (k : Nat) (hk : (frameL (headL n f)).length ≤ k) (hk2 : k ≤ (framesL (headL n f :: ts)).length) (hsz : (framesL (headL n f :: ts)).length ≤ 20000) :
    ∃ m e, segRead (n : Int) (file ((framesL (headL n f :: ts)).take k)) = some (f, (bsT ts).take m, e) ∧ e ≤ k := by
  have hH := headL_len n f
  have hall : ∀ t ∈ headL n f :: ts, 1 ≤ t.length ∧ t.length ≤ 9000 := by
    intro t ht
    rcases List.mem_cons.1 ht with rfl | ht
    · omega
    · exact hl t ht
  obtain ⟨m, h0, h1, h2, h3, h4⟩ := unf_cut (headL n f :: ts) k hall hk2 hsz
  cases m with
  | zero =>
    rcases h4 with h4 | h4
    · simp at h4
    · simp [framesL] at h4
      omega
  | succ m =>
    rw [List.take_succ_cons] at h1
    have h := seg_read hn hf (risingT_take ts (-1) m hts) h1
    exact ⟨m, _, by rw [h, bsT_take], by rw [h2]; exact h3⟩

theorem seg_other (n f : Nat) (hn : n ≤ 99) (ts : List (List UInt8)) (hl : ∀ t ∈ ts, 1 ≤ t.length ∧ t.length ≤ 9000) (hsz : (framesL (headL n f :: ts)).length ≤ 20000) : segRead ((n : Int) + 1) (file (framesL (headL n f :: ts))) = none := by
  have hH := headL_len n f
  have hall : ∀ t ∈ headL n f :: ts, 1 ≤ t.length ∧ t.length ≤ 9000 := by
    intro t ht
    rcases List.mem_cons.1 ht with rfl | ht
    · omega
    · exact hl t ht
  obtain ⟨m, h0, h1, h2, h3, h4⟩ := unf_cut (headL n f :: ts) (framesL (headL n f :: ts)).length hall (Nat.le_refl _) hsz
  rw [List.take_length] at h1
  cases hu : unf (file (framesL (headL n f :: ts))) with
  | nil => exact segRead_nil hu
  | cons x r =>
    rw [hu] at h1
    refine segRead_head hu ?_
    cases m with
    | zero => simp [recs] at h1
    | succ m =>
      rw [List.take_succ_cons] at h1
      have hx := back_file _ _ (show ((file (framesL (headL n f :: ts))).extract x.1 x.2).data.toList = headL n f by simp only [recs, List.map_cons, List.cons.injEq] at h1; exact h1.1)
      rw [hx]
      exact hd_none_other ((headL_first n f).2 (by omega)) (by omega)

/-! ### One more is put behind -/
theorem risingT_snoc : ∀ (ts : List (List UInt8)) (last : Int) (t : List UInt8), risingT last ts → rdOk (file t) = true → (∀ u ∈ ts, rdSeq (file u) < rdSeq (file t)) → last < rdSeq (file t) → risingT last (ts ++ [t])
  | [], _, _, _, h1, _, h3 => ⟨h1, h3, trivial⟩
  | u :: r, _, t, h, h1, h2, _ => ⟨h.1, h.2.1, risingT_snoc r _ t h.2.2 h1 (fun v hv => h2 v (List.mem_cons_of_mem _ hv)) (h2 u (List.mem_cons_self ..))⟩
end Go.Proofs.YtijmlgdeeodehabDoor
