/- The program's reader of a batch, plainly; it reads what the specification's reads. -/
import Derived.Test.YtbenmgokhklnjaaBatchQ
namespace Go.Proofs.Ytbenmgokhklnjaa
open Go.RowKit

/-- What is read as a number is written so. -/
theorem rvF_text (s : ByteArray) (i a b : Nat) : ∀ f p k q n, p = i + k → f + k = 5 → q = 128 ^ k → n = Wd.valF s i k → (∀ j, j < k → 128 ≤ Wd.bt s (i + j)) → Wd.rvF s f p k q n = some (a, b) → ∃ m, b = i + (m + 1) ∧ Wd.varF 5 a = Wd.subF s i (m + 1) ∧ b ≤ s.size := by
  intro f
  induction f with
  | zero => intro p k q n _ _ _ _ _ h; simp [Wd.rvF] at h
  | succ f ih =>
    intro p k q n hp hf hq hn hall h
    by_cases h1 : p < s.size
    · by_cases h2 : Wd.bt s p < 128
      · by_cases h3 : n + Wd.bt s p % 128 * q ≤ 1000000000 ∧ (0 < Wd.bt s p ∨ k = 0)
        · rw [Wd.rvF_last s f p k q n h1 h2 h3.1 h3.2] at h
          simp only [Option.some.injEq, Prod.mk.injEq] at h
          obtain ⟨rfl, rfl⟩ := h
          subst hp hq hn
          rw [← Wd.valF_snoc]
          exact ⟨k, by omega, (Wd.canonF s k i 5 hall h2 (by omega)).2 h3.2, h1⟩
        · rw [Wd.rvF_not s f p k q n h2 h3] at h; simp at h
      · rw [Wd.rvF_more s f p k q n h1 h2] at h
        refine ih (p + 1) (k + 1) (q * 128) _ (by omega) (by omega) (by rw [hq, Nat.pow_succ]) (by subst hp hq hn; rw [Wd.valF_snoc]) ?_ h
        intro j hj
        by_cases hjk : j < k
        · exact hall j hjk
        · have : j = k := by omega
          subst this
          rw [← hp]
          omega
    · rw [Wd.rvF_end s _ p k q n h1] at h; simp at h

theorem take_cut (t : ByteArray) (i k : Nat) : t.data.toList.take (i + k) = t.data.toList.take i ++ (t.extract i (i + k)).data.toList := by
  rw [ByteArray.data_extract, Array.toList_extract, List.extract_eq_take_drop, Nat.add_sub_cancel_left, List.take_add]

theorem rv_text {t : ByteArray} {i a b : Nat} (h : Wd.rv t i = some (a, b)) : t.data.toList.take b = t.data.toList.take i ++ Wd.varF 5 a := by
  obtain ⟨m, rfl, h2, h3⟩ := rvF_text t i a b 5 i 0 1 0 rfl rfl rfl rfl (fun j hj => absurd hj (by omega)) h
  rw [take_cut t i (m + 1), Wd.subF_extract t i (m + 1) h3, h2]

/-- A short text is read. -/
def shI (t : ByteArray) (i : Nat) : Option (ByteArray × Nat) :=
  match Wd.rv t i with
  | none => none
  | some (n, p) => if n ≤ 20000 ∧ p + n ≤ t.size then some (t.extract p (p + n), p + n) else none
/-- A change is read. -/
def chI (t : ByteArray) (i : Nat) : Option (ChangeD × Nat) :=
  match shI t i with
  | none => none
  | some (s, p) =>
    if p < t.size ∧ Wd.bt t p < 2 then
      (match shI t (p + 1) with
      | none => none
      | some (v, e) => some (⟨s, v, Wd.bt t p == 1⟩, e))
    else none
/-- So many changes are read. -/
def chsI (t : ByteArray) : Nat → Nat → List ChangeD → Option (List ChangeD × Nat)
  | 0, i, acc => some (acc, i)
  | n + 1, i, acc =>
    match chI t i with
    | none => none
    | some (A, p) => chsI t n p (acc ++ [A])
/-- The number, the changes and the place behind them. -/
def btI (t : ByteArray) : Option (Nat × List ChangeD × Nat) :=
  if 0 < t.size ∧ Wd.bt t 0 = 66 then
    (match Wd.rv t 1 with
    | none => none
    | some (q, p) =>
      match Wd.rv t p with
      | none => none
      | some (n, p2) =>
        match chsI t n p2 [] with
        | none => none
        | some (cs, e) => some (q, cs, e))
  else none
/-- A whole batch. -/
def allI (t : ByteArray) : Option (Nat × List ChangeD) :=
  match btI t with
  | none => none
  | some (q, cs, e) => if e = t.size ∧ batchOkD q cs = true then some (q, cs) else none

theorem shI_yes {t : ByteArray} {i n p : Nat} (h : Wd.rv t i = some (n, p)) (h1 : n ≤ 20000) (h2 : p + n ≤ t.size) : shI t i = some (t.extract p (p + n), p + n) := by
  unfold shI; rw [h]; simp only; rw [if_pos ⟨h1, h2⟩]
theorem shI_no {t : ByteArray} {i n p : Nat} (h : Wd.rv t i = some (n, p)) (h1 : 20000 < n ∨ t.size < p + n) : shI t i = none := by
  unfold shI; rw [h]; simp only; rw [if_neg (by omega)]
theorem shI_none {t : ByteArray} {i : Nat} (h : Wd.rv t i = none) : shI t i = none := by
  unfold shI; rw [h]
theorem shI_text {t : ByteArray} {i e : Nat} {s : ByteArray} (h : shI t i = some (s, e)) : t.data.toList.take e = t.data.toList.take i ++ (shortB s).data.toList ∧ i < e ∧ e ≤ t.size ∧ s.size ≤ 20000 ∧ s.size ≤ t.size := by
  cases hr : Wd.rv t i with
  | none => rw [shI_none hr] at h; cases h
  | some x =>
    obtain ⟨n, p⟩ := x
    have hb := Wd.rv_bounds t i n p hr
    by_cases hc : n ≤ 20000 ∧ p + n ≤ t.size
    · rw [shI_yes hr hc.1 hc.2] at h
      simp only [Option.some.injEq, Prod.mk.injEq] at h
      obtain ⟨rfl, rfl⟩ := h
      have hsz : (t.extract p (p + n)).size = n := by rw [ByteArray.size_extract]; omega
      refine ⟨?_, by omega, hc.2, by omega, by omega⟩
      rw [take_cut t p n, rv_text hr, shortB_list, hsz, List.append_assoc]
    · rw [shI_no hr (by omega)] at h; cases h

theorem flag_list (t : ByteArray) (p : Nat) (h : Wd.bt t p < 2) : (flagB (Wd.bt t p == 1)).data.toList = [UInt8.ofNat (Wd.bt t p)] := by
  have : Wd.bt t p = 0 ∨ Wd.bt t p = 1 := by omega
  rcases this with e | e <;> rw [e] <;> rfl
theorem take_one (t : ByteArray) (p : Nat) (h : p < t.size) : t.data.toList.take (p + 1) = t.data.toList.take p ++ [UInt8.ofNat (Wd.bt t p)] := by
  rw [take_cut t p 1, Wd.subF_extract t p 1 h]
  rfl
theorem chI_text {t : ByteArray} {i e : Nat} {A : ChangeD} (h : chI t i = some (A, e)) : t.data.toList.take e = t.data.toList.take i ++ (changeB A).data.toList ∧ i < e ∧ e ≤ t.size ∧ A.key.size ≤ 20000 ∧ A.value.size ≤ 20000 := by
  unfold chI at h
  cases h1 : shI t i with
  | none => rw [h1] at h; cases h
  | some x =>
    obtain ⟨s, p⟩ := x
    rw [h1] at h
    simp only at h
    by_cases hc : p < t.size ∧ Wd.bt t p < 2
    · rw [if_pos hc] at h
      cases h2 : shI t (p + 1) with
      | none => rw [h2] at h; cases h
      | some y =>
        obtain ⟨v, e'⟩ := y
        rw [h2] at h
        simp only [Option.some.injEq, Prod.mk.injEq] at h
        obtain ⟨rfl, rfl⟩ := h
        obtain ⟨a1, a2, a3, a4, a5⟩ := shI_text h1
        obtain ⟨b1, b2, b3, b4, b5⟩ := shI_text h2
        refine ⟨?_, by omega, b3, a4, b4⟩
        rw [b1, take_one t p hc.1, a1, changeB_list, flag_list t p hc.2]
        simp only [List.append_assoc]
    · rw [if_neg hc] at h; cases h

theorem chsI_text {t : ByteArray} : ∀ (n i : Nat) (acc : List ChangeD) (cs : List ChangeD) (e : Nat), chsI t n i acc = some (cs, e) → i ≤ t.size → ∃ ns, cs = acc ++ ns ∧ ns.length = n ∧ t.data.toList.take e = t.data.toList.take i ++ changesL ns ∧ e ≤ t.size
  | 0, i, acc, cs, e, h, hi => by
    simp only [chsI, Option.some.injEq, Prod.mk.injEq] at h
    obtain ⟨rfl, rfl⟩ := h
    exact ⟨[], by simp, rfl, by simp [changesL], hi⟩
  | n + 1, i, acc, cs, e, h, hi => by
    unfold chsI at h
    cases h1 : chI t i with
    | none => rw [h1] at h; cases h
    | some x =>
      obtain ⟨A, p⟩ := x
      rw [h1] at h
      obtain ⟨a1, a2, a3, a4⟩ := chI_text h1
      obtain ⟨ns, rfl, c2, c3, c4⟩ := chsI_text n p (acc ++ [A]) cs e h a3
      exact ⟨A :: ns, by simp, by simp [c2], by rw [c3, a1, changesL, List.append_assoc], c4⟩

theorem headB_list (q n : Nat) : (headB q n).data.toList = [66] ++ Wd.varF 5 q ++ Wd.varF 5 n := by
  unfold headB
  rw [ByteArray.data_append, ByteArray.data_append, Array.toList_append, Array.toList_append]

theorem btI_text {t : ByteArray} {q e : Nat} {cs : List ChangeD} (h : btI t = some (q, cs, e)) : t.data.toList.take e = batchL q cs ∧ e ≤ t.size := by
  unfold btI at h
  by_cases hc : 0 < t.size ∧ Wd.bt t 0 = 66
  · rw [if_pos hc] at h
    cases h1 : Wd.rv t 1 with
    | none => rw [h1] at h; cases h
    | some x =>
      obtain ⟨q', p⟩ := x
      rw [h1] at h
      simp only at h
      cases h2 : Wd.rv t p with
      | none => rw [h2] at h; cases h
      | some y =>
        obtain ⟨n, p2⟩ := y
        rw [h2] at h
        simp only at h
        have hb := Wd.rv_bounds t p n p2 h2
        cases h3 : chsI t n p2 [] with
        | none => rw [h3] at h; cases h
        | some z =>
          obtain ⟨cs', e'⟩ := z
          rw [h3] at h
          simp only [Option.some.injEq, Prod.mk.injEq] at h
          obtain ⟨rfl, rfl, rfl⟩ := h
          obtain ⟨ns, c1, c2, c3, c4⟩ := chsI_text n p2 [] cs' e' h3 hb.2.2
          rw [List.nil_append] at c1
          subst c1
          refine ⟨?_, c4⟩
          have h0 := take_one t 0 hc.1
          rw [hc.2] at h0
          rw [c3, rv_text h2, rv_text h1, show (1 : Nat) = 0 + 1 from rfl, h0, List.take_zero, batchL, headB_list, c2]
          rfl
  · rw [if_neg hc] at h; cases h

/-! ### What is written is read -/
theorem rv_at {t : ByteArray} (a b : List UInt8) (n : Nat) (hn : n ≤ 1000000000) (ht : t = ⟨(a ++ Wd.varF 5 n ++ b).toArray⟩) : Wd.rv t a.length = some (n, a.length + (Wd.varF 5 n).length) := by
  have h := rvI_at a b n hn (a.length : Int) rfl
  have hs : (⟨(a ++ Wd.varF 5 n ++ b).toArray⟩ : ByteArray).size = a.length + (Wd.varF 5 n).length + b.length := by
    show (a ++ Wd.varF 5 n ++ b).length = _
    rw [List.length_append, List.length_append]
  unfold Wd.rvI at h
  rw [if_neg (by rw [hs]; omega), Int.toNat_natCast, ← ht] at h
  exact h
theorem cut_list {t : ByteArray} (a b : List UInt8) (s : ByteArray) (ht : t = ⟨(a ++ s.data.toList ++ b).toArray⟩) : t.extract a.length (a.length + s.size) = s ∧ a.length + s.size ≤ t.size := by
  have hl : s.data.toList.length = s.size := rfl
  have hs : t.size = a.length + s.size + b.length := by
    rw [ht]
    show (a ++ s.data.toList ++ b).length = _
    rw [List.length_append, List.length_append, hl]
  have h := takeC_at a b s ht
  unfold takeC at h
  rw [if_neg (by simp; omega)] at h
  exact ⟨(Prod.mk.inj h).1, by omega⟩
theorem shI_at {t : ByteArray} (a b : List UInt8) (s : ByteArray) (hs : s.size ≤ 20000) (ht : t = ⟨(a ++ (shortB s).data.toList ++ b).toArray⟩) : shI t a.length = some (s, a.length + (shortB s).size) := by
  rw [shortB_list] at ht
  have h1 := rv_at (t := t) a (s.data.toList ++ b) s.size (by omega) (by rw [ht]; simp only [List.append_assoc])
  obtain ⟨h2, h3⟩ := cut_list (t := t) (a ++ Wd.varF 5 s.size) b s (by rw [ht]; simp only [List.append_assoc])
  rw [List.length_append] at h2 h3
  rw [shI_yes h1 hs h3, h2, shortB_len, Nat.add_assoc]
theorem chI_at {t : ByteArray} (a b : List UInt8) (A : ChangeD) (hk : A.key.size ≤ 20000) (hv : A.value.size ≤ 20000) (ht : t = ⟨(a ++ (changeB A).data.toList ++ b).toArray⟩) : chI t a.length = some (A, a.length + (changeB A).size) := by
  rw [changeB_list] at ht
  have h1 := shI_at (t := t) a ((flagB A.gone).data.toList ++ (shortB A.value).data.toList ++ b) A.key hk (by rw [ht]; simp only [List.append_assoc])
  have h3 := shI_at (t := t) (a ++ (shortB A.key).data.toList ++ (flagB A.gone).data.toList) b A.value hv (by rw [ht]; simp only [List.append_assoc])
  have e1 : (shortB A.key).data.toList.length = (shortB A.key).size := rfl
  have e2 : (flagB A.gone).data.toList.length = (flagB A.gone).size := rfl
  rw [List.length_append, List.length_append, e1, e2, flagB_size] at h3
  have hz : (changeB A).size = (shortB A.key).size + 1 + (shortB A.value).size := by
    unfold changeB
    rw [ByteArray.size_append, ByteArray.size_append, flagB_size]
  have hf : (flagB A.gone).data.toList = [if A.gone then 1 else 0] := by cases A.gone <;> rfl
  have hp : (a ++ (shortB A.key).data.toList ++ (flagB A.gone).data.toList ++ (shortB A.value).data.toList ++ b)[a.length + (shortB A.key).size]? = some (if A.gone then 1 else 0) := by
    rw [hf]
    simp only [List.append_assoc]
    rw [List.getElem?_append_right (by omega), Nat.add_sub_cancel_left, ← e1, List.getElem?_append_right (Nat.le_refl _), Nat.sub_self]
    rfl
  have hb := bt_here _ _ _ hp
  have hlt : a.length + (shortB A.key).size < t.size := by
    rw [ht]
    have := (List.getElem?_eq_some_iff.1 hp).1
    show _ < (a ++ ((shortB A.key).data.toList ++ (flagB A.gone).data.toList ++ (shortB A.value).data.toList) ++ b).length
    simp only [List.append_assoc] at this ⊢
    exact this
  have hb' : Wd.bt t (a.length + (shortB A.key).size) = if A.gone then 1 else 0 := by
    rw [ht]
    simp only [List.append_assoc] at hb ⊢
    rw [hb]
    cases A.gone <;> rfl
  unfold chI
  rw [h1]
  simp only
  rw [if_pos ⟨hlt, by rw [hb']; split <;> omega⟩, h3, hb', hz]
  simp only [Nat.add_assoc]
  have hg : ((if A.gone = true then 1 else 0) == 1) = A.gone := by cases A.gone <;> rfl
  rw [hg]
theorem chsI_at {t : ByteArray} : ∀ (fs : List ChangeD) (a b : List UInt8) (acc : List ChangeD), (∀ A ∈ fs, A.key.size ≤ 20000 ∧ A.value.size ≤ 20000) → t = ⟨(a ++ changesL fs ++ b).toArray⟩ → chsI t fs.length a.length acc = some (acc ++ fs, a.length + (changesL fs).length)
  | [], a, b, acc, _, _ => by simp [chsI, changesL]
  | A :: r, a, b, acc, hs, ht => by
    have hA := hs A (List.mem_cons_self ..)
    have h1 := chI_at (t := t) a (changesL r ++ b) A hA.1 hA.2 (by rw [ht]; simp only [changesL, List.append_assoc])
    have h2 := chsI_at (t := t) r (a ++ (changeB A).data.toList) b (acc ++ [A]) (fun B hB => hs B (List.mem_cons_of_mem _ hB)) (by rw [ht]; simp only [changesL, List.append_assoc])
    have e1 : (changeB A).data.toList.length = (changeB A).size := rfl
    rw [List.length_append, e1] at h2
    rw [List.length_cons]
    simp only [chsI, h1]
    rw [h2]
    simp [changesL, e1, Nat.add_assoc]

/-- What the program's reader reads, the specification's reads. -/
theorem allI_rd {t : ByteArray} {q : Nat} {cs : List ChangeD} (ht : t.size ≤ 9000) (h : allI t = some (q, cs)) : rdOk t = true ∧ rdSeq t = (q : Int) ∧ rdChanges t = cs := by
  unfold allI at h
  cases h1 : btI t with
  | none => rw [h1] at h; cases h
  | some x =>
    obtain ⟨q', cs', e⟩ := x
    rw [h1] at h
    simp only at h
    by_cases hc : e = t.size ∧ batchOkD q' cs' = true
    · rw [if_pos hc] at h
      simp only [Option.some.injEq, Prod.mk.injEq] at h
      obtain ⟨rfl, rfl⟩ := h
      obtain ⟨a1, -⟩ := btI_text h1
      rw [hc.1, List.take_of_length_le (show t.data.toList.length ≤ t.size from Nat.le_refl _)] at a1
      have hl : (batchL q' cs').length ≤ 9000 := by rw [← a1]; exact ht
      have hT : textOkD (q' : Int) cs' = true := by
        unfold textOkD
        rw [hc.2, Int.toNat_natCast]
        simp [hl]
      have hx : textD (q' : Int) cs' = t := by
        unfold textD
        rw [if_pos hT, Int.toNat_natCast, ← a1]
      have := rd_back hT
      rw [hx] at this
      exact this
    · rw [if_neg hc] at h; cases h
/-- What the specification's reader reads, the program's reads. -/
theorem rd_allI {t : ByteArray} (h : rdOk t = true) : t.size ≤ 9000 ∧ allI t = some ((rdSeq t).toNat, rdChanges t) := by
  obtain ⟨h1, h2⟩ := rd_text h
  generalize rdSeq t = s at h1 h2
  generalize rdChanges t = fs at h1 h2
  have hb : batchOkD s fs = true := by unfold textOkD at h1; simp only [Bool.and_eq_true] at h1; exact h1.1
  have hl : (batchL s.toNat fs).length ≤ 9000 := by unfold textOkD at h1; simp only [Bool.and_eq_true, decide_eq_true_eq] at h1; exact h1.2
  obtain ⟨g0, g1, g2, g3⟩ := batchOkD_bounds hb
  have hok : okChg none fs = true := by unfold batchOkD at hb; simp only [Bool.and_eq_true] at hb; exact hb.2.2
  have hsm := okChg_small fs none hok
  obtain ⟨m, rfl⟩ := Int.eq_ofNat_of_zero_le g0
  rw [Int.toNat_natCast] at hl ⊢
  unfold textD at h2
  rw [if_pos h1, Int.toNat_natCast] at h2
  have ht := h2.symm
  unfold batchL at ht
  rw [headB_list] at ht
  have hsz : t.size = (batchL m fs).length := by rw [← h2]; rfl
  have k2 := rv_at (t := t) [66] (Wd.varF 5 fs.length ++ changesL fs) m (by omega) (by rw [ht]; simp only [List.append_assoc])
  have k3 := rv_at (t := t) ([66] ++ Wd.varF 5 m) (changesL fs) fs.length (by omega) (by rw [ht])
  have k4 := chsI_at (t := t) fs ([66] ++ Wd.varF 5 m ++ Wd.varF 5 fs.length) [] [] (fun A hA => by have := hsm A hA; omega) (by rw [ht, List.append_nil])
  have k1 : Wd.bt t 0 = 66 := by rw [ht]; exact bt_here _ 0 66 rfl
  have hpos : 0 < t.size := by rw [ht]; show 0 < ([66] ++ Wd.varF 5 m ++ Wd.varF 5 fs.length ++ changesL fs).length; simp
  have hend : ([66] ++ Wd.varF 5 m ++ Wd.varF 5 fs.length).length + (changesL fs).length = t.size := by rw [hsz, batchL, headB_list]; simp only [List.length_append]
  rw [hend] at k4
  simp only [List.length_append, List.length_cons, List.length_nil, Nat.zero_add, List.nil_append] at k2 k3 k4
  refine ⟨by omega, ?_⟩
  unfold allI btI
  rw [if_pos ⟨hpos, k1⟩, k2]
  simp only
  rw [k3]
  simp only
  rw [k4]
  simp only [hb, and_self, if_true]
/-- What is no batch for the program's reader is none for the specification's. -/
theorem allI_none {t : ByteArray} (h : allI t = none) : rdOk t = false ∧ rdSeq t = 0 ∧ rdChanges t = [] := by
  have : rdOk t = false := by
    cases hr : rdOk t
    · rfl
    · rw [(rd_allI hr).2] at h; cases h
  exact ⟨this, by unfold rdSeq; rw [this]; rfl, by unfold rdChanges; rw [this]; rfl⟩
theorem big_none {t : ByteArray} (h : 9000 < t.size) : rdOk t = false ∧ rdSeq t = 0 ∧ rdChanges t = [] := by
  have : rdOk t = false := by
    cases hr : rdOk t
    · rfl
    · have := (rd_allI hr).1; omega
  exact ⟨this, by unfold rdSeq; rw [this]; rfl, by unfold rdChanges; rw [this]; rfl⟩
end Go.Proofs.Ytbenmgokhklnjaa
