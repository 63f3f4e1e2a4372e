/- The program's reader of a hint, plainly; it reads what the specification's reads. -/
import Derived.Test.YtjfagmjajpnacamDoorHintP
import Derived.Test.YtjfagmjajpnacamDoorBatchI0
namespace Go.Proofs.YtjfagmjajpnacamDoor
open Go.RowKit

/-- So many numbers are read. -/
def rdN (t : ByteArray) (p : Nat) : Nat → Option (List Nat × Nat)
  | 0 => some ([], p)
  | k + 1 =>
    match rdN t p k with
    | none => none
    | some (ns, q) =>
      match Wd.rv t q with
      | none => none
      | some (a, e) => some (ns ++ [a], e)
theorem rdN_yes {t : ByteArray} {p k q a e : Nat} {ns : List Nat} (h : rdN t p k = some (ns, q)) (h1 : Wd.rv t q = some (a, e)) : rdN t p (k + 1) = some (ns ++ [a], e) := by
  simp only [rdN, h, h1]
theorem rdN_no {t : ByteArray} {p k q : Nat} {ns : List Nat} (h : rdN t p k = some (ns, q)) (h1 : Wd.rv t q = none) : rdN t p (k + 1) = none := by
  simp only [rdN, h, h1]
theorem rdN_none {t : ByteArray} {p k : Nat} (h : rdN t p k = none) : ∀ j, rdN t p (k + j) = none
  | 0 => h
  | j + 1 => by rw [show k + (j + 1) = (k + j) + 1 from rfl]; simp only [rdN, rdN_none h j]
theorem rdN_text {t : ByteArray} {p : Nat} (hp : p ≤ t.size) : ∀ (k : Nat) (ns : List Nat) (q : Nat), rdN t p k = some (ns, q) → ns.length = k ∧ t.data.toList.take q = t.data.toList.take p ++ ns.flatMap (Wd.varF 5) ∧ q ≤ t.size
  | 0, ns, q, h => by
    simp only [rdN, Option.some.injEq, Prod.mk.injEq] at h
    obtain ⟨rfl, rfl⟩ := h
    exact ⟨rfl, by simp, hp⟩
  | k + 1, ns, q, h => by
    cases h1 : rdN t p k with
    | none => simp only [rdN, h1] at h; cases h
    | some x =>
      obtain ⟨n0, q0⟩ := x
      obtain ⟨a1, a2, a3⟩ := rdN_text hp k n0 q0 h1
      cases h2 : Wd.rv t q0 with
      | none => rw [rdN_no h1 h2] at h; cases h
      | some y =>
        obtain ⟨a, e⟩ := y
        rw [rdN_yes h1 h2] at h
        simp only [Option.some.injEq, Prod.mk.injEq] at h
        obtain ⟨rfl, rfl⟩ := h
        have hb := Wd.rv_bounds t q0 a e h2
        exact ⟨by simp [a1], by rw [rv_text h2, a2]; simp, by omega⟩

/-- A spot is read. -/
def spI (t : ByteArray) (i : Nat) : Option (SpotD × Nat) :=
  match shI t i with
  | none => none
  | some (s, p) =>
    match rdN t p 3 with
    | none => none
    | some (ns, e) => some (⟨s, (ns.getD 0 0 : Nat), (ns.getD 1 0 : Nat), (ns.getD 2 0 : Nat)⟩, e)
theorem spI_yes {t : ByteArray} {i p e : Nat} {s : ByteArray} {ns : List Nat} (h : shI t i = some (s, p)) (h1 : rdN t p 3 = some (ns, e)) : spI t i = some (⟨s, (ns.getD 0 0 : Nat), (ns.getD 1 0 : Nat), (ns.getD 2 0 : Nat)⟩, e) := by
  simp only [spI, h, h1]
theorem spI_no {t : ByteArray} {i p : Nat} {s : ByteArray} (h : shI t i = some (s, p)) (h1 : rdN t p 3 = none) : spI t i = none := by
  simp only [spI, h, h1]
theorem spI_none {t : ByteArray} {i : Nat} (h : shI t i = none) : spI t i = none := by
  simp only [spI, h]
theorem list3 {ns : List Nat} (h : ns.length = 3) : ns = [ns.getD 0 0, ns.getD 1 0, ns.getD 2 0] := by
  match ns, h with
  | [a, b, c], _ => rfl
theorem spI_text {t : ByteArray} {i e : Nat} {A : SpotD} (h : spI t i = some (A, e)) : t.data.toList.take e = t.data.toList.take i ++ spotL A ∧ e ≤ t.size ∧ A.key.size ≤ 20000 := by
  cases h1 : shI t i with
  | none => rw [spI_none h1] at h; cases h
  | some x =>
    obtain ⟨s, p⟩ := x
    obtain ⟨a1, -, a3, a4, -⟩ := shI_text h1
    cases h2 : rdN t p 3 with
    | none => rw [spI_no h1 h2] at h; cases h
    | some y =>
      obtain ⟨ns, q⟩ := y
      rw [spI_yes h1 h2] at h
      simp only [Option.some.injEq, Prod.mk.injEq] at h
      obtain ⟨rfl, rfl⟩ := h
      obtain ⟨b1, b2, b3⟩ := rdN_text a3 3 ns q h2
      refine ⟨?_, b3, a4⟩
      rw [b2, a1, spotL, Int.toNat_natCast, Int.toNat_natCast, Int.toNat_natCast]
      conv => lhs; rw [list3 b1]
      simp
theorem spI_at {t : ByteArray} (a b : List UInt8) (A : SpotD) (hk : A.key.size ≤ 20000) (h1 : 0 ≤ A.seg ∧ A.seg ≤ 1000000000) (h2 : 0 ≤ A.pos ∧ A.pos ≤ 1000000000) (h3 : 0 ≤ A.seq ∧ A.seq ≤ 1000000000) (ht : t = ⟨(a ++ spotL A ++ b).toArray⟩) : spI t a.length = some (A, a.length + (spotL A).length) := by
  unfold spotL at ht
  have k1 := shI_at (t := t) a (Wd.varF 5 A.seg.toNat ++ Wd.varF 5 A.pos.toNat ++ Wd.varF 5 A.seq.toNat ++ b) A.key (by omega) (by rw [ht]; simp only [List.append_assoc])
  have k2 := rv_at (t := t) (a ++ (shortB A.key).data.toList) (Wd.varF 5 A.pos.toNat ++ Wd.varF 5 A.seq.toNat ++ b) A.seg.toNat (by omega) (by rw [ht]; simp only [List.append_assoc])
  have k3 := rv_at (t := t) (a ++ (shortB A.key).data.toList ++ Wd.varF 5 A.seg.toNat) (Wd.varF 5 A.seq.toNat ++ b) A.pos.toNat (by omega) (by rw [ht]; simp only [List.append_assoc])
  have k4 := rv_at (t := t) (a ++ (shortB A.key).data.toList ++ Wd.varF 5 A.seg.toNat ++ Wd.varF 5 A.pos.toNat) b A.seq.toNat (by omega) (by rw [ht]; simp only [List.append_assoc])
  have e1 : (shortB A.key).data.toList.length = (shortB A.key).size := rfl
  simp only [List.length_append, e1] at k2 k3 k4
  have r3 := rdN_yes (rdN_yes (rdN_yes (k := 0) rfl k2) k3) k4
  rw [spI_yes k1 r3]
  obtain ⟨key, seg, pos, seq⟩ := A
  simp only at h1 h2 h3 ⊢
  simp only [spotL, List.length_append, e1, List.nil_append, List.cons_append, List.getD_cons_zero, List.getD_cons_succ]
  rw [Int.toNat_of_nonneg h1.1, Int.toNat_of_nonneg h2.1, Int.toNat_of_nonneg h3.1]
  simp only [Nat.add_assoc]

/-- So many spots are read. -/
def spsI (t : ByteArray) : Nat → Nat → List SpotD → Option (List SpotD × Nat)
  | 0, i, acc => some (acc, i)
  | n + 1, i, acc =>
    match spI t i with
    | none => none
    | some (A, p) => spsI t n p (acc ++ [A])
theorem spsI_text {t : ByteArray} : ∀ (n i : Nat) (acc : List SpotD) (cs : List SpotD) (e : Nat), spsI t n i acc = some (cs, e) → i ≤ t.size → ∃ ns, cs = acc ++ ns ∧ ns.length = n ∧ t.data.toList.take e = t.data.toList.take i ++ spotsL ns ∧ e ≤ t.size
  | 0, i, acc, cs, e, h, hi => by
    simp only [spsI, Option.some.injEq, Prod.mk.injEq] at h
    obtain ⟨rfl, rfl⟩ := h
    exact ⟨[], by simp, rfl, by simp [spotsL], hi⟩
  | n + 1, i, acc, cs, e, h, hi => by
    unfold spsI at h
    cases h1 : spI t i with
    | none => rw [h1] at h; cases h
    | some x =>
      obtain ⟨A, p⟩ := x
      rw [h1] at h
      obtain ⟨a1, a3, -⟩ := spI_text h1
      obtain ⟨ns, rfl, c2, c3, c4⟩ := spsI_text n p (acc ++ [A]) cs e h a3
      exact ⟨A :: ns, by simp, by simp [c2], by rw [c3, a1, spotsL, List.append_assoc], c4⟩
theorem spsI_at {t : ByteArray} : ∀ (fs : List SpotD) (a b : List UInt8) (acc : List SpotD), (∀ A ∈ fs, A.key.size ≤ 20000 ∧ (0 ≤ A.seg ∧ A.seg ≤ 1000000000) ∧ (0 ≤ A.pos ∧ A.pos ≤ 1000000000) ∧ (0 ≤ A.seq ∧ A.seq ≤ 1000000000)) → t = ⟨(a ++ spotsL fs ++ b).toArray⟩ → spsI t fs.length a.length acc = some (acc ++ fs, a.length + (spotsL fs).length)
  | [], a, b, acc, _, _ => by simp [spsI, spotsL]
  | A :: r, a, b, acc, hs, ht => by
    obtain ⟨hA, h1, h2, h3⟩ := hs A (List.mem_cons_self ..)
    have k1 := spI_at (t := t) a (spotsL r ++ b) A hA h1 h2 h3 (by rw [ht]; simp only [spotsL, List.append_assoc])
    have k2 := spsI_at (t := t) r (a ++ spotL A) b (acc ++ [A]) (fun B hB => hs B (List.mem_cons_of_mem _ hB)) (by rw [ht]; simp only [spotsL, List.append_assoc])
    rw [List.length_append] at k2
    rw [List.length_cons]
    simp only [spsI, k1]
    rw [k2]
    simp [spotsL, Nat.add_assoc]

/-- The directory that a text tells. -/
def dirI (t : ByteArray) : Option (List SpotD) :=
  match Wd.rv t 0 with
  | none => none
  | some (n, p) =>
    if n ≤ 200 then
      (match spsI t n p [] with
      | none => none
      | some (l, e) => if e = t.size then some l else none)
    else none
theorem dirI_text {t : ByteArray} {l : List SpotD} (h : dirI t = some l) : t = ⟨(hintL l).toArray⟩ := by
  unfold dirI at h
  cases h1 : Wd.rv t 0 with
  | none => rw [h1] at h; cases h
  | some x =>
    obtain ⟨n, p⟩ := x
    rw [h1] at h
    simp only at h
    split at h
    · cases h2 : spsI t n p [] with
      | none => rw [h2] at h; cases h
      | some y =>
        obtain ⟨l0, e⟩ := y
        rw [h2] at h
        simp only at h
        split at h
        · rename_i he
          simp only [Option.some.injEq] at h
          subst h
          have hb := Wd.rv_bounds t 0 n p h1
          obtain ⟨ns, e0, c2, c3, c4⟩ := spsI_text n p [] l0 e h2 (by omega)
          rw [List.nil_append] at e0
          subst e0
          rw [rv_text h1, List.take_zero, List.nil_append, he, List.take_of_length_le (by show t.size ≤ _; exact Nat.le_refl _)] at c3
          have : t.data.toList = hintL l0 := by rw [c3, hintL, c2]
          rw [← this]
        · cases h
    · cases h
theorem dirI_at {l : List SpotD} (h : dirOkD l = true) : dirI ⟨(hintL l).toArray⟩ = some l := by
  obtain ⟨h1, h2⟩ := dirOkD_all h
  obtain ⟨t, ht⟩ : ∃ t : ByteArray, t = ⟨(hintL l).toArray⟩ := ⟨_, rfl⟩
  rw [← ht]
  have hsz : t.size = (hintL l).length := by rw [ht, size_of_list]
  unfold hintL at ht
  have k1 := rv_at (t := t) [] (spotsL l) l.length (by omega) (by rw [ht, List.nil_append])
  have k2 := spsI_at (t := t) l (Wd.varF 5 l.length) [] [] (fun A hA => by have := h2 A hA; exact ⟨by omega, by omega, by omega, by omega⟩) (by rw [ht, List.append_nil])
  simp only [List.length_nil, Nat.zero_add, List.nil_append] at k1 k2
  unfold dirI
  rw [k1]
  simp only
  rw [if_pos h1, k2]
  simp only
  rw [if_pos (by rw [hsz, hintL, List.length_append])]
theorem hint_yes {s : ByteArray} {l : List SpotD} (hu : unsOk s = true) (h : dirI (unsD s) = some l) (hd : dirOkD l = true) : hintOk s = true ∧ hintDir s = l := by
  have h1 := dirI_text h
  have h2 : unsD s = foreB s := by unfold unsD; rw [if_pos hu]
  have h3 : hintD l = s := by
    unfold hintD
    rw [if_pos hd, ← h1, h2]
    unfold unsOk at hu
    simp only [decide_eq_true_eq] at hu
    exact hu.2.2
  have := hint_back hd
  rw [h3] at this
  exact this
theorem hint_is {s : ByteArray} (h : hintOk s = true) : unsOk s = true ∧ ∃ l, dirI (unsD s) = some l ∧ dirOkD l = true := by
  unfold hintOk at h
  simp only [Bool.and_eq_true, decide_eq_true_eq] at h
  obtain ⟨-, hd, hs⟩ := h
  generalize (hintRaw (unsD s) (!unsOk s)).1 = l at hd hs
  have hz := hintL_le hd
  have hD : hintD l = sealB ⟨(hintL l).toArray⟩ := by unfold hintD; rw [if_pos hd]
  have e : s.size = (hintL l).length + 4 := by rw [← hs, hD, sealB_size, size_of_list]
  have hf : foreB s = ⟨(hintL l).toArray⟩ := by rw [← hs, hD, foreB_seal]
  have hu : unsOk s = true := by
    unfold unsOk
    simp only [decide_eq_true_eq]
    refine ⟨by omega, by omega, ?_⟩
    rw [hf, ← hD, hs]
  refine ⟨hu, l, ?_, hd⟩
  unfold unsD
  rw [if_pos hu, hf]
  exact dirI_at hd
/-- No hint. -/
theorem hint_no {s : ByteArray} (h : unsOk s = true → ∀ l, dirI (unsD s) = some l → dirOkD l = false) : hintOk s = false ∧ hintDir s = [] := by
  have h1 : hintOk s = false := by
    cases hh : hintOk s with
    | false => rfl
    | true =>
      obtain ⟨hu, l, h2, h3⟩ := hint_is hh
      rw [h hu l h2] at h3
      cases h3
  refine ⟨h1, ?_⟩
  unfold hintDir
  rw [h1]
  rfl
end Go.Proofs.YtjfagmjajpnacamDoor
