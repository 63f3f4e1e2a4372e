/- Of: HintQ HintI2. -/
import Derived.Test.YtijmlgdeeodehabDoorHintP
import Derived.Test.YtijmlgdeeodehabDoorBatchI0
import Derived.Test.YtijmlgdeeodehabDoorDirI1
import Derived.Test.YtijmlgdeeodehabDoorOne
import Derived.Test.YtijmlgdeeodehabDoorSumI2
/- The program's reader of a hint, plainly; it reads what the specification's reads. -/
namespace Go.Proofs.YtijmlgdeeodehabDoor
open Go.RowKit

/-- So many numbers are read. -/
def rdN (t : ByteArray) (p : Nat) : Nat → Option (List Nat × Nat)
  | 0 => some ([], p)
  | k + 1 =>
    match rdN t p k with
    | none => none
    | some (ns, q) =>
      match Wd.rv t q with
      | none => none
      | some (a, e) => some (ns ++ [a], e)
theorem rdN_yes {t : ByteArray} {p k q a e : Nat} {ns : List Nat} (h : rdN t p k = some (ns, q)) (h1 : Wd.rv t q = some (a, e)) : rdN t p (k + 1) = some (ns ++ [a], e) := by
  simp only [rdN, h, h1]
theorem rdN_no {t : ByteArray} {p k q : Nat} {ns : List Nat} (h : rdN t p k = some (ns, q)) (h1 : Wd.rv t q = none) : rdN t p (k + 1) = none := by
  simp only [rdN, h, h1]
theorem rdN_none {t : ByteArray} {p k : Nat} (h : rdN t p k = none) : ∀ j, rdN t p (k + j) = none
  | 0 => h
  | j + 1 => by rw [show k + (j + 1) = (k + j) + 1 from rfl]; simp only [rdN, rdN_none h j]
theorem rdN_text {t : ByteArray} {p : Nat} (hp : p ≤ t.size) : ∀ (k : Nat) (ns : List Nat) (q : Nat), rdN t p k = some (ns, q) → ns.length = k ∧ t.data.toList.take q = t.data.toList.take p ++ ns.flatMap (Wd.varF 5) ∧ q ≤ t.size
  | 0, ns, q, h => by
    simp only [rdN, Option.some.injEq, Prod.mk.injEq] at h
    obtain ⟨rfl, rfl⟩ := h
    exact ⟨rfl, by simp, hp⟩
  | k + 1, ns, q, h => by
    cases h1 : rdN t p k with
    | none => simp only [rdN, h1] at h; cases h
    | some x =>
      obtain ⟨n0, q0⟩ := x
      obtain ⟨a1, a2, a3⟩ := rdN_text hp k n0 q0 h1
      cases h2 : Wd.rv t q0 with
      | none => rw [rdN_no h1 h2] at h; cases h
      | some y =>
        obtain ⟨a, e⟩ := y
        rw [rdN_yes h1 h2] at h
        simp only [Option.some.injEq, Prod.mk.injEq] at h
        obtain ⟨rfl, rfl⟩ := h
        have hb := Wd.rv_bounds t q0 a e h2
        exact ⟨by simp [a1], by rw [rv_text h2, a2]; simp, by omega⟩

/-- A spot is read. -/
def spI (t : ByteArray) (i : Nat) : Option (SpotD × Nat) :=
  match shI t i with
  | none => none
  | some (s, p) =>
    match rdN t p 3 with
    | none => none
    | some (ns, e) => some (⟨s, (ns.getD 0 0 : Nat), (ns.getD 1 0 : Nat), (ns.getD 2 0 : Nat)⟩, e)
theorem spI_yes {t : ByteArray} {i p e : Nat} {s : ByteArray} {ns : List Nat} (h : shI t i = some (s, p)) (h1 : rdN t p 3 = some (ns, e)) : spI t i = some (⟨s, (ns.getD 0 0 : Nat), (ns.getD 1 0 : Nat), (ns.getD 2 0 : Nat)⟩, e) := by
  simp only [spI, h, h1]
theorem spI_no {t : ByteArray} {i p : Nat} {s : ByteArray} (h : shI t i = some (s, p)) (h1 : rdN t p 3 = none) : spI t i = none := by
  simp only [spI, h, h1]
theorem spI_none {t : ByteArray} {i : Nat} (h : shI t i = none) : spI t i = none := by
  simp only [spI, h]
theorem list3 {ns : List Nat} (h : ns.length = 3) : ns = [ns.getD 0 0, ns.getD 1 0, ns.getD 2 0] := by
  match ns, h with
  | [a, b, c], _ => rfl
theorem spI_text {t : ByteArray} {i e : Nat} {A : SpotD} (h : spI t i = some (A, e)) : t.data.toList.take e = t.data.toList.take i ++ spotL A ∧ e ≤ t.size ∧ A.key.size ≤ 20000 := by
  cases h1 : shI t i with
  | none => rw [spI_none h1] at h; cases h
  | some x =>
    obtain ⟨s, p⟩ := x
    obtain ⟨a1, -, a3, a4, -⟩ := shI_text h1
    cases h2 : rdN t p 3 with
    | none => rw [spI_no h1 h2] at h; cases h
    | some y =>
      obtain ⟨ns, q⟩ := y
      rw [spI_yes h1 h2] at h
      simp only [Option.some.injEq, Prod.mk.injEq] at h
      obtain ⟨rfl, rfl⟩ := h
      obtain ⟨b1, b2, b3⟩ := rdN_text a3 3 ns q h2
      refine ⟨?_, b3, a4⟩
      rw [b2, a1, spotL, Int.toNat_natCast, Int.toNat_natCast, Int.toNat_natCast]
      conv => lhs; rw [list3 b1]
      simp
theorem spI_at {t : ByteArray} (a b : List UInt8) (A : SpotD) (hk : A.key.size ≤ 20000) (h1 : 0 ≤ A.seg ∧ A.seg ≤ 1000000000) (h2 : 0 ≤ A.pos ∧ A.pos ≤ 1000000000) (h3 : 0 ≤ A.seq ∧ A.seq ≤ 1000000000) (ht : t = ⟨(a ++ spotL A ++ b).toArray⟩) : spI t a.length = some (A, a.length + (spotL A).length) := by
  unfold spotL at ht
  have k1 := shI_at (t := t) a (Wd.varF 5 A.seg.toNat ++ Wd.varF 5 A.pos.toNat ++ Wd.varF 5 A.seq.toNat ++ b) A.key (by omega) (by rw [ht]; simp only [List.append_assoc])
  have k2 := rv_at (t := t) (a ++ (shortB A.key).data.toList) (Wd.varF 5 A.pos.toNat ++ Wd.varF 5 A.seq.toNat ++ b) A.seg.toNat (by omega) (by rw [ht]; simp only [List.append_assoc])
  have k3 := rv_at (t := t) (a ++ (shortB A.key).data.toList ++ Wd.varF 5 A.seg.toNat) (Wd.varF 5 A.seq.toNat ++ b) A.pos.toNat (by omega) (by rw [ht]; simp only [List.append_assoc])
  have k4 := rv_at (t := t) (a ++ (shortB A.key).data.toList ++ Wd.varF 5 A.seg.toNat ++ Wd.varF 5 A.pos.toNat) b A.seq.toNat (by omega) (by rw [ht]; simp only [List.append_assoc])
  have e1 : (shortB A.key).data.toList.length = (shortB A.key).size := rfl
  simp only [List.length_append, e1] at k2 k3 k4
  have r3 := rdN_yes (rdN_yes (rdN_yes (k := 0) rfl k2) k3) k4
  rw [spI_yes k1 r3]
  obtain ⟨key, seg, pos, seq⟩ := A
  simp only at h1 h2 h3 ⊢
  simp only [spotL, List.length_append, e1, List.nil_append, List.cons_append, List.getD_cons_zero, List.getD_cons_succ]
  rw [Int.toNat_of_nonneg h1.1, Int.toNat_of_nonneg h2.1, Int.toNat_of_nonneg h3.1]
  simp only [Nat.add_assoc]

/-- So many spots are read. -/
def spsI (t : ByteArray) : Nat → Nat → List SpotD → Option (List SpotD × Nat)
  | 0, i, acc => some (acc, i)
  | n + 1, i, acc =>
    match spI t i with
    | none => none
    | some (A, p) => spsI t n p (acc ++ [A])
theorem spsI_text {t : ByteArray} : ∀ (n i : Nat) (acc : List SpotD) (cs : List SpotD) (e : Nat), spsI t n i acc = some (cs, e) → i ≤ t.size → ∃ ns, cs = acc ++ ns ∧ ns.length = n ∧ t.data.toList.take e = t.data.toList.take i ++ spotsL ns ∧ e ≤ t.size
  | 0, i, acc, cs, e, h, hi => by
    simp only [spsI, Option.some.injEq, Prod.mk.injEq] at h
    obtain ⟨rfl, rfl⟩ := h
    exact ⟨[], by simp, rfl, by simp [spotsL], hi⟩
  | n + 1, i, acc, cs, e, h, hi => by
    unfold spsI at h
    cases h1 : spI t i with
    | none => rw [h1] at h; cases h
    | some x =>
      obtain ⟨A, p⟩ := x
      rw [h1] at h
      obtain ⟨a1, a3, -⟩ := spI_text h1
      obtain ⟨ns, rfl, c2, c3, c4⟩ := spsI_text n p (acc ++ [A]) cs e h a3
      exact ⟨A :: ns, by simp, by simp [c2], by rw [c3, a1, spotsL, List.append_assoc], c4⟩
theorem spsI_at {t : ByteArray} : ∀ (fs : List SpotD) (a b : List UInt8) (acc : List SpotD), (∀ A ∈ fs, A.key.size ≤ 20000 ∧ (0 ≤ A.seg ∧ A.seg ≤ 1000000000) ∧ (0 ≤ A.pos ∧ A.pos ≤ 1000000000) ∧ (0 ≤ A.seq ∧ A.seq ≤ 1000000000)) → t = ⟨(a ++ spotsL fs ++ b).toArray⟩ → spsI t fs.length a.length acc = some (acc ++ fs, a.length + (spotsL fs).length)
  | [], a, b, acc, _, _ => by simp [spsI, spotsL]
  | A :: r, a, b, acc, hs, ht => by
    obtain ⟨hA, h1, h2, h3⟩ := hs A (List.mem_cons_self ..)
    have k1 := spI_at (t := t) a (spotsL r ++ b) A hA h1 h2 h3 (by rw [ht]; simp only [spotsL, List.append_assoc])
    have k2 := spsI_at (t := t) r (a ++ spotL A) b (acc ++ [A]) (fun B hB => hs B (List.mem_cons_of_mem _ hB)) (by rw [ht]; simp only [spotsL, List.append_assoc])
    rw [List.length_append] at k2
    rw [List.length_cons]
    simp only [spsI, k1]
    rw [k2]
    simp [spotsL, Nat.add_assoc]

/-- The directory that a text tells. -/
def dirI (t : ByteArray) : Option (List SpotD) :=
  match Wd.rv t 0 with
  | none => none
  | some (n, p) =>
    if n ≤ 200 then
      (match spsI t n p [] with
      | none => none
      | some (l, e) => if e = t.size then some l else none)
    else none
theorem dirI_text {t : ByteArray} {l : List SpotD} (h : dirI t = some l) : t = ⟨(hintL l).toArray⟩ := by
  unfold dirI at h
  cases h1 : Wd.rv t 0 with
  | none => rw [h1] at h; cases h
  | some x =>
    obtain ⟨n, p⟩ := x
    rw [h1] at h
    simp only at h
    split at h
    · cases h2 : spsI t n p [] with
      | none => rw [h2] at h; cases h
      | some y =>
        obtain ⟨l0, e⟩ := y
        rw [h2] at h
        simp only at h
        split at h
        · rename_i he
          simp only [Option.some.injEq] at h
          subst h
          have hb := Wd.rv_bounds t 0 n p h1
          obtain ⟨ns, e0, c2, c3, c4⟩ := spsI_text n p [] l0 e h2 (by omega)
          rw [List.nil_append] at e0
          subst e0
          rw [rv_text h1, List.take_zero, List.nil_append, he, List.take_of_length_le (by show t.size ≤ _; exact Nat.le_refl _)] at c3
          have : t.data.toList = hintL l0 := by rw [c3, hintL, c2]
          rw [← this]
        · cases h
    · cases h
theorem dirI_at {l : List SpotD} (h : dirOkD l = true) : dirI ⟨(hintL l).toArray⟩ = some l := by
  obtain ⟨h1, h2⟩ := dirOkD_all h
  obtain ⟨t, ht⟩ : ∃ t : ByteArray, t = ⟨(hintL l).toArray⟩ := ⟨_, rfl⟩
  rw [← ht]
  have hsz : t.size = (hintL l).length := by rw [ht, size_of_list]
  unfold hintL at ht
  have k1 := rv_at (t := t) [] (spotsL l) l.length (by omega) (by rw [ht, List.nil_append])
  have k2 := spsI_at (t := t) l (Wd.varF 5 l.length) [] [] (fun A hA => by have := h2 A hA; exact ⟨by omega, by omega, by omega, by omega⟩) (by rw [ht, List.append_nil])
  simp only [List.length_nil, Nat.zero_add, List.nil_append] at k1 k2
  unfold dirI
  rw [k1]
  simp only
  rw [if_pos h1, k2]
  simp only
  rw [if_pos (by rw [hsz, hintL, List.length_append])]
theorem hint_yes {s : ByteArray} {l : List SpotD} (hu : unsOk s = true) (h : dirI (unsD s) = some l) (hd : dirOkD l = true) : hintOk s = true ∧ hintDir s = l := by
  have h1 := dirI_text h
  have h2 : unsD s = foreB s := by unfold unsD; rw [if_pos hu]
  have h3 : hintD l = s := by
    unfold hintD
    rw [if_pos hd, ← h1, h2]
    unfold unsOk at hu
    simp only [decide_eq_true_eq] at hu
    exact hu.2.2
  have := hint_back hd
  rw [h3] at this
  exact this
theorem hint_is {s : ByteArray} (h : hintOk s = true) : unsOk s = true ∧ ∃ l, dirI (unsD s) = some l ∧ dirOkD l = true := by
  unfold hintOk at h
  simp only [Bool.and_eq_true, decide_eq_true_eq] at h
  obtain ⟨-, hd, hs⟩ := h
  generalize (hintRaw (unsD s) (!unsOk s)).1 = l at hd hs
  have hz := hintL_le hd
  have hD : hintD l = sealB ⟨(hintL l).toArray⟩ := by unfold hintD; rw [if_pos hd]
  have e : s.size = (hintL l).length + 4 := by rw [← hs, hD, sealB_size, size_of_list]
  have hf : foreB s = ⟨(hintL l).toArray⟩ := by rw [← hs, hD, foreB_seal]
  have hu : unsOk s = true := by
    unfold unsOk
    simp only [decide_eq_true_eq]
    refine ⟨by omega, by omega, ?_⟩
    rw [hf, ← hD, hs]
  refine ⟨hu, l, ?_, hd⟩
  unfold unsD
  rw [if_pos hu, hf]
  exact dirI_at hd
/-- No hint. -/
theorem hint_no {s : ByteArray} (h : unsOk s = true → ∀ l, dirI (unsD s) = some l → dirOkD l = false) : hintOk s = false ∧ hintDir s = [] := by
  have h1 : hintOk s = false := by
    cases hh : hintOk s with
    | false => rfl
    | true =>
      obtain ⟨hu, l, h2, h3⟩ := hint_is hh
      rw [h hu l h2] at h3
      cases h3
  refine ⟨h1, ?_⟩
  unfold hintDir
  rw [h1]
  rfl
end Go.Proofs.YtijmlgdeeodehabDoor

/- The program's ReadHint. -/
namespace Go.Proofs.YtijmlgdeeodehabDoor
open Go.RowKit

theorem rsI_some (t : ByteArray) (i : Nat) (s : ByteArray) (p : Nat) (w : World) (ht : t.size ≤ 1048576) (hi : i ≤ t.size) (h : shI t i = some (s, p)) :
    Calls Tryd.prog 90 #[.string t, .int .i64 (i : Int)] w fun e w' => e = .returned (.tuple #[.string s, .int .i64 (p : Int), .bool true]) ∧ Below w.heap.size w w' := by
  have hI : Wd.rvI t (i : Int) = Wd.rv t i := by unfold Wd.rvI; rw [if_neg (by omega), Int.toNat_natCast]
  cases hr : Wd.rv t i with
  | none => rw [shI_none hr] at h; cases h
  | some x =>
    obtain ⟨n, k⟩ := x
    by_cases hc : n ≤ 20000 ∧ k + n ≤ t.size
    · rw [shI_yes hr hc.1 hc.2] at h
      simp only [Option.some.injEq, Prod.mk.injEq] at h
      obtain ⟨rfl, rfl⟩ := h
      have := implRShort_yes t (i : Int) w n k (by omega) (by rw [hI]; exact hr) hc.1 hc.2
      rw [show ((k + n : Nat) : Int) = (k : Int) + (n : Int) from by omega]
      exact this
    · rw [shI_no hr (by omega)] at h; cases h
theorem rsI_none (t : ByteArray) (i : Nat) (w : World) (ht : t.size ≤ 1048576) (hi : i ≤ t.size) (h : shI t i = none) :
    Calls Tryd.prog 90 #[.string t, .int .i64 (i : Int)] w fun e w' => e = .returned (.tuple #[.string ⟨#[]⟩, .int .i64 0, .bool false]) ∧ Below w.heap.size w w' := by
  have hI : Wd.rvI t (i : Int) = Wd.rv t i := by unfold Wd.rvI; rw [if_neg (by omega), Int.toNat_natCast]
  cases hr : Wd.rv t i with
  | none => exact implRShort_none t (i : Int) w (by omega) (by rw [hI]; exact hr)
  | some x =>
    obtain ⟨n, k⟩ := x
    by_cases hc : n ≤ 20000 ∧ k + n ≤ t.size
    · rw [shI_yes hr hc.1 hc.2] at h; cases h
    · exact implRShort_no t (i : Int) w n k (by omega) (by rw [hI]; exact hr) (by omega)
theorem rvI_in (t : ByteArray) (i : Nat) (hi : i ≤ t.size) : Wd.rvI t (i : Int) = Wd.rv t i := by unfold Wd.rvI; rw [if_neg (by omega), Int.toNat_natCast]

/-- What readSpot answers. -/
def spV : Option (SpotD × Nat) → Value
  | some (A, e) => .tuple #[.agg #[.string A.key, .int .i64 A.seg, .int .i64 A.pos, .int .i64 A.seq], .int .i64 (e : Int), .bool true]
  | none => .tuple #[.agg #[.string ⟨#[]⟩, .int .i64 0, .int .i64 0, .int .i64 0], .int .i64 0, .bool false]

theorem setC {w : World} {b j : Nat} {cs : Array Value} {ty : TypeId} (h : w.heap[b]? = some (.cells cs ty (0, 0))) (v : Value) : (w.setCell ⟨b, j, none⟩ v).heap[b]? = some (.cells (cs.setIfInBounds j v) ty (0, 0)) := heap_setCell_same _ _ _ _ _ _ h
theorem box4h {W : World} {g : Nat} {a b c d : Value} {t : TypeId} (h : W.heap[g]? = some (.cells #[a, b, c, d] t (0, 0))) :
    (W.cell? ⟨g, 0, none⟩ = some a ∧ W.cell? ⟨g, 1, none⟩ = some b ∧ W.cell? ⟨g, 2, none⟩ = some c ∧ W.cell? ⟨g, 3, none⟩ = some d) ∧ W.frozen? ⟨g, 0, none⟩ = false ∧ W.frozen? ⟨g, 1, none⟩ = false ∧ W.frozen? ⟨g, 2, none⟩ = false ∧ W.frozen? ⟨g, 3, none⟩ = false :=
  ⟨⟨(cell_of_row W _ 0 _ _ (0, 0) h).trans rfl, (cell_of_row W _ 1 _ _ (0, 0) h).trans rfl, (cell_of_row W _ 2 _ _ (0, 0) h).trans rfl, (cell_of_row W _ 3 _ _ (0, 0) h).trans rfl⟩, frozen_of_row W _ 0 _ _ h, frozen_of_row W _ 1 _ _ h, frozen_of_row W _ 2 _ _ h, frozen_of_row W _ 3 _ _ h⟩
theorem below4 {w W : World} (h : Below w.heap.size w W) (a b c d : Value) : Below w.heap.size w ((((W.setCell ⟨w.heap.size, 0, none⟩ a).setCell ⟨w.heap.size, 1, none⟩ b).setCell ⟨w.heap.size, 2, none⟩ c).setCell ⟨w.heap.size, 3, none⟩ d) :=
  (((h.setCell (p := ⟨w.heap.size, 0, none⟩) (Nat.le_refl _) a).setCell (p := ⟨w.heap.size, 1, none⟩) (Nat.le_refl _) b).setCell (p := ⟨w.heap.size, 2, none⟩) (Nat.le_refl _) c).setCell (p := ⟨w.heap.size, 3, none⟩) (Nat.le_refl _) d
/-- The three numbers in memory. -/
def numC (ns : List Nat) : Array Value := #[.int .i64 (ns.getD 0 0 : Nat), .int .i64 (ns.getD 1 0 : Nat), .int .i64 (ns.getD 2 0 : Nat)]
theorem numC_set {ns : List Nat} {k a : Nat} (h : ns.length = k) (hk : k < 3) : (numC ns).setIfInBounds k (.int .i64 (a : Int)) = numC (ns ++ [a]) := by
  subst h
  match ns, hk with
  | [], _ => rfl
  | [_], _ => rfl
  | [_, _], _ => rfl
theorem numC_get (ns : List Nat) {k : Nat} (hk : k < 3) : (numC ns)[k]? = some (.int .i64 (ns.getD k 0 : Nat)) := by
  match k, hk with
  | 0, _ => rfl
  | 1, _ => rfl
  | 2, _ => rfl

set_option maxRecDepth 100000 in
set_option maxHeartbeats 1600000 in
theorem readSpot_any (t : ByteArray) (i : Nat) (w : World) (ht : t.size ≤ 20000) (hi : i ≤ t.size) :
    Calls Tryd.prog 64 #[.string t, .int .i64 (i : Int)] w fun e w' => e = .returned (spV (spI t i)) ∧ Below w.heap.size w w' := by
  obtain ⟨wb, hwb⟩ : ∃ wb, wb = w.alloc (.cells #[.string ⟨#[]⟩, .int .i64 0, .int .i64 0, .int .i64 0] 44) := ⟨_, rfl⟩
  have HB0 : Hid (Below w.heap.size w wb) := by rw [hwb]; exact (Below.refl _ w).alloc (Nat.le_refl _) _
  have hbs : wb.heap.size = w.heap.size + 1 := by rw [hwb]; simp
  have HC0 : Hid (wb.heap[w.heap.size]? = some (.cells #[.string ⟨#[]⟩, .int .i64 0, .int .i64 0, .int .i64 0] 44 (0, 0))) := by
    show _ = _
    rw [hwb]
    exact heap_alloc_new w _
  cases h1 : shI t i with
  | none =>
    rw [spI_none h1]
    have H := hide (fun W => rsI_none t i W (by omega) hi h1)
    clear h1
    go_enter Tryd.func64, Tryd.ntmps64
    go_wp2_with fail
    rw [← hwb]
    clear hwb
    refine (H.out _).mono ?_
    rintro e w1 ⟨rfl, b1⟩
    obtain ⟨⟨hr0, hr1, hr2, hr3⟩, hf0, hf1, hf2, hf3⟩ := box4h ((b1.block _ (heap_lt HC0.out)).trans HC0.out)
    have B1 := hide (HB0.out.trans (b1.mono HB0.out.size))
    clear b1
    go_wp2
    exact bodyPost_ret (v := spV none) (by simp [spV, results, Tryd.results64, go_sem, hr0, hr1, hr2, hr3]) rfl ⟨rfl, below4 B1.out _ _ _ _⟩
  | some x =>
    obtain ⟨s, p⟩ := x
    have H := hide (fun W => rsI_some t i s p W (by omega) hi h1)
    have hp := (shI_text h1).2.2.1
    have HS1 := hide h1
    clear h1
    go_enter Tryd.func64, Tryd.ntmps64
    go_wp2_with fail
    rw [← hwb]
    clear hwb
    refine (H.out _).mono ?_
    rintro e w1 ⟨rfl, b1⟩
    have B1 := hide b1
    clear b1 H
    go_wp2_with fail
    go_loopw [1, 21] (fun at_ ii wr => ∃ (k q : Nat) (ns : List Nat), at_ = .int .i64 (q : Int) ∧ ii = .int .i64 (k : Int) ∧ k ≤ 3 ∧ q ≤ t.size ∧ ns.length = k ∧ Hid (rdN t p k = some (ns, q)) ∧ Hid (wr.heap[w1.heap.size]? = some (.cells (numC ns) 130 (0, 0))) ∧ Hid (Below wb.heap.size wb wr)) (fun _ ii _ => 3 - (intOf ii).toNat)
    case atStart =>
      exact ⟨0, p, [], rfl, rfl, by omega, hp, rfl, rfl, heap_alloc_new w1 _, B1.out.alloc B1.out.size _⟩
    case round =>
      obtain ⟨k, q, ns, rfl, rfl, hk, hq, hns, HR, HN, HB⟩ := hrel
      have hws := HB.out.size
      have hw1 := B1.out.size
      by_cases hlt : k < 3
      · have hlt' : decide ((k : Int) < 3) = true := by simp; omega
        have hi0 : (0 : Int) ≤ (k : Int) := by omega
        have hi1 : (k : Int) < 3 := by omega
        have hcc := (cell_of_row wr _ k _ _ (0, 0) HN.out).trans (numC_get ns hlt)
        have hcf := frozen_of_row wr w1.heap.size k _ _ HN.out
        cases hv : Wd.rv t q with
        | none =>
          have HV := hide (fun W => implRead_none t (q : Int) W (by omega) ((rvI_in t q hq).trans hv))
          have HE : Hid (spI t i = none) := spI_no HS1.out (by have := rdN_none (rdN_no HR.out hv) (3 - (k + 1)); rwa [show k + 1 + (3 - (k + 1)) = 3 from by omega] at this)
          clear hv
          obtain ⟨⟨hr0, hr1, hr2, hr3⟩, hf0, hf1, hf2, hf3⟩ := box4h ((HB.out.block _ (by omega)).trans HC0.out)
          go_wp2_with fail
          refine (HV.out _).mono ?_
          rintro e w5 ⟨rfl, rfl⟩
          go_wp2_with fail
          obtain ⟨⟨hr0, hr1, hr2, hr3⟩, -⟩ := box4h (((HB.out.setCell (p := ⟨w1.heap.size, k, none⟩) hw1 (.int .i64 0)).block _ (by omega)).trans HC0.out)
          have B6 := hide (HB0.out.trans ((HB.out.setCell (p := ⟨w1.heap.size, k, none⟩) hw1 (.int .i64 0)).mono HB0.out.size))
          generalize w5.setCell ⟨w1.heap.size, k, none⟩ (.int .i64 0) = w6 at hr0 hr1 hr2 hr3 B6
          rw [HE.out]
          exact bodyPost_ret (v := spV none) (by simp [spV, results, Tryd.results64, go_sem, hr0, hr1, hr2, hr3]) rfl ⟨rfl, below4 B6.out _ _ _ _⟩
        | some y =>
          obtain ⟨a, e⟩ := y
          have HV := hide (fun W => implRead_some t (q : Int) W a e (by omega) ((rvI_in t q hq).trans hv))
          have hb := Wd.rv_bounds t q a e hv
          have HRn := hide (rdN_yes HR.out hv)
          clear hv
          go_wp2_with fail
          refine (HV.out _).mono ?_
          rintro e w5 ⟨rfl, rfl⟩
          go_wp2
          go_roundw
          case rel =>
            exact ⟨k + 1, e, ns ++ [a], rfl, by go_num, by omega, hb.2.2, by simp [hns], HRn, by have := setC (j := k) HN.out (.int .i64 (a : Int)); rwa [numC_set hns hlt] at this, HB.out.setCell (p := ⟨w1.heap.size, k, none⟩) hw1 _⟩
          case measure => simp [intOf]; omega
      · have hlt' : decide ((k : Int) < 3) = false := by simp; omega
        have hke : k = 3 := by omega
        subst hke
        have HE := hide (spI_yes HS1.out HR.out)
        have hc0 := (cell_of_row wr _ 0 _ _ (0, 0) HN.out).trans (numC_get ns (by omega))
        have hc1 := (cell_of_row wr _ 1 _ _ (0, 0) HN.out).trans (numC_get ns (by omega))
        have hc2 := (cell_of_row wr _ 2 _ _ (0, 0) HN.out).trans (numC_get ns (by omega))
        generalize ns.getD 0 0 = x0 at hc0 HE
        generalize ns.getD 1 0 = x1 at hc1 HE
        generalize ns.getD 2 0 = x2 at hc2 HE
        obtain ⟨⟨hr0, hr1, hr2, hr3⟩, hf0, hf1, hf2, hf3⟩ := box4h ((HB.out.block _ (by omega)).trans HC0.out)
        go_wp2_with fail
        have B6 := hide (HB0.out.trans (HB.out.mono HB0.out.size))
        rw [HE.out]
        exact bodyPost_ret (v := spV (some (⟨s, (x0 : Int), (x1 : Int), (x2 : Int)⟩, q))) (by simp [spV, results, Tryd.results64, go_sem, hr0, hr1, hr2, hr3]) rfl ⟨rfl, below4 B6.out _ _ _ _⟩

theorem spsI_small {t : ByteArray} : ∀ (n i : Nat) (acc cs : List SpotD) (e : Nat), spsI t n i acc = some (cs, e) → (∀ A ∈ acc, A.key.size ≤ 20000) → ∀ A ∈ cs, A.key.size ≤ 20000
  | 0, i, acc, cs, e, h, ha => by
    simp only [spsI, Option.some.injEq, Prod.mk.injEq] at h
    rw [← h.1]
    exact ha
  | n + 1, i, acc, cs, e, h, ha => by
    unfold spsI at h
    cases h1 : spI t i with
    | none => rw [h1] at h; cases h
    | some x =>
      obtain ⟨A, p⟩ := x
      rw [h1] at h
      refine spsI_small n p (acc ++ [A]) cs e h (fun B hB => ?_)
      rcases List.mem_append.1 hB with hB | hB
      · exact ha B hB
      · obtain rfl : B = A := by simpa using hB
        exact (spI_text h1).2.2
/-- What readSpots answers. -/
def SpsAns (t : ByteArray) (w : World) (e : Ending) (w' : World) : Prop :=
  (∃ v ok, e = .returned (.tuple #[v, .bool ok]) ∧ ((ok = false ∧ dirI t = none ∧ ∃ l : List SpotD, RowSpot w' w.heap.size v l ∧ l.length ≤ 200) ∨ (ok = true ∧ ∃ l, dirI t = some l ∧ RowSpot w' w.heap.size v l ∧ l.length ≤ 200 ∧ ∀ A ∈ l, A.key.size ≤ 20000))) ∧ Below w.heap.size w w'

set_option maxRecDepth 100000 in
set_option maxHeartbeats 1600000 in
theorem readSpots_any (t : ByteArray) (w : World) (ht : t.size ≤ 20000) :
    Calls Tryd.prog 32 #[.string t] w (SpsAns t w) := by
  have HZ : Hid (dirI t = none → ∀ W, Below w.heap.size w W → SpsAns t w (.returned (.tuple #[.slice none 0 0, .bool false])) W) := fun h W hW => ⟨⟨_, _, rfl, .inl ⟨rfl, h, [], .inl ⟨rfl, rfl⟩, Nat.zero_le _⟩⟩, hW⟩
  cases hv : Wd.rv t 0 with
  | none =>
    have HV := hide (fun W => implRead_none t 0 W (by omega) ((rvI_in t 0 (Nat.zero_le _)).trans hv))
    have HE : Hid (dirI t = none) := by show _ = _; unfold dirI; rw [hv]
    clear hv
    go_enter Tryd.func32, Tryd.ntmps32
    go_wp2_with fail
    refine (HV.out _).mono ?_
    rintro e w5 ⟨rfl, rfl⟩
    go_wp2
    go_ret2
    exact HZ.out HE.out _ (Below.refl _ _)
  | some y =>
    obtain ⟨n, p⟩ := y
    have HV := hide (fun W => implRead_some t 0 W n p (by omega) ((rvI_in t 0 (Nat.zero_le _)).trans hv))
    have hb := Wd.rv_bounds t 0 n p hv
    by_cases hn : n ≤ 200
    · have hn' : decide ((200 : Int) < (n : Int)) = false := by simp; omega
      obtain ⟨RL, HRL⟩ : ∃ RL, Hid (spsI t n p [] = RL) := ⟨_, hide rfl⟩
      have HE0 : Hid (RL = none → dirI t = none) := fun h => by unfold dirI; rw [hv]; simp only; rw [if_pos hn, HRL.out, h]
      have HE1 : Hid (∀ l e, RL = some (l, e) → dirI t = if e = t.size then some l else none) := fun l e h => by unfold dirI; rw [hv]; simp only; rw [if_pos hn, HRL.out, h]
      clear hv
      go_enter Tryd.func32, Tryd.ntmps32
      go_wp2_with fail
      refine (HV.out _).mono ?_
      rintro e w5 ⟨rfl, rfl⟩
      go_wp2_with fail
      go_loopw [5, 7, 24] (fun at_ vo ii wr => ∃ (k q : Nat) (acc : List SpotD), at_ = .int .i64 (q : Int) ∧ ii = .int .i64 (k : Int) ∧ acc.length = k ∧ k ≤ n ∧ q ≤ t.size ∧ Hid (spsI t (n - k) q acc = RL) ∧ Hid (wr.ownsRow w5.heap.size 44 4 vo acc.length (cellsSpot acc)) ∧ Hid (Below w5.heap.size w5 wr)) (fun _ _ ii _ => n - (intOf ii).toNat)
      case atStart => exact ⟨0, p, [], rfl, rfl, rfl, Nat.zero_le _, hb.2.2, HRL, World.ownsRow_nil _ _ _ _, Below.refl _ _⟩
      case round =>
        obtain ⟨k, q, acc, rfl, rfl, hal, hk, hq, HR, HO, HB⟩ := hrel
        have hws := HB.out.size
        by_cases hlt : k < n
        · have hlt' : decide ((k : Int) < (n : Int)) = true := by simp; omega
          have hC := fun W => readSpot_any t q W ht hq
          cases hsp : spI t q with
          | none =>
            rw [hsp] at hC
            simp only [spV] at hC
            have HC := hide hC
            have HE : Hid (dirI t = none) := HE0.out (by
              have h := HR.out
              rw [show n - k = (n - (k + 1)) + 1 from by omega] at h
              unfold spsI at h
              rw [hsp] at h
              exact h.symm)
            clear hC hsp
            go_wp2_with fail
            refine (HC.out _).mono ?_
            rintro e w6 ⟨rfl, b6⟩
            have B6 := hide (HB.out.trans (b6.mono hws))
            clear b6
            go_wp2_with fail
            go_ret2
            exact HZ.out HE.out _ (B6.out.alloc B6.out.size _)
          | some y =>
            obtain ⟨A, e⟩ := y
            rw [hsp] at hC
            simp only [spV] at hC
            have HC := hide hC
            have he := (spI_text hsp).2.1
            have HRn : Hid (spsI t (n - (k + 1)) e (acc ++ [A]) = RL) := by
              have h := HR.out
              rw [show n - k = (n - (k + 1)) + 1 from by omega] at h
              unfold spsI at h
              rw [hsp] at h
              exact h
            clear hC hsp
            go_wp2_with fail
            refine (HC.out _).mono ?_
            rintro e w6 ⟨rfl, b6⟩
            have B6 := hide b6
            have h6 := b6.size
            clear b6
            have HO6 := hide (HO.out.kept (grownBy_below none B6.out) (by cases u7.ownBlock <;> simp))
            have X7 : Hid (((w6.alloc (.cells #[.string A.key, .int .i64 A.seg, .int .i64 A.pos, .int .i64 A.seq] 44)).alloc (.cells #[.string A.key, .int .i64 A.seg, .int .i64 A.pos, .int .i64 A.seq] 44)).heap[w6.heap.size + 1]? = some (.cells #[.string A.key, .int .i64 A.seg, .int .i64 A.pos, .int .i64 A.seq] 44 (0, 0))) := by
              have h := heap_alloc_new (w6.alloc (.cells #[.string A.key, .int .i64 A.seg, .int .i64 A.pos, .int .i64 A.seq] 44)) (.cells #[.string A.key, .int .i64 A.seg, .int .i64 A.pos, .int .i64 A.seq] 44)
              rw [show (w6.alloc (.cells #[.string A.key, .int .i64 A.seg, .int .i64 A.pos, .int .i64 A.seq] 44)).heap.size = w6.heap.size + 1 from by simp] at h
              exact h
            go_wp2_with (at_builtin; refine app_spot _ w5.heap.size (by rfl) _ _ (by rfl) _ acc A (by rfl) ((HO6.out.alloc _).alloc _) (w6.heap.size + 1) (by rfl) X7.out (by omega) (by simp; omega) ?_; intro g8 cap8 w8 ho8 hb8 hg8 hgl8; have HO8 := hide ho8; have HB8 := hide hb8; clear ho8 hb8 hg8 hgl8)
            go_roundw
            case rel => exact ⟨k + 1, e, acc ++ [A], rfl, by go_num, by simp [hal], by omega, he, HRn, by rw [← hal]; exact HO8, (((HB.out.trans (B6.out.mono hws)).alloc (by omega) _).alloc (by simp; omega) _).trans HB8.out⟩
            case measure => simp [intOf]; omega
        · have hlt' : decide ((k : Int) < (n : Int)) = false := by simp; omega
          have h0 : n - k = 0 := by omega
          rw [h0] at HR
          have hE := HE1.out acc q (by rw [← HR.out]; rfl)
          have HS := hide (spsI_small n p [] acc q (HRL.out.trans (by rw [← HR.out]; rfl)) (fun A hA => absurd hA List.not_mem_nil))
          have hr := rowSpot_own HO.out
          by_cases hqe : q = t.size
          · have hqe' : ((q : Int) == (t.size : Int)) = true := by simp; omega
            rw [if_pos hqe] at hE
            have HE := hide hE
            have HRO := hide hr
            clear hE hr
            go_wp2
            go_ret2
            exact ⟨⟨_, _, rfl, .inr ⟨rfl, acc, HE.out, HRO.out, by omega, HS.out⟩⟩, HB.out⟩
          · have hqe' : ((q : Int) == (t.size : Int)) = false := by simp; omega
            rw [if_neg hqe] at hE
            have HE := hide hE
            have HRO := hide hr
            clear hE hr
            go_wp2
            go_ret2
            exact ⟨⟨_, _, rfl, .inl ⟨rfl, HE.out, acc, HRO.out, by omega⟩⟩, HB.out⟩
    · have hn' : decide ((200 : Int) < (n : Int)) = true := by simp; omega
      have HE : Hid (dirI t = none) := by show _ = _; unfold dirI; rw [hv]; simp only; rw [if_neg hn]
      clear hv
      go_enter Tryd.func32, Tryd.ntmps32
      go_wp2_with fail
      refine (HV.out _).mono ?_
      rintro e w5 ⟨rfl, rfl⟩
      go_wp2
      go_ret2
      exact HZ.out HE.out _ (Below.refl _ _)

theorem unsD_le (s : ByteArray) : (unsD s).size ≤ 20000 := by
  unfold unsD
  split
  · rename_i h
    unfold unsOk at h
    simp only [decide_eq_true_eq] at h
    rw [foreB_size]
    omega
  · exact Nat.zero_le _
theorem implUnsealed_all (s : ByteArray) (w : World) (hl : s.size ≤ 1048576) (hT : SumTab w) :
    Calls Tryd.prog 31 #[.string s] w fun e w' => e = .returned (.tuple #[.string (unsD s), .bool (unsOk s)]) ∧ Below w.heap.size w w' := by
  by_cases h : 4 ≤ s.size ∧ s.size ≤ 20004 ∧ sealB (foreB s) = s
  · have hu : unsOk s = true := by unfold unsOk; simpa using h
    have hd : unsD s = foreB s := by unfold unsD; rw [if_pos hu]
    rw [hu, hd]
    exact unsealed_yes s w h.1 h.2.1 h.2.2 hT
  · have hu : unsOk s = false := by unfold unsOk; simpa using h
    have hd : unsD s = ⟨#[]⟩ := by unfold unsD; rw [hu]; rfl
    rw [hu, hd]
    by_cases h4 : s.size < 4
    · refine (unsealed_short s w h4).mono ?_
      rintro e w' ⟨rfl, rfl⟩
      exact ⟨rfl, Below.refl _ _⟩
    · exact unsealed_no s w (by omega) hl (fun hz e => h ⟨by omega, hz, e⟩) hT

set_option maxRecDepth 100000 in
set_option maxHeartbeats 1600000 in
theorem implReadHint_any (s : ByteArray) (w : World) (hs : s.size ≤ 1048576) (hT : SumTab w) :
    Calls Tryd.prog 14 #[.string s] w fun e w' => (∃ v, e = .returned (.tuple #[v, .bool (hintOk s)]) ∧ RowSpot w' w.heap.size v (hintDir s)) ∧ Below w.heap.size w w' := by
  have HU := hide (implUnsealed_all s w hs hT)
  have hz := unsD_le s
  have HN : Hid ((unsOk s = true → ∀ l, dirI (unsD s) = some l → dirOkD l = false) → ∀ W, Below w.heap.size w W → (∃ v, Ending.returned (.tuple #[.slice none 0 0, .bool false]) = .returned (.tuple #[v, .bool (hintOk s)]) ∧ RowSpot W w.heap.size v (hintDir s)) ∧ Below w.heap.size w W) := fun h W hW => by
    obtain ⟨h1, h2⟩ := hint_no h
    rw [h1, h2]
    exact ⟨⟨_, rfl, .inl ⟨rfl, rfl⟩⟩, hW⟩
  cases hu : unsOk s with
  | false =>
    rw [hu] at HU HN
    clear hu
    go_enter Tryd.func14, Tryd.ntmps14
    go_wp2_with fail
    refine HU.out.mono ?_
    rintro e w1 ⟨rfl, b1⟩
    go_wp2
    go_ret2
    exact HN.out (fun h => by cases h) _ b1
  | true =>
    have HY : Hid (∀ l, dirI (unsD s) = some l → dirOkD l = true → hintOk s = true ∧ hintDir s = l) := fun l h1 h2 => hint_yes hu h1 h2
    rw [hu] at HU HN
    clear hu
    obtain ⟨t, Ht⟩ : ∃ t, Hid (unsD s = t) := ⟨_, hide rfl⟩
    rw [Ht.out] at HU HN HY hz
    have HR := hide (fun W => readSpots_any t W hz)
    go_enter Tryd.func14, Tryd.ntmps14
    go_wp2_with fail
    refine HU.out.mono ?_
    rintro e w1 ⟨rfl, b1⟩
    have B1 := hide b1
    clear b1
    go_wp2_with fail
    refine (HR.out _).mono ?_
    rintro e w2 ⟨⟨v, ok, rfl, h2⟩, b2⟩
    have B2 := hide (B1.out.trans (b2.mono B1.out.size))
    clear b2
    have hw1 := B1.out.size
    rcases h2 with ⟨rfl, hn, l, hr, -⟩ | ⟨rfl, l, hd, hr, hl, hk⟩
    · obtain ⟨ao, cap, rfl, -⟩ := rowSpot_at hr
      have HDN := hide hn
      clear hn hr
      go_wp2
      go_ret2
      exact HN.out (fun _ l hl => by rw [HDN.out] at hl; cases hl) _ B2.out
    · have HRO := hide hr
      obtain ⟨ao, cap, rfl, hat⟩ := rowSpot_at hr
      have HD := hide (implDirOk_any l ao cap w2 (by omega) hat (fun A hA => by have := hk A hA; unfold maxLen; omega))
      have HDI := hide hd
      clear hr hat hd hk
      cases hok : dirOkD l with
      | false =>
        rw [hok] at HD
        have HOK := hide hok
        clear hok
        go_wp2_with fail
        refine HD.out.mono ?_
        rintro e w3 ⟨rfl, b3⟩
        have B3 := hide (B2.out.trans (b3.mono B2.out.size))
        clear b3
        go_wp2
        go_ret2
        exact HN.out (fun _ l' hl' => by rw [HDI.out] at hl'; cases hl'; exact HOK.out) _ B3.out
      | true =>
        rw [hok] at HD
        obtain ⟨h1, h2⟩ := HY.out l HDI.out hok
        have H1 := hide h1
        have H2 := hide h2
        clear hok h1 h2
        go_wp2_with fail
        refine HD.out.mono ?_
        rintro e w3 ⟨rfl, b3⟩
        have B3 := hide b3
        clear b3
        go_wp2
        go_ret2
        rw [H1.out, H2.out]
        exact ⟨⟨_, rfl, rowSpot_le (rowSpot_below HRO.out B3.out) hw1⟩, B2.out.trans (B3.out.mono B2.out.size)⟩
end Go.Proofs.YtijmlgdeeodehabDoor
