import Derived.Lib.Bytealg
import Derived.Test.YtifjneldjjmeaaaGreatDoorLs2
set_option maxRecDepth 100000
set_option maxHeartbeats 1600000
namespace Go.Proofs.YtifjneldjjmeaaaGreatDoor
open Go.RowKit
def putT (T : List EntD) (k : ByteArray) (v : ValD) : List EntD := T.filter (fun e => Op.bytesLess e.key.toList k.toList) ++ ⟨k, v⟩ :: T.filter (fun e => Op.bytesLess k.toList e.key.toList)
theorem key_ext {a b : ByteArray} (h : a.toList = b.toList) : a = b := by
  rw [ByteArray.toList_eq, ByteArray.toList_eq] at h
  exact ByteArray.ext (Array.toList_inj.1 h)
theorem filter_take {α : Type} (f : α → Bool) : ∀ (T : List α) (p : Nat), p ≤ T.length → (∀ j (h : j < T.length), j < p → f T[j] = true) → (∀ j (h : j < T.length), p ≤ j → f T[j] = false) → T.filter f = T.take p
  | [], p, _, _, _ => by simp
  | a :: r, 0, _, _, h2 => by
    rw [List.take_zero]
    exact List.filter_eq_nil_iff.2 (fun x hx => by
      obtain ⟨j, hj, rfl⟩ := List.getElem_of_mem hx
      rw [h2 j hj (Nat.zero_le _)]; decide)
  | a :: r, p + 1, hp, h1, h2 => by
    have ha : f a = true := h1 0 (by simp) (by omega)
    rw [List.filter_cons_of_pos ha, List.take_succ_cons, filter_take f r p (by simpa using hp) (fun j h hj => by have := h1 (j + 1) (by simpa using h) (by omega); simpa using this) (fun j h hj => by have := h2 (j + 1) (by simpa using h) (by omega); simpa using this)]
theorem filter_drop {α : Type} (f : α → Bool) : ∀ (T : List α) (p : Nat), p ≤ T.length → (∀ j (h : j < T.length), j < p → f T[j] = false) → (∀ j (h : j < T.length), p ≤ j → f T[j] = true) → T.filter f = T.drop p
  | [], p, _, _, _ => by simp
  | a :: r, 0, _, _, h2 => by
    rw [List.drop_zero]
    exact List.filter_eq_self.2 (fun x hx => by
      obtain ⟨j, hj, rfl⟩ := List.getElem_of_mem hx
      exact h2 j hj (Nat.zero_le _))
  | a :: r, p + 1, hp, h1, h2 => by
    have ha : f a = false := h1 0 (by simp) (by omega)
    rw [List.filter_cons_of_neg (by rw [ha]; decide), List.drop_succ_cons, filter_drop f r p (by simpa using hp) (fun j h hj => by have := h1 (j + 1) (by simpa using h) (by omega); simpa using this) (fun j h hj => by have := h2 (j + 1) (by simpa using h) (by omega); simpa using this)]
abbrev SrtT (T : List EntD) : Prop := T.Pairwise (fun a b => Op.bytesLess a.key.toList b.key.toList = true)
theorem putT_new {T : List EntD} {k : ByteArray} {v : ValD} {p : Nat} (hp : p ≤ T.length) (h1 : ∀ j (h : j < T.length), j < p → Op.bytesLess T[j].key.toList k.toList = true) (h2 : ∀ j (h : j < T.length), p ≤ j → Op.bytesLess T[j].key.toList k.toList = false) (h3 : ∀ e ∈ T, e.key ≠ k) :
    putT T k v = T.take p ++ ⟨k, v⟩ :: T.drop p := by
  unfold putT
  rw [filter_take _ T p hp h1 h2, filter_drop _ T p hp]
  · intro j h hj
    cases hq : Op.bytesLess k.toList T[j].key.toList with
    | false => rfl
    | true => have := less_trans (h1 j h hj) hq; rw [less_irrefl] at this; cases this
  · intro j h hj
    exact less_total (h2 j h hj) (fun e => h3 _ (List.getElem_mem h) (key_ext e))
theorem putT_old {T : List EntD} {k : ByteArray} {v : ValD} {p : Nat} (hs : SrtT T) (hp : p < T.length) (hk : T[p].key = k) : putT T k v = T.take p ++ ⟨k, v⟩ :: T.drop (p + 1) := by
  have lo : ∀ j (h : j < T.length), j < p → Op.bytesLess T[j].key.toList k.toList = true := fun j h hj => by rw [← hk]; exact List.pairwise_iff_getElem.1 hs j p h hp hj
  have hi : ∀ j (h : j < T.length), p < j → Op.bytesLess k.toList T[j].key.toList = true := fun j h hj => by rw [← hk]; exact List.pairwise_iff_getElem.1 hs p j hp h hj
  unfold putT
  rw [filter_take _ T p (by omega) lo, filter_drop _ T (p + 1) (by omega)]
  · intro j h hj
    rcases Nat.lt_or_ge j p with h0 | h0
    · cases hq : Op.bytesLess k.toList T[j].key.toList with
      | false => rfl
      | true => have := less_trans (lo j h h0) hq; rw [less_irrefl] at this; cases this
    · obtain rfl : j = p := by omega
      rw [hk]; exact less_irrefl _
  · intro j h hj
    exact hi j h (by omega)
  · intro j h hj
    rcases Nat.eq_or_lt_of_le hj with h0 | h0
    · subst h0; rw [hk]; exact less_irrefl _
    · cases hq : Op.bytesLess T[j].key.toList k.toList with
      | false => rfl
      | true => have := less_trans (hi j h h0) hq; rw [less_irrefl] at this; cases this
theorem putT_mem {T : List EntD} {k : ByteArray} {v : ValD} {e : EntD} (h : e ∈ putT T k v) : e = ⟨k, v⟩ ∨ (e ∈ T ∧ e.key ≠ k) := by
  unfold putT at h
  rw [List.mem_append, List.mem_cons, List.mem_filter, List.mem_filter] at h
  rcases h with ⟨h, h2⟩ | h | ⟨h, h2⟩
  · exact .inr ⟨h, fun e => by rw [e, less_irrefl] at h2; cases h2⟩
  · exact .inl h
  · exact .inr ⟨h, fun e => by rw [e, less_irrefl] at h2; cases h2⟩
theorem findE_iff {T : List EntD} (hs : SrtT T) (k : ByteArray) (v : ValD) : findE T k = some v ↔ (⟨k, v⟩ : EntD) ∈ T := by
  constructor
  · intro h
    rcases Classical.em (∃ e ∈ T, e.key = k) with ⟨e, he, rfl⟩ | hn
    · have := find_pw T hs e he
      rw [h] at this
      obtain rfl := Option.some.inj this
      exact he
    · rw [find_none T k (fun e he h2 => hn ⟨e, he, h2⟩)] at h
      cases h
  · intro h
    exact find_pw T hs _ h
theorem putT_len {T : List EntD} {k : ByteArray} {v : ValD} (hs : SrtT T) : (putT T k v).length = T.length + (if (findE T k).isSome then 0 else 1) := by
  have split : ∀ T : List EntD, SrtT T → (T.filter (fun e => Op.bytesLess e.key.toList k.toList)).length + (T.filter (fun e => Op.bytesLess k.toList e.key.toList)).length + (if (findE T k).isSome then 1 else 0) = T.length := by
    intro T hs
    induction T with
    | nil => rfl
    | cons a r ih =>
      have ih2 := ih (List.Pairwise.of_cons hs)
      simp only [findE, List.filter_cons, List.length_cons]
      by_cases he : a.key = k
      · have hr : findE r k = none := find_none r k (fun e he2 h2 => by
          have := (List.pairwise_cons.1 hs).1 e he2
          rw [he, h2, less_irrefl] at this; cases this)
        subst he
        rw [hr] at ih2
        simp only [less_irrefl, beq_self_eq_true, if_pos, Option.isSome_none, Option.isSome_some, Bool.false_eq_true, if_false] at ih2 ⊢
        omega
      · have hb : (a.key.toList == k.toList) = false := toList_ne.2 he
        simp only [hb, Bool.false_eq_true, if_false]
        cases h1 : Op.bytesLess a.key.toList k.toList with
        | true =>
          have h2 : Op.bytesLess k.toList a.key.toList = false := by
            cases hq : Op.bytesLess k.toList a.key.toList with
            | false => rfl
            | true => have := less_trans h1 hq; rw [less_irrefl] at this; cases this
          simp only [h2, if_true, Bool.false_eq_true, if_false, List.length_cons]
          omega
        | false =>
          have h2 := less_total h1 (fun e => he (key_ext e))
          simp only [h2, if_true, Bool.false_eq_true, if_false, List.length_cons]
          omega
  have := split T hs
  unfold putT
  simp only [List.length_append, List.length_cons]
  split at this <;> simp_all <;> omega
def cmpE (a b : ByteArray) : Int := Lib.compareBytes a.data.toList b.data.toList
theorem less_cmp : ∀ (a b : List UInt8), (Op.bytesLess a b = true → Lib.compareBytes a b = -1) ∧ (Op.bytesLess a b = false → (a = b → Lib.compareBytes a b = 0) ∧ (a ≠ b → Lib.compareBytes a b = 1))
  | [], [] => by simp [Op.bytesLess, Lib.compareBytes]
  | [], _ :: _ => by simp [Op.bytesLess, Lib.compareBytes]
  | _ :: _, [] => by simp [Op.bytesLess, Lib.compareBytes]
  | a :: x, b :: y => by
    have ih := less_cmp x y
    simp only [Op.bytesLess, Lib.compareBytes]
    by_cases h1 : a < b
    · simp [h1]
    · by_cases h2 : b < a
      · have hne : a ≠ b := fun e => by subst e; exact h1 h2
        simp [h1, h2, hne]
      · have he : a = b := UInt8.le_antisymm (UInt8.not_lt.1 h2) (UInt8.not_lt.1 h1)
        subst he
        simpa [h1] using ih
theorem cmpE_lt {a b : ByteArray} (h : Op.bytesLess a.toList b.toList = true) : cmpE a b = -1 := by
  rw [ByteArray.toList_eq, ByteArray.toList_eq] at h
  exact (less_cmp _ _).1 h
theorem cmpE_eq {a b : ByteArray} (h : (a.toList == b.toList) = true) : cmpE a b = 0 := by
  have he := key_ext (eq_of_beq h)
  subst he
  exact ((less_cmp a.data.toList a.data.toList).2 (less_irrefl _)).1 rfl
theorem cmpE_gt {a b : ByteArray} (h : Op.bytesLess a.toList b.toList = false) (h2 : (a.toList == b.toList) = false) : cmpE a b = 1 := by
  have hne := toList_ne.1 h2
  rw [ByteArray.toList_eq, ByteArray.toList_eq] at h
  exact ((less_cmp _ _).2 h).2 (fun e => hne (ByteArray.ext (Array.toList_inj.1 e)))
theorem cmpE_ge {a b : ByteArray} (h : Op.bytesLess a.toList b.toList = false) : 0 ≤ cmpE a b := by
  cases h2 : (a.toList == b.toList) with
  | true => rw [cmpE_eq h2]; decide
  | false => rw [cmpE_gt h h2]; decide
def PlaceT (D : List EntD) (key : ByteArray) (p : Nat) : Prop := p ≤ D.length ∧ (∀ k (h : k < D.length), k < p → Op.bytesLess D[k].key.toList key.toList = true) ∧ (∀ k (h : k < D.length), p ≤ k → Op.bytesLess D[k].key.toList key.toList = false) ∧ ∀ e ∈ D, e.key ≠ key
theorem cmpString_any (a b : ByteArray) (w : World) : Calls Tryz.prog 159 #[.string a, .string b] w fun e w' => e = .returned (.int .i64 (cmpE a b)) ∧ w' = w := by
  go_enter Tryz.func159, Tryz.ntmps159
  go_wp2
  rw [run_callFunc_extern Tryz.func167 (by kernel_rfl) (by kernel_rfl) (by kernel_rfl) (e := Extern.BytealgCompare.compare) (by kernel_rfl), Lib.run_compareString]
  simp only [Result.andThen]
  rw [Oper.upon_value]
  go_wp2
  go_ret
  exact ⟨rfl, rfl⟩
theorem strCompare_any (a b : ByteArray) (w : World) : Calls Tryz.prog 148 #[.string a, .string b] w fun e w' => e = .returned (.int .i64 (cmpE a b)) ∧ w' = w := by
  go_enter Tryz.func148, Tryz.ntmps148
  go_wp2_with fail
  refine (cmpString_any _ _ _).mono ?_
  rintro e w1 ⟨rfl, rfl⟩
  go_wp2
  go_ret
  exact ⟨rfl, rfl⟩
theorem cmpKey_any (A : EntD) (key : ByteArray) (a : Option Addr) (c : Nat) (w : World) : Calls Tryz.prog 139 #[.agg #[.string A.key, .int .i64 A.val.kind, .int .i64 A.val.til, .string A.val.text, .slice a A.val.items.length c], .string key] w fun e w' => e = .returned (.int .i64 (cmpE A.key key)) ∧ Below w.heap.size w w' := by
  go_enter Tryz.func139, Tryz.ntmps139
  go_wp2_with fail
  refine (strCompare_any _ _ _).mono ?_
  rintro e w1 ⟨rfl, rfl⟩
  go_wp2
  go_ret
  exact ⟨rfl, (Below.refl _ w).alloc (Nat.le_refl _) _⟩
theorem searchE_any (D : List EntD) (ad : Option Addr) (cd : Nat) (key : ByteArray) (w : World) (hl : D.length ≤ 1000000) (hs : SrtT D) (hds : EntriesAt w ad D) :
    Calls Tryz.prog 138 #[.slice ad D.length cd, .string key, .func (.func 139) #[] #[]] w fun e w' => (∃ (p : Nat) (b : Bool), e = .returned (.tuple #[.int .i64 p, .bool b]) ∧ p ≤ D.length ∧ (b = true → ∃ h : p < D.length, D[p].key = key) ∧ (b = false → PlaceT D key p)) ∧ Below w.heap.size w w' := by
  have HD := hide hds
  have HS := hide hs
  have HC := hide cmpKey_any
  clear hds hs
  go_enter Tryz.func138, Tryz.ntmps138
  go_wp2_with fail
  go_loopw [9, 10] (fun ii jj wr => ∃ (i j : Nat), ii = .int .i64 i ∧ jj = .int .i64 j ∧ i ≤ j ∧ j ≤ D.length ∧ Hid (∀ k (h : k < D.length), k < i → Op.bytesLess D[k].key.toList key.toList = true) ∧ Hid (∀ k (h : k < D.length), j ≤ k → Op.bytesLess D[k].key.toList key.toList = false) ∧ Hid (Below w.heap.size w wr)) (fun ii jj _ => (intOf jj).toNat - (intOf ii).toNat)
  case atStart => exact ⟨0, D.length, rfl, rfl, Nat.zero_le _, Nat.le_refl _, fun k h hk => absurd hk (by omega), fun k h hk => absurd hk (by omega), Below.refl _ _⟩
  case round =>
    obtain ⟨i, j, rfl, rfl, hij, hjn, HI, HJ, HB⟩ := hrel
    by_cases hlt : i < j
    · have hlt' : decide ((i : Int) < (j : Int)) = true := by simp; omega
      obtain ⟨m, hm⟩ : ∃ m : Nat, (i + j) / 2 = m := ⟨_, rfl⟩
      have hmi : i ≤ m ∧ m < j := by omega
      have hmD : m < D.length := by omega
      obtain ⟨b, off, rfl, hbw, hc0, hc1, hc2, hc3, a4, c4, hc4, hta⟩ := entriesAt_keep HD.out HB.out m hmD
      have hi0 : (0 : Int) ≤ ((i : Int) + (j : Int)) / 2 := by omega
      have hi1 : ((i : Int) + (j : Int)) / 2 < (D.length : Int) := by omega
      have hin : (((i : Int) + (j : Int)) / 2).toNat = m := by omega
      have hie : ((i : Int) + (j : Int)) / 2 = (m : Int) := by omega
      obtain ⟨A, HA⟩ : ∃ A, Hid (D[m] = A) := ⟨_, hide rfl⟩
      rw [HA.out] at hc0 hc1 hc2 hc3 hc4 hta
      go_wp2_with fail
      refine (HC.out A key a4 c4 _).mono ?_
      rintro e w1 ⟨rfl, b1⟩
      have HB1 := hide (HB.out.trans (b1.mono HB.out.size))
      clear b1 hc0 hc1 hc2 hc3 hc4 hta
      cases hl2 : Op.bytesLess A.key.toList key.toList with
      | true =>
        have hx : cmpE A.key key = -1 := cmpE_lt hl2
        rw [hx]
        have HI2 : Hid (∀ k (h : k < D.length), k < m + 1 → Op.bytesLess D[k].key.toList key.toList = true) := fun k h hk => by
          rcases Nat.lt_or_ge k m with h2 | h2
          · have h3 := List.pairwise_iff_getElem.1 HS.out k m h hmD h2
            rw [HA.out] at h3
            exact less_trans h3 hl2
          · obtain rfl : k = m := by omega
            rw [HA.out]
            exact hl2
        clear hl2 hx
        go_wp2
        go_roundw
        case rel => exact ⟨m + 1, j, by go_num, rfl, by omega, by omega, HI2, HJ, HB1⟩
        case measure => simp [intOf]; omega
      | false =>
        obtain ⟨x, hx, hx0⟩ : ∃ x, cmpE A.key key = x ∧ 0 ≤ x := by
          exact ⟨_, rfl, cmpE_ge hl2⟩
        rw [hx]
        have hx1 : decide (x < 0) = false := by simp; omega
        have HJ2 : Hid (∀ k (h : k < D.length), m ≤ k → Op.bytesLess D[k].key.toList key.toList = false) := fun k h hk => by
          rcases Nat.lt_or_ge m k with h2 | h2
          · have h3 := List.pairwise_iff_getElem.1 HS.out m k hmD h h2
            rw [HA.out] at h3
            cases h4 : Op.bytesLess D[k].key.toList key.toList with
            | false => rfl
            | true => rw [less_trans h3 h4] at hl2; cases hl2
          · obtain rfl : k = m := by omega
            rw [HA.out]
            exact hl2
        clear hl2 hx
        go_wp2
        go_roundw
        case rel => exact ⟨i, m, rfl, rfl, by omega, by omega, HI, HJ2, HB1⟩
        case measure => simp [intOf]; omega
    · have hlt' : decide ((i : Int) < (j : Int)) = false := by simp; omega
      obtain rfl : i = j := by omega
      by_cases hin : i < D.length
      · have hin' : decide ((i : Int) < (D.length : Int)) = true := by simp; omega
        obtain ⟨b, off, rfl, hbw, hc0, hc1, hc2, hc3, a4, c4, hc4, hta⟩ := entriesAt_keep HD.out HB.out i hin
        have hi0 : (0 : Int) ≤ (i : Int) := by omega
        have hi1 : (i : Int) < (D.length : Int) := by omega
        obtain ⟨A, HA⟩ : ∃ A, Hid (D[i] = A) := ⟨_, hide rfl⟩
        rw [HA.out] at hc0 hc1 hc2 hc3 hc4 hta
        have hl2 := HJ.out i hin (Nat.le_refl _)
        rw [HA.out] at hl2
        go_wp2_with fail
        refine (HC.out A key a4 c4 _).mono ?_
        rintro e w1 ⟨rfl, b1⟩
        have HB1 := hide (HB.out.trans (b1.mono HB.out.size))
        clear b1 hc0 hc1 hc2 hc3 hc4 hta
        cases hq : (A.key.toList == key.toList) with
        | true =>
          have hx : cmpE A.key key = 0 := cmpE_eq hq
          have HF : Hid (D[i].key = key) := by rw [HA.out]; exact key_ext (eq_of_beq hq)
          rw [hx]
          clear hl2 hx hq
          go_wp2
          refine bodyPost_ret (results_tmp2 rfl _ _ _) rfl ?_
          exact ⟨⟨i, true, rfl, by omega, fun _ => ⟨hin, HF.out⟩, fun h => by cases h⟩, HB1.out⟩
        | false =>
          have hx : cmpE A.key key = 1 := cmpE_gt hl2 hq
          have HF : Hid (PlaceT D key i) := by
            refine ⟨by omega, HI.out, HJ.out, fun S hS e => ?_⟩
            obtain ⟨k, hk, rfl⟩ := List.mem_iff_getElem.1 hS
            rcases Nat.lt_trichotomy k i with h2 | h2 | h2
            · have h3 := HI.out k hk h2
              rw [e, less_irrefl] at h3
              cases h3
            · subst h2
              rw [HA.out] at e
              rw [e, beq_self_eq_true] at hq
              cases hq
            · have h3 := List.pairwise_iff_getElem.1 HS.out i k hin hk h2
              rw [HA.out, e, hl2] at h3
              cases h3
          rw [hx]
          clear hl2 hx hq
          go_wp2
          refine bodyPost_ret (results_tmp2 rfl _ _ _) rfl ?_
          exact ⟨⟨i, false, rfl, by omega, fun h => by (cases h), fun _ => HF.out⟩, HB1.out⟩
      · have hin' : decide ((i : Int) < (D.length : Int)) = false := by simp; omega
        have HF : Hid (PlaceT D key i) := by
          refine ⟨by omega, HI.out, HJ.out, fun S hS e => ?_⟩
          obtain ⟨k, hk, rfl⟩ := List.mem_iff_getElem.1 hS
          have h3 := HI.out k hk (by omega)
          rw [e, less_irrefl] at h3
          cases h3
        go_wp2
        refine bodyPost_ret (results_tmp2 rfl _ _ _) rfl ?_
        exact ⟨⟨i, false, rfl, by omega, fun h => by (cases h), fun _ => HF.out⟩, HB.out⟩
end Go.Proofs.YtifjneldjjmeaaaGreatDoor
