/- The specification's reader of replies: replies, and rows of them. -/
import Derived.Test.YtnoalenfeakcpaaDoorRplS1
import Derived.Test.YtnoalenfeakcpaaDoorRplI5
namespace Go.Proofs.YtnoalenfeakcpaaDoor
open Go.RowKit

/-- A place, or none, as a number. -/
def encO (o : Option Nat) : Int := match o with | some j => (j : Int) | none => -1
theorem encO_ge (o : Option Nat) : decide (0 ≤ encO o) = o.isSome := by cases o <;> simp [encO]
def bulkS (s : ByteArray) (e : Nat) (l : ByteArray) : Option Nat := match valS l with | none => none | some v => if v < -1 then none else if v = -1 then some (e + 2) else bulkE s (e + 2) v.toNat
def arrS (A : Nat → Nat → Option Nat) (e : Nat) (l : ByteArray) : Option Nat := match valS l with | none => none | some v => if v < 0 then none else A v.toNat (e + 2)
theorem bulkS_one (s : ByteArray) (e : Nat) : bulkS s e ⟨#[45, 49]⟩ = some (e + 2) := by
  rcases val_ways ⟨#[45, 49]⟩ with ⟨n, h1, h2, h3⟩ | ⟨h1, n, h2, h3, h4⟩ | ⟨h1, h2, h3⟩
  · exact absurd rfl h3
  · have := h4.2 rfl
    subst this
    unfold bulkS
    rw [h3]
    rfl
  · exact absurd rfl h3
theorem bulkS_dec (s : ByteArray) (e : Nat) (l : ByteArray) (hl : l ≠ ⟨#[45, 49]⟩) : bulkS s e l = match decV l with | some n => bulkE s (e + 2) n | none => none := by
  rcases val_ways l with ⟨n, h1, h2, h3⟩ | ⟨h1, n, h2, h3, h4⟩ | ⟨h1, h2, h3⟩
  · unfold bulkS
    rw [h1, h2]
    simp only
    rw [if_neg (by omega), if_neg (by omega)]
    rfl
  · have hn : n ≠ 1 := fun e => hl (h4.1 e)
    unfold bulkS
    rw [h1, h3]
    simp only
    rw [if_pos (by omega)]
  · unfold bulkS
    rw [h1, h2]
theorem arrS_dec (A : Nat → Nat → Option Nat) (e : Nat) (l : ByteArray) : arrS A e l = match decV l with | some n => A n (e + 2) | none => none := by
  rcases val_ways l with ⟨n, h1, h2, h3⟩ | ⟨h1, n, h2, h3, h4⟩ | ⟨h1, h2, h3⟩
  · unfold arrS
    rw [h1, h2]
    simp only
    rw [if_neg (by omega)]
    rfl
  · unfold arrS
    rw [h1, h3]
    simp only
    rw [if_pos (by omega)]
  · unfold arrS
    rw [h1, h2]

def gOf (s : ByteArray) : Nat → Option (Nat → Option Nat)
  | 0 => none
  | d + 1 => some (rpAt valS s d)
def aOf (F : Option (Nat → Option Nat)) (n p : Nat) : Option Nat := match F with | none => none | some f => rpN f n p
theorem rpS_cases (s : ByteArray) (d i : Nat) (hi : i < s.size) (e : Nat) (he : crE s (i + 1) = e) (hes : e < s.size) (l : ByteArray) (hl : s.extract (i + 1) e = l) : rpAt valS s d i =
    if Wd.bt s i = 43 ∨ Wd.bt s i = 45 then some (e + 2)
    else if Wd.bt s i = 58 then (if (valS l).isSome = true then some (e + 2) else none)
    else if Wd.bt s i = 36 then bulkS s e l
    else if Wd.bt s i = 42 then arrS (aOf (gOf s d)) e l
    else none := by
  have key : ∀ A : Nat → Nat → Option Nat, (∀ n p, A n p = aOf (gOf s d) n p) → rpHd valS s A i = if Wd.bt s i = 43 ∨ Wd.bt s i = 45 then some (e + 2)
    else if Wd.bt s i = 58 then (if (valS l).isSome = true then some (e + 2) else none)
    else if Wd.bt s i = 36 then bulkS s e l
    else if Wd.bt s i = 42 then arrS (aOf (gOf s d)) e l
    else none := by
    intro A hA
    obtain rfl : A = aOf (gOf s d) := funext fun n => funext fun p => hA n p
    unfold rpHd bulkS arrS
    rw [he, if_neg (by omega), hl]
    cases valS l with
    | none => simp
    | some v => simp
  cases d with
  | zero =>
    rw [rpAt, if_neg (by omega)]
    exact key _ (fun _ _ => rfl)
  | succ d =>
    rw [rpAt, if_neg (by omega)]
    exact key _ (fun _ _ => rfl)
theorem rpS_none (V : ByteArray → Option Int) (s : ByteArray) (d i : Nat) (h : s.size ≤ i ∨ s.size ≤ crE s (i + 1)) : rpAt V s d i = none := by
  cases d <;> (rw [rpAt]; by_cases h1 : s.size ≤ i; · rw [if_pos h1]) <;> (rw [if_neg h1]; unfold rpHd; rw [if_pos (by omega)])

set_option maxRecDepth 100000 in
set_option maxHeartbeats 4000000 in
theorem l12At_any (s : ByteArray) (hz : s.size ≤ 1048576) : ∀ (d a : Nat), a + d = 4 → ∀ (w : World) (i : Nat), i ≤ s.size →
    Calls Tryd.prog 24 #[.string s, .int .i64 (i : Int), .int .i64 (a : Int)] w fun e w' => e = .returned (.int .i64 (encO (rpAt valS s d i))) ∧ Below w.heap.size w w' := by
  intro d
  induction d with
  | zero => exact fun a ha w i hi => step 0 a ha w i hi (fun f hf => by cases hf)
  | succ d ih => exact fun a ha w i hi => step (d + 1) a ha w i hi (fun f hf W j hj => by
      obtain rfl : rpAt valS s d = f := by simpa [gOf] using hf
      exact ih (a + 1) (by omega) W j hj)
where
  step (d a : Nat) (ha : a + d = 4) (w : World) (i : Nat) (hi : i ≤ s.size)
      (IH : ∀ f, gOf s d = some f → ∀ W j, j ≤ s.size → Calls Tryd.prog 24 #[.string s, .int .i64 (j : Int), .int .i64 ((a : Int) + 1)] W fun e w' => e = .returned (.int .i64 (encO (f j))) ∧ Below W.heap.size W w') :
      Calls Tryd.prog 24 #[.string s, .int .i64 (i : Int), .int .i64 (a : Int)] w fun e w' => e = .returned (.int .i64 (encO (rpAt valS s d i))) ∧ Below w.heap.size w w' := by
    by_cases h0 : s.size ≤ i
    · have h0' : decide ((s.size : Int) ≤ (i : Int)) = true := by simp; omega
      have HR : Hid (encO (rpAt valS s d i) = -1) := by show _ = _; rw [rpS_none valS s d i (.inl h0)]; rfl
      clear IH
      rw [HR.out]
      go_enter Tryd.func24, Tryd.ntmps24
      go_wp2
      go_ret
      exact ⟨rfl, Below.refl _ _⟩
    have h0' : decide ((s.size : Int) ≤ (i : Int)) = false := by simp; omega
    have HLN : Hid (∀ W, Calls Tryd.prog 34 #[.string s, .int .i64 ((i : Int) + 1)] W fun e w' => e = .returned (.int .i64 (crI s (i + 1))) ∧ w' = W) := fun W => l12Line_any s (i + 1) W hz (by omega)
    by_cases h1 : s.size ≤ crE s (i + 1)
    · have HR : Hid (encO (rpAt valS s d i) = -1) := by show _ = _; rw [rpS_none valS s d i (.inr h1)]; rfl
      have HI : Hid (crI s (i + 1) = -1) := by show _ = _; unfold crI; rw [if_neg (by omega)]
      clear IH
      rw [HR.out]
      rw [HI.out] at HLN
      go_enter Tryd.func24, Tryd.ntmps24
      go_wp2_with fail
      refine (HLN.out _).mono ?_
      rintro e w1 ⟨rfl, rfl⟩
      go_wp2
      go_ret
      exact ⟨rfl, Below.refl _ _⟩
    obtain ⟨g1, g2, -⟩ := crE_facts (show crE s (i + 1) < s.size by omega)
    have HI : Hid (crI s (i + 1) = (crE s (i + 1) : Int)) := by show _ = _; unfold crI; rw [if_pos (by omega)]
    rw [HI.out] at HLN
    obtain ⟨e, he⟩ : ∃ e, Hid (crE s (i + 1) = e) := ⟨_, rfl⟩
    obtain ⟨l, hl⟩ : ∃ l, Hid (s.extract (i + 1) e = l) := ⟨_, rfl⟩
    have HC := hide (rpS_cases s d i (by omega) e he.out (by rw [← he.out]; omega) l hl.out)
    rw [he.out] at HLN g1 g2 h1
    have hcut := cut_at s (i + 1) e ((i : Int) + 1) (e : Int) l (by omega) rfl g1 (by omega) hl.out
    have hlz : l.size ≤ 1048576 := by rw [← hl.out, ByteArray.size_extract]; omega
    obtain ⟨c, hC, hct, hc256⟩ : ∃ c : Nat, Hid (Wd.bt s i = c) ∧ (s[i]'(by omega)).toNat = c ∧ c < 256 := ⟨_, rfl, Wd.bt_eq s i (by omega), Wd.bt_lt s i⟩
    have hidx := idx_run s i c (by omega) hct
    rw [hC.out] at HC
    have hneg : decide ((e : Int) < 0) = false := by simp
    obtain ⟨R, HR⟩ : ∃ R, Hid (rpAt valS s d i = R) := ⟨_, rfl⟩
    rw [HR.out] at HC ⊢
    have HF := hide IH
    have hF0 : gOf s d = none ↔ a = 4 := by
      cases d with
      | zero => exact ⟨fun _ => by omega, fun _ => rfl⟩
      | succ d => exact ⟨fun h => (by cases h), fun h => (by omega)⟩
    have hF := hide hF0
    have hfl0 : ∀ f, gOf s d = some f → ∀ i j, f i = some j → i < j ∧ j ≤ s.size := by
      cases d with
      | zero => exact fun f h => by cases h
      | succ d => exact fun f h => by obtain rfl : rpAt valS s d = f := by simpa [gOf] using h
                                      exact rpAt_le valS s d
    have hfl := hide hfl0
    clear hF0 hfl0
    generalize gOf s d = F at HC HF hF hfl
    clear IH HR HI he hl
    by_cases h43 : c = 43 ∨ c = 45
    · have HE : Hid (encO R = (e : Int) + 2) := by show _ = _; rw [HC.out, if_pos h43]; simp [encO]
      have hway : (((c : Int) == 43) = true) ∨ (((c : Int) == 43) = false ∧ ((c : Int) == 45) = true) := by
        rcases h43 with h | h
        · exact .inl (by simp; omega)
        · exact .inr ⟨by simp; omega, by simp; omega⟩
      rw [HE.out]
      clear HC h43 HF hF
      rcases hway with k1 | ⟨k1, k2⟩
      all_goals
        go_enter Tryd.func24, Tryd.ntmps24
        go_wp2_with fail
        refine (HLN.out _).mono ?_
        rintro e w1 ⟨rfl, rfl⟩
        go_wp2
        go_ret
        exact ⟨rfl, Below.refl _ _⟩
    rw [if_neg h43] at HC
    have f43 : ((c : Int) == 43) = false := by simp; omega
    have f45 : ((c : Int) == 45) = false := by simp; omega
    clear h43
    by_cases h58 : c = 58
    · have f58 : ((c : Int) == 58) = true := by simp; omega
      rw [if_pos h58] at HC
      have HV := hide (fun W => l12Int_any l W hlz)
      generalize (valS l).isSome = b at HC HV
      clear h58 HF hF
      cases b with
      | true =>
        have HE : Hid (encO R = (e : Int) + 2) := by show _ = _; rw [HC.out]; simp [encO]
        rw [HE.out]
        clear HC
        go_enter Tryd.func24, Tryd.ntmps24
        go_wp2_with fail
        refine (HLN.out _).mono ?_
        rintro e w1 ⟨rfl, rfl⟩
        go_wp2_with fail
        refine (HV.out _).mono ?_
        rintro e w2 ⟨rfl, b2⟩
        go_wp2
        go_ret
        exact ⟨rfl, b2⟩
      | false =>
        have HE : Hid (encO R = -1) := by show _ = _; rw [HC.out]; simp [encO]
        rw [HE.out]
        clear HC
        go_enter Tryd.func24, Tryd.ntmps24
        go_wp2_with fail
        refine (HLN.out _).mono ?_
        rintro e w1 ⟨rfl, rfl⟩
        go_wp2_with fail
        refine (HV.out _).mono ?_
        rintro e w2 ⟨rfl, b2⟩
        go_wp2
        go_ret
        exact ⟨rfl, b2⟩
    rw [if_neg h58] at HC
    have f58 : ((c : Int) == 58) = false := by simp; omega
    clear h58
    have HW := hide (fun W => l12Whole_any l W hlz)
    have hdb := decI_bnd l
    by_cases h36 : c = 36
    · have f36 : ((c : Int) == 36) = true := by simp; omega
      rw [if_pos h36] at HC
      clear h36 HF hF
      by_cases hm : l = ⟨#[45, 49]⟩
      · have hm' : (l.toList == [45, 49]) = true := by rw [hm, ByteArray.toList_eq]; exact beq_self_eq_true _
        have HE : Hid (encO R = (e : Int) + 2) := by show _ = _; rw [HC.out, hm, bulkS_one]; simp [encO]
        rw [HE.out]
        clear HC hm
        generalize decI l = D at HW hdb
        go_enter Tryd.func24, Tryd.ntmps24
        go_wp2_with fail
        refine (HLN.out _).mono ?_
        rintro e w1 ⟨rfl, rfl⟩
        go_wp2_with fail
        refine (HW.out _).mono ?_
        rintro e w2 ⟨rfl, b2⟩
        go_wp2
        go_ret
        exact ⟨rfl, b2⟩
      have hm' : (l.toList == [45, 49]) = false := by
        have := txt_ne hm
        rw [ByteArray.toList_eq (bs := ⟨#[45, 49]⟩)] at this
        exact this
      have HB := bulkS_dec s e l hm
      rw [HB] at HC
      clear HB hm
      cases hd : decV l with
      | none =>
        have HE : Hid (encO R = -1) := by show _ = _; rw [HC.out, hd]; rfl
        have HD : Hid (decI l = -1) := by show _ = _; unfold decI; rw [hd]
        rw [HE.out]
        rw [HD.out] at HW
        clear HC hd hdb
        go_enter Tryd.func24, Tryd.ntmps24
        go_wp2_with fail
        refine (HLN.out _).mono ?_
        rintro e w1 ⟨rfl, rfl⟩
        go_wp2_with fail
        refine (HW.out _).mono ?_
        rintro e w2 ⟨rfl, b2⟩
        go_wp2
        go_ret
        exact ⟨rfl, b2⟩
      | some n =>
        have HD : Hid (decI l = (n : Int)) := by show _ = _; unfold decI; rw [hd]
        have hn9 := (decV_text hd).2.1
        have HC2 : Hid (R = bulkE s (e + 2) n) := by show _ = _; rw [HC.out, hd]
        rw [HD.out] at HW
        have n0 : decide (0 ≤ (n : Int)) = true := by simp
        clear HC hd hdb HD
        by_cases hq : e + 4 + n ≤ s.size
        · have q1 : decide ((n : Int) ≤ (s.size : Int)) = true := by simp; omega
          have q2 : decide ((e : Int) + 4 + (n : Int) ≤ (s.size : Int)) = true := by simp; omega
          obtain ⟨Y, HY⟩ : ∃ Y, Hid (s.extract (e + 2 + n) (e + 4 + n) = Y) := ⟨_, rfl⟩
          have hcut2 := cut_at s (e + 2 + n) (e + 4 + n) ((e : Int) + 2 + (n : Int)) ((e : Int) + 4 + (n : Int)) Y (by omega) (by omega) (by omega) hq HY.out
          have hYz : Y.size = 2 := by rw [← HY.out, ByteArray.size_extract]; omega
          have hY0 : Wd.bt Y 0 = Wd.bt s (e + 2 + n) := by rw [← HY.out, bt_ex s _ _ 0 (by omega) hq, Nat.add_zero]
          have hY1 : Wd.bt Y 1 = Wd.bt s (e + 2 + n + 1) := by rw [← HY.out, bt_ex s _ _ 1 (by omega) hq]
          obtain ⟨b, hb, HQ⟩ : ∃ b : Bool, ((Y.toList == [13, 10]) = b) ∧ Hid (encO R = if b = true then (e : Int) + 4 + n else -1) := by
            refine ⟨_, rfl, ?_⟩
            show _ = _
            rw [HC2.out]
            unfold bulkE
            by_cases hc : Wd.bt s (e + 2 + n) = 13 ∧ Wd.bt s (e + 2 + n + 1) = 10
            · have ey : Y = ⟨#[13, 10]⟩ := by
                refine bt_ext hYz fun q hq => ?_
                have hq' : q < 2 := hq
                rcases (show q = 0 ∨ q = 1 by omega) with rfl | rfl
                · rw [hY0, hc.1]; rfl
                · rw [hY1, hc.2]; rfl
              have et : (Y.toList == [13, 10]) = true := by rw [ey, ByteArray.toList_eq]; rfl
              rw [if_pos ⟨by omega, hc⟩, if_pos et]
              simp only [encO]
              omega
            · have et : ¬ (Y.toList == [13, 10]) = true := by
                intro et
                rw [beq_iff_eq, ByteArray.toList_eq] at et
                have e2 : Y = ⟨#[13, 10]⟩ := ByteArray.ext (Array.toList_inj.1 et)
                refine hc ⟨?_, ?_⟩
                · rw [← hY0, e2]; rfl
                · rw [← hY1, e2]; rfl
              rw [if_neg (fun hh => hc hh.2), if_neg et]
              rfl
          clear hYz hY0 hY1 HC2
          cases b with
          | true =>
            have HE : Hid (encO R = (e : Int) + 4 + (n : Int)) := HQ.out
            rw [HE.out]
            clear HQ
            go_enter Tryd.func24, Tryd.ntmps24
            go_wp2_with fail
            refine (HLN.out _).mono ?_
            rintro e w1 ⟨rfl, rfl⟩
            go_wp2_with fail
            refine (HW.out _).mono ?_
            rintro e w2 ⟨rfl, b2⟩
            go_wp2
            go_ret
            exact ⟨rfl, b2⟩
          | false =>
            have HE : Hid (encO R = -1) := HQ.out
            rw [HE.out]
            clear HQ
            go_enter Tryd.func24, Tryd.ntmps24
            go_wp2_with fail
            refine (HLN.out _).mono ?_
            rintro e w1 ⟨rfl, rfl⟩
            go_wp2_with fail
            refine (HW.out _).mono ?_
            rintro e w2 ⟨rfl, b2⟩
            go_wp2
            go_ret
            exact ⟨rfl, b2⟩
        · have HE : Hid (encO R = -1) := by show _ = _; rw [HC2.out]; unfold bulkE; rw [if_neg (by omega)]; rfl
          have hway : (decide (n ≤ s.size) = false) ∨ (decide (n ≤ s.size) = true ∧ decide ((e : Int) + 4 + (n : Int) ≤ (s.size : Int)) = false) := by
            by_cases hh : n ≤ s.size
            · exact .inr ⟨by simp; omega, by simp; omega⟩
            · exact .inl (by simp; omega)
          rw [HE.out]
          clear HC2 hq
          rcases hway with q1 | ⟨q1, q2⟩
          all_goals
            go_enter Tryd.func24, Tryd.ntmps24
            go_wp2_with fail
            refine (HLN.out _).mono ?_
            rintro e w1 ⟨rfl, rfl⟩
            go_wp2_with fail
            refine (HW.out _).mono ?_
            rintro e w2 ⟨rfl, b2⟩
            go_wp2
            go_ret
            exact ⟨rfl, b2⟩
    rw [if_neg h36] at HC
    have f36 : ((c : Int) == 36) = false := by simp; omega
    clear h36
    by_cases h42 : c = 42
    · have f42 : ((c : Int) == 42) = true := by simp; omega
      rw [if_pos h42, arrS_dec] at HC
      clear h42
      cases hd : decV l with
      | none =>
        have HE : Hid (encO R = -1) := by show _ = _; rw [HC.out, hd]; rfl
        have HD : Hid (decI l = -1) := by show _ = _; unfold decI; rw [hd]
        rw [HE.out]
        rw [HD.out] at HW
        clear HC hd hdb HF hF
        go_enter Tryd.func24, Tryd.ntmps24
        go_wp2_with fail
        refine (HLN.out _).mono ?_
        rintro e w1 ⟨rfl, rfl⟩
        go_wp2_with fail
        refine (HW.out _).mono ?_
        rintro e w2 ⟨rfl, b2⟩
        go_wp2
        go_ret
        exact ⟨rfl, b2⟩
      | some n =>
        have HD : Hid (decI l = (n : Int)) := by show _ = _; unfold decI; rw [hd]
        have hn9 := (decV_text hd).2.1
        have n0 : decide ((n : Int) < 0) = false := by simp
        rw [HD.out] at HW
        cases hFF : F with
        | none =>
          have f4 : ((a : Int) == 4) = true := by have := hF.out.1 hFF; simp; omega
          have HE : Hid (encO R = -1) := by show _ = _; rw [HC.out, hd, hFF]; rfl
          rw [HE.out]
          clear HC hd hdb HF hF HD
          go_enter Tryd.func24, Tryd.ntmps24
          go_wp2_with fail
          refine (HLN.out _).mono ?_
          rintro e w1 ⟨rfl, rfl⟩
          go_wp2_with fail
          refine (HW.out _).mono ?_
          rintro e w2 ⟨rfl, b2⟩
          go_wp2
          go_ret
          exact ⟨rfl, b2⟩
        | some f =>
          have h4n : a ≠ 4 := fun ea => by have := hF.out.2 ea; rw [hFF] at this; cases this
          have f4 : ((a : Int) == 4) = false := by simp; omega
          have HR2 : Hid (rpN f n (e + 2) = R) := by show _ = _; rw [HC.out, hd, hFF]; rfl
          have HG := hide (HF.out f hFF)
          have hfle : Hid (∀ i j, f i = some j → i < j ∧ j ≤ s.size) := hide (hfl.out f hFF)
          clear HC hd hdb HF hF HD hFF
          go_enter Tryd.func24, Tryd.ntmps24
          go_wp2_with fail
          refine (HLN.out _).mono ?_
          rintro e w1 ⟨rfl, rfl⟩
          go_wp2_with fail
          refine (HW.out _).mono ?_
          rintro e w2 ⟨rfl, b2⟩
          have B2 := hide b2
          clear b2
          go_wp2_with fail
          go_loopw [1, 11] (fun pp ii wr => ∃ (k : Nat) (o : Option Nat), ii = .int .i64 k ∧ k ≤ n ∧ pp = .int .i64 (encO o) ∧ Hid (∀ j, o = some j → j ≤ s.size) ∧ Hid ((match o with | none => none | some j => rpN f (n - k) j) = R) ∧ Hid (Below w1.heap.size w1 wr)) (fun _ ii _ => n - (intOf ii).toNat)
          case atStart => exact ⟨0, some (e + 2), rfl, Nat.zero_le _, by simp only [encO]; go_num, fun j hj => by simp at hj; omega, HR2.out, B2⟩
          case round =>
            obtain ⟨k, o, rfl, hk, rfl, HJ, HA, HB⟩ := hrel
            have hws := HB.out.size
            by_cases hlt : k < n
            · have hlt' : decide ((k : Int) < (n : Int)) = true := by simp; omega
              cases o with
              | none =>
                have HRn : Hid (R = none) := HA.out.symm
                have h9 : decide (0 ≤ encO none) = false := rfl
                go_wp2
                go_ret
                rw [HRn.out]
                exact ⟨rfl, HB.out⟩
              | some j =>
                have hjs := HJ.out j rfl
                have hen : encO (some j) = (j : Int) := rfl
                rw [hen]
                have h9 : decide (0 ≤ (j : Int)) = true := by simp
                have HA2 : Hid ((match f j with | none => none | some q => rpN f (n - (k + 1)) q) = R) := by
                  show _ = _
                  rw [← HA.out]
                  simp only
                  rw [show n - k = (n - (k + 1)) + 1 by omega, rpN]
                  cases f j <;> rfl
                have HL2 := hide (fun q hq => (hfle.out j q hq).2)
                have HC2 := hide (HG.out wr j hjs)
                generalize f j = o2 at HA2 HC2 HL2
                go_wp2_with fail
                refine (HC2.out).mono ?_
                rintro e w3 ⟨rfl, b3⟩
                have B3 := hide (HB.out.trans (b3.mono hws))
                clear b3
                go_wp2_with fail
                go_roundw
                case rel => exact ⟨k + 1, o2, by go_num, by omega, rfl, HL2, HA2, B3⟩
                case measure => simp [intOf]; omega
            · have hlt' : decide ((k : Int) < (n : Int)) = false := by simp; omega
              have HRo : Hid (R = o) := by
                show _ = _
                rw [← HA.out]
                cases o with
                | none => rfl
                | some j => simp only; rw [show n - k = 0 by omega, rpN]
              go_wp2
              go_ret
              rw [HRo.out]
              exact ⟨rfl, HB.out⟩
    rw [if_neg h42] at HC
    have f42 : ((c : Int) == 42) = false := by simp; omega
    have HE : Hid (encO R = -1) := by show _ = _; rw [HC.out]; rfl
    rw [HE.out]
    clear h42 HC HF hF HW hdb
    go_enter Tryd.func24, Tryd.ntmps24
    go_wp2_with fail
    refine (HLN.out _).mono ?_
    rintro e w1 ⟨rfl, rfl⟩
    go_wp2
    go_ret
    exact ⟨rfl, Below.refl _ _⟩
end Go.Proofs.YtnoalenfeakcpaaDoor
