/- The program's ReplyAt and Replies. -/
import Derived.Test.YtnoalenfeakcpaaDoorRplI3
import Derived.Test.YtnoalenfeakcpaaDoorClone
import Derived.Deep.RegionLaw
namespace Go.Proofs.YtnoalenfeakcpaaDoor
open Go.RowKit

def fOf (s : ByteArray) : Nat → Option (Nat → Option Nat)
  | 0 => none
  | d + 1 => some (rpAt valI s d)
theorem rpHd_cases (s : ByteArray) (A : Nat → Nat → Option Nat) (F : Option (Nat → Option Nat)) (hA : ∀ n p, A n p = match F with | none => none | some f => rpN f n p) (i : Nat) : rpHd valI s A i =
    if Wd.bt s i = 43 ∨ Wd.bt s i = 45 then (if s.size ≤ crE s (i + 1) then none else some (crE s (i + 1) + 2))
    else if Wd.bt s i = 58 then (match numO s (i + 1) with | none => none | some _ => some (crE s (i + 1) + 2))
    else if Wd.bt s i = 36 then bulkR s (i + 1)
    else if Wd.bt s i = 42 then arrR s F (i + 1)
    else none := by
  unfold rpHd bulkR arrR numO
  by_cases h1 : s.size ≤ crE s (i + 1)
  · simp only [h1, if_true, ite_self]
  · simp only [h1, if_false]
    cases valI (s.extract (i + 1) (crE s (i + 1))) with
    | none => simp
    | some v =>
      simp only [hA]
      cases F <;> rfl
theorem rpAt_cases (s : ByteArray) (d i : Nat) (hi : i < s.size) : rpAt valI s d i =
    if Wd.bt s i = 43 ∨ Wd.bt s i = 45 then (if s.size ≤ crE s (i + 1) then none else some (crE s (i + 1) + 2))
    else if Wd.bt s i = 58 then (match numO s (i + 1) with | none => none | some _ => some (crE s (i + 1) + 2))
    else if Wd.bt s i = 36 then bulkR s (i + 1)
    else if Wd.bt s i = 42 then arrR s (fOf s d) (i + 1)
    else none := by
  cases d with
  | zero =>
    rw [rpAt, if_neg (by omega)]
    exact rpHd_cases s _ (fOf s 0) (fun _ _ => rfl) i
  | succ d =>
    rw [rpAt, if_neg (by omega)]
    exact rpHd_cases s _ (fOf s (d + 1)) (fun _ _ => rfl) i

theorem one_eq {x : ByteArray} {c : UInt8} (hz : x.size = 1) (h : Wd.bt x 0 = c.toNat) : (x.toList == [c]) = true := by
  have e : x = ⟨#[c]⟩ := by
    refine bt_ext hz fun q hq => ?_
    have hq' : q < 1 := hq
    obtain rfl : q = 0 := by omega
    rw [h]; rfl
  rw [e, ByteArray.toList_eq]
  exact beq_self_eq_true _
theorem one_ne {x : ByteArray} {c : UInt8} (h : Wd.bt x 0 ≠ c.toNat) : (x.toList == [c]) = false := by
  rw [beq_eq_false_iff_ne]
  intro e
  rw [ByteArray.toList_eq] at e
  have e2 : x = ⟨#[c]⟩ := ByteArray.ext (Array.toList_inj.1 e)
  rw [e2] at h
  exact h rfl

set_option maxRecDepth 100000 in
set_option maxHeartbeats 2000000 in
theorem reply_any (w0 : World) (g : Nat) (s : ByteArray) (hz : s.size ≤ 1048576) (hv : RVars w0) : ∀ (d a : Nat), a + d = 4 → ∀ (w : World) (i : Nat), i ≤ s.size → RS w0 w g s i →
    Calls Tryd.prog 25 #[.pointer (some ⟨g, 0, none⟩), .int .i64 (a : Int)] w (RPost w0 g s (rpAt valI s d i)) := by
  intro d
  induction d with
  | zero => exact fun a ha w i hi h => step 0 a ha w i hi h (fun f hf => by cases hf)
  | succ d ih => exact fun a ha w i hi h => step (d + 1) a ha w i hi h (fun f hf W j hj hW => by
      obtain rfl : rpAt valI s d = f := by simpa [fOf] using hf
      exact ih (a + 1) (by omega) W j hj hW)
where
  step (d a : Nat) (ha : a + d = 4) (w : World) (i : Nat) (hi : i ≤ s.size) (h : RS w0 w g s i)
      (IH : ∀ f, fOf s d = some f → ∀ W j, j ≤ s.size → RS w0 W g s j → Calls Tryd.prog 25 #[.pointer (some ⟨g, 0, none⟩), .int .i64 ((a : Int) + 1)] W (RPost w0 g s (f j))) :
      Calls Tryd.prog 25 #[.pointer (some ⟨g, 0, none⟩), .int .i64 (a : Int)] w (RPost w0 g s (rpAt valI s d i)) := by
    have HV := hide hv
    by_cases hlt : i < s.size
    · have HC := hide (rpAt_cases s d i hlt)
      have HT := hide (takeR_yes w0 w g s i 1 hz (by omega) h)
      have hx : Wd.bt (s.extract i (i + 1)) 0 = Wd.bt s i := bt_ex s i (i + 1) 0 (by omega) (by omega)
      have hxz : (s.extract i (i + 1)).size = 1 := by rw [ByteArray.size_extract]; omega
      have HI := hide IH
      have hF : fOf s d = none ↔ a = 4 := by cases d with
        | zero => simp [fOf]; omega
        | succ d => simp [fOf]; omega
      have HF := hide hF
      clear IH h hv hF
      obtain ⟨R, HR⟩ : ∃ R, Hid (rpAt valI s d i = R) := ⟨_, rfl⟩
      rw [HR.out] at HC ⊢
      clear HR
      generalize s.extract i (i + 1) = X at HT hx hxz
      by_cases h43 : Wd.bt s i = 43 ∨ Wd.bt s i = 45
      · have hway : ((X.toList == [43]) = true) ∨ ((X.toList == [43]) = false ∧ (X.toList == [45]) = true) := by
          rcases h43 with h | h
          · exact .inl (one_eq hxz (by rw [hx, h]; rfl))
          · exact .inr ⟨one_ne (by rw [hx, h]; decide), one_eq hxz (by rw [hx, h]; rfl)⟩
        rw [if_pos h43] at HC
        clear h43 hx hxz
        by_cases he : s.size ≤ crE s (i + 1)
        · have HC2 : Hid (R = none) := by show _ = _; rw [HC.out, if_pos he]
          have HE := hide he
          clear HC he
          rcases hway with h1 | ⟨h1, h2⟩
          all_goals
            go_enter Tryd.func25, Tryd.ntmps25
            go_wp2_with fail
            refine (HT.out).mono ?_
            rintro e w1 ⟨rfl, hp1⟩
            have HU := hide (upTo_no w0 w1 g s (i + 1) hz (by omega) HE.out HV.out hp1)
            generalize s.extract (i + 1) s.size = Y at HU
            clear hp1
            go_wp2_with fail
            refine (HU.out).mono ?_
            rintro e w2 ⟨rfl, hp2⟩
            have HP2 := hide hp2
            clear hp2
            go_wp2
            go_ret
            exact rpost_no HC2.out (by omega : i + 1 ≤ s.size) HP2.out
        · have HC2 : Hid (R = some (crE s (i + 1) + 2)) := by show _ = _; rw [HC.out, if_neg he]
          have hle : crE s (i + 1) + 2 ≤ s.size := by have := (crE_facts (show crE s (i + 1) < s.size by omega)).2.1; omega
          have HE := hide he
          clear HC he
          rcases hway with h1 | ⟨h1, h2⟩
          all_goals
            go_enter Tryd.func25, Tryd.ntmps25
            go_wp2_with fail
            refine (HT.out).mono ?_
            rintro e w1 ⟨rfl, hp1⟩
            have HU := hide (upTo_yes w0 w1 g s (i + 1) hz (by omega) (by have := HE.out; omega) HV.out hp1)
            generalize s.extract (i + 1) (crE s (i + 1)) = Y at HU
            clear hp1
            go_wp2_with fail
            refine (HU.out).mono ?_
            rintro e w2 ⟨rfl, hp2⟩
            have HP2 := hide hp2
            clear hp2
            go_wp2
            go_ret
            exact rpost_yes HC2.out hle HP2.out
      rw [if_neg h43] at HC
      have f43 : (X.toList == [43]) = false := one_ne (by rw [hx]; exact fun h => h43 (.inl h))
      have f45 : (X.toList == [45]) = false := one_ne (by rw [hx]; exact fun h => h43 (.inr h))
      clear h43
      by_cases h58 : Wd.bt s i = 58
      · have f58 : (X.toList == [58]) = true := one_eq hxz (by rw [hx, h58]; rfl)
        rw [if_pos h58] at HC
        clear h58 hx hxz
        cases hn : numO s (i + 1) with
        | none =>
          have HC2 : Hid (R = none) := by show _ = _; rw [HC.out, hn]
          have HN := hide hn
          clear HC hn
          go_enter Tryd.func25, Tryd.ntmps25
          go_wp2_with fail
          refine (HT.out).mono ?_
          rintro e w1 ⟨rfl, hp1⟩
          have HU := hide (numberR_no w0 w1 g s (i + 1) hz (by omega) HN.out HV.out hp1)
          clear hp1
          go_wp2_with fail
          refine (HU.out).mono ?_
          rintro e w2 ⟨rfl, j, hj, hp2⟩
          have HP2 := hide hp2
          clear hp2
          go_wp2
          go_ret
          exact rpost_no HC2.out hj HP2.out
        | some v =>
          have HC2 : Hid (R = some (crE s (i + 1) + 2)) := by show _ = _; rw [HC.out, hn]
          have hle : crE s (i + 1) + 2 ≤ s.size := by have := (crE_facts (numO_bnd hn).1).2.1; omega
          have HN := hide hn
          clear HC hn
          go_enter Tryd.func25, Tryd.ntmps25
          go_wp2_with fail
          refine (HT.out).mono ?_
          rintro e w1 ⟨rfl, hp1⟩
          have HU := hide (numberR_yes w0 w1 g s (i + 1) v hz (by omega) HN.out HV.out hp1)
          clear hp1
          go_wp2_with fail
          refine (HU.out).mono ?_
          rintro e w2 ⟨rfl, hp2⟩
          have HP2 := hide hp2
          clear hp2
          go_wp2
          go_ret
          exact rpost_yes HC2.out hle HP2.out
      rw [if_neg h58] at HC
      have f58 : (X.toList == [58]) = false := one_ne (by rw [hx]; exact h58)
      clear h58
      by_cases h36 : Wd.bt s i = 36
      · have f36 : (X.toList == [36]) = true := one_eq hxz (by rw [hx, h36]; rfl)
        rw [if_pos h36] at HC
        clear h36 hx hxz
        go_enter Tryd.func25, Tryd.ntmps25
        go_wp2_with fail
        refine (HT.out).mono ?_
        rintro e w1 ⟨rfl, hp1⟩
        have HU := hide (bulkR_any w0 w1 g s (i + 1) hz (by omega) HV.out hp1)
        rw [← HC.out] at HU
        clear hp1
        go_wp2_with fail
        refine (HU.out).mono ?_
        rintro e w2 (⟨j, hj1, hj2, rfl, hp2⟩ | ⟨hj1, rfl, j, hj2, hp2⟩)
        all_goals
          have HP2 := hide hp2
          have HJ := hide hj1
          clear hp2 hj1
          go_wp2
          go_ret
          first | exact rpost_yes HJ.out hj2 HP2.out | exact rpost_no HJ.out hj2 HP2.out
      rw [if_neg h36] at HC
      have f36 : (X.toList == [36]) = false := one_ne (by rw [hx]; exact h36)
      clear h36
      by_cases h42 : Wd.bt s i = 42
      · have f42 : (X.toList == [42]) = true := one_eq hxz (by rw [hx, h42]; rfl)
        rw [if_pos h42] at HC
        clear h42 hx hxz
        go_enter Tryd.func25, Tryd.ntmps25
        go_wp2_with fail
        refine (HT.out).mono ?_
        rintro e w1 ⟨rfl, hp1⟩
        have HU := hide (arrayR_any w0 w1 g s (i + 1) a (fOf s d) hz (by omega) (by omega) HF.out HI.out HV.out hp1)
        rw [← HC.out] at HU
        clear hp1
        go_wp2_with fail
        refine (HU.out).mono ?_
        rintro e w2 (⟨j, hj1, hj2, rfl, hp2⟩ | ⟨hj1, rfl, j, hj2, hp2⟩)
        all_goals
          have HP2 := hide hp2
          have HJ := hide hj1
          clear hp2 hj1
          go_wp2
          go_ret
          first | exact rpost_yes HJ.out hj2 HP2.out | exact rpost_no HJ.out hj2 HP2.out
      rw [if_neg h42] at HC
      have f42 : (X.toList == [42]) = false := one_ne (by rw [hx]; exact h42)
      clear h42 hx hxz
      go_enter Tryd.func25, Tryd.ntmps25
      go_wp2_with fail
      refine (HT.out).mono ?_
      rintro e w1 ⟨rfl, hp1⟩
      have HP1 := hide hp1
      clear hp1
      go_wp2
      go_ret
      exact rpost_no HC.out (by omega : i + 1 ≤ s.size) HP1.out
    · have HC2 : Hid (rpAt valI s d i = none) := by
        show _ = _
        cases d <;> rw [rpAt, if_pos (by omega)]
      have HT := hide (takeR_no w0 w g s i 1 hz hi (by omega) h)
      clear IH h hv
      generalize rpAt valI s d i = R at HC2
      go_enter Tryd.func25, Tryd.ntmps25
      go_wp2_with fail
      refine (HT.out).mono ?_
      rintro e w1 ⟨rfl, hp1⟩
      have HP1 := hide hp1
      clear hp1
      go_wp2
      go_ret
      exact rpost_no HC2.out hi HP1.out
end Go.Proofs.YtnoalenfeakcpaaDoor
