/- Whole numbers of a text: plainly, and the specification's ReadInt. -/
import Derived.Test.YtpibnhodlojajaaDoorRplV
namespace Go.Proofs.YtpibnhodlojajaaDoor
open Go.RowKit

theorem valS_num (v : Int) (h0 : -1000000000 ≤ v) (h1 : v ≤ 1000000000) : valS (numB v) = some v := by
  obtain ⟨l, el0⟩ : ∃ l, l = numB v := ⟨_, rfl⟩
  rw [← el0]
  have hL := decS_itoa2 v (by omega) (by omega)
  by_cases h : v < 0
  · obtain ⟨m, hm⟩ := Int.eq_ofNat_of_zero_le (show 0 ≤ -v by omega)
    have e : Lib.itoa v = 45 :: Lib.decDigits m := by
      unfold Lib.itoa
      rw [if_pos h]
      congr 2
      omega
    have el : l = ⟨(45 :: Lib.decDigits m).toArray⟩ := by rw [el0, ← e, ← hL, back_txt]
    have hz : l.size = (Lib.decDigits m).length + 1 := by rw [el]; rfl
    have hb : ∀ p, p < (Lib.decDigits m).length → Wd.bt l (p + 1) = Wd.bt ⟨(Lib.decDigits m).toArray⟩ p := fun p hp => by
      rw [el, bt_list _ (p + 1) (by simp; omega), bt_list _ p hp]
      simp
    have ht : l.extract 1 l.size = ⟨(Lib.decDigits m).toArray⟩ := by
      refine bt_ext (by rw [ByteArray.size_extract, hz]; show _ = (Lib.decDigits m).length; omega) fun p hp => ?_
      have hp' : p < (Lib.decDigits m).length := hp
      rw [bt_ex l 1 l.size p (by omega) (Nat.le_refl _), Nat.add_comm, hb p hp']
    have h45 : Wd.bt l 0 = 45 := by rw [el, bt_list _ 0 (by simp)]; rfl
    have hne : l ≠ ⟨#[45, 48]⟩ := fun e0 => by
      have h1 : (45 :: Lib.decDigits m) = [45, 48] := by
        have h2 := congrArg (fun x : ByteArray => x.data.toList) (el.symm.trans e0)
        simpa using h2
      have h3 : Lib.decDigits m = [48] := by simpa using h1
      have h4 := decFrom_digits m
      rw [h3] at h4
      have : Lib.decFrom 0 [48] = some 0 := by decide
      rw [this] at h4
      have : m = 0 := by simpa using h4.symm
      omega
    have hp := (dec_facts m).2.2.1
    unfold valS
    rw [decV_minus h45]
    simp only
    rw [if_pos ⟨by omega, h45, hne⟩, ht, decV_digits m (by omega)]
    simp only
    congr 1
    omega
  · obtain ⟨m, rfl⟩ := Int.eq_ofNat_of_zero_le (show 0 ≤ v by omega)
    rw [Lib.itoa_nonneg] at hL
    have el : l = ⟨(Lib.decDigits m).toArray⟩ := by rw [el0, ← hL, back_txt]
    have hv : decV l = some m := by rw [el]; exact decV_digits m (by omega)
    unfold valS
    rw [hv]
/-- The program's number, where it is not too great, is the specification's. -/
theorem valI_range (l : ByteArray) : valS l = match valI l with | some v => if -1000000000 ≤ v ∧ v ≤ 1000000000 then some v else none | none => none := by
  cases hI : valI l with
  | some v =>
    simp only
    by_cases hr : -1000000000 ≤ v ∧ v ≤ 1000000000
    · rw [if_pos hr, (valI_text hI).1]
      exact valS_num v hr.1 hr.2
    · rw [if_neg hr]
      cases hS : valS l with
      | none => rfl
      | some u =>
        obtain ⟨hl, h0, h1⟩ := valS_text hS
        have := valI_num u h0 h1
        rw [← hl, hI] at this
        obtain rfl := Option.some.inj this
        exact absurd ⟨h0, h1⟩ hr
  | none =>
    simp only
    cases hS : valS l with
    | none => rfl
    | some v =>
      obtain ⟨hl, h0, h1⟩ := valS_text hS
      have := valI_num v h0 h1
      rw [← hl, hI] at this
      cases this
/-- What ReadInt tells. -/
def riV : Option Int → Value
  | some v => .tuple #[.int .i64 v, .bool true]
  | none => .tuple #[.int .i64 0, .bool false]

theorem specRead_any (l : ByteArray) (w : World) (hz : l.size ≤ 1048576) : Calls Tryd.prog 17 #[.string l] w fun e w' => (match decV l with | some n => e = .returned (.tuple #[.int .i64 (n : Int), .bool true]) | none => e = .returned (.tuple #[.int .i64 0, .bool false])) ∧ Below w.heap.size w w' := by
  by_cases hg : Wd.good l
  · have hR : decV l = some (Wd.numF l l.size) := by unfold decV; rw [if_pos hg]
    rw [hR]
    refine (specDec_in l w hg.2.1).mono ?_
    rintro e w' ⟨b, ⟨-, h⟩ | ⟨hn, -⟩⟩
    · exact ⟨h, b⟩
    · exact absurd hg hn
  · have hR : decV l = none := by unfold decV; rw [if_neg hg]
    rw [hR]
    by_cases h10 : 10 < l.size
    · exact (specDec_long l w hz h10).mono (fun e w' h => ⟨h.1, h.2 ▸ Below.refl _ _⟩)
    · refine (specDec_in l w (by omega)).mono ?_
      rintro e w' ⟨b, ⟨h, -⟩ | ⟨-, h⟩⟩
      · exact absurd h hg
      · exact ⟨h, b⟩
end Go.Proofs.YtpibnhodlojajaaDoor
