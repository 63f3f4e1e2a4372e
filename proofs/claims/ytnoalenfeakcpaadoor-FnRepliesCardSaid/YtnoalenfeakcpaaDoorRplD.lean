/- Drawn replies: no ten figures stand in a row, also where one byte is another. -/
import Derived.Test.YtnoalenfeakcpaaDoorRplR
namespace Go.Proofs.YtnoalenfeakcpaaDoor
open Go.RowKit

/-- In ten bytes in a row there are two that are no figures; it begins with none, and ends with CR and LF. -/
structure Two (t : ByteArray) : Prop where
  win : ∀ i, i + 10 ≤ t.size → ∃ p q, i ≤ p ∧ p < q ∧ q < i + 10 ∧ figR (Wd.bt t p) = false ∧ figR (Wd.bt t q) = false
  size : 3 ≤ t.size
  hd : figR (Wd.bt t 0) = false
  cr : figR (Wd.bt t (t.size - 2)) = false
  lf : figR (Wd.bt t (t.size - 1)) = false
theorem two_app {a b : ByteArray} (ha : Two a) (hb : Two b) : Two (a ++ b) := by
  have hz : (a ++ b).size = a.size + b.size := ByteArray.size_append
  have h1 := ha.size
  have h2 := hb.size
  have eL : ∀ p, p < a.size → Wd.bt (a ++ b) p = Wd.bt a p := fun p hp => bt_left hp
  have eR : ∀ p, p < b.size → Wd.bt (a ++ b) (a.size + p) = Wd.bt b p := fun p hp => bt_right hp
  refine ⟨?_, by omega, ?_, ?_, ?_⟩
  · intro i hi
    by_cases h3 : i + 10 ≤ a.size
    · obtain ⟨p, q, p1, p2, p3, p4, p5⟩ := ha.win i h3
      exact ⟨p, q, p1, p2, p3, by rw [eL p (by omega)]; exact p4, by rw [eL q (by omega)]; exact p5⟩
    · by_cases h4 : a.size ≤ i
      · obtain ⟨p, q, p1, p2, p3, p4, p5⟩ := hb.win (i - a.size) (by omega)
        exact ⟨a.size + p, a.size + q, by omega, by omega, by omega, by rw [eR p (by omega)]; exact p4, by rw [eR q (by omega)]; exact p5⟩
      · by_cases h5 : i + 2 ≤ a.size
        · exact ⟨a.size - 2, a.size - 1, by omega, by omega, by omega, by rw [eL _ (by omega)]; exact ha.cr, by rw [eL _ (by omega)]; exact ha.lf⟩
        · exact ⟨a.size - 1, a.size + 0, by omega, by omega, by omega, by rw [eL _ (by omega)]; exact ha.lf, by rw [eR 0 (by omega)]; exact hb.hd⟩
  · rw [eL 0 (by omega)]; exact ha.hd
  · rw [show (a ++ b).size - 2 = a.size + (b.size - 2) by omega, eR _ (by omega)]; exact hb.cr
  · rw [show (a ++ b).size - 1 = a.size + (b.size - 1) by omega, eR _ (by omega)]; exact hb.lf
theorem two_cat : ∀ (ts : List ByteArray) (S : ByteArray), Two S → (∀ t ∈ ts, Two t) → Two (catB S ts)
  | [], _, h, _ => h
  | x :: r, S, h, hx => two_cat r (S ++ x) (two_app h (hx x List.mem_cons_self)) (fun t ht => hx t (List.mem_cons_of_mem _ ht))
/-- A short text, CR and LF at its end. -/
theorem two_short {t : ByteArray} (h1 : 3 ≤ t.size) (h2 : t.size ≤ 11) (hd : figR (Wd.bt t 0) = false) (cr : Wd.bt t (t.size - 2) = 13) (lf : Wd.bt t (t.size - 1) = 10) : Two t := by
  have c1 : figR (Wd.bt t (t.size - 2)) = false := by rw [cr]; decide
  have c2 : figR (Wd.bt t (t.size - 1)) = false := by rw [lf]; decide
  refine ⟨fun i hi => ?_, h1, hd, c1, c2⟩
  by_cases h : i + 10 = t.size
  · exact ⟨t.size - 2, t.size - 1, by omega, by omega, by omega, c1, c2⟩
  · exact ⟨0, t.size - 2, by omega, by omega, by omega, hd, c1⟩
theorem two_line {m : UInt8} {x : ByteArray} (hm : figR m.toNat = false) (hx : x.size ≤ 8) : Two ((⟨#[m]⟩ ++ x) ++ ⟨#[13, 10]⟩) := by
  have h1 : (⟨#[m]⟩ : ByteArray).size = 1 := rfl
  have h2 : (⟨#[13, 10]⟩ : ByteArray).size = 2 := rfl
  have hS := stands_self ((⟨#[m]⟩ ++ x) ++ ⟨#[13, 10]⟩)
  have hz : ((⟨#[m]⟩ ++ x) ++ ⟨#[13, 10]⟩ : ByteArray).size = x.size + 3 := by rw [ByteArray.size_append, ByteArray.size_append]; omega
  have hC := stands_right hS
  rw [ByteArray.size_append, h1] at hC
  refine two_short (by omega) (by omega) ?_ ?_ ?_
  · have := (stands_left (stands_left hS)).2 0 (by show 0 < 1; omega)
    rw [Nat.zero_add] at this
    rw [this]
    exact hm
  · have := hC.2 0 (by decide)
    rw [hz, show x.size + 3 - 2 = 0 + (1 + x.size) + 0 by omega, this]
    rfl
  · have := hC.2 1 (by decide)
    rw [hz, show x.size + 3 - 1 = 0 + (1 + x.size) + 1 by omega, this]
    rfl
theorem num_small {v : Int} (h0 : -1000 ≤ v) (h1 : v ≤ 1000) : (numB v).size ≤ 5 := by
  rw [numB_list (by omega) (by omega)]
  show (Lib.itoa v).length ≤ 5
  by_cases h : v < 0
  · have := dec_len 3 v.natAbs (by omega)
    rw [show Lib.itoa v = 45 :: Lib.decDigits v.natAbs from by unfold Lib.itoa; rw [if_pos h], List.length_cons]
    omega
  · have := dec_len 3 v.toNat (by omega)
    rw [show Lib.itoa v = Lib.decDigits v.toNat from by unfold Lib.itoa; rw [if_neg h]]
    omega
theorem num_one {n : Nat} (h : n ≤ 9) : (numB n).size = 1 := by
  rw [numB_list (by omega) (by omega), Lib.itoa_nonneg, Lib.decDigits_one (by omega)]
  rfl
theorem two_bulk {x : ByteArray} (hx : x.size ≤ 8) : Two (bulkB x) := by
  have hS := stands_self (bulkB x)
  have hH := stands_left (stands_left hS)
  have hC := stands_right hS
  have hn := num_one (n := x.size) (by omega)
  have hh : (hdB ⟨#[36]⟩ x.size).size = 4 := by
    unfold hdB
    rw [ByteArray.size_append, ByteArray.size_append, hn]
    rfl
  have hz : (bulkB x).size = 6 + x.size := by
    unfold bulkB
    rw [ByteArray.size_append, ByteArray.size_append, hh]
    show 4 + x.size + 2 = _
    omega
  rw [ByteArray.size_append, hh] at hC
  have hD := two_line (m := 36) (x := numB x.size) (by decide) (by omega)
  have hD2 : Two (hdB ⟨#[36]⟩ x.size) := hD
  have e0 : Wd.bt (bulkB x) 0 = Wd.bt (hdB ⟨#[36]⟩ x.size) 0 := by have := hH.2 0 (by omega); rw [Nat.zero_add] at this; exact this
  have e2 : figR (Wd.bt (bulkB x) 2) = false := by
    have := hH.2 2 (by omega)
    rw [Nat.zero_add] at this
    rw [this]
    have := hD2.cr
    rw [hh] at this
    exact this
  have e3 : figR (Wd.bt (bulkB x) 3) = false := by
    have := hH.2 3 (by omega)
    rw [Nat.zero_add] at this
    rw [this]
    have := hD2.lf
    rw [hh] at this
    exact this
  have c0 : figR (Wd.bt (bulkB x) (4 + x.size)) = false := by
    have := hC.2 0 (by decide)
    rw [show 0 + (4 + x.size) + 0 = 4 + x.size by omega] at this
    rw [this]
    decide
  have c1 : figR (Wd.bt (bulkB x) (5 + x.size)) = false := by
    have := hC.2 1 (by decide)
    rw [show 0 + (4 + x.size) + 1 = 5 + x.size by omega] at this
    rw [this]
    decide
  refine ⟨?_, by omega, by rw [e0]; exact hD2.hd, by rw [hz, show 6 + x.size - 2 = 4 + x.size by omega]; exact c0, by rw [hz, show 6 + x.size - 1 = 5 + x.size by omega]; exact c1⟩
  intro i hi
  by_cases h2 : i ≤ 2
  · exact ⟨2, 3, h2, by omega, by omega, e2, e3⟩
  · by_cases h3 : i = 3
    · exact ⟨3, 4 + x.size, by omega, by omega, by omega, e3, c0⟩
    · exact ⟨4 + x.size, 5 + x.size, by omega, by omega, by omega, c0, c1⟩
theorem rep_two {d : Nat} {t : ByteArray} (h : Rep d t) : Two t := by
  induction h with
  | line m x hm hx hc => exact two_line (by rcases hm with rfl | rfl <;> decide) hx
  | num v h => exact two_line (m := 58) (by decide) (by have := num_small h.1 h.2; omega)
  | nil => exact two_short (by decide) (by decide) (by decide) (by decide) (by decide)
  | bulk x hx => exact two_bulk hx
  | arr ts hn hts ih => exact two_cat ts _ (two_line (m := 42) (x := numB ts.length) (by decide) (by have := num_one (n := ts.length) (by omega); omega)) ih
/-- Nothing, or replies. -/
def Calm (s : ByteArray) : Prop := s.size = 0 ∨ Two s
theorem calm_app {a b : ByteArray} (ha : Calm a) (hb : Two b) : Calm (a ++ b) := by
  rcases ha with h | h
  · right
    have e : a = ⟨#[]⟩ := bt_ext h (fun p hp => absurd hp (by show ¬ p < 0; omega))
    subst e
    rw [show (⟨#[]⟩ ++ b : ByteArray) = b from ByteArray.empty_append]
    exact hb
  · exact .inr (two_app h hb)
theorem calm_noTen {s : ByteArray} (h : Calm s) : NoTen s := by
  intro i hi
  rcases h with h | h
  · omega
  · obtain ⟨p, q, p1, p2, p3, p4, p5⟩ := h.win i hi
    exact ⟨p, p1, by omega, p4⟩
/-- One byte is another. -/
theorem calm_turn {s t : ByteArray} (h : Calm s) (hz : t.size = s.size) (k : Nat) (hk : ∀ p, p ≠ k → p < s.size → Wd.bt t p = Wd.bt s p) : NoTen t := by
  intro i hi
  rcases h with h | h
  · omega
  · obtain ⟨p, q, p1, p2, p3, p4, p5⟩ := h.win i (by omega)
    by_cases e : p = k
    · exact ⟨q, by omega, p3, by rw [hk q (by omega) (by omega)]; exact p5⟩
    · exact ⟨p, p1, by omega, by rw [hk p e (by omega)]; exact p4⟩
/-- Something behind it that begins with no figure, or is one byte. -/
theorem calm_more {s c : ByteArray} (h : Calm s) (hc : c.size ≤ 1 ∨ (figR (Wd.bt c 0) = false ∧ NoTen c)) : NoTen (s ++ c) := by
  have hz : (s ++ c).size = s.size + c.size := ByteArray.size_append
  have eL : ∀ p, p < s.size → Wd.bt (s ++ c) p = Wd.bt s p := fun p hp => bt_left hp
  have eR : ∀ p, p < c.size → Wd.bt (s ++ c) (s.size + p) = Wd.bt c p := fun p hp => bt_right hp
  intro i hi
  rcases h with h | h
  · rcases hc with hc | ⟨_, hc⟩
    · omega
    · obtain ⟨p, p1, p2, p3⟩ := hc (i - s.size) (by omega)
      exact ⟨s.size + p, by omega, by omega, by rw [eR p (by omega)]; exact p3⟩
  · by_cases h3 : i + 10 ≤ s.size
    · obtain ⟨p, q, p1, p2, p3, p4, p5⟩ := h.win i h3
      exact ⟨p, p1, by omega, by rw [eL p (by omega)]; exact p4⟩
    · by_cases h4 : i < s.size
      · have h5 := h.size
        exact ⟨s.size - 1, by omega, by omega, by rw [eL _ (by omega)]; exact h.lf⟩
      · rcases hc with hc | ⟨_, hc⟩
        · omega
        · obtain ⟨p, p1, p2, p3⟩ := hc (i - s.size) (by omega)
          exact ⟨s.size + p, by omega, by omega, by rw [eR p (by omega)]; exact p3⟩
/-- The texts that are put behind. -/
def tailsR : List ByteArray := [⟨#[58]⟩, ⟨#[58, 45, 48, 13, 10]⟩, ⟨#[36, 45, 50, 13, 10]⟩, ⟨#[42, 49, 13, 10, 42, 49, 13, 10, 42, 49, 13, 10, 42, 49, 13, 10, 42, 48, 13, 10]⟩, ⟨#[42, 49, 13, 10, 42, 49, 13, 10, 42, 49, 13, 10, 42, 48, 13, 10]⟩, ⟨#[36, 53, 13, 10, 97, 98, 13, 10]⟩, ⟨#[42, 50, 13, 10, 43, 97, 13, 10]⟩, ⟨#[58, 48, 49, 13, 10]⟩]
theorem noTen_look {c : ByteArray} (hs : c.size ≤ 20) (h : ((List.range 11).all fun i => decide (c.size < i + 10) || (List.range 10).any fun k => !figR (Wd.bt c (i + k))) = true) : NoTen c := by
  intro i hi
  have h1 := List.all_eq_true.1 h i (List.mem_range.2 (by omega))
  simp only [Bool.or_eq_true, decide_eq_true_eq, List.any_eq_true, List.mem_range, Bool.not_eq_true'] at h1
  rcases h1 with h1 | ⟨k, hk, hf⟩
  · omega
  · exact ⟨i + k, by omega, by omega, hf⟩
theorem tails_ok : ∀ c ∈ tailsR, c.size ≤ 20 ∧ figR (Wd.bt c 0) = false ∧ NoTen c := by
  have h : (tailsR.all fun c => decide (c.size ≤ 20) && !figR (Wd.bt c 0) && ((List.range 11).all fun i => decide (c.size < i + 10) || (List.range 10).any fun k => !figR (Wd.bt c (i + k)))) = true := by decide
  intro c hc
  have h1 := List.all_eq_true.1 h c hc
  simp only [Bool.and_eq_true, decide_eq_true_eq, Bool.not_eq_true'] at h1
  exact ⟨h1.1.1, h1.1.2, noTen_look h1.1.1 h1.2⟩
end Go.Proofs.YtnoalenfeakcpaaDoor
