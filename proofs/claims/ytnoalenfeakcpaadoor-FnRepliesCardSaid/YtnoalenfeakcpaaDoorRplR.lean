/- Replies that are put together are told apart again. -/
import Derived.Test.YtnoalenfeakcpaaDoorRplV
namespace Go.Proofs.YtnoalenfeakcpaaDoor
open Go.RowKit

/-- A reply, with at most d arrays in one another. -/
inductive Rep : Nat → ByteArray → Prop
  | line {d : Nat} (m : UInt8) (x : ByteArray) (hm : m = 43 ∨ m = 45) (hx : x.size ≤ 8) (hc : ∀ p, p < x.size → Wd.bt x p ≠ 13) : Rep d (lineB ⟨#[m]⟩ x)
  | num {d : Nat} (v : Int) (h : -1000 ≤ v ∧ v ≤ 1000) : Rep d (hdB ⟨#[58]⟩ v)
  | nil {d : Nat} : Rep d ⟨#[36, 45, 49, 13, 10]⟩
  | bulk {d : Nat} (x : ByteArray) (hx : x.size ≤ 8) : Rep d (bulkB x)
  | arr {d : Nat} (ts : List ByteArray) (hn : ts.length ≤ 8) (hts : ∀ t ∈ ts, Rep d t) : Rep (d + 1) (arrB ts)

theorem itoa_noCR (v : Int) : ∀ b ∈ Lib.itoa v, b.toNat ≠ 13 := by
  have hd : ∀ m, ∀ b ∈ Lib.decDigits m, b.toNat ≠ 13 := fun m b hb => by
    obtain ⟨p, hp, rfl⟩ := List.mem_iff_getElem.1 hb
    have := (dec_facts m).1 p hp
    rw [bt_list _ p hp] at this
    omega
  intro b hb
  by_cases h : v < 0
  · rw [show Lib.itoa v = 45 :: Lib.decDigits v.natAbs from by unfold Lib.itoa; rw [if_pos h]] at hb
    rcases List.mem_cons.1 hb with rfl | hb
    · decide
    · exact hd _ b hb
  · rw [show Lib.itoa v = Lib.decDigits v.toNat from by unfold Lib.itoa; rw [if_neg h]] at hb
    exact hd _ b hb
theorem numB_list {v : Int} (h0 : -1000000000 ≤ v) (h1 : v ≤ 1000000000) : numB v = ⟨(Lib.itoa v).toArray⟩ := by
  rw [← decS_itoa2 v (by omega) (by omega), back_txt]
theorem numB_noCR {v : Int} (h0 : -1000000000 ≤ v) (h1 : v ≤ 1000000000) : ∀ p, p < (numB v).size → Wd.bt (numB v) p ≠ 13 := by
  rw [numB_list h0 h1]
  intro p hp
  have hp' : p < (Lib.itoa v).length := hp
  rw [bt_list _ p hp']
  exact itoa_noCR v _ (List.getElem_mem hp')
/-- A line at the head of a text. -/
theorem line_head {t y : ByteArray} {m : UInt8} (h : Stands t 0 ((⟨#[m]⟩ ++ y) ++ ⟨#[13, 10]⟩)) (hy : ∀ p, p < y.size → Wd.bt y p ≠ 13) :
    Wd.bt t 0 = m.toNat ∧ crE t 1 = y.size + 1 ∧ t.extract 1 (y.size + 1) = y ∧ y.size + 3 ≤ t.size := by
  have h1 : (⟨#[m]⟩ : ByteArray).size = 1 := rfl
  have h2 : (⟨#[13, 10]⟩ : ByteArray).size = 2 := rfl
  have hz := h.1
  rw [ByteArray.size_append, ByteArray.size_append, h1, h2] at hz
  have hm := stands_left (stands_left h)
  have hyS := stands_right (stands_left h)
  have hcr := stands_right h
  rw [ByteArray.size_append, h1] at hcr
  rw [h1] at hyS
  have hY : ∀ p, p < y.size → Wd.bt t (1 + p) = Wd.bt y p := fun p hp => by
    have := hyS.2 p hp
    rw [show 0 + 1 + p = 1 + p by omega] at this
    exact this
  have c0 : Wd.bt t (y.size + 1) = 13 := by
    have := hcr.2 0 (by decide)
    rw [show 0 + (1 + y.size) + 0 = y.size + 1 by omega] at this
    exact this
  have c1 : Wd.bt t (y.size + 2) = 10 := by
    have := hcr.2 1 (by decide)
    rw [show 0 + (1 + y.size) + 1 = y.size + 2 by omega] at this
    exact this
  refine ⟨?_, ?_, ?_, by omega⟩
  · have := hm.2 0 (by show 0 < 1; omega)
    exact this
  · refine crE_at (by omega) (by omega) c0 c1 ?_
    intro p p1 p2 hh
    have := hY (p - 1) (by omega)
    rw [show 1 + (p - 1) = p by omega] at this
    exact hy (p - 1) (by omega) (this.symm.trans hh.1)
  · refine bt_ext (by rw [ByteArray.size_extract]; omega) fun p hp => ?_
    rw [bt_ex t 1 _ p (by omega) (by omega)]
    exact hY p hp
theorem catB_stands : ∀ (ts : List ByteArray) (S : ByteArray), Stands (catB S ts) 0 S
  | [], S => stands_self S
  | x :: r, S => stands_left (catB_stands r (S ++ x))
theorem rpN_cat {D : Nat} {T : ByteArray} : ∀ (ts : List ByteArray) (S : ByteArray), (∀ t ∈ ts, rpAt valI t D 0 = some t.size) → T = catB S ts → rpN (rpAt valI T D) ts.length S.size = some T.size
  | [], S, _, h => by rw [h]; rfl
  | x :: r, S, hx, h => by
    have hs : Stands T S.size x := by
      have := stands_right (h ▸ catB_stands r (S ++ x) : Stands T 0 (S ++ x))
      rw [Nat.zero_add] at this
      exact this
    have h1 := rpAt_stands hs D 0 _ (hx x List.mem_cons_self)
    rw [Nat.add_zero] at h1
    rw [List.length_cons, rpN, h1]
    simp only
    have := rpN_cat r (S ++ x) (fun t ht => hx t (List.mem_cons_of_mem _ ht)) h
    rw [ByteArray.size_append] at this
    exact this
theorem rp_go {V : ByteArray → Option Int} {s : ByteArray} {d i : Nat} (h : i < s.size) : ∃ A, rpAt V s d i = rpHd V s A i ∧ (∀ k, d = k + 1 → A = rpN (rpAt V s k)) := by
  cases d with
  | zero => exact ⟨_, by rw [rpAt, if_neg (by omega)], fun k hk => by cases hk⟩
  | succ d => exact ⟨_, by rw [rpAt, if_neg (by omega)], fun k hk => by cases hk; rfl⟩
/-- A reply is told to its end. -/
theorem rep_self {d : Nat} {t : ByteArray} (h : Rep d t) : ∀ D, d ≤ D → rpAt valI t D 0 = some t.size := by
  induction h with
  | line m x hm hx hc =>
    intro D _
    obtain ⟨h0, h1, h2, h3⟩ := line_head (stands_self (lineB ⟨#[m]⟩ x)) hc
    have hz : (lineB ⟨#[m]⟩ x).size = x.size + 3 := by
      unfold lineB
      rw [ByteArray.size_append, ByteArray.size_append]
      show 1 + x.size + 2 = _
      omega
    obtain ⟨A, hA, -⟩ := rp_go (V := valI) (d := D) (show 0 < (lineB ⟨#[m]⟩ x).size by omega)
    rw [hA]
    unfold rpHd
    have hmm : m.toNat = 43 ∨ m.toNat = 45 := by
      rcases hm with rfl | rfl
      · exact .inl rfl
      · exact .inr rfl
    rw [Nat.zero_add, h1, h0, hz, if_neg (by omega), if_pos hmm]
  | num v h =>
    intro D _
    obtain ⟨h0, h1, h2, h3⟩ := line_head (stands_self (hdB ⟨#[58]⟩ v)) (numB_noCR (v := v) (by omega) (by omega))
    have hz : (hdB ⟨#[58]⟩ v).size = (numB v).size + 3 := by
      unfold hdB
      rw [ByteArray.size_append, ByteArray.size_append]
      show 1 + (numB v).size + 2 = _
      omega
    obtain ⟨A, hA, -⟩ := rp_go (V := valI) (d := D) (show 0 < (hdB ⟨#[58]⟩ v).size by omega)
    rw [hA]
    unfold rpHd
    rw [Nat.zero_add, h1, h0, hz, if_neg (by omega), if_neg (by decide), h2, valI_num v (by omega) (by omega)]
    simp only
    rw [if_pos (by decide)]
  | nil =>
    intro D _
    have e : (⟨#[36, 45, 49, 13, 10]⟩ : ByteArray) = hdB ⟨#[36]⟩ (-1) := rfl
    rw [e]
    obtain ⟨h0, h1, h2, h3⟩ := line_head (stands_self (hdB ⟨#[36]⟩ (-1))) (numB_noCR (v := -1) (by omega) (by omega))
    have hz : (hdB ⟨#[36]⟩ (-1)).size = (numB (-1)).size + 3 := rfl
    obtain ⟨A, hA, -⟩ := rp_go (V := valI) (d := D) (show 0 < (hdB ⟨#[36]⟩ (-1)).size by omega)
    rw [hA]
    unfold rpHd
    rw [Nat.zero_add, h1, h0, hz, if_neg (by omega), if_neg (by decide), h2, valI_num (-1) (by omega) (by omega)]
    simp only
    rw [if_neg (by decide), if_pos (by decide), if_neg (by omega), if_pos trivial]
  | bulk x hx =>
    intro D _
    have hS : Stands (bulkB x) 0 (hdB ⟨#[36]⟩ x.size) := stands_left (stands_left (stands_self (bulkB x)))
    have hC : Stands (bulkB x) (0 + (hdB ⟨#[36]⟩ x.size ++ x).size) ⟨#[13, 10]⟩ := stands_right (stands_self (bulkB x))
    obtain ⟨h0, h1, h2, h3⟩ := line_head hS (numB_noCR (v := x.size) (by omega) (by omega))
    have hh : (hdB ⟨#[36]⟩ x.size).size = (numB x.size).size + 3 := by
      unfold hdB
      rw [ByteArray.size_append, ByteArray.size_append]
      show 1 + (numB x.size).size + 2 = _
      omega
    have hz : (bulkB x).size = (numB x.size).size + 3 + x.size + 2 := by
      unfold bulkB
      rw [ByteArray.size_append, ByteArray.size_append, hh]
      rfl
    rw [ByteArray.size_append, hh, Nat.zero_add] at hC
    obtain ⟨A, hA, -⟩ := rp_go (V := valI) (d := D) (show 0 < (bulkB x).size by omega)
    rw [hA]
    unfold rpHd
    rw [Nat.zero_add, h1, h0, if_neg (by omega), if_neg (by decide), h2, valI_num x.size (by omega) (by omega)]
    simp only
    rw [if_neg (by decide), if_pos (by decide), if_neg (by omega), if_neg (by omega)]
    unfold bulkE
    have c0 := hC.2 0 (by decide)
    have c1 := hC.2 1 (by decide)
    rw [Nat.add_zero] at c0
    rw [Int.toNat_natCast, show (numB x.size).size + 1 + 2 + x.size = (numB x.size).size + 3 + x.size by omega, if_pos ⟨by omega, c0, c1⟩, hz]
  | arr ts hn hts ih =>
    intro D hD
    obtain ⟨D, rfl⟩ : ∃ k, D = k + 1 := ⟨D - 1, by omega⟩
    have hS : Stands (arrB ts) 0 (hdB ⟨#[42]⟩ ts.length) := catB_stands ts _
    obtain ⟨h0, h1, h2, h3⟩ := line_head hS (numB_noCR (v := ts.length) (by omega) (by omega))
    have hh : (hdB ⟨#[42]⟩ ts.length).size = (numB ts.length).size + 3 := by
      unfold hdB
      rw [ByteArray.size_append, ByteArray.size_append]
      show 1 + (numB ts.length).size + 2 = _
      omega
    obtain ⟨A, hA, hA2⟩ := rp_go (V := valI) (d := D + 1) (show 0 < (arrB ts).size by omega)
    obtain rfl := hA2 D rfl
    rw [hA]
    unfold rpHd
    rw [Nat.zero_add, h1, h0, if_neg (by omega), if_neg (by decide), h2, valI_num ts.length (by omega) (by omega)]
    simp only
    rw [if_neg (by decide), if_neg (by decide), if_pos (by decide), if_neg (by omega), Int.toNat_natCast]
    have := rpN_cat (T := arrB ts) ts (hdB ⟨#[42]⟩ ts.length) (fun t ht => ih t ht D (by omega)) rfl
    rw [hh] at this
    exact this
/-- Replies one behind the other are told apart. -/
theorem rplF_cat {T : ByteArray} : ∀ (ts : List ByteArray) (S : ByteArray) (f : Nat), (∀ t ∈ ts, rpAt valI t 4 0 = some t.size) → T = catB S ts → T.size < f + S.size → rplF valI T f S.size = some ts
  | [], S, f, _, h, _ => by rw [h]; exact rplF_end (Nat.le_refl _)
  | x :: r, S, f, hx, h, hf => by
    have hs : Stands T S.size x := by
      have := stands_right (h ▸ catB_stands r (S ++ x) : Stands T 0 (S ++ x))
      rw [Nat.zero_add] at this
      exact this
    have hx0 := hx x List.mem_cons_self
    have h1 := rpAt_stands hs 4 0 _ hx0
    have h0 := rpAt_le valI x 4 0 _ hx0
    have hsz := hs.1
    rw [Nat.add_zero] at h1
    obtain ⟨f, rfl⟩ : ∃ k, f = k + 1 := ⟨f - 1, by omega⟩
    have h2 := rplF_cat r (S ++ x) f (fun t ht => hx t (List.mem_cons_of_mem _ ht)) h (by rw [ByteArray.size_append]; omega)
    rw [ByteArray.size_append] at h2
    rw [rplF_step (by omega), h1]
    simp only
    rw [h2]
    simp only
    rw [stands_all hs]
theorem rpl_cat {ts : List ByteArray} (h : ∀ t ∈ ts, Rep 3 t) : rpl valI (catB ⟨#[]⟩ ts) = some ts :=
  rplF_cat ts ⟨#[]⟩ _ (fun t ht => rep_self (h t ht) 4 (by omega)) rfl (by show _ < _ + 0; omega)
/-- What is cut short is none. -/
theorem rep_cut {t : ByteArray} (h : Rep 4 t) (k : Nat) (hk : k < t.size) : rpAt valI (t.extract 0 k) 4 0 = none := by
  cases hc : rpAt valI (t.extract 0 k) 4 0 with
  | none => rfl
  | some j =>
    have h1 := rpAt_stands (stands_front t k (by omega)) 4 0 j hc
    have h2 := (rpAt_le valI _ 4 0 j hc).2
    rw [Nat.zero_add, Nat.zero_add, rep_self h 4 (Nat.le_refl _)] at h1
    rw [ByteArray.size_extract] at h2
    have : t.size = j := by simpa using h1
    omega

/-- How long a reply may be. -/
def repB : Nat → Nat
  | 0 => 40
  | d + 1 => 40 + 8 * repB d
theorem repB_ge (d : Nat) : 40 ≤ repB d := by cases d <;> simp [repB]
theorem rep_size {d : Nat} {t : ByteArray} (h : Rep d t) : 3 ≤ t.size ∧ t.size ≤ repB d := by
  induction h with
  | @line d m x hm hx hc =>
    have := repB_ge d
    unfold lineB
    rw [ByteArray.size_append, ByteArray.size_append]
    show 3 ≤ 1 + x.size + 2 ∧ 1 + x.size + 2 ≤ _
    omega
  | @num d v h =>
    have := repB_ge d
    have h2 := hdB_size ⟨#[58]⟩ v (by decide) (by omega) (by omega)
    refine ⟨?_, by omega⟩
    unfold hdB
    rw [ByteArray.size_append, ByteArray.size_append]
    show 3 ≤ 1 + (numB v).size + 2
    omega
  | @nil d =>
    have := repB_ge d
    exact ⟨by decide, by show 5 ≤ _; omega⟩
  | @bulk d x hx =>
    have := repB_ge d
    have h2 := hdB_size ⟨#[36]⟩ x.size (by decide) (by omega) (by omega)
    unfold bulkB
    rw [ByteArray.size_append, ByteArray.size_append]
    show 3 ≤ _ + 2 ∧ _ + 2 ≤ _
    have h3 : 1 ≤ (hdB ⟨#[36]⟩ x.size).size := by
      unfold hdB
      rw [ByteArray.size_append, ByteArray.size_append]
      show 1 ≤ 1 + _ + 2
      omega
    omega
  | @arr d ts hn hts ih =>
    have h2 := hdB_size ⟨#[42]⟩ ts.length (by decide) (by omega) (by omega)
    have h3 := catB_size ts (hdB ⟨#[42]⟩ ts.length) (repB d) (fun t ht => (ih t ht).2)
    have h4 : ts.length * repB d ≤ 8 * repB d := Nat.mul_le_mul_right _ hn
    have h5 := (catB_stands ts (hdB ⟨#[42]⟩ ts.length)).1
    have h6 : 3 ≤ (hdB ⟨#[42]⟩ ts.length).size := by
      unfold hdB
      rw [ByteArray.size_append, ByteArray.size_append]
      show 3 ≤ 1 + _ + 2
      omega
    exact ⟨by unfold arrB; omega, by unfold arrB; rw [repB]; omega⟩
end Go.Proofs.YtnoalenfeakcpaaDoor
