/- The program's own reader of the figures of a text; the law on Unhex. -/
import Derived.Test.YtpkgnpckolhjgahUnhex
namespace Go.Proofs.Ytpkgnpckolhjgah
open Go.RowKit

theorem figs_yes (s : ByteArray) (c : Nat) (w : World) (hs : s.size ≤ 40000) (hc : c ≤ 16) (hok : ∀ p, p < s.size → Wd.isFig s c p) :
    Calls Try.prog 14 #[.string s, .int .i64 c] w fun e w' => ∃ v, e = .returned (.tuple #[v, .bool true]) ∧ w'.ownsRow w.heap.size 5 1 v (Wd.valsF s s.size).length ((Wd.valsF s s.size).map bv) ∧ Below w.heap.size w w' := by
  refine (figs_any s c w hs hc).mono ?_
  rintro e w' ⟨hb, ⟨_, v, he, hown⟩ | ⟨⟨p, hp, hno⟩, _⟩⟩
  · exact ⟨v, he, hown, hb⟩
  · exact absurd (hok p hp) hno
/-- The same, the slice written out. -/
theorem figs_row (s : ByteArray) (c : Nat) (w : World) (hs : s.size ≤ 40000) (hc : c ≤ 16) (hok : ∀ p, p < s.size → Wd.isFig s c p) :
    Calls Try.prog 14 #[.string s, .int .i64 c] w fun e w' => ∃ a cap, e = .returned (.tuple #[.slice a s.size cap, .bool true]) ∧
      Hid (0 < s.size → ∃ g, a = some ⟨g, 0, none⟩ ∧ g < w'.heap.size ∧ w'.ownsRow w.heap.size 5 1 (.slice (some ⟨g, 0, none⟩) s.size cap) s.size ((Wd.valsF s s.size).map bv)) ∧ Below w.heap.size w w' := by
  refine (figs_yes s c w hs hc hok).mono ?_
  rintro e w' ⟨v, he, hown, hb⟩
  rw [Wd.valsF_length] at hown
  rcases hown.2 with ⟨rfl, h0⟩ | ⟨g, cap, cur, rfl, hg, hh, _⟩
  · exact ⟨none, 0, by rw [h0]; exact he, fun h => absurd h (by omega), hb⟩
  · refine ⟨_, cap, he, fun _ => ⟨g, rfl, ?_, hown⟩, hb⟩
    exact (hown.lt g rfl).2

theorem figs_no (s : ByteArray) (c : Nat) (w : World) (hs : s.size ≤ 40000) (hc : c ≤ 16) (hno : ¬ ∀ p, p < s.size → Wd.isFig s c p) :
    Calls Try.prog 14 #[.string s, .int .i64 c] w fun e w' => e = .returned (.tuple #[.slice none 0 0, .bool false]) ∧ Below w.heap.size w w' := by
  refine (figs_any s c w hs hc).mono ?_
  rintro e w' ⟨hb, ⟨hok, _⟩ | ⟨_, he⟩⟩
  · exact absurd hok hno
  · exact ⟨he, hb⟩

theorem specUnhex_yes (s : ByteArray) (w : World) (h : s.size ≤ 40000) (h2 : s.size % 2 = 0) (hok : ∀ p, p < s.size → Wd.isFig s 16 p) :
    Calls Try.prog 8 #[.string s] w fun e w' => e = .returned (.tuple #[.string ⟨(Wd.unF s (s.size / 2)).toArray⟩, .bool true]) ∧ Below w.heap.size w w' := by
  refine (specUnhex_in s w h h2).mono ?_
  rintro e w' ⟨hb, ⟨_, he⟩ | ⟨⟨p, hp, hno⟩, _⟩⟩
  · exact ⟨he, hb⟩
  · exact absurd (hok p hp) hno
theorem specUnhex_bad (s : ByteArray) (w : World) (h : s.size ≤ 40000) (h2 : s.size % 2 = 0) (hno : ¬ ∀ p, p < s.size → Wd.isFig s 16 p) :
    Calls Try.prog 8 #[.string s] w fun e w' => e = .returned (.tuple #[.string ⟨#[]⟩, .bool false]) ∧ Below w.heap.size w w' := by
  refine (specUnhex_in s w h h2).mono ?_
  rintro e w' ⟨hb, ⟨hok, _⟩ | ⟨_, he⟩⟩
  · exact absurd hok hno
  · exact ⟨he, hb⟩

theorem implUnhex_bad (s : ByteArray) (w : World) (h : s.size ≤ 40000) (h2 : s.size % 2 = 0) (hno : ¬ ∀ p, p < s.size → Wd.isFig s 16 p) :
    Calls Try.prog 9 #[.string s] w fun e w' => e = .returned (.tuple #[.string ⟨#[]⟩, .bool false]) ∧ Below w.heap.size w w' := by
  have H := hide hno
  clear hno
  have h1' : decide (40000 < (s.size : Int)) = false := by simp; omega
  have h2' : ((s.size : Int) % 2 != 0) = false := by simp; omega
  go_enter Try.func9, Try.ntmps9
  go_wp2_with (go_at_call 14; refine (figs_no s 16 _ h (by omega) H.out).mono ?_; rintro e w1 ⟨rfl, hb1⟩)
  go_ret2
  exact ⟨rfl, hb1⟩

/-- The value at a place of a row of figures. -/
theorem vals_cell {s : ByteArray} {w : World} {B g n cap : Nat} (hown : w.ownsRow B 5 1 (.slice (some ⟨g, 0, none⟩) n cap) n ((Wd.valsF s n).map bv)) (p : Nat) (hp : p < n) (hf : 0 ≤ Wd.valI (Wd.bt s p)) :
    w.cell? ⟨g, p, none⟩ = some (.int .u8 (Wd.valI (Wd.bt s p))) := by
  have := hown.cellAt p (by omega)
  rw [this, List.getElem?_map, Wd.valsF_get s n p hp]
  have hv := Wd.valI_bd (Wd.bt s p)
  have e : (((UInt8.ofNat (Wd.valI (Wd.bt s p)).toNat).toNat : Nat) : Int) = Wd.valI (Wd.bt s p) := by simp only [UInt8.toNat_ofNat']; omega
  simp only [Option.map_some, bv, e]

set_option maxRecDepth 100000 in
set_option maxHeartbeats 1000000 in
theorem implUnhex_yes (s : ByteArray) (w : World) (h : s.size ≤ 40000) (h2 : s.size % 2 = 0) (hok : ∀ p, p < s.size → Wd.isFig s 16 p) :
    Calls Try.prog 9 #[.string s] w fun e w' => e = .returned (.tuple #[.string ⟨(Wd.unF s (s.size / 2)).toArray⟩, .bool true]) ∧ Below w.heap.size w w' := by
  have H := hide hok
  clear hok
  obtain ⟨i0, hi, hz0, hz1, hz2⟩ := info_parts Try.info5
  have h1' : decide (40000 < (s.size : Int)) = false := by simp; omega
  have h2' : ((s.size : Int) % 2 != 0) = false := by simp; omega
  go_enter Try.func9, Try.ntmps9
  go_wp2_with (first | (go_at_call 14; refine (figs_row s 16 _ h (by omega) H.out).mono ?_; rintro e w1 ⟨a, cap, rfl, HA, hb1⟩) | (at_make; refine wpList_make_own _ rfl _ _ 27 rfl w1.heap.size 5 i0 (.int .u8 0) 1 Try.underlying27 hi hz0 hz1 _ _ _ (s.size / 2) rfl rfl (by omega) (by rw [hz2]; omega) (by unfold maxLen; omega) (Nat.le_refl _) ?_; intro w0 hown0 hgrow0))
  have hb0 : Below w1.heap.size w1 w0 := (Below.refl _ _).grown hgrow0 (Nat.le_refl _) (fun k hk => by cases hk)
  clear hgrow0
  go_loopw [6, 7] (fun v i wr => ∃ m P : Nat, Hid (P = 2 * m) ∧ P ≤ s.size ∧ i = .int .i64 P ∧ wr.ownsRow w1.heap.size 5 1 v (Wd.unF s m).length ((Wd.unF s m).map bv) ∧ Below w1.heap.size w1 wr) (fun _ i _ => s.size - (intOf i).toNat)
  case atStart => exact ⟨0, 0, rfl, Nat.zero_le _, rfl, hown0, hb0⟩
  case round =>
    obtain ⟨m, P, HP, hm, rfl, hown, hb⟩ := hrel
    have hbs := hb.size
    clear hown0 hb0
    by_cases hlt : P < s.size
    · have hlt2 : P + 1 < s.size := by have := HP.out; omega
      obtain ⟨g, rfl, hg, hrow⟩ := HA.out (by omega)
      have hf1 := (H.out P hlt)
      have hf2 := (H.out (P + 1) hlt2)
      have hk1 := vals_cell hrow P hlt hf1.1
      have hk2 := vals_cell hrow (P + 1) hlt2 hf2.1
      clear hrow
      obtain ⟨x, hX⟩ : ∃ x, Hid (Wd.valI (Wd.bt s P) = x) := ⟨_, rfl⟩
      obtain ⟨y, hY⟩ : ∃ y, Hid (Wd.valI (Wd.bt s (P + 1)) = y) := ⟨_, rfl⟩
      unfold Wd.isFig at hf1 hf2
      rw [hX.out] at hf1 hk1
      rw [hY.out] at hf2 hk2
      have hc1 : wr.cell? ⟨g, P, none⟩ = _ := (hb.cell (p := ⟨g, P, none⟩) hg).trans hk1
      have hc2 : wr.cell? ⟨g, P + 1, none⟩ = _ := (hb.cell (p := ⟨g, P + 1, none⟩) hg).trans hk2
      have HK1 := hide hk1
      have HK2 := hide hk2
      clear hk1 hk2
      obtain ⟨hx0, hx1⟩ := hf1
      obtain ⟨hy0, hy1⟩ := hf2
      obtain ⟨z, hz, hzn⟩ : ∃ z : UInt8, Hid (z = UInt8.ofNat (16 * x + y).toNat) ∧ Hid ((z.toNat : Int) = x * 16 + y) := ⟨_, rfl, by simp only [Hid, UInt8.toNat_ofNat']; omega⟩
      have hC : Hid ((#[.int .u8 (x * 16 + y)] : Array Value).toList = [z].map bv) := by simp only [Hid, bv, List.map_cons, List.map_nil, hzn.out]
      have hl := Wd.unF_length s m
      have hlen : (Wd.unF s m).length + [z].length ≤ 70368744177664 := by have := HP.out; simp; omega
      have hw1 : IntKind.u8.wrap (x * 16) = x * 16 := by rw [IntKind.wrap_u8]; omega
      have hw2 : IntKind.u8.wrap (x * 16 + y) = x * 16 + y := by rw [IntKind.wrap_u8]; omega
      have hw3 : IntKind.i64.wrap ((P : Int) + 1) = (P : Int) + 1 := by rw [IntKind.wrap_i64]; omega
      have hi0 : (0 : Int) ≤ (P : Int) := by omega
      have hi1 : (P : Int) < (s.size : Int) := by omega
      have hi2 : (0 : Int) ≤ (P : Int) + 1 := by omega
      have hi3 : (P : Int) + 1 < (s.size : Int) := by omega
      go_wp2
      go_region_held3 (fun w' => w'.cell? ⟨g, P, none⟩ = some (.int .u8 x) ∧ w'.cell? ⟨g, P + 1, none⟩ = some (.int .u8 y)) (first | go_keep | (exact ⟨(hb2.cell (p := ⟨g, P, none⟩) hg).trans HK1.out, (hb2.cell (p := ⟨g, P + 1, none⟩) hg).trans HK2.out⟩)) (((refine step_app_bytes _ 27 5 Try.underlying27 Try.info5 w1 w1.heap.size (by rfl) _ _ (by rfl) _ (Wd.unF s m) [z] (by rfl) ((hown.alloc _).drew) wr.heap.size (by rfl) _ (heap_alloc_new wr _) hC.out (Nat.succ_pos _) hlen ((hb.alloc hbs _).drew) (Nat.le_trans hbs (size_alloc_drew _ _)) ?_; intro v' w2 hown2 hb2 hs2)))
      all_goals
        go_wp2
        go_roundw
        case rel =>
          refine ⟨m + 1, P + 2, by have := HP.out; show _ = _; omega, by omega, by go_num, ?_, hb2⟩
          rw [show Wd.unF s (m + 1) = Wd.unF s m ++ [z] from by
            show Wd.unF s m ++ [UInt8.ofNat (16 * Wd.valI (Wd.bt s (2 * m)) + Wd.valI (Wd.bt s (2 * m + 1))).toNat] = _
            rw [← HP.out, hX.out, hY.out, hz.out]]
          exact hown2
        case measure => simp [intOf]; omega
    · have hcv := conv_own 27 5 9 Try.underlying27 Try.underlying5 Try.underlying9 wr _ _ _ hown
      have hfin : Hid (s.size / 2 = m) := by have := HP.out; show _ = _; omega
      go_wp2
      go_ret2
      rw [hfin.out]
      exact ⟨rfl, hb1.trans (hb.mono hb1.size)⟩

theorem unhex_walk (s : ByteArray) (w : World) (ws : s.size ≤ maxLen) :
    Calls Try.prog 4 #[.string s] w fun e w' => e = .returned (.bool true) ∧ Below w.heap.size w w' := by
  by_cases hs : s.size ≤ 1048576
  · have hs' : decide (1048576 < (s.size : Int)) = false := by simp; omega
    by_cases h : 40000 < s.size ∨ s.size % 2 ≠ 0
    · go_enter Try.func4, Try.ntmps4
      go_wp2_with (first | (go_at_call 8; refine (specUnhex_no s _ hs h).mono ?_; rintro e w1 ⟨rfl, rfl⟩) | (go_at_call 9; refine (implUnhex_no s _ hs h).mono ?_; rintro e w2 ⟨rfl, rfl⟩))
      go_ret
      exact ⟨rfl, Below.refl _ _⟩
    · have h40 : s.size ≤ 40000 := by omega
      have h2 : s.size % 2 = 0 := by omega
      have HZ := hide h2
      clear h2
      by_cases hok : ∀ p, p < s.size → Wd.isFig s 16 p
      · have H := hide hok
        clear hok
        go_enter Try.func4, Try.ntmps4
        go_wp2_with (first | (go_at_call 8; refine (specUnhex_yes s _ h40 HZ.out H.out).mono ?_; rintro e w1 ⟨rfl, hb1⟩) | (go_at_call 9; refine (implUnhex_yes s _ h40 HZ.out H.out).mono ?_; rintro e w2 ⟨rfl, hb2⟩))
        go_ret
        exact ⟨rfl, hb1.trans (hb2.mono hb1.size)⟩
      · have H := hide hok
        clear hok
        go_enter Try.func4, Try.ntmps4
        go_wp2_with (first | (go_at_call 8; refine (specUnhex_bad s _ h40 HZ.out H.out).mono ?_; rintro e w1 ⟨rfl, hb1⟩) | (go_at_call 9; refine (implUnhex_bad s _ h40 HZ.out H.out).mono ?_; rintro e w2 ⟨rfl, hb2⟩))
        go_ret
        exact ⟨rfl, hb1.trans (hb2.mono hb1.size)⟩
  · unfold maxLen at ws
    have hs' : decide (1048576 < (s.size : Int)) = true := by simp; omega
    go_enter Try.func4, Try.ntmps4
    go_wp2
    go_ret
    exact ⟨rfl, Below.refl _ _⟩
end Go.Proofs.Ytpkgnpckolhjgah
