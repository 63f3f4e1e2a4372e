/- The figures of a text: the writer of the program and that of the specification write the same. -/
import Derived.Test.YtpkgnpckolhjgahChecked
import Derived.Test.YtpkgnpckolhjgahPlain
import Derived.Test.YtpkgnpckolhjgahKit
namespace Go.Proofs.Ytpkgnpckolhjgah
open Go.RowKit

theorem Try.info5 : (Try.prog.info? 5).map (fun i => (i.zero, i.size, i.bytes)) = some (some (.int .u8 0), 1, 1) := by kernel_rfl

theorem figure_any (x : Int) (w : World) (h0 : 0 ≤ x) (h1 : x < 16) :
    Calls Try.prog 12 #[.int .i64 x] w fun e w' => e = .returned (.int .u8 (Wd.figI x)) ∧ w' = w := by
  by_cases h : x < 10
  · rw [Wd.figI_low x h]
    go_enter Try.func12, Try.ntmps12
    go_wp2
    go_ret
    exact ⟨rfl, rfl⟩
  · rw [Wd.figI_high x h]
    go_enter Try.func12, Try.ntmps12
    go_wp2
    go_ret
    refine ⟨?_, rfl⟩
    show Ending.returned (.int .u8 (97 + x - 10)) = _
    rw [show 97 + x - 10 = 87 + x from by omega]

theorem two_figs (b : Nat) (h : b < 256) : (#[.int .u8 (Wd.figI ((b : Int) / 16)), .int .u8 (Wd.figI ((b : Int) % 16))] : Array Value).toList = [Wd.figB (b / 16), Wd.figB (b % 16)].map bv := by
  have h1 := Wd.figB_val (b / 16) (by omega)
  have h2 := Wd.figB_val (b % 16) (by omega)
  simp only [Int.natCast_ediv, Int.natCast_emod] at h1 h2
  simp [bv, h1, h2]

theorem idx_run (s : ByteArray) (k b : Nat) (hlt : k < s.size) (hb : (s[k]'hlt).toNat = b) : ∀ W : World, (Instr.index 9 (.string s) (.int .i64 (k : Int))).run Try.prog W = .ok (.int .u8 (b : Int)) W := by
  intro W
  rw [run_index_string W 9 s .i64 (k : Int) Try.underlying9, dif_pos ⟨by omega, by omega⟩]
  simp only [Int.toNat_natCast, hb]

theorem specHex_no (s : ByteArray) (w : World) (ws : s.size ≤ 1048576) (h : 20000 < s.size) :
    Calls Try.prog 6 #[.string s] w fun e w' => e = .returned (.tuple #[.string ⟨#[]⟩, .bool false]) ∧ w' = w := by
  go_enter Try.func6, Try.ntmps6
  go_wp2
  go_ret2
  exact ⟨rfl, rfl⟩
theorem implHex_no (s : ByteArray) (w : World) (ws : s.size ≤ 1048576) (h : 20000 < s.size) :
    Calls Try.prog 7 #[.string s] w fun e w' => e = .returned (.tuple #[.string ⟨#[]⟩, .bool false]) ∧ w' = w := by
  go_enter Try.func7, Try.ntmps7
  go_wp2
  go_ret2
  exact ⟨rfl, rfl⟩

set_option maxRecDepth 100000 in
set_option maxHeartbeats 1000000 in
theorem specHex_yes (s : ByteArray) (w : World) (h : s.size ≤ 20000) :
    Calls Try.prog 6 #[.string s] w fun e w' => e = .returned (.tuple #[.string ⟨(Wd.hexF s s.size).toArray⟩, .bool true]) ∧ Below w.heap.size w w' := by
  go_enter Try.func6, Try.ntmps6
  go_wp2
  go_loopw [4, 5] (fun v i wr => ∃ k : Nat, k ≤ s.size ∧ i = .int .i64 k ∧ wr.ownsRow w.heap.size 5 1 v (Wd.hexF s k).length ((Wd.hexF s k).map bv) ∧ Below w.heap.size w wr) (fun _ i _ => s.size - (intOf i).toNat)
  case atStart =>
    refine ⟨0, Nat.zero_le _, rfl, ?_, (Below.refl _ _).alloc (Nat.le_refl _) _⟩
    exact World.ownsRow_lit w #[] 0 (Nat.le_refl _) (by unfold maxLen; omega) (by simp)
  case round =>
    obtain ⟨k, hk, rfl, hown, hb⟩ := hrel
    have hbs := hb.size
    by_cases hlt : k < s.size
    · obtain ⟨b, hB, hbt, hb256⟩ : ∃ b : Nat, Hid (Wd.bt s k = b) ∧ (s[k]'hlt).toNat = b ∧ b < 256 := ⟨_, rfl, Wd.bt_eq s k hlt, Wd.bt_lt s k⟩
      have hl := Wd.hexF_length s k
      have hk0 : (0 : Int) ≤ (k : Int) := by omega
      have hk1 : (k : Int) < (s.size : Int) := by omega
      have hC : Hid ((#[.int .u8 (Wd.figI ((b : Int) / 16)), .int .u8 (Wd.figI ((b : Int) % 16))] : Array Value).toList = [Wd.figB (b / 16), Wd.figB (b % 16)].map bv) := two_figs b hb256
      have hidx : ∀ W : World, (Instr.index 9 (.string s) (.int .i64 (k : Int))).run Try.prog W = .ok (.int .u8 (b : Int)) W := idx_run s k b hlt hbt
      have hw1 : IntKind.i64.wrap (b : Int) = (b : Int) := by rw [IntKind.wrap_i64]; omega
      have hw4 : (b : Int).tmod 16 = (b : Int) % 16 := Int.tmod_eq_emod_of_nonneg (by omega)
      have hw2 : IntKind.i64.wrap ((b : Int) / 16) = (b : Int) / 16 := by rw [IntKind.wrap_i64]; omega
      have hw3 : IntKind.i64.wrap ((b : Int) % 16) = (b : Int) % 16 := by rw [IntKind.wrap_i64]; omega
      have hlen : (Wd.hexF s k).length + [Wd.figB (b / 16), Wd.figB (b % 16)].length ≤ 70368744177664 := by simp; omega
      go_wp2
      go_region_held3 (fun _ => True) (trivial) ((first
        | (go_at_call 12; refine (figure_any _ _ (by omega) (by omega)).mono ?_; rintro e w1 ⟨rfl, rfl⟩)
        | (refine step_app_bytes _ 27 5 Try.underlying27 Try.info5 w w.heap.size (by rfl) _ _ (by rfl) _ (Wd.hexF s k) [Wd.figB (b / 16), Wd.figB (b % 16)] (by rfl) ((hown.alloc _).drew) wr.heap.size (by rfl) _ (heap_alloc_new wr _) hC.out (Nat.succ_pos _) hlen ((hb.alloc hbs _).drew) (Nat.le_trans hbs (size_alloc_drew _ _)) ?_; intro v' w1 hown1 hb1 hs1)))
      all_goals
        go_wp2
        go_roundw
        case rel => exact ⟨k + 1, by omega, by go_num, by rw [show Wd.hexF s (k + 1) = Wd.hexF s k ++ [Wd.figB (b / 16), Wd.figB (b % 16)] from by rw [← hB.out]; rfl]; exact hown1, hb1⟩
        case measure => simp [intOf]; omega
    · have hks : k = s.size := by omega
      have hcv := conv_own 27 5 9 Try.underlying27 Try.underlying5 Try.underlying9 wr _ _ _ hown
      have H := hide hks
      clear hks
      go_wp2
      go_ret2
      rw [← H.out]
      exact ⟨rfl, hb⟩

/-- The figures as the program has them. -/
def hexFig : ByteArray := ⟨#[48, 49, 50, 51, 52, 53, 54, 55, 56, 57, 97, 98, 99, 100, 101, 102]⟩
theorem hexFig_at : ∀ (n : Nat) (h : n < 16), ((hexFig[n]'h).toNat : Int) = Wd.figI (n : Int) := by decide
theorem figs_run (z : Int) (h0 : 0 ≤ z) (h1 : z < 16) : ∀ W : World, (Instr.index 9 (.string ⟨#[48, 49, 50, 51, 52, 53, 54, 55, 56, 57, 97, 98, 99, 100, 101, 102]⟩) (.int .u8 z)).run Try.prog W = .ok (.int .u8 (Wd.figI z)) W := by
  intro W
  obtain ⟨n, rfl⟩ := Int.eq_ofNat_of_zero_le h0
  have hs : (hexFig.size : Int) = 16 := rfl
  have := run_index_string W 9 hexFig .u8 (n : Int) Try.underlying9
  rw [dif_pos ⟨by omega, by omega⟩] at this
  refine this.trans ?_
  have e := hexFig_at n (by omega)
  exact congrArg (fun z => Result.ok (Value.int .u8 z) W) e

set_option maxRecDepth 100000 in
set_option maxHeartbeats 1000000 in
theorem implHex_yes (s : ByteArray) (w : World) (h : s.size ≤ 20000) :
    Calls Try.prog 7 #[.string s] w fun e w' => e = .returned (.tuple #[.string ⟨(Wd.hexF s s.size).toArray⟩, .bool true]) ∧ Below w.heap.size w w' := by
  obtain ⟨i0, hi, hz0, hz1, hz2⟩ := info_parts Try.info5
  go_enter Try.func7, Try.ntmps7
  go_wp2_with (at_make; refine wpList_make_own _ rfl _ _ 27 rfl w.heap.size 5 i0 (.int .u8 0) 1 Try.underlying27 hi hz0 hz1 _ _ _ (2 * s.size) rfl rfl (by omega) (by rw [hz2]; omega) (by unfold maxLen; omega) (Nat.le_refl _) ?_; intro w0 hown0 hgrow0)
  have hb0 : Below w.heap.size w w0 := (Below.refl _ _).grown hgrow0 (Nat.le_refl _) (fun k hk => by cases hk)
  clear hgrow0
  go_loopw [4, 16] (fun v i wr => ∃ k : Nat, k ≤ s.size ∧ i = .int .i64 k ∧ wr.ownsRow w.heap.size 5 1 v (Wd.hexF s k).length ((Wd.hexF s k).map bv) ∧ Below w.heap.size w wr) (fun _ i _ => s.size - (intOf i).toNat)
  case atStart => exact ⟨0, Nat.zero_le _, rfl, hown0, hb0⟩
  case round =>
    obtain ⟨k, hk, rfl, hown, hb⟩ := hrel
    have hbs := hb.size
    clear hown0 hb0
    by_cases hlt : k < s.size
    · obtain ⟨b, hB, hbt, hb256⟩ : ∃ b : Nat, Hid (Wd.bt s k = b) ∧ (s[k]'hlt).toNat = b ∧ b < 256 := ⟨_, rfl, Wd.bt_eq s k hlt, Wd.bt_lt s k⟩
      have hl := Wd.hexF_length s k
      have hC : Hid ((#[.int .u8 (Wd.figI ((b : Int) / 16)), .int .u8 (Wd.figI ((b : Int) % 16))] : Array Value).toList = [Wd.figB (b / 16), Wd.figB (b % 16)].map bv) := two_figs b hb256
      have hw4 : (b : Int).tmod 16 = (b : Int) % 16 := Int.tmod_eq_emod_of_nonneg (by omega)
      have hw2 : IntKind.u8.wrap ((b : Int) / 16) = (b : Int) / 16 := by rw [IntKind.wrap_u8]; omega
      have hw3 : IntKind.u8.wrap ((b : Int) % 16) = (b : Int) % 16 := by rw [IntKind.wrap_u8]; omega
      have hf1 := figs_run ((b : Int) / 16) (by omega) (by omega)
      have hf2 := figs_run ((b : Int) % 16) (by omega) (by omega)
      have hlen : (Wd.hexF s k).length + [Wd.figB (b / 16), Wd.figB (b % 16)].length ≤ 70368744177664 := by simp; omega
      go_wp2
      go_region_held3 (fun _ => True) (trivial) (((refine step_app_bytes _ 27 5 Try.underlying27 Try.info5 w w.heap.size (by rfl) _ _ (by rfl) _ (Wd.hexF s k) [Wd.figB (b / 16), Wd.figB (b % 16)] (by rfl) ((hown.alloc _).drew) wr.heap.size (by rfl) _ (heap_alloc_new wr _) hC.out (Nat.succ_pos _) hlen ((hb.alloc hbs _).drew) (Nat.le_trans hbs (size_alloc_drew _ _)) ?_; intro v' w1 hown1 hb1 hs1)))
      all_goals
        go_wp2
        go_roundw
        case rel => exact ⟨k + 1, by omega, by go_num, by rw [show Wd.hexF s (k + 1) = Wd.hexF s k ++ [Wd.figB (b / 16), Wd.figB (b % 16)] from by rw [← hB.out]; rfl]; exact hown1, hb1⟩
        case measure => simp [intOf]; omega
    · have hks : k = s.size := by omega
      have hcv := conv_own 27 5 9 Try.underlying27 Try.underlying5 Try.underlying9 wr _ _ _ hown
      have H := hide hks
      clear hks
      go_wp2
      go_ret2
      rw [← H.out]
      exact ⟨rfl, hb⟩

theorem hex_walk (s : ByteArray) (w : World) (ws : s.size ≤ maxLen) :
    Calls Try.prog 3 #[.string s] w fun e w' => e = .returned (.bool true) ∧ Below w.heap.size w w' := by
  by_cases hs : s.size ≤ 1048576
  · have hs' : decide (1048576 < (s.size : Int)) = false := by simp; omega
    by_cases h : s.size ≤ 20000
    · go_enter Try.func3, Try.ntmps3
      go_wp2_with (first | (go_at_call 6; refine (specHex_yes s _ h).mono ?_; rintro e w1 ⟨rfl, hb1⟩) | (go_at_call 7; refine (implHex_yes s _ h).mono ?_; rintro e w2 ⟨rfl, hb2⟩))
      go_ret
      exact ⟨rfl, hb1.trans (hb2.mono hb1.size)⟩
    · go_enter Try.func3, Try.ntmps3
      go_wp2_with (first | (go_at_call 6; refine (specHex_no s _ hs (by omega)).mono ?_; rintro e w1 ⟨rfl, rfl⟩) | (go_at_call 7; refine (implHex_no s _ hs (by omega)).mono ?_; rintro e w2 ⟨rfl, rfl⟩))
      go_ret
      exact ⟨rfl, Below.refl _ _⟩
  · unfold maxLen at ws
    have hs' : decide (1048576 < (s.size : Int)) = true := by simp; omega
    go_enter Try.func3, Try.ntmps3
    go_wp2
    go_ret
    exact ⟨rfl, Below.refl _ _⟩
end Go.Proofs.Ytpkgnpckolhjgah
