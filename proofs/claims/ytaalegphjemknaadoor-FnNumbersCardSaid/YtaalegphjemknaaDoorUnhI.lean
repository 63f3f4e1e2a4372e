/- The program's half of Fig, Hex, Figs, Unhex, UnhexI. -/
import Derived.Test.YtaalegphjemknaaDoorBase
import Derived.Deep.LoopGhost
import Derived.WalkMore
import Derived.WalkSmall
namespace Go.Proofs.YtaalegphjemknaaDoor
open Go.RowKit

theorem two_figs (b : Nat) (h : b < 256) : (#[.int .u8 (Wd.figI ((b : Int) / 16)), .int .u8 (Wd.figI ((b : Int) % 16))] : Array Value).toList = [Wd.figB (b / 16), Wd.figB (b % 16)].map bv := by
  have h1 := Wd.figB_val (b / 16) (by omega)
  have h2 := Wd.figB_val (b % 16) (by omega)
  simp only [Int.natCast_ediv, Int.natCast_emod] at h1 h2
  simp [bv, h1, h2]
theorem idx_run (s : ByteArray) (k b : Nat) (hlt : k < s.size) (hb : (s[k]'hlt).toNat = b) : ∀ W : World, (Instr.index 9 (.string s) (.int .i64 (k : Int))).run Tryd.prog W = .ok (.int .u8 (b : Int)) W := by
  intro W
  rw [run_index_string W 9 s .i64 (k : Int) Tryd.underlying9, dif_pos ⟨by omega, by omega⟩]
  simp only [Int.toNat_natCast, hb]
theorem implHex_no (s : ByteArray) (w : World) (ws : s.size ≤ 1048576) (h : 20000 < s.size) :
    Calls Tryd.prog 14 #[.string s] w fun e w' => e = .returned (.tuple #[.string ⟨#[]⟩, .bool false]) ∧ w' = w := by
  go_enter Tryd.func14, Tryd.ntmps14
  go_wp2
  go_ret2
  exact ⟨rfl, rfl⟩
/-- The figures as the program has them. -/
def hexFig : ByteArray := ⟨#[48, 49, 50, 51, 52, 53, 54, 55, 56, 57, 97, 98, 99, 100, 101, 102]⟩
theorem hexFig_at : ∀ (n : Nat) (h : n < 16), ((hexFig[n]'h).toNat : Int) = Wd.figI (n : Int) := by decide
theorem figs_run (z : Int) (h0 : 0 ≤ z) (h1 : z < 16) : ∀ W : World, (Instr.index 9 (.string ⟨#[48, 49, 50, 51, 52, 53, 54, 55, 56, 57, 97, 98, 99, 100, 101, 102]⟩) (.int .u8 z)).run Tryd.prog W = .ok (.int .u8 (Wd.figI z)) W := by
  intro W
  obtain ⟨n, rfl⟩ := Int.eq_ofNat_of_zero_le h0
  have hs : (hexFig.size : Int) = 16 := rfl
  have := run_index_string W 9 hexFig .u8 (n : Int) Tryd.underlying9
  rw [dif_pos ⟨by omega, by omega⟩] at this
  refine this.trans ?_
  have e := hexFig_at n (by omega)
  exact congrArg (fun z => Result.ok (Value.int .u8 z) W) e
set_option maxRecDepth 100000 in
set_option maxHeartbeats 1000000 in
theorem implHex_yes (s : ByteArray) (w : World) (h : s.size ≤ 20000) :
    Calls Tryd.prog 14 #[.string s] w fun e w' => e = .returned (.tuple #[.string ⟨(Wd.hexF s s.size).toArray⟩, .bool true]) ∧ Below w.heap.size w w' := by
  obtain ⟨i0, hi, hz0, hz1, hz2⟩ := info_parts Tryd.info5
  go_enter Tryd.func14, Tryd.ntmps14
  go_wp2_with (at_make; refine wpList_make_own _ rfl _ _ 22 rfl w.heap.size 5 i0 (.int .u8 0) 1 Tryd.underlying22 hi hz0 hz1 _ _ _ (2 * s.size) rfl rfl (by omega) (by rw [hz2]; omega) (by unfold maxLen; omega) (Nat.le_refl _) ?_; intro w0 hown0 hgrow0)
  have hb0 : Below w.heap.size w w0 := (Below.refl _ _).grown hgrow0 (Nat.le_refl _) (fun k hk => by cases hk)
  clear hgrow0
  go_loopw [4, 16] (fun v i wr => ∃ k : Nat, k ≤ s.size ∧ i = .int .i64 k ∧ wr.ownsRow w.heap.size 5 1 v (Wd.hexF s k).length ((Wd.hexF s k).map bv) ∧ Below w.heap.size w wr) (fun _ i _ => s.size - (intOf i).toNat)
  case atStart => exact ⟨0, Nat.zero_le _, rfl, hown0, hb0⟩
  case round =>
    obtain ⟨k, hk, rfl, hown, hb⟩ := hrel
    have hbs := hb.size
    clear hown0 hb0
    by_cases hlt : k < s.size
    · obtain ⟨b, hB, hbt, hb256⟩ : ∃ b : Nat, Hid (Wd.bt s k = b) ∧ (s[k]'hlt).toNat = b ∧ b < 256 := ⟨_, rfl, Wd.bt_eq s k hlt, Wd.bt_lt s k⟩
      have hl := Wd.hexF_length s k
      have hC : Hid ((#[.int .u8 (Wd.figI ((b : Int) / 16)), .int .u8 (Wd.figI ((b : Int) % 16))] : Array Value).toList = [Wd.figB (b / 16), Wd.figB (b % 16)].map bv) := two_figs b hb256
      have hw4 : (b : Int).tmod 16 = (b : Int) % 16 := Int.tmod_eq_emod_of_nonneg (by omega)
      have hw2 : IntKind.u8.wrap ((b : Int) / 16) = (b : Int) / 16 := by rw [IntKind.wrap_u8]; omega
      have hw3 : IntKind.u8.wrap ((b : Int) % 16) = (b : Int) % 16 := by rw [IntKind.wrap_u8]; omega
      have hf1 := figs_run ((b : Int) / 16) (by omega) (by omega)
      have hf2 := figs_run ((b : Int) % 16) (by omega) (by omega)
      have hlen : (Wd.hexF s k).length + [Wd.figB (b / 16), Wd.figB (b % 16)].length ≤ 70368744177664 := by simp; omega
      go_wp2
      go_region_held3 (fun _ => True) (trivial) (((refine step_app_bytes _ 22 5 Tryd.underlying22 Tryd.info5 w w.heap.size (by rfl) _ _ (by rfl) _ (Wd.hexF s k) [Wd.figB (b / 16), Wd.figB (b % 16)] (by rfl) ((hown.alloc _).drew) wr.heap.size (by rfl) _ (heap_alloc_new wr _) hC.out (Nat.succ_pos _) hlen ((hb.alloc hbs _).drew) (Nat.le_trans hbs (size_alloc_drew _ _)) ?_; intro v' w1 hown1 hb1 hs1)))
      all_goals
        go_wp2
        go_roundw
        case rel => exact ⟨k + 1, by omega, by go_num, by rw [show Wd.hexF s (k + 1) = Wd.hexF s k ++ [Wd.figB (b / 16), Wd.figB (b % 16)] from by rw [← hB.out]; rfl]; exact hown1, hb1⟩
        case measure => simp [intOf]; omega
    · have hks : k = s.size := by omega
      have hcv := conv_own 22 5 9 Tryd.underlying22 Tryd.underlying5 Tryd.underlying9 wr _ _ _ hown
      have H := hide hks
      clear hks
      go_wp2
      go_ret2
      rw [← H.out]
      exact ⟨rfl, hb⟩

/-- What the reader of figures leaves. -/
def FigsLeft (s : ByteArray) (c : Int) (w : World) (e : Ending) (w' : World) : Prop :=
  Below w.heap.size w w' ∧ (((∀ p, p < s.size → Wd.isFig s c p) ∧ ∃ v, e = .returned (.tuple #[v, .bool true]) ∧ w'.ownsRow w.heap.size 5 1 v (Wd.valsF s s.size).length ((Wd.valsF s s.size).map bv)) ∨
    ((∃ p, p < s.size ∧ ¬ Wd.isFig s c p) ∧ e = .returned (.tuple #[.slice none 0 0, .bool false])))
theorem figs_run64 (z : Nat) (h1 : z < 16) : ∀ W : World, (Instr.index 9 (.string ⟨#[48, 49, 50, 51, 52, 53, 54, 55, 56, 57, 97, 98, 99, 100, 101, 102]⟩) (.int .i64 (z : Int))).run Tryd.prog W = .ok (.int .u8 (Wd.figI (z : Int))) W := by
  intro W
  have hs : (hexFig.size : Int) = 16 := rfl
  have := run_index_string W 9 hexFig .i64 (z : Int) Tryd.underlying9
  rw [dif_pos ⟨by omega, by omega⟩] at this
  refine this.trans ?_
  exact congrArg (fun z => Result.ok (Value.int .u8 z) W) (hexFig_at z (by omega))
set_option maxRecDepth 100000 in
set_option maxHeartbeats 1000000 in
theorem figs_any (s : ByteArray) (c : Nat) (w : World) (hs : s.size ≤ 40000) (hc : c ≤ 16) :
    Calls Tryd.prog 24 #[.string s, .int .i64 c] w (FigsLeft s c w) := by
  obtain ⟨i0, hi, hz0, hz1, hz2⟩ := info_parts Tryd.info5
  go_enter Tryd.func24, Tryd.ntmps24
  go_wp2
  go_step3
  go_wp2_with (at_make; refine wpList_make_own _ rfl _ _ 22 rfl w.heap.size 5 i0 (.int .u8 0) 1 Tryd.underlying22 hi hz0 hz1 _ _ _ s.size rfl rfl (by omega) (by rw [hz2]; omega) (by unfold maxLen; omega) (Nat.le_refl _) ?_; intro w0 hown0 hgrow0)
  have hb0 : Below w.heap.size w w0 := (Below.refl _ _).grown hgrow0 (Nat.le_refl _) (fun k hk => by cases hk)
  clear hgrow0
  go_step3
  go_wp2
  go_loopg [6, 14] s.size (fun g s6 s14 wx => ∃ k : Nat, k + g = s.size ∧ s14 = .int .i64 k ∧ wx.ownsRow w.heap.size 5 1 s6 (Wd.valsF s k).length ((Wd.valsF s k).map bv) ∧ Aside (∀ p, p < k → Wd.isFig s c p) ∧ Below w.heap.size w wx)
  case atStart => exact ⟨0, by omega, rfl, hown0, fun p hp => absurd hp (by omega), hb0⟩
  case round =>
    obtain ⟨k, hkg, rfl, hown, HI, hb⟩ := hrel
    have hbs := hb.size
    clear hown0 hb0
    cases gk with
    | zero =>
      have hkz : ¬ ((k : Int) < (s.size : Int)) := by omega
      have hk : Aside (k = s.size) := by show k = s.size; omega
      go_wp2
      try rw [Exit.noGoto_ret]
      go_ret2
      refine ⟨hb, .inl ⟨fun p hp => HI.out p (by have := hk.out; omega), u6, rfl, ?_⟩⟩
      rw [← hk.out]
      exact hown
    | succ g =>
      have hkz : (k : Int) < (s.size : Int) := by omega
      have hlt : k < s.size := by omega
      obtain ⟨b, hB, hbt, hb256⟩ : ∃ b : Nat, Hid (Wd.bt s k = b) ∧ (s[k]'hlt).toNat = b ∧ b < 256 := ⟨_, rfl, Wd.bt_eq s k hlt, Wd.bt_lt s k⟩
      have hvb := Wd.valI_bd b
      go_wp2
      go_loopg [6, 18] c (fun g2 s6 s18 wy => ∃ j : Nat, j + g2 = c ∧ s18 = .int .i64 j ∧ s6 = u6 ∧ wy.ownsRow w.heap.size 5 1 u6 (Wd.valsF s k).length ((Wd.valsF s k).map bv) ∧ Below w.heap.size w wy ∧ Aside (Wd.valI b < 0 ∨ (j : Int) ≤ Wd.valI b))
      case atStart => exact ⟨0, by omega, rfl, rfl, hown, hb, by show _ ∨ _; omega⟩
      case round =>
        obtain ⟨j, hjg, rfl, rfl, hown2, hb2, HJ⟩ := hrel
        have hbs2 := hb2.size
        clear hown hb
        cases gk with
        | zero =>
          have hjz : ¬ ((j : Int) < (c : Int)) := by omega
          have hno : Aside (¬ Wd.isFig s c k) := by
            intro h
            have h1 := h.1
            have h2 := h.2
            rw [hB.out] at h1 h2
            have := HJ.out
            omega
          clear hvb
          go_wp2
          try rw [Exit.noGoto_ret]
          go_ret2
          exact ⟨hb2, .inr ⟨⟨k, hlt, hno.out⟩, rfl⟩⟩
        | succ g2 =>
          have hjz : (j : Int) < (c : Int) := by omega
          have hf := figs_run64 j (by omega)
          have hit := Wd.valI_iff b j (by omega)
          have hfb := Wd.figI_bd j (by omega) (by omega)
          by_cases hv : Wd.valI b = (j : Int)
          · have ht : (Wd.figI (j : Int) == (b : Int)) = true := beq_iff_eq.2 (hit.2 hv)
            have HV := hide hv
            have hC : Hid ((#[.int .u8 (j : Int)] : Array Value).toList = [UInt8.ofNat j].map bv) := by
              have : ((UInt8.ofNat j).toNat : Int) = (j : Int) := by simp only [UInt8.toNat_ofNat']; omega
              simp only [Hid, bv, List.map_cons, List.map_nil, this]
            have hlen : (Wd.valsF s k).length + [UInt8.ofNat j].length ≤ 70368744177664 := by rw [Wd.valsF_length]; simp; omega
            clear hit hv hvb
            go_wp2
            go_quiet (fail)
            go_wp2_with (at_builtin; refine app_bytes (wr.drewN nq) 22 5 Tryd.underlying22 Tryd.info5 w w.heap.size rfl _ _ rfl _ (Wd.valsF s k) [UInt8.ofNat j] rfl (ownsRow_drewN hown2 nq) rfl hC.out hlen (below_drewN hb2 nq) hbs2 ?_; intro v' w1 hown1 hb1 hs1)
            go_roundg g
            case measure => omega
            case rel =>
              refine ⟨k + 1, by omega, by go_num, ?_, ?_, hb1⟩
              · rw [show Wd.valsF s (k + 1) = Wd.valsF s k ++ [UInt8.ofNat j] from by
                  show Wd.valsF s k ++ [UInt8.ofNat (Wd.valI (Wd.bt s k)).toNat] = _
                  rw [hB.out, HV.out, Int.toNat_natCast]]
                exact hown1
              · intro p hp
                by_cases h : p < k
                · exact HI.out p h
                · have : p = k := by omega
                  subst this
                  show 0 ≤ Wd.valI (Wd.bt s p) ∧ Wd.valI (Wd.bt s p) < c
                  rw [hB.out, HV.out]
                  omega
          · have ht : (Wd.figI (j : Int) == (b : Int)) = false := by rw [beq_eq_false_iff_ne]; exact fun h => hv (hit.1 h)
            clear hit
            go_wp2
            go_quiet (fail)
            go_wp2
            go_roundg g2
            case measure => omega
            case rel => exact ⟨j + 1, by omega, by go_num, rfl, ownsRow_drewN hown2 nq, below_drewN hb2 nq, by have := HJ.out; show _ ∨ _; omega⟩
theorem implUnhex_no (s : ByteArray) (w : World) (ws : s.size ≤ 1048576) (h : 40000 < s.size ∨ s.size % 2 ≠ 0) :
    Calls Tryd.prog 15 #[.string s] w fun e w' => e = .returned (.tuple #[.string ⟨#[]⟩, .bool false]) ∧ w' = w := by
  by_cases h1 : s.size % 2 = 0
  · have h1' : decide (40000 < (s.size : Int)) = true := by simp; omega
    have h2 : ((s.size : Int) % 2 != 0) = false := by simp; omega
    go_enter Tryd.func15, Tryd.ntmps15
    go_wp2
    go_ret2
    exact ⟨rfl, rfl⟩
  · have h2 : ((s.size : Int) % 2 != 0) = true := by simp; omega
    go_enter Tryd.func15, Tryd.ntmps15
    go_wp2
    go_ret2
    exact ⟨rfl, rfl⟩

theorem figs_yes (s : ByteArray) (c : Nat) (w : World) (hs : s.size ≤ 40000) (hc : c ≤ 16) (hok : ∀ p, p < s.size → Wd.isFig s c p) :
    Calls Tryd.prog 24 #[.string s, .int .i64 c] w fun e w' => ∃ v, e = .returned (.tuple #[v, .bool true]) ∧ w'.ownsRow w.heap.size 5 1 v (Wd.valsF s s.size).length ((Wd.valsF s s.size).map bv) ∧ Below w.heap.size w w' := by
  refine (figs_any s c w hs hc).mono ?_
  rintro e w' ⟨hb, ⟨_, v, he, hown⟩ | ⟨⟨p, hp, hno⟩, _⟩⟩
  · exact ⟨v, he, hown, hb⟩
  · exact absurd (hok p hp) hno
/-- The same, the slice written out. -/
theorem figs_row (s : ByteArray) (c : Nat) (w : World) (hs : s.size ≤ 40000) (hc : c ≤ 16) (hok : ∀ p, p < s.size → Wd.isFig s c p) :
    Calls Tryd.prog 24 #[.string s, .int .i64 c] w fun e w' => ∃ a cap, e = .returned (.tuple #[.slice a s.size cap, .bool true]) ∧
      Hid (0 < s.size → ∃ g, a = some ⟨g, 0, none⟩ ∧ g < w'.heap.size ∧ w'.ownsRow w.heap.size 5 1 (.slice (some ⟨g, 0, none⟩) s.size cap) s.size ((Wd.valsF s s.size).map bv)) ∧ Below w.heap.size w w' := by
  refine (figs_yes s c w hs hc hok).mono ?_
  rintro e w' ⟨v, he, hown, hb⟩
  rw [Wd.valsF_length] at hown
  rcases hown.2 with ⟨rfl, h0⟩ | ⟨g, cap, cur, rfl, hg, hh, _⟩
  · exact ⟨none, 0, by rw [h0]; exact he, fun h => absurd h (by omega), hb⟩
  · refine ⟨_, cap, he, fun _ => ⟨g, rfl, ?_, hown⟩, hb⟩
    exact (hown.lt g rfl).2
theorem figs_no (s : ByteArray) (c : Nat) (w : World) (hs : s.size ≤ 40000) (hc : c ≤ 16) (hno : ¬ ∀ p, p < s.size → Wd.isFig s c p) :
    Calls Tryd.prog 24 #[.string s, .int .i64 c] w fun e w' => e = .returned (.tuple #[.slice none 0 0, .bool false]) ∧ Below w.heap.size w w' := by
  refine (figs_any s c w hs hc).mono ?_
  rintro e w' ⟨hb, ⟨hok, _⟩ | ⟨_, he⟩⟩
  · exact absurd hok hno
  · exact ⟨he, hb⟩
theorem implUnhex_bad (s : ByteArray) (w : World) (h : s.size ≤ 40000) (h2 : s.size % 2 = 0) (hno : ¬ ∀ p, p < s.size → Wd.isFig s 16 p) :
    Calls Tryd.prog 15 #[.string s] w fun e w' => e = .returned (.tuple #[.string ⟨#[]⟩, .bool false]) ∧ Below w.heap.size w w' := by
  have H := hide hno
  clear hno
  have h1' : decide (40000 < (s.size : Int)) = false := by simp; omega
  have h2' : ((s.size : Int) % 2 != 0) = false := by simp; omega
  go_enter Tryd.func15, Tryd.ntmps15
  go_wp2_with (go_at_call 24; refine (figs_no s 16 _ h (by omega) H.out).mono ?_; rintro e w1 ⟨rfl, hb1⟩)
  go_ret2
  exact ⟨rfl, hb1⟩
/-- The value at a place of a row of figures. -/
theorem vals_cell {s : ByteArray} {w : World} {B g n cap : Nat} (hown : w.ownsRow B 5 1 (.slice (some ⟨g, 0, none⟩) n cap) n ((Wd.valsF s n).map bv)) (p : Nat) (hp : p < n) (hf : 0 ≤ Wd.valI (Wd.bt s p)) :
    w.cell? ⟨g, p, none⟩ = some (.int .u8 (Wd.valI (Wd.bt s p))) := by
  have := hown.cellAt p (by omega)
  rw [this, List.getElem?_map, Wd.valsF_get s n p hp]
  have hv := Wd.valI_bd (Wd.bt s p)
  have e : (((UInt8.ofNat (Wd.valI (Wd.bt s p)).toNat).toNat : Nat) : Int) = Wd.valI (Wd.bt s p) := by simp only [UInt8.toNat_ofNat']; omega
  simp only [Option.map_some, bv, e]
set_option maxRecDepth 100000 in
set_option maxHeartbeats 1000000 in
theorem implUnhex_yes (s : ByteArray) (w : World) (h : s.size ≤ 40000) (h2 : s.size % 2 = 0) (hok : ∀ p, p < s.size → Wd.isFig s 16 p) :
    Calls Tryd.prog 15 #[.string s] w fun e w' => e = .returned (.tuple #[.string ⟨(Wd.unF s (s.size / 2)).toArray⟩, .bool true]) ∧ Below w.heap.size w w' := by
  have H := hide hok
  clear hok
  obtain ⟨i0, hi, hz0, hz1, hz2⟩ := info_parts Tryd.info5
  have h1' : decide (40000 < (s.size : Int)) = false := by simp; omega
  have h2' : ((s.size : Int) % 2 != 0) = false := by simp; omega
  go_enter Tryd.func15, Tryd.ntmps15
  go_wp2_with (first | (go_at_call 24; refine (figs_row s 16 _ h (by omega) H.out).mono ?_; rintro e w1 ⟨a, cap, rfl, HA, hb1⟩) | (at_make; refine wpList_make_own _ rfl _ _ 22 rfl w1.heap.size 5 i0 (.int .u8 0) 1 Tryd.underlying22 hi hz0 hz1 _ _ _ (s.size / 2) rfl rfl (by omega) (by rw [hz2]; omega) (by unfold maxLen; omega) (Nat.le_refl _) ?_; intro w0 hown0 hgrow0))
  have hb0 : Below w1.heap.size w1 w0 := (Below.refl _ _).grown hgrow0 (Nat.le_refl _) (fun k hk => by cases hk)
  clear hgrow0
  go_loopw [6, 7] (fun v i wr => ∃ m P : Nat, Hid (P = 2 * m) ∧ P ≤ s.size ∧ i = .int .i64 P ∧ wr.ownsRow w1.heap.size 5 1 v (Wd.unF s m).length ((Wd.unF s m).map bv) ∧ Below w1.heap.size w1 wr) (fun _ i _ => s.size - (intOf i).toNat)
  case atStart => exact ⟨0, 0, rfl, Nat.zero_le _, rfl, hown0, hb0⟩
  case round =>
    obtain ⟨m, P, HP, hm, rfl, hown, hb⟩ := hrel
    have hbs := hb.size
    clear hown0 hb0
    by_cases hlt : P < s.size
    · have hlt2 : P + 1 < s.size := by have := HP.out; omega
      obtain ⟨g, rfl, hg, hrow⟩ := HA.out (by omega)
      have hf1 := (H.out P hlt)
      have hf2 := (H.out (P + 1) hlt2)
      have hk1 := vals_cell hrow P hlt hf1.1
      have hk2 := vals_cell hrow (P + 1) hlt2 hf2.1
      clear hrow
      obtain ⟨x, hX⟩ : ∃ x, Hid (Wd.valI (Wd.bt s P) = x) := ⟨_, rfl⟩
      obtain ⟨y, hY⟩ : ∃ y, Hid (Wd.valI (Wd.bt s (P + 1)) = y) := ⟨_, rfl⟩
      unfold Wd.isFig at hf1 hf2
      rw [hX.out] at hf1 hk1
      rw [hY.out] at hf2 hk2
      have hc1 : wr.cell? ⟨g, P, none⟩ = _ := (hb.cell (p := ⟨g, P, none⟩) hg).trans hk1
      have hc2 : wr.cell? ⟨g, P + 1, none⟩ = _ := (hb.cell (p := ⟨g, P + 1, none⟩) hg).trans hk2
      have HK1 := hide hk1
      have HK2 := hide hk2
      clear hk1 hk2
      obtain ⟨hx0, hx1⟩ := hf1
      obtain ⟨hy0, hy1⟩ := hf2
      obtain ⟨z, hz, hzn⟩ : ∃ z : UInt8, Hid (z = UInt8.ofNat (16 * x + y).toNat) ∧ Hid ((z.toNat : Int) = x * 16 + y) := ⟨_, rfl, by simp only [Hid, UInt8.toNat_ofNat']; omega⟩
      have hC : Hid ((#[.int .u8 (x * 16 + y)] : Array Value).toList = [z].map bv) := by simp only [Hid, bv, List.map_cons, List.map_nil, hzn.out]
      have hl := Wd.unF_length s m
      have hlen : (Wd.unF s m).length + [z].length ≤ 70368744177664 := by have := HP.out; simp; omega
      have hw1 : IntKind.u8.wrap (x * 16) = x * 16 := by rw [IntKind.wrap_u8]; omega
      have hw2 : IntKind.u8.wrap (x * 16 + y) = x * 16 + y := by rw [IntKind.wrap_u8]; omega
      have hw3 : IntKind.i64.wrap ((P : Int) + 1) = (P : Int) + 1 := by rw [IntKind.wrap_i64]; omega
      have hi0 : (0 : Int) ≤ (P : Int) := by omega
      have hi1 : (P : Int) < (s.size : Int) := by omega
      have hi2 : (0 : Int) ≤ (P : Int) + 1 := by omega
      have hi3 : (P : Int) + 1 < (s.size : Int) := by omega
      go_wp2
      go_region_held3 (fun w' => w'.cell? ⟨g, P, none⟩ = some (.int .u8 x) ∧ w'.cell? ⟨g, P + 1, none⟩ = some (.int .u8 y)) (first | go_keep | (exact ⟨(hb2.cell (p := ⟨g, P, none⟩) hg).trans HK1.out, (hb2.cell (p := ⟨g, P + 1, none⟩) hg).trans HK2.out⟩)) (((refine step_app_bytes _ 22 5 Tryd.underlying22 Tryd.info5 w1 w1.heap.size (by rfl) _ _ (by rfl) _ (Wd.unF s m) [z] (by rfl) ((hown.alloc _).drew) wr.heap.size (by rfl) _ (heap_alloc_new wr _) hC.out (Nat.succ_pos _) hlen ((hb.alloc hbs _).drew) (Nat.le_trans hbs (size_alloc_drew _ _)) ?_; intro v' w2 hown2 hb2 hs2)))
      all_goals
        go_wp2
        go_roundw
        case rel =>
          refine ⟨m + 1, P + 2, by have := HP.out; show _ = _; omega, by omega, by go_num, ?_, hb2⟩
          rw [show Wd.unF s (m + 1) = Wd.unF s m ++ [z] from by
            show Wd.unF s m ++ [UInt8.ofNat (16 * Wd.valI (Wd.bt s (2 * m)) + Wd.valI (Wd.bt s (2 * m + 1))).toNat] = _
            rw [← HP.out, hX.out, hY.out, hz.out]]
          exact hown2
        case measure => simp [intOf]; omega
    · have hcv := conv_own 22 5 9 Tryd.underlying22 Tryd.underlying5 Tryd.underlying9 wr _ _ _ hown
      have hfin : Hid (s.size / 2 = m) := by have := HP.out; show _ = _; omega
      go_wp2
      go_ret2
      rw [hfin.out]
      exact ⟨rfl, hb1.trans (hb.mono hb1.size)⟩
end Go.Proofs.YtaalegphjemknaaDoor
