import Derived.Deep.LoopGhost
import Derived.WalkMore
import Derived.WalkSmall
import Derived.Lib.Split
import Derived.Lib.CountLaws
import Derived.Lib.SplitLaws
import Derived.Test.YtdefipahgpljeaaDoorRq2
import Derived.Test.YtdefipahgpljeaaDoorRq1
import Derived.Test.YtdefipahgpljeaaDoorRq0
set_option maxRecDepth 100000
set_option maxHeartbeats 4000000
namespace Go.Proofs.YtdefipahgpljeaaDoor
open Go.RowKit
def FigsLeft (s : ByteArray) (c : Int) (w : World) (e : Ending) (w' : World) : Prop :=
  Below w.heap.size w w' ∧ (((∀ p, p < s.size → Wd.isFig s c p) ∧ ∃ v, e = .returned (.tuple #[v, .bool true]) ∧ w'.ownsRow w.heap.size 5 1 v (Wd.valsF s s.size).length ((Wd.valsF s s.size).map bv)) ∨
    ((∃ p, p < s.size ∧ ¬ Wd.isFig s c p) ∧ e = .returned (.tuple #[.slice none 0 0, .bool false])))
theorem figs_run64 (z : Nat) (h1 : z < 16) : ∀ W : World, (Instr.index 9 (.string ⟨#[48, 49, 50, 51, 52, 53, 54, 55, 56, 57, 97, 98, 99, 100, 101, 102]⟩) (.int .i64 (z : Int))).run Tryd.prog W = .ok (.int .u8 (Wd.figI (z : Int))) W := by
  intro W
  have hs : (hexFig.size : Int) = 16 := rfl
  have := run_index_string W 9 hexFig .i64 (z : Int) Tryd.underlying9
  rw [dif_pos ⟨by omega, by omega⟩] at this
  refine this.trans ?_
  exact congrArg (fun z => Result.ok (Value.int .u8 z) W) (hexFig_at z (by omega))
theorem figs_any (s : ByteArray) (c : Nat) (w : World) (hs : s.size ≤ 40000) (hc : c ≤ 16) :
    Calls Tryd.prog 74 #[.string s, .int .i64 c] w (FigsLeft s c w) := by
  obtain ⟨i0, hi, hz0, hz1, hz2⟩ := info_parts Tryd.info5
  go_enter Tryd.func74, Tryd.ntmps74
  go_wp2
  go_step3
  go_wp2_with (at_make; refine wpList_make_own _ rfl _ _ 22 rfl w.heap.size 5 i0 (.int .u8 0) 1 Tryd.underlying22 hi hz0 hz1 _ _ _ s.size rfl rfl (by omega) (by rw [hz2]; omega) (by unfold maxLen; omega) (Nat.le_refl _) ?_; intro w0 hown0 hgrow0)
  have hb0 : Below w.heap.size w w0 := (Below.refl _ _).grown hgrow0 (Nat.le_refl _) (fun k hk => by cases hk)
  clear hgrow0
  go_step3
  go_wp2
  go_loopg [6, 14] s.size (fun g s6 s14 wx => ∃ k : Nat, k + g = s.size ∧ s14 = .int .i64 k ∧ wx.ownsRow w.heap.size 5 1 s6 (Wd.valsF s k).length ((Wd.valsF s k).map bv) ∧ Aside (∀ p, p < k → Wd.isFig s c p) ∧ Below w.heap.size w wx)
  case atStart => exact ⟨0, by omega, rfl, hown0, fun p hp => absurd hp (by omega), hb0⟩
  case round =>
    obtain ⟨k, hkg, rfl, hown, HI, hb⟩ := hrel
    have hbs := hb.size
    clear hown0 hb0
    cases gk with
    | zero =>
      have hkz : ¬ ((k : Int) < (s.size : Int)) := by omega
      have hk : Aside (k = s.size) := by show k = s.size; omega
      go_wp2
      try rw [Exit.noGoto_ret]
      go_ret2
      refine ⟨hb, .inl ⟨fun p hp => HI.out p (by have := hk.out; omega), u6, rfl, ?_⟩⟩
      rw [← hk.out]
      exact hown
    | succ g =>
      have hkz : (k : Int) < (s.size : Int) := by omega
      have hlt : k < s.size := by omega
      obtain ⟨b, hB, hbt, hb256⟩ : ∃ b : Nat, Hid (Wd.bt s k = b) ∧ (s[k]'hlt).toNat = b ∧ b < 256 := ⟨_, rfl, Wd.bt_eq s k hlt, Wd.bt_lt s k⟩
      have hvb := Wd.valI_bd b
      go_wp2
      go_loopg [6, 18] c (fun g2 s6 s18 wy => ∃ j : Nat, j + g2 = c ∧ s18 = .int .i64 j ∧ s6 = u6 ∧ wy.ownsRow w.heap.size 5 1 u6 (Wd.valsF s k).length ((Wd.valsF s k).map bv) ∧ Below w.heap.size w wy ∧ Aside (Wd.valI b < 0 ∨ (j : Int) ≤ Wd.valI b))
      case atStart => exact ⟨0, by omega, rfl, rfl, hown, hb, by show _ ∨ _; omega⟩
      case round =>
        obtain ⟨j, hjg, rfl, rfl, hown2, hb2, HJ⟩ := hrel
        have hbs2 := hb2.size
        clear hown hb
        cases gk with
        | zero =>
          have hjz : ¬ ((j : Int) < (c : Int)) := by omega
          have hno : Aside (¬ Wd.isFig s c k) := by
            intro h
            have h1 := h.1
            have h2 := h.2
            rw [hB.out] at h1 h2
            have := HJ.out
            omega
          clear hvb
          go_wp2
          try rw [Exit.noGoto_ret]
          go_ret2
          exact ⟨hb2, .inr ⟨⟨k, hlt, hno.out⟩, rfl⟩⟩
        | succ g2 =>
          have hjz : (j : Int) < (c : Int) := by omega
          have hf := figs_run64 j (by omega)
          have hit := Wd.valI_iff b j (by omega)
          have hfb := Wd.figI_bd j (by omega) (by omega)
          by_cases hv : Wd.valI b = (j : Int)
          · have ht : (Wd.figI (j : Int) == (b : Int)) = true := beq_iff_eq.2 (hit.2 hv)
            have HV := hide hv
            have hC : Hid ((#[.int .u8 (j : Int)] : Array Value).toList = [UInt8.ofNat j].map bv) := by
              have : ((UInt8.ofNat j).toNat : Int) = (j : Int) := by simp only [UInt8.toNat_ofNat']; omega
              simp only [Hid, bv, List.map_cons, List.map_nil, this]
            have hlen : (Wd.valsF s k).length + [UInt8.ofNat j].length ≤ 70368744177664 := by rw [Wd.valsF_length]; simp; omega
            clear hit hv hvb
            go_wp2
            go_quiet (fail)
            go_wp2_with (at_builtin; refine app_bytes (wr.drewN nq) 22 5 Tryd.underlying22 Tryd.info5 w w.heap.size rfl _ _ rfl _ (Wd.valsF s k) [UInt8.ofNat j] rfl (ownsRow_drewN hown2 nq) rfl hC.out hlen (below_drewN hb2 nq) hbs2 ?_; intro v' w1 hown1 hb1 hs1)
            go_roundg g
            case measure => omega
            case rel =>
              refine ⟨k + 1, by omega, by go_num, ?_, ?_, hb1⟩
              · rw [show Wd.valsF s (k + 1) = Wd.valsF s k ++ [UInt8.ofNat j] from by
                  show Wd.valsF s k ++ [UInt8.ofNat (Wd.valI (Wd.bt s k)).toNat] = _
                  rw [hB.out, HV.out, Int.toNat_natCast]]
                exact hown1
              · intro p hp
                by_cases h : p < k
                · exact HI.out p h
                · have : p = k := by omega
                  subst this
                  show 0 ≤ Wd.valI (Wd.bt s p) ∧ Wd.valI (Wd.bt s p) < c
                  rw [hB.out, HV.out]
                  omega
          · have ht : (Wd.figI (j : Int) == (b : Int)) = false := by rw [beq_eq_false_iff_ne]; exact fun h => hv (hit.1 h)
            clear hit
            go_wp2
            go_quiet (fail)
            go_wp2
            go_roundg g2
            case measure => omega
            case rel => exact ⟨j + 1, by omega, by go_num, rfl, ownsRow_drewN hown2 nq, below_drewN hb2 nq, by have := HJ.out; show _ ∨ _; omega⟩
theorem figs_yes (s : ByteArray) (c : Nat) (w : World) (hs : s.size ≤ 40000) (hc : c ≤ 16) (hok : ∀ p, p < s.size → Wd.isFig s c p) :
    Calls Tryd.prog 74 #[.string s, .int .i64 c] w fun e w' => ∃ v, e = .returned (.tuple #[v, .bool true]) ∧ w'.ownsRow w.heap.size 5 1 v (Wd.valsF s s.size).length ((Wd.valsF s s.size).map bv) ∧ Below w.heap.size w w' := by
  refine (figs_any s c w hs hc).mono ?_
  rintro e w' ⟨hb, ⟨_, v, he, hown⟩ | ⟨⟨p, hp, hno⟩, _⟩⟩
  · exact ⟨v, he, hown, hb⟩
  · exact absurd (hok p hp) hno
theorem figs_row (s : ByteArray) (c : Nat) (w : World) (hs : s.size ≤ 40000) (hc : c ≤ 16) (hok : ∀ p, p < s.size → Wd.isFig s c p) :
    Calls Tryd.prog 74 #[.string s, .int .i64 c] w fun e w' => ∃ a cap, e = .returned (.tuple #[.slice a s.size cap, .bool true]) ∧
      Hid (0 < s.size → ∃ g, a = some ⟨g, 0, none⟩ ∧ g < w'.heap.size ∧ w'.ownsRow w.heap.size 5 1 (.slice (some ⟨g, 0, none⟩) s.size cap) s.size ((Wd.valsF s s.size).map bv)) ∧ Below w.heap.size w w' := by
  refine (figs_yes s c w hs hc hok).mono ?_
  rintro e w' ⟨v, he, hown, hb⟩
  rw [Wd.valsF_length] at hown
  rcases hown.2 with ⟨rfl, h0⟩ | ⟨g, cap, cur, rfl, hg, hh, _⟩
  · exact ⟨none, 0, by rw [h0]; exact he, fun h => absurd h (by omega), hb⟩
  · refine ⟨_, cap, he, fun _ => ⟨g, rfl, ?_, hown⟩, hb⟩
    exact (hown.lt g rfl).2
theorem figs_no (s : ByteArray) (c : Nat) (w : World) (hs : s.size ≤ 40000) (hc : c ≤ 16) (hno : ¬ ∀ p, p < s.size → Wd.isFig s c p) :
    Calls Tryd.prog 74 #[.string s, .int .i64 c] w fun e w' => e = .returned (.tuple #[.slice none 0 0, .bool false]) ∧ Below w.heap.size w w' := by
  refine (figs_any s c w hs hc).mono ?_
  rintro e w' ⟨hb, ⟨hok, _⟩ | ⟨_, he⟩⟩
  · exact absurd hok hno
  · exact ⟨he, hb⟩
theorem vals_cell {s : ByteArray} {w : World} {B g n cap : Nat} (hown : w.ownsRow B 5 1 (.slice (some ⟨g, 0, none⟩) n cap) n ((Wd.valsF s n).map bv)) (p : Nat) (hp : p < n) (hf : 0 ≤ Wd.valI (Wd.bt s p)) :
    w.cell? ⟨g, p, none⟩ = some (.int .u8 (Wd.valI (Wd.bt s p))) := by
  have := hown.cellAt p (by omega)
  rw [this, List.getElem?_map, Wd.valsF_get s n p hp]
  have hv := Wd.valI_bd (Wd.bt s p)
  have e : (((UInt8.ofNat (Wd.valI (Wd.bt s p)).toNat).toNat : Nat) : Int) = Wd.valI (Wd.bt s p) := by simp only [UInt8.toNat_ofNat']; omega
  simp only [Option.map_some, bv, e]
def Wd.good (s : ByteArray) : Prop := s.size ≠ 0 ∧ s.size ≤ 10 ∧ Wd.digs s s.size ∧ (s.size = 1 ∨ Wd.bt s 0 ≠ 48) ∧ Wd.numF s s.size ≤ 1000000000
theorem Wd.numF_bound (s : ByteArray) (k : Nat) (hk : k ≤ 10) (hd : Wd.digs s k) : Wd.numF s k ≤ 9999999999 := by
  have h1 := Wd.numF_lt s k hd
  have h2 : 10 ^ k ≤ 10 ^ 10 := Nat.pow_le_pow_right (by omega) hk
  omega
theorem val_dig (x : Nat) : (0 ≤ Wd.valI x ∧ Wd.valI x < 10) ↔ (48 ≤ x ∧ x ≤ 57) := by
  unfold Wd.valI
  by_cases h2 : 48 ≤ x ∧ x ≤ 57
  · rw [if_pos h2]; omega
  · rw [if_neg h2]
    by_cases h3 : 97 ≤ x ∧ x ≤ 102
    · rw [if_pos h3]; omega
    · rw [if_neg h3]; omega
theorem val_of_dig (x : Nat) (h : 48 ≤ x ∧ x ≤ 57) : Wd.valI x = (x : Int) - 48 := by unfold Wd.valI; rw [if_pos h]
theorem digs_iff (s : ByteArray) (k : Nat) : Wd.digs s k ↔ ∀ p, p < k → Wd.isFig s ((10 : Nat) : Int) p :=
  ⟨fun h p hp => (val_dig _).2 (h p hp), fun h p hp => (val_dig _).1 (h p hp)⟩
theorem implDec_empty (w : World) : Calls Tryd.prog 62 #[.string ⟨#[]⟩] w fun e w' => e = .returned (.tuple #[.int .i64 0, .bool false]) ∧ w' = w := by
  go_enter Tryd.func62, Tryd.ntmps62
  go_wp2
  go_ret2
  exact ⟨rfl, rfl⟩
theorem notEmpty (s : ByteArray) (h : s.size ≠ 0) : s.toList.isEmpty = false := by
  rw [ByteArray.toList_eq]
  cases hl : s.data.toList with
  | nil => exact absurd (by have := congrArg List.length hl; simpa using this) h
  | cons a l => rfl
theorem implDec_long (s : ByteArray) (w : World) (ws : s.size ≤ 1048576) (h : 10 < s.size) :
    Calls Tryd.prog 62 #[.string s] w fun e w' => e = .returned (.tuple #[.int .i64 0, .bool false]) ∧ w' = w := by
  have he := notEmpty s (by omega)
  go_enter Tryd.func62, Tryd.ntmps62
  go_wp2
  go_ret2
  exact ⟨rfl, rfl⟩
theorem implDec_nought (s : ByteArray) (w : World) (h1 : 1 < s.size) (h : s.size ≤ 10) (hb : Wd.bt s 0 = 48) :
    Calls Tryd.prog 62 #[.string s] w fun e w' => e = .returned (.tuple #[.int .i64 0, .bool false]) ∧ w' = w := by
  have he := notEmpty s (by omega)
  have h1' : decide (10 < (s.size : Int)) = false := by simp; omega
  have h0 : 0 < s.size := by omega
  have hbt : (s[0]'h0).toNat = 48 := (Wd.bt_eq s 0 h0).trans hb
  have hl1 : decide (1 < (s.size : Int)) = true := by simp; omega
  clear hb
  go_enter Tryd.func62, Tryd.ntmps62
  go_wp2
  go_ret2
  exact ⟨rfl, rfl⟩
theorem implDec_bad (s : ByteArray) (w : World) (h0 : s.size ≠ 0) (h : s.size ≤ 10) (hb : s.size = 1 ∨ Wd.bt s 0 ≠ 48) (hno : ¬ Wd.digs s s.size) :
    Calls Tryd.prog 62 #[.string s] w fun e w' => e = .returned (.tuple #[.int .i64 0, .bool false]) ∧ Below w.heap.size w w' := by
  have he := notEmpty s h0
  have hpos : 0 < s.size := by omega
  have h1' : decide (10 < (s.size : Int)) = false := by simp; omega
  have H := hide (fun hx => hno ((digs_iff s s.size).2 hx))
  clear hno
  obtain ⟨b, hB, hbt, hb256⟩ : ∃ b : Nat, Hid (Wd.bt s 0 = b) ∧ (s[0]'hpos).toNat = b ∧ b < 256 := ⟨_, rfl, Wd.bt_eq s 0 hpos, Wd.bt_lt s 0⟩
  rw [hB.out] at hb
  by_cases hb48 : b = 48
  · have hb1 : ((b : Int) == 48) = true := by simp; omega
    have hl1 : decide (1 < (s.size : Int)) = false := by simp; omega
    clear hb hb48
    go_enter Tryd.func62, Tryd.ntmps62
    go_wp2_with (go_at_call 74; refine (figs_no s 10 _ (by omega) (by omega) H.out).mono ?_; rintro e w1 ⟨rfl, hb1⟩)
    go_ret2
    exact ⟨rfl, hb1⟩
  · have hb1 : ((b : Int) == 48) = false := by simp; omega
    clear hb hb48
    go_enter Tryd.func62, Tryd.ntmps62
    go_wp2_with (go_at_call 74; refine (figs_no s 10 _ (by omega) (by omega) H.out).mono ?_; rintro e w1 ⟨rfl, hb1⟩)
    go_ret2
    exact ⟨rfl, hb1⟩
def decAns (s : ByteArray) : Value := if Wd.numF s s.size ≤ 1000000000 then .tuple #[.int .i64 (Wd.numF s s.size), .bool true] else .tuple #[.int .i64 0, .bool false]
theorem implDec_loop (s : ByteArray) (w : World) (h0 : s.size ≠ 0) (h : s.size ≤ 10) (hb : s.size = 1 ∨ Wd.bt s 0 ≠ 48) (hd : Wd.digs s s.size) :
    Calls Tryd.prog 62 #[.string s] w fun e w' => e = .returned (decAns s) ∧ Below w.heap.size w w' := by
  have he := notEmpty s h0
  have hpos : 0 < s.size := by omega
  have h1' : decide (10 < (s.size : Int)) = false := by simp; omega
  have HD := hide hd
  have H := hide ((digs_iff s s.size).1 hd)
  clear hd
  obtain ⟨b, hB, hbt, hb256⟩ : ∃ b : Nat, Hid (Wd.bt s 0 = b) ∧ (s[0]'hpos).toNat = b ∧ b < 256 := ⟨_, rfl, Wd.bt_eq s 0 hpos, Wd.bt_lt s 0⟩
  rw [hB.out] at hb
  have hcase : (((b : Int) == 48) = true ∧ decide (1 < (s.size : Int)) = false) ∨ (((b : Int) == 48) = false) := by
    by_cases hb48 : b = 48
    · left; exact ⟨by simp; omega, by simp; omega⟩
    · right; simp; omega
  clear hb
  rcases hcase with ⟨hb1, hl1⟩ | hb1
  all_goals
    go_enter Tryd.func62, Tryd.ntmps62
    go_wp2_with (go_at_call 74; refine (figs_row s 10 _ (by omega) (by omega) H.out).mono ?_; rintro e w1 ⟨a, cap, rfl, HA, hbw⟩)
    go_loop [6, 33] (fun n i => ∃ k M : Nat, k ≤ s.size ∧ i = .int .i64 k ∧ n = .int .i64 M ∧ Hid (Wd.numF s k = M) ∧ M ≤ 9999999999) (fun _ i => s.size - (intOf i).toNat)
    case atStart => exact ⟨0, 0, Nat.zero_le _, rfl, rfl, rfl, by omega⟩
    case round =>
      obtain ⟨k, M, hk, rfl, rfl, HM, hM⟩ := hrel
      by_cases hlt : k < s.size
      · obtain ⟨g, rfl, hg, hrow⟩ := HA.out (by omega)
        have hx := HD.out k hlt
        obtain ⟨y, hY, hy9⟩ : ∃ y : Nat, Hid (Wd.bt s k - 48 = y) ∧ y ≤ 9 := ⟨_, rfl, by omega⟩
        have hcell := vals_cell hrow k hlt (H.out k hlt).1
        rw [val_of_dig _ hx, show ((Wd.bt s k : Nat) : Int) - 48 = (y : Int) from by have := hY.out; omega] at hcell
        clear hx hrow
        have hnum : Wd.numF s (k + 1) = 10 * M + y := by rw [Wd.numF, HM.out, hY.out]
        have hbd := Wd.numF_bound s (k + 1) (by omega) (fun p hp => HD.out p (by omega))
        rw [hnum] at hbd
        have HN := hide hnum
        clear hnum
        go_wp2
        go_round
        case rel => exact ⟨k + 1, 10 * M + y, by omega, by go_num, by go_num, HN, hbd⟩
        case measure => simp [intOf]; omega
      · have hks : Hid (k = s.size) := by show _ = _; omega
        by_cases h5 : M ≤ 1000000000
        · have h5' : decide (1000000000 < (M : Int)) = false := by simp; omega
          have hans : Hid (decAns s = .tuple #[.int .i64 M, .bool true]) := by show _ = _; unfold decAns; rw [← hks.out, HM.out, if_pos h5]
          go_wp2
          go_ret2
          rw [hans.out]
          exact ⟨rfl, hbw⟩
        · have h5' : decide (1000000000 < (M : Int)) = true := by simp; omega
          have hans : Hid (decAns s = .tuple #[.int .i64 0, .bool false]) := by show _ = _; unfold decAns; rw [← hks.out, HM.out, if_neg h5]
          go_wp2
          go_ret2
          rw [hans.out]
          exact ⟨rfl, hbw⟩
theorem implDec_yes (s : ByteArray) (w : World) (hg : Wd.good s) :
    Calls Tryd.prog 62 #[.string s] w fun e w' => e = .returned (.tuple #[.int .i64 (Wd.numF s s.size), .bool true]) ∧ Below w.heap.size w w' := by
  have := implDec_loop s w hg.1 hg.2.1 hg.2.2.2.1 hg.2.2.1
  rw [show decAns s = _ from if_pos hg.2.2.2.2] at this
  exact this
theorem implDec_no (s : ByteArray) (w : World) (ws : s.size ≤ 1048576) (hno : ¬ Wd.good s) :
    Calls Tryd.prog 62 #[.string s] w fun e w' => e = .returned (.tuple #[.int .i64 0, .bool false]) ∧ Below w.heap.size w w' := by
  have still : ∀ {e : Ending} {w' : World}, (e = .returned (.tuple #[.int .i64 0, .bool false]) ∧ w' = w) → (e = .returned (.tuple #[.int .i64 0, .bool false]) ∧ Below w.heap.size w w') := fun ⟨he, hw⟩ => ⟨he, hw ▸ Below.refl _ _⟩
  by_cases h0 : s.size = 0
  · have e0 : s = ⟨#[]⟩ := ByteArray.ext (Array.eq_empty_of_size_eq_zero h0)
    subst e0
    exact (implDec_empty w).mono fun e w' h => still h
  · by_cases h : 10 < s.size
    · exact (implDec_long s w ws h).mono fun e w' h => still h
    · by_cases hb : s.size = 1 ∨ Wd.bt s 0 ≠ 48
      · by_cases hd : Wd.digs s s.size
        · have := implDec_loop s w h0 (by omega) hb hd
          rw [show decAns s = _ from if_neg (fun hn => hno ⟨h0, by omega, hd, hb, hn⟩)] at this
          exact this
        · exact implDec_bad s w h0 (by omega) hb hd
      · exact (implDec_nought s w (by omega) (by omega) (by omega)).mono fun e w' h => still h
end Go.Proofs.YtdefipahgpljeaaDoor
namespace Go.Proofs.YtdefipahgpljeaaDoor
namespace Wd
def splitL : List UInt8 → List UInt8 → List (List UInt8)
  | cur, [] => [cur]
  | cur, b :: r => if b = 32 then cur :: splitL [] r else splitL (cur ++ [b]) r
def wordsL : List UInt8 → List UInt8 → List (List UInt8)
  | cur, [] => if cur = [] then [] else [cur]
  | cur, b :: r => if b = 32 then (if cur = [] then wordsL [] r else cur :: wordsL [] r) else wordsL (cur ++ [b]) r
theorem words_split : ∀ r cur, wordsL cur r = (splitL cur r).filter (fun x => !x.isEmpty)
  | [], cur => by cases cur <;> simp [wordsL, splitL]
  | b :: r, cur => by
    by_cases h : b = 32
    · cases cur with
      | nil => simp [wordsL, splitL, h, words_split r []]
      | cons a l => simp [wordsL, splitL, h, words_split r []]
    · simp [wordsL, splitL, h, words_split r (cur ++ [b])]
theorem splitL_index : ∀ s cur, (Lib.index s [32] = -1 → splitL cur s = [cur ++ s]) ∧ (∀ i : Nat, Lib.index s [32] = i → splitL cur s = (cur ++ s.take i) :: splitL [] (s.drop (i + 1)))
  | [], cur => by
    refine ⟨fun _ => by simp [splitL], fun i h => ?_⟩
    simp [Lib.index] at h
  | b :: l, cur => by
    by_cases h : b = 32
    · subst h
      have e : Lib.index (32 :: l) [32] = 0 := by simp [Lib.index]
      refine ⟨fun h => by rw [e] at h; omega, fun i hi => ?_⟩
      have : i = 0 := by rw [e] at hi; omega
      subst this
      simp [splitL]
    · have hp : ([32] : List UInt8).isPrefixOf (b :: l) = false := by
        have h32 : ((32 : UInt8) == b) = false := by rw [beq_eq_false_iff_ne]; exact fun e => h e.symm
        simp [List.isPrefixOf, h32]
      have e : Lib.index (b :: l) [32] = if Lib.index l [32] == -1 then -1 else Lib.index l [32] + 1 := by
        conv => lhs; unfold Lib.index
        rw [hp]; simp
      have ih := splitL_index l (cur ++ [b])
      have hs : splitL cur (b :: l) = splitL (cur ++ [b]) l := by simp [splitL, h]
      have hge := Lib.index_ge l [32]
      rw [e, hs]
      by_cases hm : Lib.index l [32] = -1
      · rw [if_pos (beq_iff_eq.2 hm)]
        refine ⟨fun _ => by rw [ih.1 hm]; simp, fun i hi => by omega⟩
      · rw [if_neg (fun x => hm (beq_iff_eq.1 x))]
        refine ⟨fun hx => by omega, fun i hi => ?_⟩
        obtain ⟨j, rfl⟩ : ∃ j, i = j + 1 := ⟨i - 1, by omega⟩
        rw [ih.2 j (by omega)]
        simp
theorem splitK_splitL : ∀ k s, Lib.count s [32] = k → Lib.splitK [32] 0 k s = splitL [] s
  | 0, s, h => by
    have hm : Lib.index s [32] = -1 := by
      by_cases hm : Lib.index s [32] = -1
      · exact hm
      · have hge := Lib.index_ge s [32]
        obtain ⟨i, hi⟩ := Int.eq_ofNat_of_zero_le (show 0 ≤ Lib.index s [32] by omega)
        have := Lib.count_hit (i := i) (by simp) hi
        omega
    rw [(splitL_index s []).1 hm]
    simp [Lib.splitK]
  | k + 1, s, h => by
    have hge := Lib.index_ge s [32]
    by_cases hm : Lib.index s [32] = -1
    · have := Lib.count_miss hm; omega
    · obtain ⟨i, hi⟩ := Int.eq_ofNat_of_zero_le (show 0 ≤ Lib.index s [32] by omega)
      have hc := Lib.count_hit (i := i) (by simp) hi
      have ih := splitK_splitL k (s.drop (i + 1)) (by have : ([32] : List UInt8).length = 1 := rfl; rw [this] at hc; omega)
      rw [(splitL_index s []).2 i hi, ← ih]
      conv => lhs; unfold Lib.splitK
      rw [if_neg (fun x => hm (beq_iff_eq.1 x)), hi]
      simp
def words (s : ByteArray) : List (List UInt8) := wordsL [] s.data.toList
theorem words_of_split (s : ByteArray) : words s = ((Lib.splitB ⟨#[32]⟩ 0 (Lib.countB s ⟨#[32]⟩) s).map (·.data.toList)).filter (fun x => !x.isEmpty) := by
  unfold words
  rw [words_split, Lib.splitB_data, ← splitK_splitL _ _ rfl]
end Wd
end Go.Proofs.YtdefipahgpljeaaDoor
namespace Go.Proofs.YtdefipahgpljeaaDoor
open Go.RowKit
def figF (s : ByteArray) : Nat → Nat → Nat
  | 0, i => i
  | f + 1, i => if i < s.size ∧ 48 ≤ Wd.bt s i ∧ Wd.bt s i ≤ 57 then figF s f (i + 1) else i
def figE (s : ByteArray) (i : Nat) : Nat := figF s (s.size - i) i
theorem figE_more {s : ByteArray} {i : Nat} (h : i < s.size) (h1 : 48 ≤ Wd.bt s i) (h2 : Wd.bt s i ≤ 57) : figE s i = figE s (i + 1) := by
  unfold figE
  rw [show s.size - i = (s.size - (i + 1)) + 1 by omega, figF, if_pos ⟨h, h1, h2⟩]
theorem figE_stop {s : ByteArray} {i : Nat} (h : ¬ (i < s.size ∧ 48 ≤ Wd.bt s i ∧ Wd.bt s i ≤ 57)) : figE s i = i := by
  unfold figE
  cases s.size - i with
  | zero => rfl
  | succ f => rw [figF, if_neg h]
theorem figF_ge (s : ByteArray) : ∀ f i, i ≤ figF s f i
  | 0, i => Nat.le_refl _
  | f + 1, i => by
    rw [figF]
    split
    · have := figF_ge s f (i + 1); omega
    · exact Nat.le_refl _
theorem figF_le (s : ByteArray) : ∀ f i, i ≤ s.size → figF s f i ≤ s.size
  | 0, i, h => h
  | f + 1, i, h => by
    rw [figF]
    split
    · rename_i h2; exact figF_le s f (i + 1) (by omega)
    · exact h
theorem figF_digs (s : ByteArray) : ∀ f i p, i ≤ p → p < figF s f i → 48 ≤ Wd.bt s p ∧ Wd.bt s p ≤ 57
  | 0, i, p, h1, h2 => by rw [figF] at h2; omega
  | f + 1, i, p, h1, h2 => by
    rw [figF] at h2
    split at h2
    · rename_i h3
      by_cases e : p = i
      · subst e; exact h3.2
      · exact figF_digs s f (i + 1) p (by omega) h2
    · omega
theorem figE_ge (s : ByteArray) (i : Nat) : i ≤ figE s i := figF_ge _ _ _
theorem figE_le (s : ByteArray) (i : Nat) (h : i ≤ s.size) : figE s i ≤ s.size := figF_le _ _ _ h
theorem figE_digs (s : ByteArray) (i p : Nat) (h1 : i ≤ p) (h2 : p < figE s i) : 48 ≤ Wd.bt s p ∧ Wd.bt s p ≤ 57 := figF_digs _ _ _ _ h1 h2
theorem bt_cut (s : ByteArray) (a b p : Nat) (h : p < b - a) (hb : b ≤ s.size) : Wd.bt (s.extract a b) p = Wd.bt s (a + p) := by
  have h1 : p < (s.extract a b).size := by rw [ByteArray.size_extract]; omega
  have h2 : a + p < s.size := by omega
  rw [← Wd.bt_eq _ _ h1, ← Wd.bt_eq _ _ h2, ByteArray.getElem_extract]
def numTx (s : ByteArray) (i : Nat) : ByteArray := s.extract i (figE s i)
def numV (s : ByteArray) (i : Nat) : Nat := Wd.numF (numTx s i) (numTx s i).size
def numOk (s : ByteArray) (i lim : Nat) : Prop := (numTx s i).size ≠ 0 ∧ (numTx s i).size ≤ 3 ∧ ((numTx s i).size = 1 ∨ Wd.bt (numTx s i) 0 ≠ 48) ∧ numV s i ≤ lim
instance (s : ByteArray) (i lim : Nat) : Decidable (numOk s i lim) := by unfold numOk; infer_instance
theorem numTx_size (s : ByteArray) (i : Nat) (h : i ≤ s.size) : (numTx s i).size = figE s i - i := by
  have := figE_le s i h
  unfold numTx
  rw [ByteArray.size_extract]
  omega
theorem numTx_digs (s : ByteArray) (i : Nat) (h : i ≤ s.size) : Wd.digs (numTx s i) (numTx s i).size := by
  intro p hp
  rw [numTx_size s i h] at hp
  unfold numTx
  rw [bt_cut s i _ p hp (figE_le s i h)]
  exact figE_digs s i _ (by omega) (by omega)
theorem numF_ge (s : ByteArray) (h0 : Wd.bt s 0 ≠ 48) : ∀ k, Wd.digs s (k + 1) → 10 ^ k ≤ Wd.numF s (k + 1)
  | 0, h => by have := h 0 (by omega); simp [Wd.numF]; omega
  | k + 1, h => by
    have ih := numF_ge s h0 k (fun p hp => h p (by omega))
    rw [Wd.numF, Nat.pow_succ]
    omega
theorem num_good {s : ByteArray} {i : Nat} (h : i ≤ s.size) (h1 : (numTx s i).size ≠ 0) (h2 : (numTx s i).size ≤ 3) (h3 : (numTx s i).size = 1 ∨ Wd.bt (numTx s i) 0 ≠ 48) : Wd.good (numTx s i) ∧ numV s i ≤ 999 := by
  have hd := numTx_digs s i h
  have hl := Wd.numF_lt _ _ hd
  have h4 : 10 ^ (numTx s i).size ≤ 10 ^ 3 := Nat.pow_le_pow_right (by omega) h2
  have h5 : Wd.numF (numTx s i) (numTx s i).size ≤ 999 := by omega
  exact ⟨⟨h1, by omega, hd, h3, by omega⟩, h5⟩
theorem numOk_good {s : ByteArray} {i lim : Nat} (h : i ≤ s.size) (hk : numOk s i lim) : Wd.good (numTx s i) := (num_good h hk.1 hk.2.1 hk.2.2.1).1
theorem num_long {s : ByteArray} {i : Nat} (h : i ≤ s.size) (h1 : 3 < (numTx s i).size) (h3 : (numTx s i).size = 1 ∨ Wd.bt (numTx s i) 0 ≠ 48) : 1000 ≤ numV s i := by
  have hd := numTx_digs s i h
  unfold numV
  obtain ⟨k, hk⟩ : ∃ k, (numTx s i).size = k + 1 := ⟨(numTx s i).size - 1, by omega⟩
  rw [hk] at hd h1 ⊢
  have := numF_ge _ (by rcases h3 with h3 | h3; · omega
                        · exact h3) k hd
  have h4 : 10 ^ 3 ≤ 10 ^ k := Nat.pow_le_pow_right (by omega) (by omega)
  omega
theorem num_bad {s : ByteArray} {i lim : Nat} (h : i ≤ s.size) (hl : lim ≤ 999) (hk : ¬ numOk s i lim) (hg : Wd.good (numTx s i)) : lim < numV s i := by
  rcases Nat.lt_or_ge lim (numV s i) with h1 | h1
  · exact h1
  · refine absurd ⟨hg.1, ?_, hg.2.2.2.1, h1⟩ hk
    rcases Nat.lt_or_ge 3 (numTx s i).size with h2 | h2
    · have := num_long h h2 hg.2.2.2.1
      omega
    · exact h2
def crlf (s : ByteArray) (j : Nat) : Nat := if s.size ≤ j then 0 else if Wd.bt s j ≠ 13 then 2 else if s.size ≤ j + 1 then 0 else if Wd.bt s (j + 1) ≠ 10 then 2 else 1
def headSt (s : ByteArray) (i lim : Nat) : Nat := if s.size ≤ i then 0 else if numOk s i lim then crlf s (figE s i) else 2
theorem crlf_le (s : ByteArray) (j : Nat) : crlf s j ≤ 2 := by
  unfold crlf
  repeat (first | split | omega)
theorem crlf_yes {s : ByteArray} {j : Nat} (h : crlf s j = 1) : j + 1 < s.size ∧ Wd.bt s j = 13 ∧ Wd.bt s (j + 1) = 10 := by
  unfold crlf at h
  split at h
  · cases h
  split at h
  · cases h
  split at h
  · cases h
  split at h
  · cases h
  · rename_i h1 h2 h3 h4
    exact ⟨by omega, by omega, by omega⟩
theorem headSt_le (s : ByteArray) (i lim : Nat) : headSt s i lim ≤ 2 := by
  unfold headSt
  split
  · omega
  split
  · exact crlf_le _ _
  · omega
theorem headSt_yes {s : ByteArray} {i lim : Nat} (h : headSt s i lim = 1) : i < s.size ∧ numOk s i lim ∧ crlf s (figE s i) = 1 ∧ figE s i + 2 ≤ s.size := by
  unfold headSt at h
  split at h
  · cases h
  split at h
  · rename_i h1 h2
    have := crlf_yes h
    exact ⟨by omega, h2, h, by omega⟩
  · cases h
def rdArgs (s : ByteArray) : Nat → Nat → List ByteArray → Nat × Nat × List ByteArray
  | 0, i, acc => (1, i, acc)
  | c + 1, i, acc =>
    if s.size ≤ i then (0, 0, []) else if Wd.bt s i ≠ 36 then (2, 0, []) else if headSt s (i + 1) 60 ≠ 1 then (headSt s (i + 1) 60, 0, [])
    else if s.size < figE s (i + 1) + 2 + numV s (i + 1) then (0, 0, []) else if crlf s (figE s (i + 1) + 2 + numV s (i + 1)) ≠ 1 then (crlf s (figE s (i + 1) + 2 + numV s (i + 1)), 0, [])
    else rdArgs s c (figE s (i + 1) + 2 + numV s (i + 1) + 2) (acc ++ [s.extract (figE s (i + 1) + 2) (figE s (i + 1) + 2 + numV s (i + 1))])
def lfL : List UInt8 → Nat
  | [] => 0
  | b :: r => if b = 10 then 0 else lfL r + 1
def lfE (s : ByteArray) : Nat := lfL s.data.toList
theorem lfL_le : ∀ l, lfL l ≤ l.length
  | [] => Nat.le_refl _
  | b :: r => by
    rw [lfL]
    split
    · simp
    · have := lfL_le r; simp; omega
theorem lfE_le (s : ByteArray) : lfE s ≤ s.size := by
  have := lfL_le s.data.toList
  unfold lfE
  rw [Array.length_toList] at this
  exact this
theorem lf_index : ∀ l, (lfL l = l.length → Lib.index l [10] = -1) ∧ (lfL l < l.length → Lib.index l [10] = (lfL l : Int))
  | [] => by simp [lfL, Lib.index]
  | b :: r => by
    have ih := lf_index r
    by_cases h : b = 10
    · subst h
      simp [lfL, Lib.index]
    · have hp : ([10] : List UInt8).isPrefixOf (b :: r) = false := by
        have h10 : ((10 : UInt8) == b) = false := by rw [beq_eq_false_iff_ne]; exact fun e => h e.symm
        simp [List.isPrefixOf, h10]
      have e : Lib.index (b :: r) [10] = if Lib.index r [10] == -1 then -1 else Lib.index r [10] + 1 := by
        conv => lhs; unfold Lib.index
        rw [hp]; simp
      rw [e, lfL, if_neg h]
      simp only [List.length_cons]
      refine ⟨fun h1 => ?_, fun h1 => ?_⟩
      · rw [if_pos (beq_iff_eq.2 (ih.1 (by omega)))]
      · have h2 := ih.2 (by omega)
        rw [if_neg (fun x => by have := beq_iff_eq.1 x; omega), h2]
        omega
theorem lf_cut (s : ByteArray) : Lib.cut s.data.toList [10] = if lfE s < s.size then ((s.extract 0 (lfE s)).data.toList, s.data.toList.drop (lfE s + 1), true) else (s.data.toList, [], false) := by
  have h := lf_index s.data.toList
  have hl : s.data.toList.length = s.size := Array.length_toList
  unfold Lib.cut
  by_cases h1 : lfE s < s.size
  · have h2 : Lib.index s.data.toList [10] = (lfE s : Int) := h.2 (by rw [hl]; exact h1)
    rw [if_pos (by omega), if_pos h1, h2, Int.toNat_natCast, Lib.extract_data]
    simp
  · have h2 : Lib.index s.data.toList [10] = -1 := h.1 (by have := lfE_le s; unfold lfE at h1 this; omega)
    rw [if_neg (by omega), if_neg h1]
def lineTx (s : ByteArray) : ByteArray := if Lib.hasSuffix (s.extract 0 (lfE s)).data.toList [13] = true then (s.extract 0 (lfE s)).extract 0 ((s.extract 0 (lfE s)).size - 1) else s.extract 0 (lfE s)
theorem lineTx_size (s : ByteArray) : (lineTx s).size ≤ lfE s := by
  have h := lfE_le s
  unfold lineTx
  split <;> simp only [ByteArray.size_extract] <;> omega
def lineWs (s : ByteArray) : List (List UInt8) := Wd.words (lineTx s)
def lineOk (s : ByteArray) : Bool := decide ((lineWs s).length ≤ 8) && (lineWs s).all (fun x => decide (x.length ≤ 60))
def tx (l : List UInt8) : ByteArray := ⟨l.toArray⟩
def lineRq (s : ByteArray) : Nat × Nat × List ByteArray := if 80 < lfE s then (2, 0, []) else if s.size ≤ lfE s then (0, 0, []) else if lineOk s = true then (1, lfE s + 1, (lineWs s).map tx) else (2, 0, [])
def parse (s : ByteArray) : Nat × Nat × List ByteArray :=
  if s.size = 0 then (0, 0, []) else if Wd.bt s 0 ≠ 42 then lineRq s else if headSt s 1 8 = 1 then rdArgs s (numV s 1) (figE s 1 + 2) [] else (headSt s 1 8, 0, [])
theorem rdArgs_facts (s : ByteArray) : ∀ c i acc, i ≤ s.size → (rdArgs s c i acc).1 ≤ 2 ∧ (rdArgs s c i acc).2.1 ≤ s.size ∧ (rdArgs s c i acc).2.2.length ≤ acc.length + c ∧ ((rdArgs s c i acc).1 ≠ 1 → (rdArgs s c i acc).2 = (0, [])) ∧ ((rdArgs s c i acc).1 = 1 → i ≤ (rdArgs s c i acc).2.1)
  | 0, i, acc, h => ⟨by simp [rdArgs], h, by simp [rdArgs], fun hx => absurd rfl hx, fun _ => Nat.le_refl _⟩
  | c + 1, i, acc, h => by
    rw [rdArgs]
    split
    · exact ⟨by simp, by simp, by simp, fun _ => rfl, fun h => by cases h⟩
    split
    · exact ⟨by simp, by simp, by simp, fun _ => rfl, fun h => by cases h⟩
    split
    · rename_i h3; exact ⟨headSt_le _ _ _, by simp, by simp, fun _ => rfl, fun h => absurd h h3⟩
    split
    · exact ⟨by simp, by simp, by simp, fun _ => rfl, fun h => by cases h⟩
    split
    · rename_i h5; exact ⟨crlf_le _ _, by simp, by simp, fun _ => rfl, fun h => absurd h h5⟩
    · rename_i h1 h2 h3 h4 h5
      have h6 := crlf_yes (Decidable.not_not.1 h5)
      have ih := rdArgs_facts s c (figE s (i + 1) + 2 + numV s (i + 1) + 2) (acc ++ [s.extract (figE s (i + 1) + 2) (figE s (i + 1) + 2 + numV s (i + 1))]) (by omega)
      refine ⟨ih.1, ih.2.1, ?_, ih.2.2.2.1, fun h => ?_⟩
      · have := ih.2.2.1
        simp only [List.length_append, List.length_cons, List.length_nil] at this
        omega
      · have := ih.2.2.2.2 h
        have := figE_ge s (i + 1)
        omega
theorem parse_facts (s : ByteArray) : (parse s).1 ≤ 2 ∧ (parse s).2.1 ≤ s.size ∧ (parse s).2.2.length ≤ 8 ∧ ((parse s).1 ≠ 1 → (parse s).2 = (0, [])) ∧ ((parse s).1 = 1 → 0 < (parse s).2.1) := by
  unfold parse
  split
  · exact ⟨by simp, by simp, by simp, fun _ => rfl, fun h => by cases h⟩
  split
  · unfold lineRq
    split
    · exact ⟨by simp, by simp, by simp, fun _ => rfl, fun h => by cases h⟩
    split
    · exact ⟨by simp, by simp, by simp, fun _ => rfl, fun h => by cases h⟩
    split
    · rename_i h1 h2 h3 h4 h5
      have h6 : (lineWs s).length ≤ 8 := by unfold lineOk at h5; simp at h5; exact h5.1
      exact ⟨by simp, by show lfE s + 1 ≤ s.size; omega, by simpa using h6, fun h => absurd rfl h, fun _ => Nat.succ_pos _⟩
    · exact ⟨by simp, by simp, by simp, fun _ => rfl, fun h => by cases h⟩
  split
  · rename_i h1 h2 h3
    have h4 := headSt_yes h3
    have h5 := rdArgs_facts s (numV s 1) (figE s 1 + 2) [] h4.2.2.2
    have h6 := h4.2.1.2.2.2
    refine ⟨h5.1, h5.2.1, ?_, h5.2.2.2.1, fun h => ?_⟩
    · have := h5.2.2.1; simp only [List.length_nil] at this; omega
    · have := h5.2.2.2.2 h; omega
  · rename_i h3; exact ⟨headSt_le _ _ _, by simp, by simp, fun _ => rfl, fun h => absurd h h3⟩
theorem cut_at (s : ByteArray) (a b : Nat) (ai bi : Int) (R : ByteArray) (ha : ai = a) (hb : bi = b) (h1 : a ≤ b) (h2 : b ≤ s.size) (hR : s.extract a b = R) :
    ∀ W : World, (Instr.slice 9 (.string s) (some (.int .i64 ai)) (some (.int .i64 bi)) none).run Tryd.prog W = .ok (.string R) W := by
  intro W
  subst ha hb hR
  have := run_slice_string (P := Tryd.prog) W 9 s .i64 .i64 (a : Int) (b : Int) Tryd.underlying9 (by omega) (by omega) (by omega)
  rw [this, Int.toNat_natCast, Int.toNat_natCast]
theorem crlf_end {s : ByteArray} {j : Nat} (h : s.size ≤ j) : crlf s j = 0 := by unfold crlf; rw [if_pos h]
theorem crlf_cr {s : ByteArray} {j : Nat} (h : j < s.size) (hc : Wd.bt s j ≠ 13) : crlf s j = 2 := by unfold crlf; rw [if_neg (by omega), if_pos hc]
theorem crlf_end2 {s : ByteArray} {j : Nat} (h : j < s.size) (hc : Wd.bt s j = 13) (h2 : s.size ≤ j + 1) : crlf s j = 0 := by unfold crlf; rw [if_neg (by omega), if_neg (by omega), if_pos h2]
theorem crlf_lf {s : ByteArray} {j : Nat} (hc : Wd.bt s j = 13) (h2 : j + 1 < s.size) (hl : Wd.bt s (j + 1) ≠ 10) : crlf s j = 2 := by unfold crlf; rw [if_neg (by omega), if_neg (by omega), if_neg (by omega), if_pos hl]
theorem crlf_is {s : ByteArray} {j : Nat} (hc : Wd.bt s j = 13) (h2 : j + 1 < s.size) (hl : Wd.bt s (j + 1) = 10) : crlf s j = 1 := by unfold crlf; rw [if_neg (by omega), if_neg (by omega), if_neg (by omega), if_neg (by omega)]
end Go.Proofs.YtdefipahgpljeaaDoor
