/- What each byte of a text stands for: the program's reader of figures. -/
import Derived.Test.YtdefipahgpljeaaDoorHex
import Derived.Deep.LoopGhost
import Derived.WalkMore
import Derived.WalkSmall
namespace Go.Proofs.YtdefipahgpljeaaDoor
open Go.RowKit

/-- What the reader of figures leaves. -/
def FigsLeft (s : ByteArray) (c : Int) (w : World) (e : Ending) (w' : World) : Prop :=
  Below w.heap.size w w' ∧ (((∀ p, p < s.size → Wd.isFig s c p) ∧ ∃ v, e = .returned (.tuple #[v, .bool true]) ∧ w'.ownsRow w.heap.size 5 1 v (Wd.valsF s s.size).length ((Wd.valsF s s.size).map bv)) ∨
    ((∃ p, p < s.size ∧ ¬ Wd.isFig s c p) ∧ e = .returned (.tuple #[.slice none 0 0, .bool false])))

theorem figs_run64 (z : Nat) (h1 : z < 16) : ∀ W : World, (Instr.index 9 (.string ⟨#[48, 49, 50, 51, 52, 53, 54, 55, 56, 57, 97, 98, 99, 100, 101, 102]⟩) (.int .i64 (z : Int))).run Tryd.prog W = .ok (.int .u8 (Wd.figI (z : Int))) W := by
  intro W
  have hs : (hexFig.size : Int) = 16 := rfl
  have := run_index_string W 9 hexFig .i64 (z : Int) Tryd.underlying9
  rw [dif_pos ⟨by omega, by omega⟩] at this
  refine this.trans ?_
  exact congrArg (fun z => Result.ok (Value.int .u8 z) W) (hexFig_at z (by omega))

set_option maxRecDepth 100000 in
set_option maxHeartbeats 1000000 in
theorem figs_any (s : ByteArray) (c : Nat) (w : World) (hs : s.size ≤ 40000) (hc : c ≤ 16) :
    Calls Tryd.prog 74 #[.string s, .int .i64 c] w (FigsLeft s c w) := by
  obtain ⟨i0, hi, hz0, hz1, hz2⟩ := info_parts Tryd.info5
  go_enter Tryd.func74, Tryd.ntmps74
  go_wp2
  go_step3
  go_wp2_with (at_make; refine wpList_make_own _ rfl _ _ 22 rfl w.heap.size 5 i0 (.int .u8 0) 1 Tryd.underlying22 hi hz0 hz1 _ _ _ s.size rfl rfl (by omega) (by rw [hz2]; omega) (by unfold maxLen; omega) (Nat.le_refl _) ?_; intro w0 hown0 hgrow0)
  have hb0 : Below w.heap.size w w0 := (Below.refl _ _).grown hgrow0 (Nat.le_refl _) (fun k hk => by cases hk)
  clear hgrow0
  go_step3
  go_wp2
  go_loopg [6, 14] s.size (fun g s6 s14 wx => ∃ k : Nat, k + g = s.size ∧ s14 = .int .i64 k ∧ wx.ownsRow w.heap.size 5 1 s6 (Wd.valsF s k).length ((Wd.valsF s k).map bv) ∧ Aside (∀ p, p < k → Wd.isFig s c p) ∧ Below w.heap.size w wx)
  case atStart => exact ⟨0, by omega, rfl, hown0, fun p hp => absurd hp (by omega), hb0⟩
  case round =>
    obtain ⟨k, hkg, rfl, hown, HI, hb⟩ := hrel
    have hbs := hb.size
    clear hown0 hb0
    cases gk with
    | zero =>
      have hkz : ¬ ((k : Int) < (s.size : Int)) := by omega
      have hk : Aside (k = s.size) := by show k = s.size; omega
      go_wp2
      try rw [Exit.noGoto_ret]
      go_ret2
      refine ⟨hb, .inl ⟨fun p hp => HI.out p (by have := hk.out; omega), u6, rfl, ?_⟩⟩
      rw [← hk.out]
      exact hown
    | succ g =>
      have hkz : (k : Int) < (s.size : Int) := by omega
      have hlt : k < s.size := by omega
      obtain ⟨b, hB, hbt, hb256⟩ : ∃ b : Nat, Hid (Wd.bt s k = b) ∧ (s[k]'hlt).toNat = b ∧ b < 256 := ⟨_, rfl, Wd.bt_eq s k hlt, Wd.bt_lt s k⟩
      have hvb := Wd.valI_bd b
      go_wp2
      go_loopg [6, 18] c (fun g2 s6 s18 wy => ∃ j : Nat, j + g2 = c ∧ s18 = .int .i64 j ∧ s6 = u6 ∧ wy.ownsRow w.heap.size 5 1 u6 (Wd.valsF s k).length ((Wd.valsF s k).map bv) ∧ Below w.heap.size w wy ∧ Aside (Wd.valI b < 0 ∨ (j : Int) ≤ Wd.valI b))
      case atStart => exact ⟨0, by omega, rfl, rfl, hown, hb, by show _ ∨ _; omega⟩
      case round =>
        obtain ⟨j, hjg, rfl, rfl, hown2, hb2, HJ⟩ := hrel
        have hbs2 := hb2.size
        clear hown hb
        cases gk with
        | zero =>
          have hjz : ¬ ((j : Int) < (c : Int)) := by omega
          have hno : Aside (¬ Wd.isFig s c k) := by
            intro h
            have h1 := h.1
            have h2 := h.2
            rw [hB.out] at h1 h2
            have := HJ.out
            omega
          clear hvb
          go_wp2
          try rw [Exit.noGoto_ret]
          go_ret2
          exact ⟨hb2, .inr ⟨⟨k, hlt, hno.out⟩, rfl⟩⟩
        | succ g2 =>
          have hjz : (j : Int) < (c : Int) := by omega
          have hf := figs_run64 j (by omega)
          have hit := Wd.valI_iff b j (by omega)
          have hfb := Wd.figI_bd j (by omega) (by omega)
          by_cases hv : Wd.valI b = (j : Int)
          · have ht : (Wd.figI (j : Int) == (b : Int)) = true := beq_iff_eq.2 (hit.2 hv)
            have HV := hide hv
            have hC : Hid ((#[.int .u8 (j : Int)] : Array Value).toList = [UInt8.ofNat j].map bv) := by
              have : ((UInt8.ofNat j).toNat : Int) = (j : Int) := by simp only [UInt8.toNat_ofNat']; omega
              simp only [Hid, bv, List.map_cons, List.map_nil, this]
            have hlen : (Wd.valsF s k).length + [UInt8.ofNat j].length ≤ 70368744177664 := by rw [Wd.valsF_length]; simp; omega
            clear hit hv hvb
            go_wp2
            go_quiet (fail)
            go_wp2_with (at_builtin; refine app_bytes (wr.drewN nq) 22 5 Tryd.underlying22 Tryd.info5 w w.heap.size rfl _ _ rfl _ (Wd.valsF s k) [UInt8.ofNat j] rfl (ownsRow_drewN hown2 nq) rfl hC.out hlen (below_drewN hb2 nq) hbs2 ?_; intro v' w1 hown1 hb1 hs1)
            go_roundg g
            case measure => omega
            case rel =>
              refine ⟨k + 1, by omega, by go_num, ?_, ?_, hb1⟩
              · rw [show Wd.valsF s (k + 1) = Wd.valsF s k ++ [UInt8.ofNat j] from by
                  show Wd.valsF s k ++ [UInt8.ofNat (Wd.valI (Wd.bt s k)).toNat] = _
                  rw [hB.out, HV.out, Int.toNat_natCast]]
                exact hown1
              · intro p hp
                by_cases h : p < k
                · exact HI.out p h
                · have : p = k := by omega
                  subst this
                  show 0 ≤ Wd.valI (Wd.bt s p) ∧ Wd.valI (Wd.bt s p) < c
                  rw [hB.out, HV.out]
                  omega
          · have ht : (Wd.figI (j : Int) == (b : Int)) = false := by rw [beq_eq_false_iff_ne]; exact fun h => hv (hit.1 h)
            clear hit
            go_wp2
            go_quiet (fail)
            go_wp2
            go_roundg g2
            case measure => omega
            case rel => exact ⟨j + 1, by omega, by go_num, rfl, ownsRow_drewN hown2 nq, below_drewN hb2 nq, by have := HJ.out; show _ ∨ _; omega⟩
end Go.Proofs.YtdefipahgpljeaaDoor
