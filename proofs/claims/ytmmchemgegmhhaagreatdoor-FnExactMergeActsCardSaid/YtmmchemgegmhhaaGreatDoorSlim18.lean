import Derived.Deep.LoopGhost
import Derived.WalkMore
import Derived.WalkSmall
import Derived.Test.YtmmchemgegmhhaaGreatDoorSlim0
import Derived.Test.YtmmchemgegmhhaaGreatDoorSlim16
set_option maxRecDepth 100000
set_option maxHeartbeats 1000000
namespace Go.Proofs.YtmmchemgegmhhaaGreatDoor
open Go.RowKit
def Wd.good (s : ByteArray) : Prop := s.size ≠ 0 ∧ s.size ≤ 10 ∧ Wd.digs s s.size ∧ (s.size = 1 ∨ Wd.bt s 0 ≠ 48) ∧ Wd.numF s s.size ≤ 1000000000
theorem Wd.numF_bound (s : ByteArray) (k : Nat) (hk : k ≤ 10) (hd : Wd.digs s k) : Wd.numF s k ≤ 9999999999 := by
  have h1 := Wd.numF_lt s k hd
  have h2 : 10 ^ k ≤ 10 ^ 10 := Nat.pow_le_pow_right (by omega) hk
  omega
theorem digs_more {s : ByteArray} {k b : Nat} (HI : Wd.digs s k) (hB : Wd.bt s k = b) (h1 : 48 ≤ b) (h2 : b ≤ 57) : Wd.digs s (k + 1) := by
  intro p hp
  by_cases h : p < k
  · exact HI p h
  · have : p = k := by omega
    subst this
    omega
theorem specDec_long (s : ByteArray) (w : World) (ws : s.size ≤ 1048576) (h : 10 < s.size) :
    Calls Tryz.prog 189 #[.string s] w fun e w' => e = .returned (.tuple #[.int .i64 0, .bool false]) ∧ w' = w := by
  go_enter Tryz.func189, Tryz.ntmps189
  go_wp2
  go_ret2
  exact ⟨rfl, rfl⟩
theorem dec_test (s : ByteArray) (k M : Nat) (hk : k = s.size) (hd : Wd.digs s k) (h10 : s.size ≤ 10) (hM : Wd.numF s k = M) :
    (Wd.decS (M : Int) == s.toList) = decide (s.size ≠ 0 ∧ (s.size = 1 ∨ Wd.bt s 0 ≠ 48)) := by
  subst hk hM
  rw [Bool.eq_iff_iff, beq_iff_eq, decide_eq_true_iff, ByteArray.toList_eq]
  exact Wd.dec_canon s hd h10
theorem specDec_in (s : ByteArray) (w : World) (h : s.size ≤ 10) :
    Calls Tryz.prog 189 #[.string s] w fun e w' => Below w.heap.size w w' ∧ ((Wd.good s ∧ e = .returned (.tuple #[.int .i64 (Wd.numF s s.size), .bool true])) ∨ (¬ Wd.good s ∧ e = .returned (.tuple #[.int .i64 0, .bool false]))) := by
  have h1' : decide (10 < (s.size : Int)) = false := by simp; omega
  go_enter Tryz.func189, Tryz.ntmps189
  go_wp2
  go_loop [4, 5] (fun n i => ∃ k M : Nat, k ≤ s.size ∧ i = .int .i64 k ∧ n = .int .i64 M ∧ Hid (Wd.numF s k = M) ∧ Hid (Wd.digs s k) ∧ M ≤ 9999999999) (fun _ i => s.size - (intOf i).toNat)
  case atStart => exact ⟨0, 0, Nat.zero_le _, rfl, rfl, rfl, fun p hp => absurd hp (by omega), by omega⟩
  case round =>
    obtain ⟨k, M, hk, rfl, rfl, HM, HI, hM⟩ := hrel
    by_cases hlt : k < s.size
    · obtain ⟨b, hB, hbt, hb256⟩ : ∃ b : Nat, Hid (Wd.bt s k = b) ∧ (s[k]'hlt).toNat = b ∧ b < 256 := ⟨_, rfl, Wd.bt_eq s k hlt, Wd.bt_lt s k⟩
      by_cases h3 : b < 48
      · have h3' : decide ((b : Int) < 48) = true := by simp; omega
        have hno : Hid (¬ Wd.good s) := fun hg => by have := (hg.2.2.1 k hlt).1; rw [hB.out] at this; omega
        go_wp2
        go_ret2
        exact ⟨Below.refl _ _, .inr ⟨hno.out, rfl⟩⟩
      · have h3' : decide ((b : Int) < 48) = false := by simp; omega
        by_cases h4 : 57 < b
        · have h4' : decide (57 < (b : Int)) = true := by simp; omega
          have hno : Hid (¬ Wd.good s) := fun hg => by have := (hg.2.2.1 k hlt).2; rw [hB.out] at this; omega
          go_wp2
          go_ret2
          exact ⟨Below.refl _ _, .inr ⟨hno.out, rfl⟩⟩
        · have h4' : decide (57 < (b : Int)) = false := by simp; omega
          have hd' := hide (digs_more HI.out hB.out (by omega) (by omega))
          have hbd := Wd.numF_bound s (k + 1) (by omega) hd'.out
          have hnum : Wd.numF s (k + 1) = 10 * M + (b - 48) := by rw [Wd.numF, HM.out, hB.out]
          rw [hnum] at hbd
          have HN := hide hnum
          clear hnum
          go_wp2
          go_round
          case rel => exact ⟨k + 1, 10 * M + (b - 48), by omega, by go_num, by go_num, HN, hd', hbd⟩
          case measure => simp [intOf]; omega
    · have hks : Hid (k = s.size) := by show _ = _; omega
      by_cases h5 : M ≤ 1000000000
      · have h5' : decide (1000000000 < (M : Int)) = false := by simp; omega
        have ht := dec_test s k M hks.out HI.out h HM.out
        by_cases h6 : s.size ≠ 0 ∧ (s.size = 1 ∨ Wd.bt s 0 ≠ 48)
        · rw [decide_eq_true h6] at ht
          have hg : Hid (Wd.good s ∧ Wd.numF s s.size = M) := ⟨⟨h6.1, h, by rw [← hks.out]; exact HI.out, h6.2, by rw [← hks.out, HM.out]; exact h5⟩, by rw [← hks.out]; exact HM.out⟩
          clear h6
          go_wp2_with (go_at_call 88; refine (decimal_any _ _ (by omega) (by omega)).mono ?_; rintro e w1 ⟨rfl, hb1⟩)
          go_ret2
          refine ⟨hb1, .inl ⟨hg.out.1, ?_⟩⟩
          rw [hg.out.2]
          rfl
        · rw [decide_eq_false h6] at ht
          have hno : Hid (¬ Wd.good s) := fun hg => h6 ⟨hg.1, hg.2.2.2.1⟩
          clear h6
          go_wp2_with (go_at_call 88; refine (decimal_any _ _ (by omega) (by omega)).mono ?_; rintro e w1 ⟨rfl, hb1⟩)
          go_ret2
          exact ⟨hb1, .inr ⟨hno.out, rfl⟩⟩
      · have h5' : decide (1000000000 < (M : Int)) = true := by simp; omega
        have hno : Hid (¬ Wd.good s) := fun hg => by have := hg.2.2.2.2; rw [← hks.out, HM.out] at this; omega
        go_wp2
        go_ret2
        exact ⟨Below.refl _ _, .inr ⟨hno.out, rfl⟩⟩
theorem specDec_yes (s : ByteArray) (w : World) (hg : Wd.good s) :
    Calls Tryz.prog 189 #[.string s] w fun e w' => e = .returned (.tuple #[.int .i64 (Wd.numF s s.size), .bool true]) ∧ Below w.heap.size w w' := by
  refine (specDec_in s w hg.2.1).mono ?_
  rintro e w' ⟨hb, ⟨_, he⟩ | ⟨hno, _⟩⟩
  · exact ⟨he, hb⟩
  · exact absurd hg hno
theorem specDec_no (s : ByteArray) (w : World) (ws : s.size ≤ 1048576) (hno : ¬ Wd.good s) :
    Calls Tryz.prog 189 #[.string s] w fun e w' => e = .returned (.tuple #[.int .i64 0, .bool false]) ∧ Below w.heap.size w w' := by
  by_cases h : 10 < s.size
  · exact (specDec_long s w ws h).mono fun e w' ⟨he, hw⟩ => ⟨he, hw ▸ Below.refl _ _⟩
  · refine (specDec_in s w (by omega)).mono ?_
    rintro e w' ⟨hb, ⟨hg, _⟩ | ⟨_, he⟩⟩
    · exact absurd hg hno
    · exact ⟨he, hb⟩
def chk100 (k : Nat) : Bool := match Wd.decS (k : Int) with
  | [a] => decide (48 ≤ a.toNat) && (decide (a.toNat ≤ 57) && decide (a.toNat - 48 = k))
  | [a, b] => decide (49 ≤ a.toNat) && (decide (a.toNat ≤ 57) && (decide (48 ≤ b.toNat) && (decide (b.toNat ≤ 57) && decide ((a.toNat - 48) * 10 + (b.toNat - 48) = k))))
  | _ => false
theorem chk100_all : (List.range 100).all chk100 = true := by kernel_rfl
theorem dec_small (k : Nat) (h : k < 100) : Wd.good ⟨(Wd.decS (k : Int)).toArray⟩ ∧ Wd.numF ⟨(Wd.decS (k : Int)).toArray⟩ (⟨(Wd.decS (k : Int)).toArray⟩ : ByteArray).size = k := by
  have hc := List.all_eq_true.1 chk100_all k (List.mem_range.2 h)
  unfold chk100 at hc
  split at hc
  · rename_i a he
    rw [he]
    simp only [Bool.and_eq_true, decide_eq_true_eq] at hc
    have b0 : Wd.bt ⟨#[a]⟩ 0 = a.toNat := bt_list [a] 0 (by simp)
    have hs : (⟨#[a]⟩ : ByteArray).size = 1 := rfl
    have hn : Wd.numF ⟨#[a]⟩ 1 = k := by rw [Wd.numF, Wd.numF, b0]; omega
    refine ⟨⟨by rw [hs]; omega, by rw [hs]; omega, ?_, .inl hs, by rw [hs, hn]; omega⟩, by rw [hs]; exact hn⟩
    intro p hp
    have : p = 0 := by rw [hs] at hp; omega
    subst this
    rw [b0]
    omega
  · rename_i a b he
    rw [he]
    simp only [Bool.and_eq_true, decide_eq_true_eq] at hc
    have b0 : Wd.bt ⟨#[a, b]⟩ 0 = a.toNat := bt_list [a, b] 0 (by simp)
    have b1 : Wd.bt ⟨#[a, b]⟩ 1 = b.toNat := bt_list [a, b] 1 (by simp)
    have hs : (⟨#[a, b]⟩ : ByteArray).size = 2 := rfl
    have hn : Wd.numF ⟨#[a, b]⟩ 2 = k := by rw [Wd.numF, Wd.numF, Wd.numF, b0, b1]; omega
    refine ⟨⟨by rw [hs]; omega, by rw [hs]; omega, ?_, .inr (by rw [b0]; omega), by rw [hs, hn]; omega⟩, by rw [hs]; exact hn⟩
    intro p hp
    have : p = 0 ∨ p = 1 := by rw [hs] at hp; omega
    rcases this with rfl | rfl
    · rw [b0]; omega
    · rw [b1]; omega
  · cases hc
def TailOf (nm : ByteArray) : ByteArray := nm.extract 1 nm.size
open Classical in
noncomputable def numOf (nm : ByteArray) : Int := if 2 ≤ nm.size ∧ Wd.good (TailOf nm) ∧ ((segNm (Wd.numF (TailOf nm) (TailOf nm).size)).toList == nm.toList) = true then (Wd.numF (TailOf nm) (TailOf nm).size : Int) else -1
theorem numOf_in {m : Nat} (hm : m ≤ 100) (nm : ByteArray) : (decide (0 ≤ numOf nm) && decide (numOf nm < (m : Int))) = isBelow m nm := by
  rw [Bool.eq_iff_iff]
  simp only [Bool.and_eq_true, decide_eq_true_eq]
  constructor
  · rintro ⟨h1, h2⟩
    unfold numOf at h1 h2
    split at h1
    · rename_i h
      rw [if_pos h] at h2
      exact isBelow_at (k := Wd.numF (TailOf nm) (TailOf nm).size) (by omega) h.2.2
    · omega
  · intro h
    unfold isBelow at h
    rw [List.any_eq_true] at h
    obtain ⟨k, hk, he⟩ := h
    rw [List.mem_range] at hk
    obtain ⟨hg, hv⟩ := dec_small k (by omega)
    have hnm : nm = segNm (k : Int) := by
      rw [beq_iff_eq, ByteArray.toList_eq, ByteArray.toList_eq] at he
      exact (ByteArray.ext (Array.toList_inj.1 he)).symm
    have hsz : nm.size = (Wd.decS (k : Int)).length + 1 := by
      rw [hnm]
      unfold segNm
      rw [if_pos (by omega)]
      simp [ByteArray.size]
    have htl : TailOf nm = ⟨(Wd.decS (k : Int)).toArray⟩ := by
      unfold TailOf
      rw [hsz, hnm]
      unfold segNm
      rw [if_pos (by omega)]
      apply ByteArray.ext
      simp
    have h2 : 2 ≤ nm.size := by
      have := hg.1
      have e : (⟨(Wd.decS (k : Int)).toArray⟩ : ByteArray).size = (Wd.decS (k : Int)).length := rfl
      rw [e] at this
      omega
    have hN : numOf nm = (k : Int) := by
      unfold numOf
      rw [htl, hv]
      rw [if_pos ⟨h2, hg, he⟩]
    rw [hN]
    omega
theorem l06Number_any (nm : ByteArray) (w : World) (hs : nm.size ≤ 1048576) :
    Calls Tryz.prog 156 #[.string nm] w fun e w' => e = .returned (.int .i64 (numOf nm)) ∧ Below w.heap.size w w' := by
  by_cases h2 : nm.size < 2
  · have HE : Hid (numOf nm = -1) := by show _ = _; unfold numOf; rw [if_neg (by omega)]
    have h2' : decide ((nm.size : Int) < 2) = true := by simp; omega
    go_enter Tryz.func156, Tryz.ntmps156
    go_wp2
    go_ret
    rw [HE.out]
    exact ⟨rfl, Below.refl _ _⟩
  · have h2' : decide ((nm.size : Int) < 2) = false := by simp; omega
    obtain ⟨T, HT⟩ : ∃ T, Hid (TailOf nm = T) := ⟨_, hide rfl⟩
    have hcut : ∀ W : World, (Instr.slice 9 (.string nm) (some (.int .i64 1)) none none).run Tryz.prog W = .ok (.string T) W := by
      intro W
      rw [run_slice_string_from_if W 9 nm .i64 1 Tryz.underlying9, if_pos (by omega), ← HT.out]
      rfl
    have hts : T.size ≤ 1048576 := by rw [← HT.out]; unfold TailOf; rw [ByteArray.size_extract]; omega
    by_cases hg : Wd.good T
    · have HR := hide (fun W => specDec_yes T W hg)
      have hnb : Wd.numF T T.size ≤ 1000000000 := hg.2.2.2.2
      obtain ⟨M, HM⟩ : ∃ M, Hid (Wd.numF T T.size = M) := ⟨_, hide rfl⟩
      rw [HM.out] at HR hnb
      obtain ⟨X, HX⟩ : ∃ X, Hid (segNm (M : Int) = X) := ⟨_, hide rfl⟩
      have HN := hide (fun W => specSegName_any (M : Int) W)
      rw [HX.out] at HN
      cases hb : (X.toList == nm.toList) with
      | true =>
        have HE : Hid (numOf nm = (M : Int)) := by
          show _ = _
          unfold numOf
          rw [HT.out, HM.out, HX.out, if_pos ⟨by omega, hg, hb⟩]
        have hb' : (!(X.toList == nm.toList)) = false := by rw [hb]; rfl
        clear hg
        go_enter Tryz.func156, Tryz.ntmps156
        go_wp2_with fail
        refine (HR.out _).mono ?_
        rintro e w1 ⟨rfl, b1⟩
        have B1 := hide b1
        clear b1
        go_wp2_with fail
        refine (HN.out _).mono ?_
        rintro e w2 ⟨rfl, b2⟩
        have B2 := hide (B1.out.trans (b2.mono B1.out.size))
        clear b2
        go_wp2
        go_ret
        rw [HE.out]
        exact ⟨rfl, B2.out⟩
      | false =>
        have HE : Hid (numOf nm = -1) := by
          show _ = _
          unfold numOf
          rw [HT.out, HM.out, HX.out, if_neg (by rw [hb]; simp)]
        clear hg
        go_enter Tryz.func156, Tryz.ntmps156
        go_wp2_with fail
        refine (HR.out _).mono ?_
        rintro e w1 ⟨rfl, b1⟩
        have B1 := hide b1
        clear b1
        go_wp2_with fail
        refine (HN.out _).mono ?_
        rintro e w2 ⟨rfl, b2⟩
        have B2 := hide (B1.out.trans (b2.mono B1.out.size))
        clear b2
        go_wp2
        go_ret
        rw [HE.out]
        exact ⟨rfl, B2.out⟩
    · have HR := hide (fun W => specDec_no T W hts hg)
      have HE : Hid (numOf nm = -1) := by
        show _ = _
        unfold numOf
        rw [HT.out, if_neg (fun h => hg h.2.1)]
      clear hg
      go_enter Tryz.func156, Tryz.ntmps156
      go_wp2_with fail
      refine (HR.out _).mono ?_
      rintro e w1 ⟨rfl, b1⟩
      have B1 := hide b1
      clear b1
      go_wp2
      go_ret
      rw [HE.out]
      exact ⟨rfl, B1.out⟩
end Go.Proofs.YtmmchemgegmhhaaGreatDoor
