import Derived.Lib.SmallJoins
import Derived.OpenShut
import Derived.Test.YtlcfblodflgleaaGreatDoorBe29
import Derived.Test.YtlcfblodflgleaaGreatDoorBe12
import Derived.Test.YtlcfblodflgleaaGreatDoorBe2
set_option maxRecDepth 100000
set_option maxHeartbeats 800000
namespace Go.Proofs.YtlcfblodflgleaaGreatDoor
open Go.RowKit
def chk100 (k : Nat) : Bool := match Wd.decS (k : Int) with
  | [a] => decide (48 ≤ a.toNat) && (decide (a.toNat ≤ 57) && decide (a.toNat - 48 = k))
  | [a, b] => decide (49 ≤ a.toNat) && (decide (a.toNat ≤ 57) && (decide (48 ≤ b.toNat) && (decide (b.toNat ≤ 57) && decide ((a.toNat - 48) * 10 + (b.toNat - 48) = k))))
  | _ => false
theorem chk100_all : (List.range 100).all chk100 = true := by kernel_rfl
theorem dec_small (k : Nat) (h : k < 100) : Wd.good ⟨(Wd.decS (k : Int)).toArray⟩ ∧ Wd.numF ⟨(Wd.decS (k : Int)).toArray⟩ (⟨(Wd.decS (k : Int)).toArray⟩ : ByteArray).size = k := by
  have hc := List.all_eq_true.1 chk100_all k (List.mem_range.2 h)
  unfold chk100 at hc
  split at hc
  · rename_i a he
    rw [he]
    simp only [Bool.and_eq_true, decide_eq_true_eq] at hc
    have b0 : Wd.bt ⟨#[a]⟩ 0 = a.toNat := bt_list [a] 0 (by simp)
    have hs : (⟨#[a]⟩ : ByteArray).size = 1 := rfl
    have hn : Wd.numF ⟨#[a]⟩ 1 = k := by rw [Wd.numF, Wd.numF, b0]; omega
    refine ⟨⟨by rw [hs]; omega, by rw [hs]; omega, ?_, .inl hs, by rw [hs, hn]; omega⟩, by rw [hs]; exact hn⟩
    intro p hp
    have : p = 0 := by rw [hs] at hp; omega
    subst this
    rw [b0]
    omega
  · rename_i a b he
    rw [he]
    simp only [Bool.and_eq_true, decide_eq_true_eq] at hc
    have b0 : Wd.bt ⟨#[a, b]⟩ 0 = a.toNat := bt_list [a, b] 0 (by simp)
    have b1 : Wd.bt ⟨#[a, b]⟩ 1 = b.toNat := bt_list [a, b] 1 (by simp)
    have hs : (⟨#[a, b]⟩ : ByteArray).size = 2 := rfl
    have hn : Wd.numF ⟨#[a, b]⟩ 2 = k := by rw [Wd.numF, Wd.numF, Wd.numF, b0, b1]; omega
    refine ⟨⟨by rw [hs]; omega, by rw [hs]; omega, ?_, .inr (by rw [b0]; omega), by rw [hs, hn]; omega⟩, by rw [hs]; exact hn⟩
    intro p hp
    have : p = 0 ∨ p = 1 := by rw [hs] at hp; omega
    rcases this with rfl | rfl
    · rw [b0]; omega
    · rw [b1]; omega
  · cases hc
def TailOf (nm : ByteArray) : ByteArray := nm.extract 1 nm.size
open Classical in
noncomputable def numOf (nm : ByteArray) : Int := if 2 ≤ nm.size ∧ Wd.good (TailOf nm) ∧ ((segNm (Wd.numF (TailOf nm) (TailOf nm).size)).toList == nm.toList) = true then (Wd.numF (TailOf nm) (TailOf nm).size : Int) else -1
theorem numOf_in {m : Nat} (hm : m ≤ 100) (nm : ByteArray) : (decide (0 ≤ numOf nm) && decide (numOf nm < (m : Int))) = isBelow m nm := by
  rw [Bool.eq_iff_iff]
  simp only [Bool.and_eq_true, decide_eq_true_eq]
  constructor
  · rintro ⟨h1, h2⟩
    unfold numOf at h1 h2
    split at h1
    · rename_i h
      rw [if_pos h] at h2
      exact isBelow_at (k := Wd.numF (TailOf nm) (TailOf nm).size) (by omega) h.2.2
    · omega
  · intro h
    unfold isBelow at h
    rw [List.any_eq_true] at h
    obtain ⟨k, hk, he⟩ := h
    rw [List.mem_range] at hk
    obtain ⟨hg, hv⟩ := dec_small k (by omega)
    have hnm : nm = segNm (k : Int) := by
      rw [beq_iff_eq, ByteArray.toList_eq, ByteArray.toList_eq] at he
      exact (ByteArray.ext (Array.toList_inj.1 he)).symm
    have hsz : nm.size = (Wd.decS (k : Int)).length + 1 := by
      rw [hnm]
      unfold segNm
      rw [if_pos (by omega)]
      simp [ByteArray.size]
    have htl : TailOf nm = ⟨(Wd.decS (k : Int)).toArray⟩ := by
      unfold TailOf
      rw [hsz, hnm]
      unfold segNm
      rw [if_pos (by omega)]
      apply ByteArray.ext
      simp
    have h2 : 2 ≤ nm.size := by
      have := hg.1
      have e : (⟨(Wd.decS (k : Int)).toArray⟩ : ByteArray).size = (Wd.decS (k : Int)).length := rfl
      rw [e] at this
      omega
    have hN : numOf nm = (k : Int) := by
      unfold numOf
      rw [htl, hv]
      rw [if_pos ⟨h2, hg, he⟩]
    rw [hN]
    omega
theorem l06Number_any (nm : ByteArray) (w : World) (hs : nm.size ≤ 1048576) :
    Calls Tryz.prog 101 #[.string nm] w fun e w' => e = .returned (.int .i64 (numOf nm)) ∧ Below w.heap.size w w' := by
  by_cases h2 : nm.size < 2
  · have HE : Hid (numOf nm = -1) := by show _ = _; unfold numOf; rw [if_neg (by omega)]
    have h2' : decide ((nm.size : Int) < 2) = true := by simp; omega
    go_enter Tryz.func101, Tryz.ntmps101
    go_wp2
    go_ret
    rw [HE.out]
    exact ⟨rfl, Below.refl _ _⟩
  · have h2' : decide ((nm.size : Int) < 2) = false := by simp; omega
    obtain ⟨T, HT⟩ : ∃ T, Hid (TailOf nm = T) := ⟨_, hide rfl⟩
    have hcut : ∀ W : World, (Instr.slice 9 (.string nm) (some (.int .i64 1)) none none).run Tryz.prog W = .ok (.string T) W := by
      intro W
      rw [run_slice_string_from_if W 9 nm .i64 1 Tryz.underlying9, if_pos (by omega), ← HT.out]
      rfl
    have hts : T.size ≤ 1048576 := by rw [← HT.out]; unfold TailOf; rw [ByteArray.size_extract]; omega
    by_cases hg : Wd.good T
    · have HR := hide (fun W => specDec_yes T W hg)
      have hnb : Wd.numF T T.size ≤ 1000000000 := hg.2.2.2.2
      obtain ⟨M, HM⟩ : ∃ M, Hid (Wd.numF T T.size = M) := ⟨_, hide rfl⟩
      rw [HM.out] at HR hnb
      obtain ⟨X, HX⟩ : ∃ X, Hid (segNm (M : Int) = X) := ⟨_, hide rfl⟩
      have HN := hide (fun W => specSegName_any (M : Int) W)
      rw [HX.out] at HN
      cases hb : (X.toList == nm.toList) with
      | true =>
        have HE : Hid (numOf nm = (M : Int)) := by
          show _ = _
          unfold numOf
          rw [HT.out, HM.out, HX.out, if_pos ⟨by omega, hg, hb⟩]
        have hb' : (!(X.toList == nm.toList)) = false := by rw [hb]; rfl
        clear hg
        go_enter Tryz.func101, Tryz.ntmps101
        go_wp2_with fail
        refine (HR.out _).mono ?_
        rintro e w1 ⟨rfl, b1⟩
        have B1 := hide b1
        clear b1
        go_wp2_with fail
        refine (HN.out _).mono ?_
        rintro e w2 ⟨rfl, b2⟩
        have B2 := hide (B1.out.trans (b2.mono B1.out.size))
        clear b2
        go_wp2
        go_ret
        rw [HE.out]
        exact ⟨rfl, B2.out⟩
      | false =>
        have HE : Hid (numOf nm = -1) := by
          show _ = _
          unfold numOf
          rw [HT.out, HM.out, HX.out, if_neg (by rw [hb]; simp)]
        clear hg
        go_enter Tryz.func101, Tryz.ntmps101
        go_wp2_with fail
        refine (HR.out _).mono ?_
        rintro e w1 ⟨rfl, b1⟩
        have B1 := hide b1
        clear b1
        go_wp2_with fail
        refine (HN.out _).mono ?_
        rintro e w2 ⟨rfl, b2⟩
        have B2 := hide (B1.out.trans (b2.mono B1.out.size))
        clear b2
        go_wp2
        go_ret
        rw [HE.out]
        exact ⟨rfl, B2.out⟩
    · have HR := hide (fun W => specDec_no T W hts hg)
      have HE : Hid (numOf nm = -1) := by
        show _ = _
        unfold numOf
        rw [HT.out, if_neg (fun h => hg h.2.1)]
      clear hg
      go_enter Tryz.func101, Tryz.ntmps101
      go_wp2_with fail
      refine (HR.out _).mono ?_
      rintro e w1 ⟨rfl, b1⟩
      have B1 := hide b1
      clear b1
      go_wp2
      go_ret
      rw [HE.out]
      exact ⟨rfl, B1.out⟩
def szA (A : ActD) (n : Int) : Int := if n < A.name.size then -1 else if n < A.name.size + A.text.size then -1 else if n < A.name.size + A.text.size + A.toN.size then -1 else n - A.name.size - A.text.size - A.toN.size
theorem szAct_any (A : ActD) (n : Int) (w : World) (h0 : 0 ≤ n) (h1 : n ≤ 1048576) (hN : A.name.size ≤ maxLen) (hX : A.text.size ≤ maxLen) (hT : A.toN.size ≤ maxLen) :
    Calls Tryz.prog 40 #[.agg #[.int .i64 A.kind, .string A.name, .string A.text, .string A.toN], .int .i64 n] w fun e w' => e = .returned (.int .i64 (szA A n)) ∧ Below w.heap.size w w' := by
  obtain ⟨k, a, b, c⟩ := A
  simp only [szA] at hN hX hT ⊢
  unfold maxLen at hN hX hT
  by_cases h2 : n < a.size
  · have h2' : decide (n - (a.size : Int) < 0) = true := by simp; omega
    rw [if_pos h2]
    go_enter Tryz.func40, Tryz.ntmps40
    go_wp2
    go_ret
    exact ⟨rfl, (Below.refl _ w).alloc (Nat.le_refl _) _⟩
  · have h2' : decide (n - (a.size : Int) < 0) = false := by simp; omega
    rw [if_neg h2]
    by_cases h3 : n < a.size + b.size
    · have h3' : decide (n - (a.size : Int) - (b.size : Int) < 0) = true := by simp; omega
      rw [if_pos h3]
      go_enter Tryz.func40, Tryz.ntmps40
      go_wp2
      go_ret
      exact ⟨rfl, (Below.refl _ w).alloc (Nat.le_refl _) _⟩
    · have h3' : decide (n - (a.size : Int) - (b.size : Int) < 0) = false := by simp; omega
      rw [if_neg h3]
      by_cases h4 : n < a.size + b.size + c.size
      · have h4' : decide (n - (a.size : Int) - (b.size : Int) - (c.size : Int) < 0) = true := by simp; omega
        rw [if_pos h4]
        go_enter Tryz.func40, Tryz.ntmps40
        go_wp2
        go_ret
        exact ⟨rfl, (Below.refl _ w).alloc (Nat.le_refl _) _⟩
      · have h4' : decide (n - (a.size : Int) - (b.size : Int) - (c.size : Int) < 0) = false := by simp; omega
        rw [if_neg h4]
        go_enter Tryz.func40, Tryz.ntmps40
        go_wp2
        go_ret
        exact ⟨rfl, (Below.refl _ w).alloc (Nat.le_refl _) _⟩
theorem szA_small {A : ActD} {n : Int} (h0 : n ≤ 1048576) (h : 0 ≤ szA A n) : A.name.size ≤ 1048576 ∧ A.text.size ≤ 1048576 ∧ A.toN.size ≤ 1048576 := by
  unfold szA at h
  split at h
  · omega
  · split at h
    · omega
    · split at h <;> omega
theorem toAct_any (A : ActD) (w : World) :
    Calls Tryz.prog 43 #[.agg #[.int .i64 A.kind, .string A.name, .string A.text, .string A.toN]] w fun e w' => e = .returned (.agg #[.int .i64 A.kind, .string A.name, .string A.text, .string A.toN]) ∧ Below w.heap.size w w' := by
  obtain ⟨k, a, b, c⟩ := A
  go_enter Tryz.func43, Tryz.ntmps43
  go_wp2
  refine bodyPost_ret (v := .agg #[.int .i64 k, .string a, .string b, .string c]) (by simp [results, Tryz.results43, go_sem]) rfl ⟨rfl, ?_⟩
  exact (((Below.refl _ w).alloc (Nat.le_refl _) _).alloc (by simp) _).alloc (by simp; omega) _
end Go.Proofs.YtlcfblodflgleaaGreatDoor
