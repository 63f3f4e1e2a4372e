/- The number of a segment's name: the specification's l06Number. -/
import Derived.Test.YtmmchemgegmhhaaGreatDoorEngP
import Derived.Test.YtmmchemgegmhhaaGreatDoorReadDecI
import Derived.Test.YtmmchemgegmhhaaGreatDoorNumQ
namespace Go.Proofs.YtmmchemgegmhhaaGreatDoor
open Go.RowKit

def chk100 (k : Nat) : Bool := match Wd.decS (k : Int) with
  | [a] => decide (48 ≤ a.toNat) && (decide (a.toNat ≤ 57) && decide (a.toNat - 48 = k))
  | [a, b] => decide (49 ≤ a.toNat) && (decide (a.toNat ≤ 57) && (decide (48 ≤ b.toNat) && (decide (b.toNat ≤ 57) && decide ((a.toNat - 48) * 10 + (b.toNat - 48) = k))))
  | _ => false
theorem chk100_all : (List.range 100).all chk100 = true := by kernel_rfl
theorem dec_small (k : Nat) (h : k < 100) : Wd.good ⟨(Wd.decS (k : Int)).toArray⟩ ∧ Wd.numF ⟨(Wd.decS (k : Int)).toArray⟩ (⟨(Wd.decS (k : Int)).toArray⟩ : ByteArray).size = k := by
  have hc := List.all_eq_true.1 chk100_all k (List.mem_range.2 h)
  unfold chk100 at hc
  split at hc
  · rename_i a he
    rw [he]
    simp only [Bool.and_eq_true, decide_eq_true_eq] at hc
    have b0 : Wd.bt ⟨#[a]⟩ 0 = a.toNat := bt_list [a] 0 (by simp)
    have hs : (⟨#[a]⟩ : ByteArray).size = 1 := rfl
    have hn : Wd.numF ⟨#[a]⟩ 1 = k := by rw [Wd.numF, Wd.numF, b0]; omega
    refine ⟨⟨by rw [hs]; omega, by rw [hs]; omega, ?_, .inl hs, by rw [hs, hn]; omega⟩, by rw [hs]; exact hn⟩
    intro p hp
    have : p = 0 := by rw [hs] at hp; omega
    subst this
    rw [b0]
    omega
  · rename_i a b he
    rw [he]
    simp only [Bool.and_eq_true, decide_eq_true_eq] at hc
    have b0 : Wd.bt ⟨#[a, b]⟩ 0 = a.toNat := bt_list [a, b] 0 (by simp)
    have b1 : Wd.bt ⟨#[a, b]⟩ 1 = b.toNat := bt_list [a, b] 1 (by simp)
    have hs : (⟨#[a, b]⟩ : ByteArray).size = 2 := rfl
    have hn : Wd.numF ⟨#[a, b]⟩ 2 = k := by rw [Wd.numF, Wd.numF, Wd.numF, b0, b1]; omega
    refine ⟨⟨by rw [hs]; omega, by rw [hs]; omega, ?_, .inr (by rw [b0]; omega), by rw [hs, hn]; omega⟩, by rw [hs]; exact hn⟩
    intro p hp
    have : p = 0 ∨ p = 1 := by rw [hs] at hp; omega
    rcases this with rfl | rfl
    · rw [b0]; omega
    · rw [b1]; omega
  · cases hc

/-- The number of a segment's name, -1 of any other. -/
def TailOf (nm : ByteArray) : ByteArray := nm.extract 1 nm.size
open Classical in
noncomputable def numOf (nm : ByteArray) : Int := if 2 ≤ nm.size ∧ Wd.good (TailOf nm) ∧ ((segNm (Wd.numF (TailOf nm) (TailOf nm).size)).toList == nm.toList) = true then (Wd.numF (TailOf nm) (TailOf nm).size : Int) else -1
theorem segNm_lt {n : Int} {nm : ByteArray} (h : ((segNm n).toList == nm.toList) = true) (hn : 2 ≤ nm.size) : 0 ≤ n ∧ n ≤ 99 := by
  apply Decidable.byContradiction
  intro hc
  rw [segNm_out n (by omega)] at h
  rw [beq_iff_eq] at h
  have := congrArg List.length h
  rw [ByteArray.toList_eq, ByteArray.toList_eq] at this
  have e : nm.data.toList.length = nm.size := by rw [Array.length_toList]; rfl
  rw [e] at this
  simp at this
  omega
theorem numOf_in {m : Nat} (hm : m ≤ 100) (nm : ByteArray) : (decide (0 ≤ numOf nm) && decide (numOf nm < (m : Int))) = isBelow m nm := by
  rw [Bool.eq_iff_iff]
  simp only [Bool.and_eq_true, decide_eq_true_eq]
  constructor
  · rintro ⟨h1, h2⟩
    unfold numOf at h1 h2
    split at h1
    · rename_i h
      rw [if_pos h] at h2
      exact isBelow_at (k := Wd.numF (TailOf nm) (TailOf nm).size) (by omega) h.2.2
    · omega
  · intro h
    unfold isBelow at h
    rw [List.any_eq_true] at h
    obtain ⟨k, hk, he⟩ := h
    rw [List.mem_range] at hk
    obtain ⟨hg, hv⟩ := dec_small k (by omega)
    have hnm : nm = segNm (k : Int) := by
      rw [beq_iff_eq, ByteArray.toList_eq, ByteArray.toList_eq] at he
      exact (ByteArray.ext (Array.toList_inj.1 he)).symm
    have hsz : nm.size = (Wd.decS (k : Int)).length + 1 := by
      rw [hnm]
      unfold segNm
      rw [if_pos (by omega)]
      simp [ByteArray.size]
    have htl : TailOf nm = ⟨(Wd.decS (k : Int)).toArray⟩ := by
      unfold TailOf
      rw [hsz, hnm]
      unfold segNm
      rw [if_pos (by omega)]
      apply ByteArray.ext
      simp
    have h2 : 2 ≤ nm.size := by
      have := hg.1
      have e : (⟨(Wd.decS (k : Int)).toArray⟩ : ByteArray).size = (Wd.decS (k : Int)).length := rfl
      rw [e] at this
      omega
    have hN : numOf nm = (k : Int) := by
      unfold numOf
      rw [htl, hv]
      rw [if_pos ⟨h2, hg, he⟩]
    rw [hN]
    omega

set_option maxRecDepth 100000 in
set_option maxHeartbeats 800000 in
theorem l06Number_any (nm : ByteArray) (w : World) (hs : nm.size ≤ 1048576) :
    Calls Tryz.prog 156 #[.string nm] w fun e w' => e = .returned (.int .i64 (numOf nm)) ∧ Below w.heap.size w w' := by
  by_cases h2 : nm.size < 2
  · have HE : Hid (numOf nm = -1) := by show _ = _; unfold numOf; rw [if_neg (by omega)]
    have h2' : decide ((nm.size : Int) < 2) = true := by simp; omega
    go_enter Tryz.func156, Tryz.ntmps156
    go_wp2
    go_ret
    rw [HE.out]
    exact ⟨rfl, Below.refl _ _⟩
  · have h2' : decide ((nm.size : Int) < 2) = false := by simp; omega
    obtain ⟨T, HT⟩ : ∃ T, Hid (TailOf nm = T) := ⟨_, hide rfl⟩
    have hcut : ∀ W : World, (Instr.slice 9 (.string nm) (some (.int .i64 1)) none none).run Tryz.prog W = .ok (.string T) W := by
      intro W
      rw [run_slice_string_from_if W 9 nm .i64 1 Tryz.underlying9, if_pos (by omega), ← HT.out]
      rfl
    have hts : T.size ≤ 1048576 := by rw [← HT.out]; unfold TailOf; rw [ByteArray.size_extract]; omega
    by_cases hg : Wd.good T
    · have HR := hide (fun W => specDec_yes T W hg)
      have hnb : Wd.numF T T.size ≤ 1000000000 := hg.2.2.2.2
      obtain ⟨M, HM⟩ : ∃ M, Hid (Wd.numF T T.size = M) := ⟨_, hide rfl⟩
      rw [HM.out] at HR hnb
      obtain ⟨X, HX⟩ : ∃ X, Hid (segNm (M : Int) = X) := ⟨_, hide rfl⟩
      have HN := hide (fun W => specSegName_any (M : Int) W)
      rw [HX.out] at HN
      cases hb : (X.toList == nm.toList) with
      | true =>
        have HE : Hid (numOf nm = (M : Int)) := by
          show _ = _
          unfold numOf
          rw [HT.out, HM.out, HX.out, if_pos ⟨by omega, hg, hb⟩]
        have hb' : (!(X.toList == nm.toList)) = false := by rw [hb]; rfl
        clear hg
        go_enter Tryz.func156, Tryz.ntmps156
        go_wp2_with fail
        refine (HR.out _).mono ?_
        rintro e w1 ⟨rfl, b1⟩
        have B1 := hide b1
        clear b1
        go_wp2_with fail
        refine (HN.out _).mono ?_
        rintro e w2 ⟨rfl, b2⟩
        have B2 := hide (B1.out.trans (b2.mono B1.out.size))
        clear b2
        go_wp2
        go_ret
        rw [HE.out]
        exact ⟨rfl, B2.out⟩
      | false =>
        have HE : Hid (numOf nm = -1) := by
          show _ = _
          unfold numOf
          rw [HT.out, HM.out, HX.out, if_neg (by rw [hb]; simp)]
        clear hg
        go_enter Tryz.func156, Tryz.ntmps156
        go_wp2_with fail
        refine (HR.out _).mono ?_
        rintro e w1 ⟨rfl, b1⟩
        have B1 := hide b1
        clear b1
        go_wp2_with fail
        refine (HN.out _).mono ?_
        rintro e w2 ⟨rfl, b2⟩
        have B2 := hide (B1.out.trans (b2.mono B1.out.size))
        clear b2
        go_wp2
        go_ret
        rw [HE.out]
        exact ⟨rfl, B2.out⟩
    · have HR := hide (fun W => specDec_no T W hts hg)
      have HE : Hid (numOf nm = -1) := by
        show _ = _
        unfold numOf
        rw [HT.out, if_neg (fun h => hg h.2.1)]
      clear hg
      go_enter Tryz.func156, Tryz.ntmps156
      go_wp2_with fail
      refine (HR.out _).mono ?_
      rintro e w1 ⟨rfl, b1⟩
      have B1 := hide b1
      clear b1
      go_wp2
      go_ret
      rw [HE.out]
      exact ⟨rfl, B1.out⟩
end Go.Proofs.YtmmchemgegmhhaaGreatDoor
