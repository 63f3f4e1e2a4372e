/- The text of a command's name. -/
import Derived.Test.YteidjnmfjkpolaaDoorNmI
namespace Go.Proofs.YteidjnmfjkpolaaDoor
open Go.RowKit

theorem tail_idx (s : ByteArray) (m : List UInt8) (b : UInt8) (h : s.data.toList = m ++ [b]) : ∀ W : World, (Instr.index 9 (.string s) (.int .i64 ((s.size : Int) - 1))).run Tryd.prog W = .ok (.int .u8 (b.toNat : Int)) W := by
  intro W
  have hz : s.size = m.length + 1 := by
    have : s.data.toList.length = s.size := Array.length_toList
    rw [h] at this
    simpa using this.symm
  rw [run_index_string W 9 _ .i64 _ Tryd.underlying9, dif_pos (by omega)]
  have e : ((s.size : Int) - 1).toNat = m.length := by omega
  have hb : ∀ k (hk : k < s.size), k = m.length → s[k] = b := by
    intro k hk hkm
    subst hkm
    have h1 : s.data.toList[m.length]'(by rw [h]; simp) = b := by simp [h]
    exact h1
  rw [hb _ (by omega) e]
theorem tail_cut (s : ByteArray) (m : List UInt8) (b : UInt8) (h : s.data.toList = m ++ [b]) : ∀ W : World, (Instr.slice 9 (.string s) none (some (.int .i64 ((s.size : Int) - 1))) none).run Tryd.prog W = .ok (.string ⟨m.toArray⟩) W := by
  intro W
  have hz : s.size = m.length + 1 := by
    have : s.data.toList.length = s.size := Array.length_toList
    rw [h] at this
    simpa using this.symm
  have := run_slice_string_h (P := Tryd.prog) W 9 s Tryd.underlying9 .i64 ((s.size : Int) - 1) (by omega) (by omega)
  rw [this]
  have e : ((s.size : Int) - 1).toNat = m.length := by omega
  rw [e]
  have : s.extract 0 m.length = ⟨m.toArray⟩ := by
    refine ByteArray.ext (Array.toList_inj.1 ?_)
    rw [ByteArray.data_extract, Array.toList_extract, h]
    simp
  rw [this]

set_option maxRecDepth 100000 in
set_option maxHeartbeats 1000000 in
theorem trimByte_any (s0 : ByteArray) (w : World) (hl : s0.size ≤ 1000) : Calls Tryd.prog 33 #[.string s0, .int .u8 0] w fun e w' => e = .returned (.string ⟨(trimZ s0.data.toList).toArray⟩) ∧ w' = w := by
  obtain ⟨R, HR⟩ : ∃ R, Hid (trimZ s0.data.toList = R) := ⟨_, rfl⟩
  rw [HR.out]
  go_enter Tryd.func33, Tryd.ntmps33
  go_wp2_with (fail)
  go_loopw [0] (fun v wr => ∃ s : ByteArray, v = .string s ∧ s.size ≤ 1000 ∧ Hid (trimZ s.data.toList = R) ∧ wr = w) (fun v _ => match v with | .string s => s.size | _ => 0)
  case atStart => exact ⟨s0, rfl, hl, HR, rfl⟩
  case round =>
    obtain ⟨s, rfl, hn, HM, rfl⟩ := hrel
    have hll : s.data.toList.length = s.size := Array.length_toList
    by_cases h0 : 0 < s.size
    · have h0' : decide (0 < (s.size : Int)) = true := by simp; omega
      obtain ⟨m, b, HS⟩ : ∃ m b, Hid (s.data.toList = m ++ [b]) := by
        have hne : s.data.toList ≠ [] := by intro e; rw [e] at hll; simp at hll; omega
        exact ⟨_, _, (List.dropLast_concat_getLast hne).symm⟩
      have hidx := tail_idx s m b HS.out
      have hcut := tail_cut s m b HS.out
      have hms : (⟨m.toArray⟩ : ByteArray).size + 1 = s.size := by
        rw [← hll, HS.out]
        simp [ByteArray.size]
      by_cases hb : b = 0
      · have hb' : ((b.toNat : Int) == 0) = true := by rw [hb]; rfl
        have HT : Hid (trimZ m = R) := by
          have := HM.out
          rw [HS.out, hb, trimZ_zero] at this
          exact this
        clear hll
        go_wp2
        go_roundw
        case rel => exact ⟨_, rfl, by omega, HT, by trivial⟩
        case measure => show (⟨m.toArray⟩ : ByteArray).size < s.size; omega
      · have hb' : ((b.toNat : Int) == 0) = false := by
          rw [beq_eq_false_iff_ne]
          intro e
          exact hb (UInt8.toNat_inj.1 (by simpa using e))
        have HT : Hid (s = ⟨R.toArray⟩) := by
          have := HM.out
          rw [HS.out, trimZ_keep _ _ hb, ← HS.out] at this
          show s = _
          rw [← this]
        clear hll
        go_wp2
        rw [HT.out]
        go_ret
        exact ⟨rfl, rfl⟩
    · have h0' : decide (0 < (s.size : Int)) = false := by rw [decide_eq_false_iff_not]; omega
      have HT : Hid (s = ⟨R.toArray⟩) := by
        have hnil : s.data.toList = [] := List.length_eq_zero_iff.1 (by rw [hll]; omega)
        have := HM.out
        rw [hnil, trimZ_nil] at this
        show s = _
        rw [← this]
        exact ByteArray.ext (Array.toList_inj.1 hnil)
      clear hll
      go_wp2
      rw [HT.out]
      go_ret
      exact ⟨rfl, rfl⟩

set_option maxRecDepth 100000 in
set_option maxHeartbeats 1000000 in
theorem trimRight_any (s : ByteArray) (w : World) (hl : s.size ≤ 1000) (h9 : 0 < s.size) : Calls Tryd.prog 30 #[.string s, .string ⟨#[0]⟩] w fun e w' => e = .returned (.string ⟨(trimZ s.data.toList).toArray⟩) ∧ w' = w := by
  have H := hide (trimByte_any s w hl)
  obtain ⟨R, HR⟩ : ∃ R, Hid (trimZ s.data.toList = R) := ⟨_, rfl⟩
  rw [HR.out] at H ⊢
  have he : (s.toList == ([] : List UInt8)) = false := by
    rw [beq_eq_false_iff_ne, ByteArray.toList_eq]
    intro e
    have := congrArg List.length e
    rw [Array.length_toList] at this
    have h2 : s.size = 0 := this
    omega
  go_enter Tryd.func30, Tryd.ntmps30
  go_wp2_with (fail)
  refine H.out.mono ?_
  rintro e w1 ⟨rfl, rfl⟩
  go_wp2
  go_ret
  exact ⟨rfl, rfl⟩

theorem nm_bytes {W : World} {g : Nat} {s : ByteArray} (h : W.heap[g]? = some (.cells (nmC s) 31 (0, 0))) : BytesIs W g (padN s) := by
  intro j hj
  refine ⟨?_, frozen_of_row W g j _ _ h⟩
  rw [cell_of_row W g j _ _ (0, 0) h]
  simp [nmC, hj]
  rfl

set_option maxRecDepth 100000 in
set_option maxHeartbeats 1000000 in
theorem nmText_any (s : ByteArray) (w : World) : Calls Tryd.prog 21 #[.agg (nmC s)] w fun e w' => e = .returned (.string (nmT s)) ∧ Below w.heap.size w w' := by
  have hg := heap_alloc_new w (.cells (nmC s) 31)
  have hb := bytesIs_back (P := Tryd.prog) (w.alloc (.cells (nmC s) 31)) 47 9 5 w.heap.size 9 9 (padN s) (padN_length s) Tryd.underlying47 Tryd.underlying5 Tryd.underlying9 (nm_bytes hg)
  have hp : (⟨(padN s).toArray⟩ : ByteArray).size = 9 := by simp [ByteArray.size, padN_length]
  have H := hide (fun W => trimRight_any ⟨(padN s).toArray⟩ W (by omega) (by omega))
  have HB := hide ((Below.refl w.heap.size w).alloc (Nat.le_refl _) (.cells (nmC s) 31))
  clear hg hp
  go_enter Tryd.func21, Tryd.ntmps21
  go_wp2_with (fail)
  refine (H.out _).mono ?_
  rintro e w1 ⟨rfl, rfl⟩
  go_wp2
  go_ret
  exact ⟨rfl, HB.out⟩
end Go.Proofs.YteidjnmfjkpolaaDoor
