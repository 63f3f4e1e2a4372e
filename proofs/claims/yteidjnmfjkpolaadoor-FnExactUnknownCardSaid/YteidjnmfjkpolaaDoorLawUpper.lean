/- Upper: both sides answer each byte's great letter. -/
import Derived.Test.YteidjnmfjkpolaaDoorUpp
namespace Go.Proofs.YteidjnmfjkpolaaDoor
open Go.RowKit

set_option maxRecDepth 100000 in
set_option maxHeartbeats 1000000 in
theorem specUpper_any (s : ByteArray) (w : World) (hz : s.size ≤ 1048576) : Calls Tryd.prog 24 #[.string s] w fun e w' => e = .returned (.string ⟨(s.data.toList.map upB).toArray⟩) ∧ Below w.heap.size w w' := by
  obtain ⟨W1, C1, hcv, hB1, hs1, hnew⟩ := bytesIs_made (P := Tryd.prog) w 9 47 5 s Tryd.underlying9 Tryd.underlying47 Tryd.underlying5
  have HN := hide hnew
  have HB := hide hB1
  have HS := hide hs1
  have hl : s.data.toList.length = s.size := Array.length_toList
  have HL := hide hl
  generalize s.data.toList = l at HN HL ⊢
  clear hnew hB1 hs1 hl
  go_enter Tryd.func24, Tryd.ntmps24
  go_wp2
  go_loopw [4] (fun i wr => ∃ k : Nat, k ≤ s.size ∧ i = .int .i64 k ∧ Hid (BytesIs wr w.heap.size (upTo l k)) ∧ Hid (Below w.heap.size w wr)) (fun i _ => s.size - (intOf i).toNat)
  case atStart => exact ⟨0, Nat.zero_le _, rfl, by rw [upTo_zero]; exact HN, HB⟩
  case round =>
    obtain ⟨k, hk, rfl, HR, HB2⟩ := hrel
    by_cases hlt : k < s.size
    · have hkl : k < l.length := by rw [HL.out]; exact hlt
      obtain ⟨c, hC, hc256, hcell, hfr⟩ : ∃ c : Nat, Hid (l[k].toNat = c) ∧ c < 256 ∧ wr.cell? ⟨w.heap.size, k, none⟩ = some (.int .u8 (c : Int)) ∧ wr.frozen? ⟨w.heap.size, k, none⟩ = false := by
        have h := HR.out k (by rw [upTo_length]; exact hkl)
        rw [upTo_get l k hkl] at h
        exact ⟨_, hide rfl, UInt8.toNat_lt _, h.1, h.2⟩
      have hi0 : (0 : Int) ≤ (k : Int) := by omega
      have hi1 : (k : Int) < (s.size : Int) := by omega
      by_cases h1 : 97 ≤ c ∧ c ≤ 122
      · obtain ⟨h1, h2⟩ := h1
        have h1' : decide (97 ≤ (c : Int)) = true := by simp; omega
        have h2' : decide ((c : Int) ≤ 122) = true := by simp; omega
        have hw : IntKind.u8.wrap ((c : Int) - 32) = ((c - 32 : Nat) : Int) := by simp [IntKind.wrap, IntKind.signed, IntKind.bits]; omega
        have HU := hide (bytesIs_put HR.out k (by rw [upTo_length]; exact hkl) (upB l[k]))
        rw [upTo_next l k hkl, upB_yes hC.out h1 h2] at HU
        have HB3 := hide (HB2.out.setCell (p := ⟨w.heap.size, k, none⟩) (Nat.le_refl _) (.int .u8 ((c - 32 : Nat) : Int)))
        go_wp2
        go_roundw
        case rel => exact ⟨k + 1, by omega, by go_num, HU, HB3⟩
        case measure => simp [intOf]; omega
      · have HU := HR
        rw [upTo_same l k hkl (by rw [hC.out]; exact h1)] at HU
        have h1' : (decide (97 ≤ (c : Int)) && decide ((c : Int) ≤ 122)) = false := by simp; omega
        by_cases h2 : 97 ≤ c
        · have h2' : decide (97 ≤ (c : Int)) = true := by simp; omega
          have h3' : decide ((c : Int) ≤ 122) = false := by simp; omega
          go_wp2
          go_roundw
          case rel => exact ⟨k + 1, by omega, by go_num, HU, HB2⟩
          case measure => simp [intOf]; omega
        · have h2' : decide (97 ≤ (c : Int)) = false := by simp; omega
          go_wp2
          go_roundw
          case rel => exact ⟨k + 1, by omega, by go_num, HU, HB2⟩
          case measure => simp [intOf]; omega
    · have hkk : k = s.size := by omega
      have HU := HR
      rw [hkk, ← HL.out, upTo_all] at HU
      have hback := bytesIs_back (P := Tryd.prog) wr 47 9 5 w.heap.size s.size C1 _ (by rw [List.length_map]; exact HL.out) Tryd.underlying47 Tryd.underlying5 Tryd.underlying9 HU.out
      go_wp2
      go_ret
      exact ⟨rfl, HB2.out⟩

set_option maxRecDepth 100000 in
set_option maxHeartbeats 1000000 in
theorem implUpper_any (s : ByteArray) (w : World) (hz : s.size ≤ 1048576) : Calls Tryd.prog 31 #[.string s] w fun e w' => e = .returned (.string ⟨(s.data.toList.map upB).toArray⟩) ∧ Below w.heap.size w w' := by
  obtain ⟨W1, C1, hcv, hB1, hs1, hnew⟩ := bytesIs_made (P := Tryd.prog) w 9 47 5 s Tryd.underlying9 Tryd.underlying47 Tryd.underlying5
  have HN := hide hnew
  have HB := hide hB1
  have HS := hide hs1
  have hl : s.data.toList.length = s.size := Array.length_toList
  have HL := hide hl
  generalize s.data.toList = l at HN HL ⊢
  clear hnew hB1 hs1 hl
  go_enter Tryd.func31, Tryd.ntmps31
  go_wp2
  go_loopw [10] (fun i wr => ∃ k : Nat, k ≤ s.size ∧ i = .int .i64 k ∧ Hid (BytesIs wr w.heap.size (upTo l k)) ∧ Hid (Below w.heap.size w wr)) (fun i _ => s.size - (intOf i).toNat)
  case atStart => exact ⟨0, Nat.zero_le _, rfl, by rw [upTo_zero]; exact HN, HB⟩
  case round =>
    obtain ⟨k, hk, rfl, HR, HB2⟩ := hrel
    by_cases hlt : k < s.size
    · have hkl : k < l.length := by rw [HL.out]; exact hlt
      obtain ⟨c, hC, hc256, hcell, hfr⟩ : ∃ c : Nat, Hid (l[k].toNat = c) ∧ c < 256 ∧ wr.cell? ⟨w.heap.size, k, none⟩ = some (.int .u8 (c : Int)) ∧ wr.frozen? ⟨w.heap.size, k, none⟩ = false := by
        have h := HR.out k (by rw [upTo_length]; exact hkl)
        rw [upTo_get l k hkl] at h
        exact ⟨_, hide rfl, UInt8.toNat_lt _, h.1, h.2⟩
      have hi0 : (0 : Int) ≤ (k : Int) := by omega
      have hi1 : (k : Int) < (s.size : Int) := by omega
      by_cases h1 : 97 ≤ c ∧ c ≤ 122
      · obtain ⟨h1, h2⟩ := h1
        have h1' : decide (97 ≤ (c : Int)) = true := by simp; omega
        have h2' : decide ((c : Int) ≤ 122) = true := by simp; omega
        have hw0 : IntKind.u8.wrap ((c : Int) - 97) = ((c : Int) - 97) := by simp [IntKind.wrap, IntKind.signed, IntKind.bits]; omega
        have hw : IntKind.u8.wrap ((c : Int) - 97 + 65) = ((c - 32 : Nat) : Int) := by simp [IntKind.wrap, IntKind.signed, IntKind.bits]; omega
        have HU := hide (bytesIs_put HR.out k (by rw [upTo_length]; exact hkl) (upB l[k]))
        rw [upTo_next l k hkl, upB_yes hC.out h1 h2] at HU
        have HB3 := hide (HB2.out.setCell (p := ⟨w.heap.size, k, none⟩) (Nat.le_refl _) (.int .u8 ((c - 32 : Nat) : Int)))
        go_wp2
        go_roundw
        case rel => exact ⟨k + 1, by omega, by go_num, HU, HB3⟩
        case measure => simp [intOf]; omega
      · have HU := HR
        rw [upTo_same l k hkl (by rw [hC.out]; exact h1)] at HU
        have h1' : (decide (97 ≤ (c : Int)) && decide ((c : Int) ≤ 122)) = false := by simp; omega
        by_cases h2 : 97 ≤ c
        · have h2' : decide (97 ≤ (c : Int)) = true := by simp; omega
          have h3' : decide ((c : Int) ≤ 122) = false := by simp; omega
          go_wp2
          go_roundw
          case rel => exact ⟨k + 1, by omega, by go_num, HU, HB2⟩
          case measure => simp [intOf]; omega
        · have h2' : decide (97 ≤ (c : Int)) = false := by simp; omega
          go_wp2
          go_roundw
          case rel => exact ⟨k + 1, by omega, by go_num, HU, HB2⟩
          case measure => simp [intOf]; omega
    · have hkk : k = s.size := by omega
      have HU := HR
      rw [hkk, ← HL.out, upTo_all] at HU
      have hback := bytesIs_back (P := Tryd.prog) wr 47 9 5 w.heap.size s.size C1 _ (by rw [List.length_map]; exact HL.out) Tryd.underlying47 Tryd.underlying5 Tryd.underlying9 HU.out
      go_wp2
      go_ret
      exact ⟨rfl, HB2.out⟩
end Go.Proofs.YteidjnmfjkpolaaDoor
