/- The check sum: the program's own. -/
import Derived.Test.YtmmchemgegmhhaaGreatDoorBase
import Derived.Test.YtmmchemgegmhhaaGreatDoorSumP
import Derived.Laws.BitsAllLaws
namespace Go.Proofs.YtmmchemgegmhhaaGreatDoor
open Go.RowKit

/-- The table of half bytes stands where the program's text laid it. -/
def SumTab (w : World) : Prop := ∀ r, r < 16 → w.cell? ⟨0, r, none⟩ = some (.int .u32 (htab.getD r 0 : Nat))

theorem sumTab_later {w w' : World} (h : Below w.heap.size w w') (ht : SumTab w) : SumTab w' := by
  intro r hr
  have := ht r hr
  refine (h.cell (p := ⟨0, r, none⟩) ?_).trans this
  rcases Nat.lt_or_ge 0 w.heap.size with h' | h'
  · exact h'
  · have e := ht r hr
    unfold World.cell? at e
    rw [show w.heap[(⟨0, r, none⟩ : Addr).block]? = none from Array.getElem?_eq_none h'] at e
    cases e

set_option maxRecDepth 100000 in
set_option maxHeartbeats 400000 in
theorem withByte_any (s b : Nat) (w : World) (hs : s < 4294967296) (hb : b < 256) (hT : SumTab w) :
    Calls Tryz.prog 195 #[.int .u32 s, .int .u8 b] w fun e w' => e = .returned (.int .u32 (sb s b : Nat)) ∧ w' = w := by
  have HR : Hid (sb s b = hvN 8 (s ^^^ b)) := rfl
  have hx0 := u32_xor_nat s b hs (by omega)
  have hx1 := xor_lt32 hs (show b < 4294967296 by omega)
  generalize s ^^^ b = x at HR hx0 hx1
  have hc1 := hT (x % 16) (Nat.mod_lt _ (by decide))
  have hy0 := u32_xor_nat (x / 16) (htab.getD (x % 16) 0) (by omega) (htab_lt _)
  have hy1 := hvN_lt 4 hx1
  have HY : Hid (hvN 8 x = hvN 4 x / 16 ^^^ htab.getD (hvN 4 x % 16) 0) := hvN_8 x
  rw [← hvN_4, show ((x / 16 : Nat) : Int) = (x : Int) / 16 by omega] at hy0
  generalize htab.getD (x % 16) 0 = T1 at hc1 hy0
  generalize hvN 4 x = y at HY hy0 hy1
  have hc2 := hT (y % 16) (Nat.mod_lt _ (by decide))
  have hz0 := u32_xor_nat (y / 16) (htab.getD (y % 16) 0) (by omega) (htab_lt _)
  rw [show ((y / 16 : Nat) : Int) = (y : Int) / 16 by omega] at hz0
  have HZ : Hid (sb s b = y / 16 ^^^ htab.getD (y % 16) 0) := HR.out.trans HY.out
  generalize y / 16 ^^^ htab.getD (y % 16) 0 = z at HZ hz0
  generalize htab.getD (y % 16) 0 = T2 at hc2 hz0
  clear hT HR HY
  go_enter Tryz.func195, Tryz.ntmps195
  go_wp2
  go_ret
  rw [HZ.out]
  exact ⟨rfl, rfl⟩

/-- The sum of a text. -/
def sumB (q : Nat) (s : ByteArray) : Nat := sumL q s.data.toList
/-- The sum of what stands from k on. -/
def sumFrom (q : Nat) (s : ByteArray) (k : Nat) : Nat := sumL q (s.data.toList.drop k)
theorem sumFrom_zero (q : Nat) (s : ByteArray) : sumFrom q s 0 = sumB q s := rfl
theorem sumFrom_step (q : Nat) (s : ByteArray) (k : Nat) (h : k < s.size) : sumFrom q s k = sumFrom (sb q (s[k]'h).toNat) s (k + 1) := by
  have hk : k < s.data.toList.length := by simpa using h
  unfold sumFrom
  rw [List.drop_eq_getElem_cons hk]
  rfl
theorem sumFrom_end (q : Nat) (s : ByteArray) (k : Nat) (h : s.size ≤ k) : sumFrom q s k = q := by
  unfold sumFrom
  rw [List.drop_eq_nil_of_le (by simpa using h)]
  rfl

set_option maxRecDepth 100000 in
set_option maxHeartbeats 400000 in
theorem sumMore_any (q0 : Nat) (s : ByteArray) (w : World) (hq0 : q0 < 4294967296) (hl : s.size ≤ 2097152) (hT : SumTab w) :
    Calls Tryz.prog 164 #[.int .u32 q0, .string s] w fun e w' => e = .returned (.int .u32 (sumB q0 s : Nat)) ∧ w' = w := by
  have HT := hide hT
  clear hT
  go_enter Tryz.func164, Tryz.ntmps164
  go_wp2
  go_loop [5, 10] (fun t u => ∃ (k q : Nat), t = .int .u32 q ∧ u = .int .i64 k ∧ k ≤ s.size ∧ q < 4294967296 ∧ Hid (sumFrom q s k = sumB q0 s)) (fun _ u => s.size - (intOf u).toNat)
  case atStart => exact ⟨0, q0, rfl, rfl, by omega, hq0, rfl⟩
  case round =>
    obtain ⟨k, q, rfl, rfl, hk, hq, hrest⟩ := hrel
    by_cases hlt : k < s.size
    · have hlt' : decide ((k : Int) < (s.size : Int)) = true := by simp; omega
      have HS := hide (sumFrom_step q s k hlt)
      obtain ⟨b, hbt, hb256⟩ : ∃ b : Nat, (s[k]'hlt).toNat = b ∧ b < 256 := ⟨_, rfl, byte_lt _⟩
      rw [hbt] at HS
      have hq' := sb_lt hq hb256
      go_wp2_with (go_at_call 195; refine (withByte_any q b _ hq hb256 HT.out).mono ?_; rintro e w' ⟨rfl, rfl⟩)
      go_round
      case rel =>
        refine ⟨k + 1, sb q b, rfl, by go_num, by omega, hq', ?_⟩
        show _ = _
        rw [← hrest.out, HS.out]
      case measure => simp [intOf]; omega
    · have hlt' : decide ((k : Int) < (s.size : Int)) = false := by simp; omega
      have HF : Hid (sumB q0 s = q) := by show _ = _; rw [← hrest.out, sumFrom_end _ _ _ (by omega)]
      go_wp2
      go_ret
      rw [HF.out]
      exact ⟨rfl, rfl⟩
end Go.Proofs.YtmmchemgegmhhaaGreatDoor
