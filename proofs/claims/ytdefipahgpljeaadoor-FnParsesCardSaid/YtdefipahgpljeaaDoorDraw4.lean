/- More of a draw: many bytes of one kind. -/
import Derived.Test.YtdefipahgpljeaaDoorDraw3
namespace Go.Proofs.YtdefipahgpljeaaDoor
open Go.RowKit

theorem made_bytes (n : Nat) : (madeCells (Value.int .u8 0).cells (n * 1)).toList = (List.replicate n (0 : UInt8)).map bv := by
  show (madeCells #[.int .u8 0] (n * 1)).toList = _
  rw [toList_madeCells_one, Nat.mul_one, List.map_replicate]
  rfl

set_option maxHeartbeats 1000000 in
theorem long_any (n x : Nat) (w : World) (hn : n ≤ 1000000) (hx : x < 256) :
    Calls Tryd.prog 38 #[.int .i64 n, .int .u8 x] w fun e w' => ∃ l : List UInt8, e = .returned (.string ⟨l.toArray⟩) ∧ l.length = n ∧ Below w.heap.size w w' := by
  obtain ⟨i0, hi, hz0, hz1, hz2⟩ := info_parts Tryd.info5
  go_enter Tryd.func38, Tryd.ntmps38
  go_wp2_with (at_make; refine wpList_make_full _ rfl _ _ 22 rfl w.heap.size 5 i0 (.int .u8 0) 1 Tryd.underlying22 hi hz0 hz1 _ _ _ _ n rfl rfl rfl rfl (by rw [hz2]; omega) (by unfold maxLen; omega) (Nat.le_refl _) ?_; intro w1 hown1 hgrow1)
  have hb1 : Below w.heap.size w w1 := (Below.refl _ _).grown hgrow1 (Nat.le_refl _) (fun k hk => by cases hk)
  rw [made_bytes] at hown1
  clear hgrow1
  obtain ⟨g, hg⟩ : ∃ g, w.heap.size = g := ⟨_, rfl⟩
  go_loopw [6] (fun ii wr => ∃ (k : Nat) (l : List UInt8), ii = .int .i64 k ∧ k ≤ n ∧ l.length = n ∧ wr.ownsRow w.heap.size 5 1 (.slice (some ⟨w.heap.size, 0, none⟩) n n) n (l.map bv) ∧ Below w.heap.size w wr) (fun ii _ => n - (intOf ii).toNat)
  case atStart => exact ⟨0, _, rfl, Nat.zero_le _, by simp, hown1, hb1⟩
  case round =>
    obtain ⟨k, l, rfl, hk, hl, hown, hb⟩ := hrel
    have HL := hide hl
    clear hl hown1 hb1 hg
    by_cases hlt : k < n
    · have hfr := hown.frozenAt k
      have hcl : wr.cell? ⟨w.heap.size, k, none⟩ = some (.int .u8 ((l[k]'(by rw [HL.out]; exact hlt)).toNat : Int)) := by
        rw [hown.cellAt k (by omega), List.getElem?_map, List.getElem?_eq_getElem (by rw [HL.out]; exact hlt)]; rfl
      have hi0 : (0 : Int) ≤ (k : Int) := by omega
      have hi1 : (k : Int) < (n : Int) := by omega
      have HO := hide hown
      have HB := hide hb
      clear hown hb
      go_wp2
      go_roundw
      case rel =>
        refine ⟨k + 1, l.set k (UInt8.ofNat x), by go_num, by omega, by rw [List.length_set]; exact HL.out, ?_, HB.out.setCell (p := ⟨w.heap.size, k, none⟩) (Nat.le_refl _) _⟩
        have := (HO.out.stored k (bv (UInt8.ofNat x))).1
        rw [List.map_set]
        have e : bv (UInt8.ofNat x) = .int .u8 (x : Int) := by
          have : ((UInt8.ofNat x).toNat : Int) = (x : Int) := by simp only [UInt8.toNat_ofNat']; omega
          unfold bv; rw [this]
        rw [e] at this ⊢
        exact this
      case measure => simp [intOf]; omega
    · have hcv := conv_own 22 5 9 Tryd.underlying22 Tryd.underlying5 Tryd.underlying9 wr _ _ l (by rw [HL.out]; exact hown)
      go_wp2
      go_ret
      exact ⟨l, rfl, HL.out, hb⟩
end Go.Proofs.YtdefipahgpljeaaDoor
