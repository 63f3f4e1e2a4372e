/- The cursor of a draw: each byte that is drawn is one, and the cursor stays a cursor. -/
import Derived.Test.YtnoalenfeakcpaaDoorBase
import Derived.Laws.Bits128
namespace Go.Proofs.YtnoalenfeakcpaaDoor
open Go.RowKit

theorem i64_and255 (n : Int) : bits .and .i64 n 255 = n % 256 := by
  have h255 : (BitVec.ofInt 64 255).toNat = 2 ^ 8 - 1 := by decide
  have key : (BitVec.ofInt 64 n &&& BitVec.ofInt 64 255).toNat = (n % ((2 ^ 64 : Nat) : Int)).toNat % 2 ^ 8 := by
    rw [BitVec.toNat_and, BitVec.toNat_ofInt, h255, Nat.and_two_pow_sub_one_eq_mod]
  show IntKind.i64.wrap ((BitVec.ofInt 64 n &&& BitVec.ofInt 64 255).toNat : Nat) = n % 256
  rw [key, IntKind.wrap_i64]
  omega

/-- The bytes of a draw, as they came in. -/
def Code (w0 : World) (ao : Option Addr) (len : Nat) : Prop := ∀ j, j < len → ∃ b off z : Nat, ao = some ⟨b, off, none⟩ ∧ b < w0.heap.size ∧ w0.cell? ⟨b, off + j, none⟩ = some (.int .u8 z) ∧ z < 256

/-- The cursor stands in block g. -/
def CurAt (w0 w : World) (g : Nat) (ao : Option Addr) (len cap : Nat) : Prop :=
  Below w0.heap.size w0 w ∧ w0.heap.size ≤ g ∧ ∃ (i : Nat) (h : Int) (T : TypeId), i ≤ len ∧ w.heap[g]? = some (.cells #[.slice ao len cap, .int .i64 i, .int .i64 h] T (0, 0))

theorem cur_cell {w : World} {g : Nat} {cs : Array Value} {T : TypeId} (h : w.heap[g]? = some (.cells cs T (0, 0))) (j : Nat) (v : Value) (hj : cs[j]? = some v) : w.cell? ⟨g, j, none⟩ = some v := by
  rw [cell_of_row w g j cs T (0, 0) h, hj]

theorem ret_i {k : IntKind} {a b : Int} (h : a = b) : Ending.returned (.int k a) = .returned (.int k b) := by rw [h]

set_option maxRecDepth 100000 in
set_option maxHeartbeats 1000000 in
theorem byte_any (w0 w : World) (g : Nat) (ao : Option Addr) (len cap : Nat) (hlen : len ≤ 1048576) (hcode : Code w0 ao len) (hc : CurAt w0 w g ao len cap) :
    Calls Tryd.prog 43 #[.pointer (some ⟨g, 0, none⟩)] w fun e w' => ∃ x : Nat, e = .returned (.int .i64 x) ∧ x < 256 ∧ CurAt w0 w' g ao len cap ∧ w.grownBy w' (some g) := by
  obtain ⟨hb, hg, i, h, T, hi, hh⟩ := hc
  have hc0 := cur_cell hh 0 _ rfl
  have hc1 := cur_cell hh 1 _ rfl
  have hc2 := cur_cell hh 2 _ rfl
  have hf1 := frozen_of_row w g 1 _ T hh
  have hf2 := frozen_of_row w g 2 _ T hh
  have hand := i64_and255
  have KH : Hid (∀ H1 : Int, (w.setCell ⟨g, 2, none⟩ (.int .i64 H1)).heap[g]? = some (.cells #[.slice ao len cap, .int .i64 i, .int .i64 H1] T (0, 0)) ∧ w.grownBy (w.setCell ⟨g, 2, none⟩ (.int .i64 H1)) (some g)) :=
    fun H1 => ⟨(heap_setCell_same w g 2 _ T (.int .i64 H1) hh).trans rfl, grownBy_store (World.grownBy.refl _ _) 2 _⟩
  have HB := hide hb
  have HC := hide hcode
  clear hh hb hcode
  go_enter Tryd.func43, Tryd.ntmps43
  go_wp2
  clear hc0 hc1 hc2 hf1 hf2
  generalize wrap64 (wrap64 (h * 6364136223846793005) + 1442695040888963407) = H1
  obtain ⟨hh1, g1⟩ := KH.out H1
  generalize w.setCell ⟨g, 2, none⟩ (.int .i64 H1) = W1 at hh1 g1 ⊢
  have hc0 := cur_cell hh1 0 _ rfl
  have hc1 := cur_cell hh1 1 _ rfl
  have hc2 := cur_cell hh1 2 _ rfl
  have hf1 := frozen_of_row W1 g 1 _ T hh1
  have HH1 := hide hh1
  have G1 := hide g1
  have HB1 : Hid (Below w0.heap.size w0 W1) := HB.out.grown g1 HB.out.size (fun k hk => by cases hk; exact hg)
  clear hh1 g1
  by_cases hlt : i < len
  · have hlt' : decide ((i : Int) < (len : Int)) = true := by simp; omega
    obtain ⟨b, off, z, rfl, hbl, hz, hz256⟩ := HC.out i hlt
    have hcz : W1.cell? ⟨b, off + i, none⟩ = some (.int .u8 z) := (HB1.out.cell (p := ⟨b, off + i, none⟩) hbl).trans hz
    have hi0 : (0 : Int) ≤ (i : Int) := by omega
    have hi1 : (i : Int) < (len : Int) := by omega
    clear hz
    go_quiet (fail)
    go_wp2
    generalize bits BinOp.xor IntKind.i64 (H1 / 8589934592) (H1 / 35184372088832) = Y
    go_quiet (fail)
    go_wp2
    go_quiet (fail)
    go_wp2
    go_ret
    have hs : ∀ q, Below w0.heap.size w0 ((W1.drewN q).setCell ⟨g, 1, none⟩ (.int .i64 ((i : Int) + 1))) := fun q => (below_drewN HB1.out q).setCell (p := ⟨g, 1, none⟩) hg _
    have hr : ∀ q, ((W1.drewN q).setCell ⟨g, 1, none⟩ (.int .i64 ((i : Int) + 1))).heap[g]? = some (.cells #[.slice (some ⟨b, off, none⟩) len cap, .int .i64 ((i + 1 : Nat) : Int), .int .i64 H1] T (0, 0)) :=
      fun q => (heap_setCell_same (W1.drewN q) g 1 _ T (.int .i64 ((i : Int) + 1)) HH1.out).trans rfl
    exact ⟨((Y + z) % 256).toNat, ret_i (by omega), by omega, ⟨hs _, hg, i + 1, H1, T, by omega, hr _⟩, grownBy_store (grownBy_trans G1.out (grownBy_below _ (drewN_below _ _))) 1 _⟩
  · have hlt' : decide ((i : Int) < (len : Int)) = false := by simp; omega
    go_quiet (fail)
    go_wp2
    generalize bits BinOp.xor IntKind.i64 (H1 / 8589934592) (H1 / 35184372088832) = Y
    go_quiet (fail)
    go_wp2
    go_ret
    exact ⟨(Y % 256).toNat, ret_i (by omega), by omega, ⟨below_drewN (below_drewN HB1.out _) _, hg, i, H1, T, hi, HH1.out⟩, grownBy_trans G1.out (grownBy_trans (grownBy_below _ (drewN_below _ _)) (grownBy_below _ (drewN_below _ _)))⟩

/-- Below n (0 where n is not above 0). -/
theorem below_any (w0 w : World) (g : Nat) (ao : Option Addr) (len cap : Nat) (n : Int) (hlen : len ≤ 1048576) (hn : n ≤ 4611686018427387904) (hcode : Code w0 ao len) (hc : CurAt w0 w g ao len cap) :
    Calls Tryd.prog 29 #[.pointer (some ⟨g, 0, none⟩), .int .i64 n] w fun e w' => ∃ x : Nat, e = .returned (.int .i64 x) ∧ (0 < n → (x : Int) < n) ∧ (n ≤ 0 → x = 0) ∧ CurAt w0 w' g ao len cap ∧ w.grownBy w' (some g) := by
  have HC := hide hcode
  have HU := hide hc
  clear hcode hc
  by_cases h0 : n ≤ 0
  · go_enter Tryd.func29, Tryd.ntmps29
    go_wp2
    go_ret
    exact ⟨0, rfl, fun h => absurd h (by omega), fun _ => rfl, HU.out, World.grownBy.refl _ _⟩
  · by_cases h1 : n ≤ 256
    · go_enter Tryd.func29, Tryd.ntmps29
      go_wp2_with fail
      refine (byte_any w0 _ g ao len cap hlen HC.out HU.out).mono ?_
      rintro e w1 ⟨x, rfl, hx, hc1, g1⟩
      go_wp2
      go_ret
      have hb := Int.emod_lt_of_pos (x : Int) (show 0 < n by omega)
      have hp := Int.emod_nonneg (x : Int) (show n ≠ 0 by omega)
      exact ⟨((x : Int) % n).toNat, ret_i (by omega), fun _ => by omega, fun h => absurd h (by omega), hc1, g1⟩
    · go_enter Tryd.func29, Tryd.ntmps29
      go_wp2_with fail
      refine (byte_any w0 _ g ao len cap hlen HC.out HU.out).mono ?_
      rintro e w1 ⟨x, rfl, hx, hc1, g1⟩
      have HU1 := hide hc1
      have G1 := hide g1
      clear hc1 g1
      go_wp2_with fail
      refine (byte_any w0 _ g ao len cap hlen HC.out HU1.out).mono ?_
      rintro e w2 ⟨y, rfl, hy, hc2, g2⟩
      have HU2 := hide hc2
      have G2 := hide g2
      clear hc2 g2
      go_wp2_with fail
      refine (byte_any w0 _ g ao len cap hlen HC.out HU2.out).mono ?_
      rintro e w3 ⟨z, rfl, hz, hc3, g3⟩
      have HU3 := hide hc3
      have G3 := hide g3
      clear hc3 g3
      go_wp2_with fail
      refine (byte_any w0 _ g ao len cap hlen HC.out HU3.out).mono ?_
      rintro e w4 ⟨u, rfl, hu, hc4, g4⟩
      go_wp2
      go_ret
      have hb := Int.emod_lt_of_pos ((x : Int) * 16777216 + (y : Int) * 65536 + (z : Int) * 256 + (u : Int)) (show 0 < n by omega)
      have hp := Int.emod_nonneg ((x : Int) * 16777216 + (y : Int) * 65536 + (z : Int) * 256 + (u : Int)) (show n ≠ 0 by omega)
      exact ⟨(((x : Int) * 16777216 + (y : Int) * 65536 + (z : Int) * 256 + (u : Int)) % n).toNat, ret_i (by omega), fun _ => by omega, fun h => absurd h (by omega), hc4, grownBy_trans G1.out (grownBy_trans G2.out (grownBy_trans G3.out g4))⟩
end Go.Proofs.YtnoalenfeakcpaaDoor
