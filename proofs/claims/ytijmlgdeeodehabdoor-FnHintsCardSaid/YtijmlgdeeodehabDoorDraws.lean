/- Of: Draw Draw2 Draw3 DrawNm DrawKey TurnQ Draw4 PickI. -/
import Derived.Test.YtijmlgdeeodehabDoorOne
import Derived.Laws.Bits128
/- The cursor of a draw: each byte that is drawn is one, and the cursor stays a cursor. -/
namespace Go.Proofs.YtijmlgdeeodehabDoor
open Go.RowKit

theorem i64_and255 (n : Int) : bits .and .i64 n 255 = n % 256 := by
  have h255 : (BitVec.ofInt 64 255).toNat = 2 ^ 8 - 1 := by decide
  have key : (BitVec.ofInt 64 n &&& BitVec.ofInt 64 255).toNat = (n % ((2 ^ 64 : Nat) : Int)).toNat % 2 ^ 8 := by
    rw [BitVec.toNat_and, BitVec.toNat_ofInt, h255, Nat.and_two_pow_sub_one_eq_mod]
  show IntKind.i64.wrap ((BitVec.ofInt 64 n &&& BitVec.ofInt 64 255).toNat : Nat) = n % 256
  rw [key, IntKind.wrap_i64]
  omega

/-- The bytes of a draw, as they came in. -/
def Code (w0 : World) (ao : Option Addr) (len : Nat) : Prop := ∀ j, j < len → ∃ b off z : Nat, ao = some ⟨b, off, none⟩ ∧ b < w0.heap.size ∧ w0.cell? ⟨b, off + j, none⟩ = some (.int .u8 z) ∧ z < 256

/-- The cursor stands in block g. -/
def CurAt (w0 w : World) (g : Nat) (ao : Option Addr) (len cap : Nat) : Prop :=
  Below w0.heap.size w0 w ∧ w0.heap.size ≤ g ∧ ∃ (i : Nat) (h : Int) (T : TypeId), i ≤ len ∧ w.heap[g]? = some (.cells #[.slice ao len cap, .int .i64 i, .int .i64 h] T (0, 0))

theorem cur_cell {w : World} {g : Nat} {cs : Array Value} {T : TypeId} (h : w.heap[g]? = some (.cells cs T (0, 0))) (j : Nat) (v : Value) (hj : cs[j]? = some v) : w.cell? ⟨g, j, none⟩ = some v := by
  rw [cell_of_row w g j cs T (0, 0) h, hj]

theorem ret_i {k : IntKind} {a b : Int} (h : a = b) : Ending.returned (.int k a) = .returned (.int k b) := by rw [h]

set_option maxRecDepth 100000 in
set_option maxHeartbeats 1000000 in
theorem byte_any (w0 w : World) (g : Nat) (ao : Option Addr) (len cap : Nat) (hlen : len ≤ 1048576) (hcode : Code w0 ao len) (hc : CurAt w0 w g ao len cap) :
    Calls Tryd.prog 25 #[.pointer (some ⟨g, 0, none⟩)] w fun e w' => ∃ x : Nat, e = .returned (.int .i64 x) ∧ x < 256 ∧ CurAt w0 w' g ao len cap ∧ w.grownBy w' (some g) := by
  obtain ⟨hb, hg, i, h, T, hi, hh⟩ := hc
  have hc0 := cur_cell hh 0 _ rfl
  have hc1 := cur_cell hh 1 _ rfl
  have hc2 := cur_cell hh 2 _ rfl
  have hf1 := frozen_of_row w g 1 _ T hh
  have hf2 := frozen_of_row w g 2 _ T hh
  have hand := i64_and255
  have KH : Hid (∀ H1 : Int, (w.setCell ⟨g, 2, none⟩ (.int .i64 H1)).heap[g]? = some (.cells #[.slice ao len cap, .int .i64 i, .int .i64 H1] T (0, 0)) ∧ w.grownBy (w.setCell ⟨g, 2, none⟩ (.int .i64 H1)) (some g)) :=
    fun H1 => ⟨(heap_setCell_same w g 2 _ T (.int .i64 H1) hh).trans rfl, grownBy_store (World.grownBy.refl _ _) 2 _⟩
  have HB := hide hb
  have HC := hide hcode
  clear hh hb hcode
  go_enter Tryd.func25, Tryd.ntmps25
  go_wp2
  clear hc0 hc1 hc2 hf1 hf2
  generalize wrap64 (wrap64 (h * 6364136223846793005) + 1442695040888963407) = H1
  obtain ⟨hh1, g1⟩ := KH.out H1
  generalize w.setCell ⟨g, 2, none⟩ (.int .i64 H1) = W1 at hh1 g1 ⊢
  have hc0 := cur_cell hh1 0 _ rfl
  have hc1 := cur_cell hh1 1 _ rfl
  have hc2 := cur_cell hh1 2 _ rfl
  have hf1 := frozen_of_row W1 g 1 _ T hh1
  have HH1 := hide hh1
  have G1 := hide g1
  have HB1 : Hid (Below w0.heap.size w0 W1) := HB.out.grown g1 HB.out.size (fun k hk => by cases hk; exact hg)
  clear hh1 g1
  by_cases hlt : i < len
  · have hlt' : decide ((i : Int) < (len : Int)) = true := by simp; omega
    obtain ⟨b, off, z, rfl, hbl, hz, hz256⟩ := HC.out i hlt
    have hcz : W1.cell? ⟨b, off + i, none⟩ = some (.int .u8 z) := (HB1.out.cell (p := ⟨b, off + i, none⟩) hbl).trans hz
    have hi0 : (0 : Int) ≤ (i : Int) := by omega
    have hi1 : (i : Int) < (len : Int) := by omega
    clear hz
    go_quiet (fail)
    go_wp2
    generalize bits BinOp.xor IntKind.i64 (H1 / 8589934592) (H1 / 35184372088832) = Y
    go_quiet (fail)
    go_wp2
    go_quiet (fail)
    go_wp2
    go_ret
    have hs : ∀ q, Below w0.heap.size w0 ((W1.drewN q).setCell ⟨g, 1, none⟩ (.int .i64 ((i : Int) + 1))) := fun q => (below_drewN HB1.out q).setCell (p := ⟨g, 1, none⟩) hg _
    have hr : ∀ q, ((W1.drewN q).setCell ⟨g, 1, none⟩ (.int .i64 ((i : Int) + 1))).heap[g]? = some (.cells #[.slice (some ⟨b, off, none⟩) len cap, .int .i64 ((i + 1 : Nat) : Int), .int .i64 H1] T (0, 0)) :=
      fun q => (heap_setCell_same (W1.drewN q) g 1 _ T (.int .i64 ((i : Int) + 1)) HH1.out).trans rfl
    exact ⟨((Y + z) % 256).toNat, ret_i (by omega), by omega, ⟨hs _, hg, i + 1, H1, T, by omega, hr _⟩, grownBy_store (grownBy_trans G1.out (grownBy_below _ (drewN_below _ _))) 1 _⟩
  · have hlt' : decide ((i : Int) < (len : Int)) = false := by simp; omega
    go_quiet (fail)
    go_wp2
    generalize bits BinOp.xor IntKind.i64 (H1 / 8589934592) (H1 / 35184372088832) = Y
    go_quiet (fail)
    go_wp2
    go_ret
    exact ⟨(Y % 256).toNat, ret_i (by omega), by omega, ⟨below_drewN (below_drewN HB1.out _) _, hg, i, H1, T, hi, HH1.out⟩, grownBy_trans G1.out (grownBy_trans (grownBy_below _ (drewN_below _ _)) (grownBy_below _ (drewN_below _ _)))⟩

/-- Below n (0 where n is not above 0). -/
theorem below_any (w0 w : World) (g : Nat) (ao : Option Addr) (len cap : Nat) (n : Int) (hlen : len ≤ 1048576) (hn : n ≤ 4611686018427387904) (hcode : Code w0 ao len) (hc : CurAt w0 w g ao len cap) :
    Calls Tryd.prog 19 #[.pointer (some ⟨g, 0, none⟩), .int .i64 n] w fun e w' => ∃ x : Nat, e = .returned (.int .i64 x) ∧ (0 < n → (x : Int) < n) ∧ (n ≤ 0 → x = 0) ∧ CurAt w0 w' g ao len cap ∧ w.grownBy w' (some g) := by
  have HC := hide hcode
  have HU := hide hc
  clear hcode hc
  by_cases h0 : n ≤ 0
  · go_enter Tryd.func19, Tryd.ntmps19
    go_wp2
    go_ret
    exact ⟨0, rfl, fun h => absurd h (by omega), fun _ => rfl, HU.out, World.grownBy.refl _ _⟩
  · by_cases h1 : n ≤ 256
    · go_enter Tryd.func19, Tryd.ntmps19
      go_wp2_with fail
      refine (byte_any w0 _ g ao len cap hlen HC.out HU.out).mono ?_
      rintro e w1 ⟨x, rfl, hx, hc1, g1⟩
      go_wp2
      go_ret
      have hb := Int.emod_lt_of_pos (x : Int) (show 0 < n by omega)
      have hp := Int.emod_nonneg (x : Int) (show n ≠ 0 by omega)
      exact ⟨((x : Int) % n).toNat, ret_i (by omega), fun _ => by omega, fun h => absurd h (by omega), hc1, g1⟩
    · go_enter Tryd.func19, Tryd.ntmps19
      go_wp2_with fail
      refine (byte_any w0 _ g ao len cap hlen HC.out HU.out).mono ?_
      rintro e w1 ⟨x, rfl, hx, hc1, g1⟩
      have HU1 := hide hc1
      have G1 := hide g1
      clear hc1 g1
      go_wp2_with fail
      refine (byte_any w0 _ g ao len cap hlen HC.out HU1.out).mono ?_
      rintro e w2 ⟨y, rfl, hy, hc2, g2⟩
      have HU2 := hide hc2
      have G2 := hide g2
      clear hc2 g2
      go_wp2_with fail
      refine (byte_any w0 _ g ao len cap hlen HC.out HU2.out).mono ?_
      rintro e w3 ⟨z, rfl, hz, hc3, g3⟩
      have HU3 := hide hc3
      have G3 := hide g3
      clear hc3 g3
      go_wp2_with fail
      refine (byte_any w0 _ g ao len cap hlen HC.out HU3.out).mono ?_
      rintro e w4 ⟨u, rfl, hu, hc4, g4⟩
      go_wp2
      go_ret
      have hb := Int.emod_lt_of_pos ((x : Int) * 16777216 + (y : Int) * 65536 + (z : Int) * 256 + (u : Int)) (show 0 < n by omega)
      have hp := Int.emod_nonneg ((x : Int) * 16777216 + (y : Int) * 65536 + (z : Int) * 256 + (u : Int)) (show n ≠ 0 by omega)
      exact ⟨(((x : Int) * 16777216 + (y : Int) * 65536 + (z : Int) * 256 + (u : Int)) % n).toNat, ret_i (by omega), fun _ => by omega, fun h => absurd h (by omega), hc4, grownBy_trans G1.out (grownBy_trans G2.out (grownBy_trans G3.out g4))⟩
end Go.Proofs.YtijmlgdeeodehabDoor

/- More of a draw: a cursor over the bytes that came in; once in a while; a text of drawn bytes. -/
namespace Go.Proofs.YtijmlgdeeodehabDoor
open Go.RowKit

theorem i64_and30 (n : Int) : bits .and .i64 n 1073741823 = n % 1073741824 := by
  have h30 : (BitVec.ofInt 64 1073741823).toNat = 2 ^ 30 - 1 := by decide
  have key : (BitVec.ofInt 64 n &&& BitVec.ofInt 64 1073741823).toNat = (n % ((2 ^ 64 : Nat) : Int)).toNat % 2 ^ 30 := by
    rw [BitVec.toNat_and, BitVec.toNat_ofInt, h30, Nat.and_two_pow_sub_one_eq_mod]
  show IntKind.i64.wrap ((BitVec.ofInt 64 n &&& BitVec.ofInt 64 1073741823).toNat : Nat) = n % 1073741824
  rw [key, IntKind.wrap_i64]
  omega

set_option maxHeartbeats 1000000 in
theorem new_any (w : World) (ao : Option Addr) (len cap : Nat) (hlen : len ≤ 1048576) (hcode : Code w ao len) :
    Calls Tryd.prog 18 #[.slice ao len cap] w fun e w' => ∃ g, e = .returned (.pointer (some ⟨g, 0, none⟩)) ∧ CurAt w w' g ao len cap := by
  have hand := i64_and30
  have HC := hide hcode
  clear hcode
  go_enter Tryd.func18, Tryd.ntmps18
  go_wp2
  go_loop [3, 4] (fun hh ii => ∃ (k : Nat) (h : Int), k ≤ len ∧ ii = .int .i64 k ∧ hh = .int .i64 h ∧ 0 ≤ h ∧ h ≤ 1073741824) (fun _ ii => len - (intOf ii).toNat)
  case atStart => exact ⟨0, _, Nat.zero_le _, rfl, rfl, by omega, by omega⟩
  case round =>
    obtain ⟨k, h, hk, rfl, rfl, h0, h1⟩ := hrel
    by_cases hlt : k < len
    · have hlt' : decide ((k : Int) < (len : Int)) = true := by simp; omega
      by_cases h4 : k < 4000
      · have h4' : decide ((k : Int) < 4000) = true := by simp; omega
        obtain ⟨b, off, z, rfl, hbl, hz, hz256⟩ := HC.out k hlt
        have hi0 : (0 : Int) ≤ (k : Int) := by omega
        have hi1 : (k : Int) < (len : Int) := by omega
        go_wp2
        go_round
        case rel => exact ⟨k + 1, _, by omega, by go_num, rfl, by omega, by omega⟩
        case measure => simp [intOf]; omega
      · have h4' : decide ((k : Int) < 4000) = false := by simp; omega
        go_wp2
        go_ret
        exact ⟨w.heap.size, rfl, (Below.refl _ _).alloc (Nat.le_refl _) _, Nat.le_refl _, 0, h, _, Nat.zero_le _, heap_alloc_new w _⟩
    · have hlt' : decide ((k : Int) < (len : Int)) = false := by simp; omega
      go_wp2
      go_ret
      exact ⟨w.heap.size, rfl, (Below.refl _ _).alloc (Nat.le_refl _) _, Nat.le_refl _, 0, h, _, Nat.zero_le _, heap_alloc_new w _⟩

theorem once_any (w0 w : World) (g : Nat) (ao : Option Addr) (len cap : Nat) (n : Int) (hlen : len ≤ 1048576) (hn : n ≤ 4611686018427387904) (hcode : Code w0 ao len) (hc : CurAt w0 w g ao len cap) :
    Calls Tryd.prog 37 #[.pointer (some ⟨g, 0, none⟩), .int .i64 n] w fun e w' => ∃ b : Bool, e = .returned (.bool b) ∧ CurAt w0 w' g ao len cap ∧ w.grownBy w' (some g) := by
  have HC := hide hcode
  have HU := hide hc
  clear hcode hc
  go_enter Tryd.func37, Tryd.ntmps37
  go_wp2_with fail
  refine (below_any w0 _ g ao len cap n hlen hn HC.out HU.out).mono ?_
  rintro e w1 ⟨x, rfl, _, _, hc1, g1⟩
  go_wp2
  go_ret
  exact ⟨_, rfl, hc1, g1⟩
end Go.Proofs.YtijmlgdeeodehabDoor

/- A text of drawn bytes. -/
namespace Go.Proofs.YtijmlgdeeodehabDoor
open Go.RowKit

theorem grownBy_then {a b c : World} {r : Option Nat} (h : a.grownBy b r) (k : Below a.heap.size b c) : a.grownBy c r :=
  ⟨k.os.trans h.os, k.tape.trans h.tape, k.output.trans h.output, Nat.le_trans h.size k.size, fun i hi hr => (k.block i hi).trans (h.block i hi hr)⟩
theorem cur_keep {w0 w w' : World} {g : Nat} {ao : Option Addr} {len cap B : Nat} (h : CurAt w0 w g ao len cap) (hb : Below B w w') (hB : g < B) : CurAt w0 w' g ao len cap := by
  obtain ⟨h1, h2, i, x, T, hi, hh⟩ := h
  exact ⟨h1.trans (hb.mono (by omega)), h2, i, x, T, hi, by rw [hb.block g hB]; exact hh⟩
theorem cur_lt {w0 w : World} {g : Nat} {ao : Option Addr} {len cap : Nat} (h : CurAt w0 w g ao len cap) : g < w.heap.size := by
  obtain ⟨_, _, i, x, T, _, hh⟩ := h
  rcases Nat.lt_or_ge g w.heap.size with h | h
  · exact h
  · rw [Array.getElem?_eq_none h] at hh; cases hh
theorem row_keep {w w' : World} {B g n : Nat} {e : TypeId} {size : Nat} {v : Value} {xs : List Value} (h : w.ownsRow B e size v n xs) (hg : w.grownBy w' (some g)) (hB : g < B) : w'.ownsRow B e size v n xs := by
  refine h.kept hg ?_
  cases hv : v.ownBlock with
  | none => exact .inl rfl
  | some k =>
    right
    intro e
    have := (h.lt k hv).1
    simp at e
    omega

set_option maxRecDepth 100000 in
set_option maxHeartbeats 1000000 in
theorem text_small (w0 w : World) (g : Nat) (ao : Option Addr) (len cap : Nat) (n : Int) (hlen : len ≤ 1048576) (hn : n ≤ 5000) (hcode : Code w0 ao len) (hc : CurAt w0 w g ao len cap) :
    Calls Tryd.prog 68 #[.pointer (some ⟨g, 0, none⟩), .int .i64 n] w fun e w' => ∃ l : List UInt8, e = .returned (.string ⟨l.toArray⟩) ∧ l.length = n.toNat ∧ CurAt w0 w' g ao len cap ∧ w.grownBy w' (some g) := by
  have hgl := cur_lt hc
  have HC := hide hcode
  have HU := hide hc
  clear hcode hc
  have hn' : decide (5000 < n) = false := by simp; omega
  go_enter Tryd.func68, Tryd.ntmps68
  go_wp2
  go_loopw [5, 6] (fun v ii wr => ∃ (k : Nat) (l : List UInt8), ii = .int .i64 k ∧ k ≤ n.toNat ∧ l.length = k ∧ wr.ownsRow w.heap.size 5 1 v l.length (l.map bv) ∧ Hid (CurAt w0 wr g ao len cap) ∧ Hid (w.grownBy wr (some g)) ∧ w.heap.size ≤ wr.heap.size) (fun _ ii _ => n.toNat - (intOf ii).toNat)
  case atStart =>
    refine ⟨0, [], rfl, Nat.zero_le _, rfl, World.ownsRow_lit w #[] 0 (Nat.le_refl _) (by unfold maxLen; omega) (by simp), cur_keep HU.out ((Below.refl w.heap.size w).alloc (Nat.le_refl _) _) hgl, grownBy_below _ ((Below.refl _ _).alloc (Nat.le_refl _) _), by simp⟩
  case round =>
    obtain ⟨k, l, rfl, hk, hl, hown, HU2, HG, hbs⟩ := hrel
    by_cases hlt : (k : Int) < n
    · have hlt' : decide ((k : Int) < n) = true := by simp; omega
      have HO := hide hown
      have HLL := hide hl
      clear hown hl
      go_wp2_with fail
      refine (byte_any w0 _ g ao len cap hlen HC.out HU2.out).mono ?_
      rintro e w1 ⟨x, rfl, hx, hc1, g1⟩
      have hown1 := row_keep HO.out g1 hgl
      have HU3 := hide hc1
      have G1 := hide g1
      have hs1 := g1.size
      clear hc1 g1
      obtain ⟨y, hyn⟩ : ∃ y : UInt8, Hid ((x : Int) = (y.toNat : Int)) := ⟨UInt8.ofNat x, by simp only [Hid, UInt8.toNat_ofNat']; omega⟩
      have hC : Hid ((#[.int .u8 (x : Int)] : Array Value).toList = [y].map bv) := by simp only [Hid, bv, List.map_cons, List.map_nil, hyn.out]
      have hll : l.length + [y].length ≤ 70368744177664 := by have := HLL.out; simp; omega
      go_wp2_with (at_builtin; refine app_bytes w1 22 5 Tryd.underlying22 Tryd.info5 w1 w.heap.size rfl _ _ rfl _ l [y] rfl hown1 rfl hC.out hll (Below.refl _ _) (by omega) ?_; intro v' w2 hown2 hb2 hs2)
      go_roundw
      case rel => exact ⟨k + 1, l ++ [y], by go_num, by omega, by have := HLL.out; simp; omega, hown2, cur_keep HU3.out hb2 hgl, grownBy_then (grownBy_trans HG.out G1.out) hb2, by omega⟩
      case measure => simp [intOf]; omega
    · have hlt' : decide ((k : Int) < n) = false := by simp; omega
      have hcv := conv_own 22 5 9 Tryd.underlying22 Tryd.underlying5 Tryd.underlying9 wr _ _ _ hown
      have HLL := hide hl
      clear hl
      go_wp2
      go_ret
      exact ⟨l, rfl, by have := HLL.out; omega, HU2.out, HG.out⟩

theorem text_any (w0 w : World) (g : Nat) (ao : Option Addr) (len cap : Nat) (n : Int) (hlen : len ≤ 1048576) (hn : n ≤ 5000) (hcode : Code w0 ao len) (hc : CurAt w0 w g ao len cap) :
    Calls Tryd.prog 68 #[.pointer (some ⟨g, 0, none⟩), .int .i64 n] w fun e w' => ∃ l : List UInt8, e = .returned (.string ⟨l.toArray⟩) ∧ l.length = n.toNat ∧ CurAt w0 w' g ao len cap ∧ w.grownBy w' (some g) :=
  text_small w0 w g ao len cap n hlen hn hcode hc
end Go.Proofs.YtijmlgdeeodehabDoor

/- A drawn name of a file. -/
namespace Go.Proofs.YtijmlgdeeodehabDoor
open Go.RowKit

/-- One of the texts of a list. -/
theorem pickText_any (w0 w : World) (g b : Nat) (ao : Option Addr) (len cap n : Nat) (zs : List ByteArray) (hlen : len ≤ 1048576) (hcode : Code w0 ao len) (hc : CurAt w0 w g ao len cap) (hne : b ≠ g)
    (hzs : zs.length = n) (hn0 : 0 < n) (hn : n ≤ 1000) (hcells : ∀ j z, zs[j]? = some z → w.cell? ⟨b, j, none⟩ = some (.string z)) :
    Calls Tryd.prog 56 #[.pointer (some ⟨g, 0, none⟩), .slice (some ⟨b, 0, none⟩) n n] w fun e w' => ∃ z : ByteArray, e = .returned (.string z) ∧ z ∈ zs ∧ CurAt w0 w' g ao len cap ∧ w.grownBy w' (some g) := by
  have HC := hide hcode
  have HU := hide hc
  have HZ := hide hcells
  have HN := hide hzs
  clear hcode hc hcells hzs
  go_enter Tryd.func56, Tryd.ntmps56
  go_wp2_with fail
  refine (below_any w0 _ g ao len cap _ hlen (by omega) HC.out HU.out).mono ?_
  rintro e w1 ⟨x, rfl, hx, _, hc1, g1⟩
  have hxn : (x : Int) < (n : Int) := hx (by omega)
  have hx0 : (0 : Int) ≤ (x : Int) := by omega
  have hxl : x < zs.length := by rw [HN.out]; omega
  have hcell : w1.cell? ⟨b, x, none⟩ = some (.string zs[x]) := g1.cell (HZ.out x zs[x] (List.getElem?_eq_getElem hxl)) (by intro e; simp at e; exact hne e)
  have HU1 := hide hc1
  have G1 := hide g1
  have HM := hide (List.getElem_mem hxl)
  generalize zs[x] = Z at hcell HM
  clear hc1 g1 hx
  go_wp2
  go_ret
  exact ⟨Z, rfl, HM.out, HU1.out, G1.out⟩

def namesL : List ByteArray := [⟨#[97]⟩, ⟨#[98]⟩, ⟨#[99]⟩, ⟨#[98, 48]⟩, ⟨#[98, 49]⟩, ⟨#[98, 50]⟩, ⟨#[109, 43]⟩, ⟨#[120]⟩]
theorem names_cells (w : World) : ∀ j z, namesL[j]? = some z → (w.alloc (.cells #[.string ⟨#[97]⟩, .string ⟨#[98]⟩, .string ⟨#[99]⟩, .string ⟨#[98, 48]⟩, .string ⟨#[98, 49]⟩, .string ⟨#[98, 50]⟩, .string ⟨#[109, 43]⟩, .string ⟨#[120]⟩] 9)).cell? ⟨w.heap.size, j, none⟩ = some (.string z) := by
  intro j z hz
  refine (World.cell?_alloc_mark w (namesL.map Value.string).toArray 9 (0, 0) j).trans ?_
  rw [List.getElem?_toArray, List.getElem?_map, hz]
  rfl
theorem names_small : ∀ z ∈ namesL, 1 ≤ z.size ∧ z.size ≤ 8 := by
  intro z hz
  simp only [namesL, List.mem_cons, List.not_mem_nil, or_false] at hz
  rcases hz with rfl | rfl | rfl | rfl | rfl | rfl | rfl | rfl <;> decide

end Go.Proofs.YtijmlgdeeodehabDoor

/- A drawn key of a change. -/
namespace Go.Proofs.YtijmlgdeeodehabDoor
open Go.RowKit

def keysL : List ByteArray := [⟨#[97]⟩, ⟨#[98]⟩, ⟨#[99]⟩, ⟨#[100]⟩, ⟨#[107, 101, 121]⟩, ⟨#[107, 107]⟩]
theorem keys_cells (w : World) : ∀ j z, keysL[j]? = some z → (w.alloc (.cells #[.string ⟨#[97]⟩, .string ⟨#[98]⟩, .string ⟨#[99]⟩, .string ⟨#[100]⟩, .string ⟨#[107, 101, 121]⟩, .string ⟨#[107, 107]⟩] 9)).cell? ⟨w.heap.size, j, none⟩ = some (.string z) := by
  intro j z hz
  refine (World.cell?_alloc_mark w (keysL.map Value.string).toArray 9 (0, 0) j).trans ?_
  rw [List.getElem?_toArray, List.getElem?_map, hz]
  rfl
theorem keys_small : ∀ z ∈ keysL, 1 ≤ z.size ∧ z.size ≤ 8 := by
  intro z hz
  simp only [keysL, List.mem_cons, List.not_mem_nil, or_false] at hz
  rcases hz with rfl | rfl | rfl | rfl | rfl | rfl <;> decide

set_option maxHeartbeats 1000000 in
theorem key_any (w0 w : World) (g : Nat) (ao : Option Addr) (len cap : Nat) (hlen : len ≤ 1048576) (hcode : Code w0 ao len) (hc : CurAt w0 w g ao len cap) :
    Calls Tryd.prog 73 #[.pointer (some ⟨g, 0, none⟩)] w fun e w' => ∃ z : ByteArray, e = .returned (.string z) ∧ (1 ≤ z.size ∧ z.size ≤ 8) ∧ CurAt w0 w' g ao len cap ∧ w.grownBy w' (some g) := by
  have HC := hide hcode
  have HU := hide hc
  have hgl := cur_lt hc
  clear hcode hc
  have hb : Below w.heap.size w (w.alloc (.cells #[.string ⟨#[97]⟩, .string ⟨#[98]⟩, .string ⟨#[99]⟩, .string ⟨#[100]⟩, .string ⟨#[107, 101, 121]⟩, .string ⟨#[107, 107]⟩] 9)) := (Below.refl _ _).alloc (Nat.le_refl _) _
  have HB := hide hb
  clear hb
  go_enter Tryd.func73, Tryd.ntmps73
  go_wp2_with fail
  refine (pickText_any w0 _ g w.heap.size ao len cap 6 keysL hlen HC.out (cur_keep HU.out HB.out hgl) (by omega) rfl (by omega) (by omega) (keys_cells w)).mono ?_
  rintro e w2 ⟨z, rfl, hz, hc2, g2⟩
  have HZ := hide (keys_small z hz)
  have HU2 := hide hc2
  have HG := hide (grownBy_trans (grownBy_below (some g) HB.out) g2)
  clear hz hc2 g2
  go_wp2
  go_ret
  exact ⟨z, rfl, HZ.out, HU2.out, HG.out⟩
end Go.Proofs.YtijmlgdeeodehabDoor

/- The bytes of a draw stay; a law that is handed too much. -/
namespace Go.Proofs.YtijmlgdeeodehabDoor
open Go.RowKit

theorem code_keep {w0 w : World} {ao : Option Addr} {len : Nat} (h : Code w0 ao len) (hb : Below w0.heap.size w0 w) : Code w ao len := by
  intro j hj
  obtain ⟨b, off, z, h1, h2, h3, h4⟩ := h j hj
  exact ⟨b, off, z, h1, Nat.lt_of_lt_of_le h2 hb.size, (hb.cell (p := ⟨b, off + j, none⟩) h2).trans h3, h4⟩

theorem big_any (w : World) (ao : Option Addr) (len cap : Nat) :
    Calls Tryd.prog 5 #[.slice ao len cap] w fun e w' => e = .returned (.bool (decide (1048576 < (len : Int)))) ∧ w' = w := by
  go_enter Tryd.func5, Tryd.ntmps5
  go_wp2
  go_ret
  exact ⟨rfl, rfl⟩
end Go.Proofs.YtijmlgdeeodehabDoor

/- More of a draw: many bytes of one kind. -/
namespace Go.Proofs.YtijmlgdeeodehabDoor
open Go.RowKit

theorem made_bytes (n : Nat) : (madeCells (Value.int .u8 0).cells (n * 1)).toList = (List.replicate n (0 : UInt8)).map bv := by
  show (madeCells #[.int .u8 0] (n * 1)).toList = _
  rw [toList_madeCells_one, Nat.mul_one, List.map_replicate]
  rfl

set_option maxHeartbeats 1000000 in
theorem long_any (n x : Nat) (w : World) (hn : n ≤ 1000000) (hx : x < 256) :
    Calls Tryd.prog 57 #[.int .i64 n, .int .u8 x] w fun e w' => ∃ l : List UInt8, e = .returned (.string ⟨l.toArray⟩) ∧ l.length = n ∧ Below w.heap.size w w' := by
  obtain ⟨i0, hi, hz0, hz1, hz2⟩ := info_parts Tryd.info5
  go_enter Tryd.func57, Tryd.ntmps57
  go_wp2_with (at_make; refine wpList_make_full _ rfl _ _ 22 rfl w.heap.size 5 i0 (.int .u8 0) 1 Tryd.underlying22 hi hz0 hz1 _ _ _ _ n rfl rfl rfl rfl (by rw [hz2]; omega) (by unfold maxLen; omega) (Nat.le_refl _) ?_; intro w1 hown1 hgrow1)
  have hb1 : Below w.heap.size w w1 := (Below.refl _ _).grown hgrow1 (Nat.le_refl _) (fun k hk => by cases hk)
  rw [made_bytes] at hown1
  clear hgrow1
  obtain ⟨g, hg⟩ : ∃ g, w.heap.size = g := ⟨_, rfl⟩
  go_loopw [6] (fun ii wr => ∃ (k : Nat) (l : List UInt8), ii = .int .i64 k ∧ k ≤ n ∧ l.length = n ∧ wr.ownsRow w.heap.size 5 1 (.slice (some ⟨w.heap.size, 0, none⟩) n n) n (l.map bv) ∧ Below w.heap.size w wr) (fun ii _ => n - (intOf ii).toNat)
  case atStart => exact ⟨0, _, rfl, Nat.zero_le _, by simp, hown1, hb1⟩
  case round =>
    obtain ⟨k, l, rfl, hk, hl, hown, hb⟩ := hrel
    have HL := hide hl
    clear hl hown1 hb1 hg
    by_cases hlt : k < n
    · have hfr := hown.frozenAt k
      have hcl : wr.cell? ⟨w.heap.size, k, none⟩ = some (.int .u8 ((l[k]'(by rw [HL.out]; exact hlt)).toNat : Int)) := by
        rw [hown.cellAt k (by omega), List.getElem?_map, List.getElem?_eq_getElem (by rw [HL.out]; exact hlt)]; rfl
      have hi0 : (0 : Int) ≤ (k : Int) := by omega
      have hi1 : (k : Int) < (n : Int) := by omega
      have HO := hide hown
      have HB := hide hb
      clear hown hb
      go_wp2
      go_roundw
      case rel =>
        refine ⟨k + 1, l.set k (UInt8.ofNat x), by go_num, by omega, by rw [List.length_set]; exact HL.out, ?_, HB.out.setCell (p := ⟨w.heap.size, k, none⟩) (Nat.le_refl _) _⟩
        have := (HO.out.stored k (bv (UInt8.ofNat x))).1
        rw [List.map_set]
        have e : bv (UInt8.ofNat x) = .int .u8 (x : Int) := by
          have : ((UInt8.ofNat x).toNat : Int) = (x : Int) := by simp only [UInt8.toNat_ofNat']; omega
          unfold bv; rw [this]
        rw [e] at this ⊢
        exact this
      case measure => simp [intOf]; omega
    · have hcv := conv_own 22 5 9 Tryd.underlying22 Tryd.underlying5 Tryd.underlying9 wr _ _ l (by rw [HL.out]; exact hown)
      go_wp2
      go_ret
      exact ⟨l, rfl, HL.out, hb⟩
end Go.Proofs.YtijmlgdeeodehabDoor

/- One number of a list is drawn; a long text. -/
namespace Go.Proofs.YtijmlgdeeodehabDoor
open Go.RowKit

/-- One of the numbers of a list. -/
theorem pickInt_any (w0 w : World) (g b : Nat) (ao : Option Addr) (len cap n : Nat) (zs : List Int) (hlen : len ≤ 1048576) (hcode : Code w0 ao len) (hc : CurAt w0 w g ao len cap) (hne : b ≠ g)
    (hzs : zs.length = n) (hn0 : 0 < n) (hn : n ≤ 1000) (hcells : ∀ j z, zs[j]? = some z → w.cell? ⟨b, j, none⟩ = some (.int .i64 z)) :
    Calls Tryd.prog 58 #[.pointer (some ⟨g, 0, none⟩), .slice (some ⟨b, 0, none⟩) n n] w fun e w' => ∃ z : Int, e = .returned (.int .i64 z) ∧ z ∈ zs ∧ CurAt w0 w' g ao len cap ∧ w.grownBy w' (some g) := by
  have HC := hide hcode
  have HU := hide hc
  have HZ := hide hcells
  have HN := hide hzs
  clear hcode hc hcells hzs
  go_enter Tryd.func58, Tryd.ntmps58
  go_wp2_with fail
  refine (below_any w0 _ g ao len cap _ hlen (by omega) HC.out HU.out).mono ?_
  rintro e w1 ⟨x, rfl, hx, _, hc1, g1⟩
  have hxn : (x : Int) < (n : Int) := hx (by omega)
  have hx0 : (0 : Int) ≤ (x : Int) := by omega
  have hxl : x < zs.length := by rw [HN.out]; omega
  have hcell : w1.cell? ⟨b, x, none⟩ = some (.int .i64 zs[x]) := g1.cell (HZ.out x zs[x] (List.getElem?_eq_getElem hxl)) (by intro e; simp at e; exact hne e)
  have HU1 := hide hc1
  have G1 := hide g1
  clear hc1 g1 hx
  go_wp2
  go_ret
  exact ⟨zs[x], rfl, List.getElem_mem hxl, HU1.out, G1.out⟩

theorem ints_cells {w : World} {b : Nat} {T : TypeId} (zs : List Int) (h : w.heap[b]? = some (.cells (zs.map (Value.int .i64)).toArray T (0, 0))) : ∀ j z, zs[j]? = some z → w.cell? ⟨b, j, none⟩ = some (.int .i64 z) := by
  intro j z hz
  rw [cell_of_row w b j _ _ (0, 0) h, List.getElem?_toArray, List.getElem?_map, hz]
  rfl
theorem texts_cells {w : World} {b : Nat} {T : TypeId} (zs : List ByteArray) (h : w.heap[b]? = some (.cells (zs.map Value.string).toArray T (0, 0))) : ∀ j z, zs[j]? = some z → w.cell? ⟨b, j, none⟩ = some (.string z) := by
  intro j z hz
  rw [cell_of_row w b j _ _ (0, 0) h, List.getElem?_toArray, List.getElem?_map, hz]
  rfl

/-- Many bytes of one kind, by a number of any form. -/
theorem long_int (n x : Int) (w : World) (h0 : 0 ≤ n) (hn : n ≤ 1000000) (hx0 : 0 ≤ x) (hx : x < 256) :
    Calls Tryd.prog 57 #[.int .i64 n, .int .u8 x] w fun e w' => ∃ T : ByteArray, e = .returned (.string T) ∧ T.size = n.toNat ∧ Below w.heap.size w w' := by
  obtain ⟨m, rfl⟩ := Int.eq_ofNat_of_zero_le h0
  obtain ⟨y, rfl⟩ := Int.eq_ofNat_of_zero_le hx0
  refine (long_any m y w (by omega) (by omega)).mono ?_
  rintro e w' ⟨l, rfl, hl, hb⟩
  exact ⟨⟨l.toArray⟩, rfl, by show l.length = _; omega, hb⟩
end Go.Proofs.YtijmlgdeeodehabDoor
