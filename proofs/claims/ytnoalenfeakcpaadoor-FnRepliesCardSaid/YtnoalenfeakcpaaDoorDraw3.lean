/- A text of drawn bytes. -/
import Derived.Test.YtnoalenfeakcpaaDoorDraw2
namespace Go.Proofs.YtnoalenfeakcpaaDoor
open Go.RowKit

theorem grownBy_then {a b c : World} {r : Option Nat} (h : a.grownBy b r) (k : Below a.heap.size b c) : a.grownBy c r :=
  ⟨k.os.trans h.os, k.tape.trans h.tape, k.output.trans h.output, Nat.le_trans h.size k.size, fun i hi hr => (k.block i hi).trans (h.block i hi hr)⟩
theorem cur_keep {w0 w w' : World} {g : Nat} {ao : Option Addr} {len cap B : Nat} (h : CurAt w0 w g ao len cap) (hb : Below B w w') (hB : g < B) : CurAt w0 w' g ao len cap := by
  obtain ⟨h1, h2, i, x, T, hi, hh⟩ := h
  exact ⟨h1.trans (hb.mono (by omega)), h2, i, x, T, hi, by rw [hb.block g hB]; exact hh⟩
theorem cur_lt {w0 w : World} {g : Nat} {ao : Option Addr} {len cap : Nat} (h : CurAt w0 w g ao len cap) : g < w.heap.size := by
  obtain ⟨_, _, i, x, T, _, hh⟩ := h
  rcases Nat.lt_or_ge g w.heap.size with h | h
  · exact h
  · rw [Array.getElem?_eq_none h] at hh; cases hh
theorem row_keep {w w' : World} {B g n : Nat} {e : TypeId} {size : Nat} {v : Value} {xs : List Value} (h : w.ownsRow B e size v n xs) (hg : w.grownBy w' (some g)) (hB : g < B) : w'.ownsRow B e size v n xs := by
  refine h.kept hg ?_
  cases hv : v.ownBlock with
  | none => exact .inl rfl
  | some k =>
    right
    intro e
    have := (h.lt k hv).1
    simp at e
    omega

set_option maxRecDepth 100000 in
set_option maxHeartbeats 1000000 in
theorem text_small (w0 w : World) (g : Nat) (ao : Option Addr) (len cap : Nat) (n : Int) (hlen : len ≤ 1048576) (hn : n ≤ 5000) (hcode : Code w0 ao len) (hc : CurAt w0 w g ao len cap) :
    Calls Tryd.prog 51 #[.pointer (some ⟨g, 0, none⟩), .int .i64 n] w fun e w' => ∃ l : List UInt8, e = .returned (.string ⟨l.toArray⟩) ∧ l.length = n.toNat ∧ CurAt w0 w' g ao len cap ∧ w.grownBy w' (some g) := by
  have hgl := cur_lt hc
  have HC := hide hcode
  have HU := hide hc
  clear hcode hc
  have hn' : decide (5000 < n) = false := by simp; omega
  go_enter Tryd.func51, Tryd.ntmps51
  go_wp2
  go_loopw [5, 6] (fun v ii wr => ∃ (k : Nat) (l : List UInt8), ii = .int .i64 k ∧ k ≤ n.toNat ∧ l.length = k ∧ wr.ownsRow w.heap.size 5 1 v l.length (l.map bv) ∧ Hid (CurAt w0 wr g ao len cap) ∧ Hid (w.grownBy wr (some g)) ∧ w.heap.size ≤ wr.heap.size) (fun _ ii _ => n.toNat - (intOf ii).toNat)
  case atStart =>
    refine ⟨0, [], rfl, Nat.zero_le _, rfl, World.ownsRow_lit w #[] 0 (Nat.le_refl _) (by unfold maxLen; omega) (by simp), cur_keep HU.out ((Below.refl w.heap.size w).alloc (Nat.le_refl _) _) hgl, grownBy_below _ ((Below.refl _ _).alloc (Nat.le_refl _) _), by simp⟩
  case round =>
    obtain ⟨k, l, rfl, hk, hl, hown, HU2, HG, hbs⟩ := hrel
    by_cases hlt : (k : Int) < n
    · have hlt' : decide ((k : Int) < n) = true := by simp; omega
      have HO := hide hown
      have HLL := hide hl
      clear hown hl
      go_wp2_with fail
      refine (byte_any w0 _ g ao len cap hlen HC.out HU2.out).mono ?_
      rintro e w1 ⟨x, rfl, hx, hc1, g1⟩
      have hown1 := row_keep HO.out g1 hgl
      have HU3 := hide hc1
      have G1 := hide g1
      have hs1 := g1.size
      clear hc1 g1
      obtain ⟨y, hyn⟩ : ∃ y : UInt8, Hid ((x : Int) = (y.toNat : Int)) := ⟨UInt8.ofNat x, by simp only [Hid, UInt8.toNat_ofNat']; omega⟩
      have hC : Hid ((#[.int .u8 (x : Int)] : Array Value).toList = [y].map bv) := by simp only [Hid, bv, List.map_cons, List.map_nil, hyn.out]
      have hll : l.length + [y].length ≤ 70368744177664 := by have := HLL.out; simp; omega
      go_wp2_with (at_builtin; refine app_bytes w1 31 5 Tryd.underlying31 Tryd.info5 w1 w.heap.size rfl _ _ rfl _ l [y] rfl hown1 rfl hC.out hll (Below.refl _ _) (by omega) ?_; intro v' w2 hown2 hb2 hs2)
      go_roundw
      case rel => exact ⟨k + 1, l ++ [y], by go_num, by omega, by have := HLL.out; simp; omega, hown2, cur_keep HU3.out hb2 hgl, grownBy_then (grownBy_trans HG.out G1.out) hb2, by omega⟩
      case measure => simp [intOf]; omega
    · have hlt' : decide ((k : Int) < n) = false := by simp; omega
      have hcv := conv_own 31 5 9 Tryd.underlying31 Tryd.underlying5 Tryd.underlying9 wr _ _ _ hown
      have HLL := hide hl
      clear hl
      go_wp2
      go_ret
      exact ⟨l, rfl, by have := HLL.out; omega, HU2.out, HG.out⟩

theorem text_any (w0 w : World) (g : Nat) (ao : Option Addr) (len cap : Nat) (n : Int) (hlen : len ≤ 1048576) (hn : n ≤ 5000) (hcode : Code w0 ao len) (hc : CurAt w0 w g ao len cap) :
    Calls Tryd.prog 51 #[.pointer (some ⟨g, 0, none⟩), .int .i64 n] w fun e w' => ∃ l : List UInt8, e = .returned (.string ⟨l.toArray⟩) ∧ l.length = n.toNat ∧ CurAt w0 w' g ao len cap ∧ w.grownBy w' (some g) :=
  text_small w0 w g ao len cap n hlen hn hcode hc
end Go.Proofs.YtnoalenfeakcpaaDoor
