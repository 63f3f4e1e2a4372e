/- The draws of chapter 1: a number; a text. -/
import Derived.Test.YtaalegphjemknaaDoorDraw4
namespace Go.Proofs.YtaalegphjemknaaDoor
open Go.RowKit

/-- One of the numbers of a list. -/
theorem pick_any (w0 w : World) (g b : Nat) (ao : Option Addr) (len cap n : Nat) (zs : List Int) (hlen : len ≤ 1048576) (hcode : Code w0 ao len) (hc : CurAt w0 w g ao len cap) (hne : b ≠ g)
    (hzs : zs.length = n) (hn0 : 0 < n) (hn : n ≤ 1000) (hcells : ∀ j z, zs[j]? = some z → w.cell? ⟨b, j, none⟩ = some (.int .i64 z)) :
    Calls Tryd.prog 34 #[.pointer (some ⟨g, 0, none⟩), .slice (some ⟨b, 0, none⟩) n n] w fun e w' => ∃ z : Int, e = .returned (.int .i64 z) ∧ z ∈ zs ∧ CurAt w0 w' g ao len cap ∧ w.grownBy w' (some g) := by
  have HC := hide hcode
  have HU := hide hc
  have HZ := hide hcells
  have HN := hide hzs
  clear hcode hc hcells hzs
  go_enter Tryd.func34, Tryd.ntmps34
  go_wp2_with fail
  refine (below_any w0 _ g ao len cap _ hlen (by omega) HC.out HU.out).mono ?_
  rintro e w1 ⟨x, rfl, hx, _, hc1, g1⟩
  have hxn : (x : Int) < (n : Int) := hx (by omega)
  have hx0 : (0 : Int) ≤ (x : Int) := by omega
  have hxl : x < zs.length := by rw [HN.out]; omega
  have hcell : w1.cell? ⟨b, x, none⟩ = some (.int .i64 zs[x]) := g1.cell (HZ.out x zs[x] (List.getElem?_eq_getElem hxl)) (by intro e; simp at e; exact hne e)
  have HU1 := hide hc1
  have G1 := hide g1
  clear hc1 g1 hx
  go_wp2
  go_ret
  exact ⟨zs[x], rfl, List.getElem_mem hxl, HU1.out, G1.out⟩

/-- The numbers that are drawn first of all. -/
def edges : List Int := [-1, 0, 127, 128, 16383, 16384, 1000000000, 1000000001, 9223372036854775807, -9223372036854775808]

theorem edges_cells (w : World) : ∀ j z, edges[j]? = some z → (w.alloc (.cells #[.int .i64 (-1), .int .i64 0, .int .i64 127, .int .i64 128, .int .i64 16383, .int .i64 16384, .int .i64 1000000000, .int .i64 1000000001, .int .i64 9223372036854775807, .int .i64 (-9223372036854775808)] 3)).cell? ⟨w.heap.size, j, none⟩ = some (.int .i64 z) := by
  intro j z hz
  refine (World.cell?_alloc_mark w (edges.map (Value.int .i64)).toArray 3 (0, 0) j).trans ?_
  rw [List.getElem?_toArray, List.getElem?_map, hz]
  rfl

set_option maxHeartbeats 1000000 in
theorem number_any (w0 w : World) (g : Nat) (ao : Option Addr) (len cap : Nat) (hlen : len ≤ 1048576) (hcode : Code w0 ao len) (hc : CurAt w0 w g ao len cap) :
    Calls Tryd.prog 22 #[.pointer (some ⟨g, 0, none⟩)] w fun e w' => ∃ z : Int, e = .returned (.int .i64 z) ∧ -9223372036854775808 ≤ z ∧ z ≤ 9223372036854775807 ∧ CurAt w0 w' g ao len cap ∧ w.grownBy w' (some g) := by
  have hgl := cur_lt hc
  have HC := hide hcode
  have HU := hide hc
  clear hcode hc
  go_enter Tryd.func22, Tryd.ntmps22
  go_wp2_with fail
  refine (below_any w0 _ g ao len cap _ hlen (by omega) HC.out HU.out).mono ?_
  rintro e w1 ⟨x, rfl, _, _, hc1, g1⟩
  have HU1 := hide hc1
  have G1 := hide g1
  have s1 := g1.size
  clear hc1 g1
  by_cases h0 : x = 0
  · have h0' : ((x : Int) == 0) = true := by simp; omega
    clear h0
    go_wp2_with fail
    have hb := (Below.refl w1.heap.size w1).alloc (Nat.le_refl _) (.cells #[.int .i64 (-1), .int .i64 0, .int .i64 127, .int .i64 128, .int .i64 16383, .int .i64 16384, .int .i64 1000000000, .int .i64 1000000001, .int .i64 9223372036854775807, .int .i64 (-9223372036854775808)] 3)
    refine (pick_any w0 _ g w1.heap.size ao len cap 10 edges hlen HC.out (cur_keep HU1.out hb (by omega)) (by omega) rfl (by omega) (by omega) (edges_cells w1)).mono ?_
    rintro e w2 ⟨z, rfl, hz, hc2, g2⟩
    have hzb : -9223372036854775808 ≤ z ∧ z ≤ 9223372036854775807 := by
      simp only [edges, List.mem_cons, List.mem_nil_iff, or_false] at hz
      omega
    have HR := hide (grownBy_trans (grownBy_trans G1.out (grownBy_below (some g) hb)) g2)
    clear hb g2 hz
    go_wp2
    go_ret
    exact ⟨z, rfl, hzb.1, hzb.2, hc2, HR.out⟩
  · have h0' : ((x : Int) == 0) = false := by simp; omega
    clear h0
    by_cases h1 : x = 1
    · have h1' : ((x : Int) == 1) = true := by simp; omega
      clear h1
      go_wp2_with fail
      refine (below_any w0 _ g ao len cap _ hlen (by omega) HC.out HU1.out).mono ?_
      rintro e w2 ⟨y, rfl, hy, _, hc2, g2⟩
      have hy' := hy (by omega)
      go_wp2
      go_ret
      exact ⟨y, rfl, by omega, by omega, hc2, grownBy_trans G1.out g2⟩
    · have h1' : ((x : Int) == 1) = false := by simp; omega
      clear h1
      go_wp2_with fail
      refine (below_any w0 _ g ao len cap _ hlen (by omega) HC.out HU1.out).mono ?_
      rintro e w2 ⟨y, rfl, hy, _, hc2, g2⟩
      have hy' := hy (by omega)
      go_wp2
      go_ret
      exact ⟨y, rfl, by omega, by omega, hc2, grownBy_trans G1.out g2⟩

theorem drawVar_any (w : World) (ao : Option Addr) (len cap : Nat) (hlen : len ≤ 1048576) (hcode : Code w ao len) :
    Calls Tryd.prog 6 #[.slice ao len cap] w fun e w' => ∃ z : Int, e = .returned (.int .i64 z) ∧ -9223372036854775808 ≤ z ∧ z ≤ 9223372036854775807 ∧ Below w.heap.size w w' := by
  have HC := hide hcode
  clear hcode
  go_enter Tryd.func6, Tryd.ntmps6
  go_wp2_with fail
  refine (new_any _ ao len cap hlen HC.out).mono ?_
  rintro e w1 ⟨g, rfl, hc1⟩
  go_wp2_with fail
  refine (number_any w _ g ao len cap hlen HC.out hc1).mono ?_
  rintro e w2 ⟨z, rfl, h1, h2, hc2, g2⟩
  go_wp2
  go_ret
  exact ⟨z, rfl, h1, h2, hc2.1⟩

theorem drawHex_any (w : World) (ao : Option Addr) (len cap : Nat) (hlen : len ≤ 1048576) (hcode : Code w ao len) :
    Calls Tryd.prog 11 #[.slice ao len cap] w fun e w' => ∃ l : List UInt8, e = .returned (.string ⟨l.toArray⟩) ∧ l.length ≤ 20001 ∧ Below w.heap.size w w' := by
  have HC := hide hcode
  clear hcode
  go_enter Tryd.func11, Tryd.ntmps11
  go_wp2_with fail
  refine (new_any _ ao len cap hlen HC.out).mono ?_
  rintro e w1 ⟨g, rfl, hc1⟩
  have HU1 := hide hc1
  clear hc1
  go_wp2_with fail
  refine (once_any w _ g ao len cap _ hlen (by omega) HC.out HU1.out).mono ?_
  rintro e w2 ⟨b, rfl, hc2, g2⟩
  have HU2 := hide hc2
  clear hc2 g2
  cases b with
  | true =>
    go_wp2_with fail
    refine (below_any w _ g ao len cap _ hlen (by omega) HC.out HU2.out).mono ?_
    rintro e w3 ⟨x, rfl, hx, _, hc3, g3⟩
    have hx' := hx (by omega)
    have HU3 := hide hc3
    clear hc3 g3 hx
    go_wp2_with fail
    rw [show (20000 + (x : Int)) = ((20000 + x : Nat) : Int) from by omega]
    refine (long_any (20000 + x) 200 _ (by omega) (by omega)).mono ?_
    rintro e w4 ⟨l, rfl, hl, hb4⟩
    have HL := hide hl
    clear hl
    go_wp2
    go_ret
    exact ⟨l, rfl, by have := HL.out; omega, HU3.out.1.trans (hb4.mono HU3.out.1.size)⟩
  | false =>
    go_wp2_with fail
    refine (below_any w _ g ao len cap _ hlen (by omega) HC.out HU2.out).mono ?_
    rintro e w3 ⟨x, rfl, hx, _, hc3, g3⟩
    have hx' := hx (by omega)
    have HU3 := hide hc3
    clear hc3 g3 hx
    go_wp2_with fail
    refine (text_any w _ g ao len cap _ hlen (by omega) HC.out HU3.out).mono ?_
    rintro e w4 ⟨l, rfl, hl, hc4, g4⟩
    have HL := hide hl
    clear hl
    go_wp2
    go_ret
    exact ⟨l, rfl, by have := HL.out; omega, hc4.1⟩
end Go.Proofs.YtaalegphjemknaaDoor
