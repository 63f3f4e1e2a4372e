/- One number of a list is drawn; a long text. -/
import Derived.Test.YtbenmgokhklnjaaDraw4
namespace Go.Proofs.Ytbenmgokhklnjaa
open Go.RowKit

/-- One of the numbers of a list. -/
theorem pickInt_any (w0 w : World) (g b : Nat) (ao : Option Addr) (len cap n : Nat) (zs : List Int) (hlen : len ≤ 1048576) (hcode : Code w0 ao len) (hc : CurAt w0 w g ao len cap) (hne : b ≠ g)
    (hzs : zs.length = n) (hn0 : 0 < n) (hn : n ≤ 1000) (hcells : ∀ j z, zs[j]? = some z → w.cell? ⟨b, j, none⟩ = some (.int .i64 z)) :
    Calls Try.prog 63 #[.pointer (some ⟨g, 0, none⟩), .slice (some ⟨b, 0, none⟩) n n] w fun e w' => ∃ z : Int, e = .returned (.int .i64 z) ∧ z ∈ zs ∧ CurAt w0 w' g ao len cap ∧ w.grownBy w' (some g) := by
  have HC := hide hcode
  have HU := hide hc
  have HZ := hide hcells
  have HN := hide hzs
  clear hcode hc hcells hzs
  go_enter Try.func63, Try.ntmps63
  go_wp2_with fail
  refine (below_any w0 _ g ao len cap _ hlen (by omega) HC.out HU.out).mono ?_
  rintro e w1 ⟨x, rfl, hx, _, hc1, g1⟩
  have hxn : (x : Int) < (n : Int) := hx (by omega)
  have hx0 : (0 : Int) ≤ (x : Int) := by omega
  have hxl : x < zs.length := by rw [HN.out]; omega
  have hcell : w1.cell? ⟨b, x, none⟩ = some (.int .i64 zs[x]) := g1.cell (HZ.out x zs[x] (List.getElem?_eq_getElem hxl)) (by intro e; simp at e; exact hne e)
  have HU1 := hide hc1
  have G1 := hide g1
  clear hc1 g1 hx
  go_wp2
  go_ret
  exact ⟨zs[x], rfl, List.getElem_mem hxl, HU1.out, G1.out⟩

theorem ints_cells {w : World} {b : Nat} {T : TypeId} (zs : List Int) (h : w.heap[b]? = some (.cells (zs.map (Value.int .i64)).toArray T (0, 0))) : ∀ j z, zs[j]? = some z → w.cell? ⟨b, j, none⟩ = some (.int .i64 z) := by
  intro j z hz
  rw [cell_of_row w b j _ _ (0, 0) h, List.getElem?_toArray, List.getElem?_map, hz]
  rfl
theorem texts_cells {w : World} {b : Nat} {T : TypeId} (zs : List ByteArray) (h : w.heap[b]? = some (.cells (zs.map Value.string).toArray T (0, 0))) : ∀ j z, zs[j]? = some z → w.cell? ⟨b, j, none⟩ = some (.string z) := by
  intro j z hz
  rw [cell_of_row w b j _ _ (0, 0) h, List.getElem?_toArray, List.getElem?_map, hz]
  rfl

/-- Many bytes of one kind, by a number of any form. -/
theorem long_int (n x : Int) (w : World) (h0 : 0 ≤ n) (hn : n ≤ 1000000) (hx0 : 0 ≤ x) (hx : x < 256) :
    Calls Try.prog 64 #[.int .i64 n, .int .u8 x] w fun e w' => ∃ T : ByteArray, e = .returned (.string T) ∧ T.size = n.toNat ∧ Below w.heap.size w w' := by
  obtain ⟨m, rfl⟩ := Int.eq_ofNat_of_zero_le h0
  obtain ⟨y, rfl⟩ := Int.eq_ofNat_of_zero_le hx0
  refine (long_any m y w (by omega) (by omega)).mono ?_
  rintro e w' ⟨l, rfl, hl, hb⟩
  exact ⟨⟨l.toArray⟩, rfl, by show l.length = _; omega, hb⟩
end Go.Proofs.Ytbenmgokhklnjaa
