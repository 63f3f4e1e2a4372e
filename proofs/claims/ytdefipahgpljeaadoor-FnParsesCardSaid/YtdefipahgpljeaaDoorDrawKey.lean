/- A drawn key of a change. -/
import Derived.Test.YtdefipahgpljeaaDoorDrawNm
namespace Go.Proofs.YtdefipahgpljeaaDoor
open Go.RowKit

def keysL : List ByteArray := [⟨#[97]⟩, ⟨#[98]⟩, ⟨#[99]⟩, ⟨#[100]⟩, ⟨#[107, 101, 121]⟩, ⟨#[107, 107]⟩]
theorem keys_cells (w : World) : ∀ j z, keysL[j]? = some z → (w.alloc (.cells #[.string ⟨#[97]⟩, .string ⟨#[98]⟩, .string ⟨#[99]⟩, .string ⟨#[100]⟩, .string ⟨#[107, 101, 121]⟩, .string ⟨#[107, 107]⟩] 9)).cell? ⟨w.heap.size, j, none⟩ = some (.string z) := by
  intro j z hz
  refine (World.cell?_alloc_mark w (keysL.map Value.string).toArray 9 (0, 0) j).trans ?_
  rw [List.getElem?_toArray, List.getElem?_map, hz]
  rfl
theorem keys_small : ∀ z ∈ keysL, 1 ≤ z.size ∧ z.size ≤ 8 := by
  intro z hz
  simp only [keysL, List.mem_cons, List.not_mem_nil, or_false] at hz
  rcases hz with rfl | rfl | rfl | rfl | rfl | rfl <;> decide

set_option maxHeartbeats 1000000 in
theorem key_any (w0 w : World) (g : Nat) (ao : Option Addr) (len cap : Nat) (hlen : len ≤ 1048576) (hcode : Code w0 ao len) (hc : CurAt w0 w g ao len cap) :
    Calls Tryd.prog 30 #[.pointer (some ⟨g, 0, none⟩)] w fun e w' => ∃ z : ByteArray, e = .returned (.string z) ∧ (1 ≤ z.size ∧ z.size ≤ 8) ∧ CurAt w0 w' g ao len cap ∧ w.grownBy w' (some g) := by
  have HC := hide hcode
  have HU := hide hc
  have hgl := cur_lt hc
  clear hcode hc
  have hb : Below w.heap.size w (w.alloc (.cells #[.string ⟨#[97]⟩, .string ⟨#[98]⟩, .string ⟨#[99]⟩, .string ⟨#[100]⟩, .string ⟨#[107, 101, 121]⟩, .string ⟨#[107, 107]⟩] 9)) := (Below.refl _ _).alloc (Nat.le_refl _) _
  have HB := hide hb
  clear hb
  go_enter Tryd.func30, Tryd.ntmps30
  go_wp2_with fail
  refine (pickText_any w0 _ g w.heap.size ao len cap 6 keysL hlen HC.out (cur_keep HU.out HB.out hgl) (by omega) rfl (by omega) (by omega) (keys_cells w)).mono ?_
  rintro e w2 ⟨z, rfl, hz, hc2, g2⟩
  have HZ := hide (keys_small z hz)
  have HU2 := hide hc2
  have HG := hide (grownBy_trans (grownBy_below (some g) HB.out) g2)
  clear hz hc2 g2
  go_wp2
  go_ret
  exact ⟨z, rfl, HZ.out, HU2.out, HG.out⟩
end Go.Proofs.YtdefipahgpljeaaDoor
