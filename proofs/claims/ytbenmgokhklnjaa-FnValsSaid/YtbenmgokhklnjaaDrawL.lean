/- Some drawn changes (written by tools/gen_drawl.py). -/
import Derived.Test.YtbenmgokhklnjaaDrawKey
import Derived.Test.YtbenmgokhklnjaaChangeL
import Derived.Test.YtbenmgokhklnjaaTurnQ
import Derived.Deep.RegionHeld3
import Derived.Deep.RegionLaw
import Derived.Deep.CutRange
namespace Go.Proofs.Ytbenmgokhklnjaa
open Go.RowKit

theorem blk_lt {w : World} {k : Nat} {x : Obj} (h : w.heap[k]? = some x) : k < w.heap.size := (Array.getElem?_eq_some_iff.1 h).1
/-- One change is put behind a row of the call's own, in a plain region: which blocks are kept. -/
theorem app_change_g {ops : Array Oper} {rest : List Oper} {o : Oper} {a : Act} {Q : Exit → Act → World → Prop} (W : World) (B : Nat) (hgd : o.guard = none) (s y : Operand)
    (ho : o.op = .call { callee := .builtin .append, args := #[s, y], argTypes := #[47, 47] }) (v : Value) (l : List ChangeD) (F : ChangeD) (hs : a.eval s = v)
    (hown : W.ownsRow B 86 3 v l.length (cellsChange l)) (k : Nat) (hx : a.eval y = .slice (some ⟨k, 0, none⟩) 1 1) (hblk : W.heap[k]? = some (.cells #[.string F.key, .string F.value, .bool F.gone] 86 (0, 0)))
    (hlen : l.length ≤ 1048576) (hbase : B ≤ W.heap.size)
    (h : ∀ g cap w', w'.ownsRow B 86 3 (.slice (some ⟨g, 0, none⟩) (l.length + 1) cap) (l ++ [F]).length (cellsChange (l ++ [F])) → W.grownBy w' v.ownBlock → (v.ownBlock = some g ∨ g = W.heap.size) → wpList Try.prog ops Q rest (a.put o.dst (.slice (some ⟨g, 0, none⟩) (l.length + 1) cap)) w') :
    wpList Try.prog ops Q (o :: rest) a W := by
  obtain ⟨i0, hi, hz0, hz1, hz2⟩ := info_parts Try.infoChange
  refine wpList_append_lies W hgd s y 47 ho B 86 i0 (.agg #[.string ⟨#[]⟩, .string ⟨#[]⟩, .bool false]) 3 40 Try.underlying47 hi hz0 hz1 hz2 rfl (by decide) v l.length (cellsChange l) hs hown ⟨k, 0, none⟩ 1 1 (cellsChange [F]) hx (by rw [cellsChange_length]; rfl)
    (fun j u hj => World.news_of_block hblk j u hj) (cellsChange_one [F]) (by omega) (by unfold maxLen; omega) (by omega) hbase W.heap.size rfl ?_
  intro g cap w' hown' hgrow hg _
  refine h g cap w' ?_ hgrow hg
  rw [cellsChange_append, List.length_append]
  exact hown'

/-- What l05List holds: the cursor, the keys in block kb, the row so far. -/
def LS (w0 w wr : World) (g kb : Nat) (ao : Option Addr) (len cap : Nat) (v : Value) (fs : List ChangeD) : Prop :=
  CurAt w0 wr g ao len cap ∧ w.grownBy wr (some g) ∧ wr.heap[kb]? = some (.cells #[.string ⟨#[97]⟩, .string ⟨#[98]⟩, .string ⟨#[99]⟩, .string ⟨#[100]⟩, .string ⟨#[107, 101, 121]⟩, .string ⟨#[107, 107]⟩] 9 (0, 0)) ∧ wr.ownsRow w.heap.size 86 3 v fs.length (cellsChange fs) ∧ v.ownBlock ≠ some kb
theorem ls_grown {w0 w wr w' : World} {g kb : Nat} {ao : Option Addr} {len cap : Nat} {v : Value} {fs : List ChangeD} (h : LS w0 w wr g kb ao len cap v fs) (hg : g < w.heap.size) (hkb : w.heap.size < kb) (hc : CurAt w0 w' g ao len cap) (hgr : wr.grownBy w' (some g)) : LS w0 w w' g kb ao len cap v fs := by
  obtain ⟨_, h2, h3, h4, h5⟩ := h
  exact ⟨hc, grownBy_trans h2 hgr, (hgr.block kb (blk_lt h3) (by simp; omega)).trans h3, row_keep h4 hgr hg, h5⟩
theorem ls_below {w0 w wr w' : World} {g kb : Nat} {ao : Option Addr} {len cap : Nat} {v : Value} {fs : List ChangeD} (h : LS w0 w wr g kb ao len cap v fs) (hb : Below wr.heap.size wr w') : LS w0 w w' g kb ao len cap v fs := by
  obtain ⟨h1, h2, h3, h4, h5⟩ := h
  exact ⟨cur_keep h1 hb (cur_lt h1), grownBy_trans h2 (grownBy_below _ hb), (hb.block _ (blk_lt h3)).trans h3, ownsRow_below h4 hb, h5⟩
theorem cur_far {w0 w : World} {g X : Nat} {ao : Option Addr} {len cap j : Nat} {u : Value} (h : CurAt w0 w g ao len cap) (hX : g < X) : CurAt w0 (w.setCell ⟨X, j, none⟩ u) g ao len cap := by
  obtain ⟨c1, c2, i, z, T, c3, c4⟩ := h
  exact ⟨c1.setCell (p := ⟨X, j, none⟩) (by show w0.heap.size ≤ X; omega) u, c2, i, z, T, c3, (Below.heap_setCell _ _ _ _ (by intro e; simp only at e; omega)).trans c4⟩
theorem grown_far {a b : World} {r : Option Nat} (h : a.grownBy b r) {p : Nat} (hp : a.heap.size ≤ p) (j : Nat) (u : Value) : a.grownBy (b.setCell ⟨p, j, none⟩ u) r :=
  ⟨h.os, h.tape, h.output, by have := h.size; simpa [World.setCell] using this, fun k hk hne => (Below.heap_setCell _ _ _ _ (by intro e; simp only at e; omega)).trans (h.block k hk hne)⟩
theorem ls_far {w0 w wr : World} {g kb : Nat} {ao : Option Addr} {len cap : Nat} {v : Value} {fs : List ChangeD} {X j : Nat} {u : Value} (h : LS w0 w wr g kb ao len cap v fs) (hg : g < w.heap.size) (hX : w.heap.size ≤ X) (hk : kb ≠ X) (hv : ∀ b, v.ownBlock = some b → b < X) : LS w0 w (wr.setCell ⟨X, j, none⟩ u) g kb ao len cap v fs := by
  obtain ⟨h1, h2, h3, h4, h5⟩ := h
  exact ⟨cur_far h1 (by omega), grown_far h2 hX _ _, (Below.heap_setCell _ _ _ _ (by intro e; simp only at e; omega)).trans h3, h4.kept (grownBy_store (World.grownBy.refl _ (some X)) j u) (by cases e : v.ownBlock with | none => exact .inl rfl | some b => exact .inr (by have := hv b e; simp; omega)), h5⟩
theorem put_box {w : World} {X : Nat} {a b c x y z : Value} {T : TypeId} (h : w.heap[X]? = some (.cells #[a, b, c] T (0, 0))) : (((w.setCell ⟨X, 0, none⟩ x).setCell ⟨X, 1, none⟩ y).setCell ⟨X, 2, none⟩ z).heap[X]? = some (.cells #[x, y, z] T (0, 0)) :=
  (heap_setCell_same _ _ _ _ _ _ ((heap_setCell_same _ _ _ _ _ _ ((heap_setCell_same _ _ _ _ _ _ h).trans rfl)).trans rfl)).trans rfl
theorem keys_row : (#[.string ⟨#[97]⟩, .string ⟨#[98]⟩, .string ⟨#[99]⟩, .string ⟨#[100]⟩, .string ⟨#[107, 101, 121]⟩, .string ⟨#[107, 107]⟩] : Array Value) = (keysL.map Value.string).toArray := rfl
theorem ls_key {w0 w wr : World} {g kb : Nat} {ao : Option Addr} {len cap : Nat} {v : Value} {fs : List ChangeD} (h : LS w0 w wr g kb ao len cap v fs) {k : Nat} {K : ByteArray} (hK : keysL[k]? = some K) : wr.cell? ⟨kb, k, none⟩ = some (.string K) := by
  rw [cell_of_row wr kb k _ _ (0, 0) h.2.2.1, keys_row, List.getElem?_toArray, List.getElem?_map, hK]
  rfl

end Go.Proofs.Ytbenmgokhklnjaa
