/- Rows of entries, each with a row of texts of its own: anywhere in memory, and of a call's own. -/
import Derived.Test.YtpibnhodlojajaaValL
namespace Go.Proofs.Ytpibnhodlojajaa
open Go.RowKit

structure EntD where
  key : ByteArray
  val : ValD

theorem Try.infoEntry : (Try.prog.info? 42).map (fun i => (i.zero, i.size, i.bytes)) = some (some (.agg #[.string ⟨#[]⟩, .int .i64 0, .int .i64 0, .string ⟨#[]⟩, .slice none 0 0]), 5, 72) := by kernel_rfl

/-- A row of entries anywhere in memory. -/
def EntriesAt (w : World) (ao : Option Addr) (es : List EntD) : Prop := ∀ j (h : j < es.length), ∃ b off : Nat, ao = some ⟨b, off, none⟩ ∧ b < w.heap.size ∧ w.cell? ⟨b, off + j * 5, none⟩ = some (.string es[j].key) ∧
  w.cell? ⟨b, off + j * 5 + 1, none⟩ = some (.int .i64 es[j].val.kind) ∧ w.cell? ⟨b, off + j * 5 + 2, none⟩ = some (.int .i64 es[j].val.til) ∧ w.cell? ⟨b, off + j * 5 + 3, none⟩ = some (.string es[j].val.text) ∧
  ∃ a c, w.cell? ⟨b, off + j * 5 + 4, none⟩ = some (.slice a es[j].val.items.length c) ∧ TextsAt w a es[j].val.items
theorem entriesAt_keep {w w' : World} {ao : Option Addr} {es : List EntD} (h : EntriesAt w ao es) (hb : Below w.heap.size w w') : EntriesAt w' ao es := by
  intro j hj
  obtain ⟨b, off, h1, h2, h3, h4, h5, h6, a, c, h7, h8⟩ := h j hj
  exact ⟨b, off, h1, Nat.lt_of_lt_of_le h2 hb.size, (hb.cell (p := ⟨b, off + j * 5, none⟩) h2).trans h3, (hb.cell (p := ⟨b, off + j * 5 + 1, none⟩) h2).trans h4, (hb.cell (p := ⟨b, off + j * 5 + 2, none⟩) h2).trans h5, (hb.cell (p := ⟨b, off + j * 5 + 3, none⟩) h2).trans h6, a, c, (hb.cell (p := ⟨b, off + j * 5 + 4, none⟩) h2).trans h7, textsAt_keep h8 hb⟩

/-- What stands in the first k rows of cells, each with a row of its own. -/
def KidsE (w : World) (B g : Nat) (C : Array Value) (es : List EntD) (k : Nat) : Prop :=
  (∀ j (h : j < es.length), j < k → C[j * 5]? = some (.string es[j].key) ∧ C[j * 5 + 1]? = some (.int .i64 es[j].val.kind) ∧ C[j * 5 + 2]? = some (.int .i64 es[j].val.til) ∧ C[j * 5 + 3]? = some (.string es[j].val.text) ∧ ∃ x, C[j * 5 + 4]? = some x ∧ RowText w B x es[j].val.items ∧ x.ownBlock ≠ some g) ∧
  (∀ (i j : Nat) (x y : Value) (h : Nat), i ≠ j → i < k → j < k → C[i * 5 + 4]? = some x → C[j * 5 + 4]? = some y → x.ownBlock = some h → y.ownBlock ≠ some h)
/-- A row of entries of a call's own. -/
def RowEnt (w : World) (B : Nat) (v : Value) (es : List EntD) : Prop := (v = .slice none 0 0 ∧ es = []) ∨
  ∃ (g cap : Nat) (C : Array Value), v = .slice (some ⟨g, 0, none⟩) es.length cap ∧ B ≤ g ∧ w.heap[g]? = some (.cells C 42 (0, 0)) ∧ es.length * 5 ≤ C.size ∧ KidsE w B g C es es.length

theorem kidsE_keep {w w' : World} {B g k : Nat} {C : Array Value} {es : List EntD} (h : KidsE w B g C es k) (hk : ∀ b, B ≤ b → b < w.heap.size → b ≠ g → w'.heap[b]? = w.heap[b]?) : KidsE w' B g C es k := by
  refine ⟨fun j hj hjk => ?_, h.2⟩
  obtain ⟨h1, h2, h3, h4, x, h5, h6, h7⟩ := h.1 j hj hjk
  exact ⟨h1, h2, h3, h4, x, h5, rowText_keep h6 (fun b hb => hk b (rowText_lt h6 b hb).1 (rowText_lt h6 b hb).2 (fun e => h7 (by rw [hb, e]))), h7⟩
theorem rowEnt_keep {w w' : World} {B : Nat} {v : Value} {es : List EntD} (h : RowEnt w B v es) (hk : ∀ b, B ≤ b → b < w.heap.size → w'.heap[b]? = w.heap[b]?) : RowEnt w' B v es := by
  rcases h with h | ⟨g, cap, C, rfl, hB, hC, hs, hI⟩
  · exact .inl h
  · exact .inr ⟨g, cap, C, rfl, hB, (hk g hB (obj_lt hC)).trans hC, hs, kidsE_keep hI (fun b h1 h2 _ => hk b h1 h2)⟩
theorem rowEnt_below {w w' : World} {B : Nat} {v : Value} {es : List EntD} (h : RowEnt w B v es) (hb : Below w.heap.size w w') : RowEnt w' B v es :=
  rowEnt_keep h (fun k _ hk => hb.block k hk)
theorem rowEnt_at {w : World} {B : Nat} {v : Value} {es : List EntD} (h : RowEnt w B v es) : ∃ ao cap, v = .slice ao es.length cap ∧ EntriesAt w ao es := by
  rcases h with ⟨rfl, rfl⟩ | ⟨g, cap, C, rfl, _, hC, _, hI⟩
  · exact ⟨none, 0, rfl, fun j hj => absurd hj (by simp)⟩
  · refine ⟨_, cap, rfl, fun j hj => ⟨g, 0, rfl, obj_lt hC, ?_⟩⟩
    obtain ⟨h1, h2, h3, h4, x, h5, h6, -⟩ := hI.1 j hj hj
    obtain ⟨a, c, rfl, h8⟩ := rowText_at h6
    rw [Nat.zero_add]
    exact ⟨(cell_of_row w g _ _ _ (0, 0) hC).trans h1, (cell_of_row w g _ _ _ (0, 0) hC).trans h2, (cell_of_row w g _ _ _ (0, 0) hC).trans h3, (cell_of_row w g _ _ _ (0, 0) hC).trans h4, a, c, (cell_of_row w g _ _ _ (0, 0) hC).trans h5, h8⟩
theorem rowEnt_rows {w : World} {B n c : Nat} {a : Option Addr} {es : List EntD} (h : RowEnt w B (.slice a n c) es) : n = es.length ∧ EntriesAt w a es := by
  obtain ⟨ao, cap, e, hf⟩ := rowEnt_at h
  cases e
  exact ⟨rfl, hf⟩
theorem rowEnt_le {w : World} {B B' : Nat} {v : Value} {es : List EntD} (h : RowEnt w B v es) (hB : B' ≤ B) : RowEnt w B' v es := by
  rcases h with h | ⟨g, cap, C, h1, h2, h3, h4, h5⟩
  · exact .inl h
  · refine .inr ⟨g, cap, C, h1, by omega, h3, h4, fun j hj hjk => ?_, h5.2⟩
    obtain ⟨k1, k2, k3, k4, x, k5, k6, k7⟩ := h5.1 j hj hjk
    exact ⟨k1, k2, k3, k4, x, k5, rowText_le k6 hB, k7⟩
theorem kidsE_zero (w : World) (B g : Nat) (C : Array Value) (es : List EntD) : KidsE w B g C es 0 := ⟨fun j _ h => absurd h (by omega), fun i j x y h _ hi => absurd hi (by omega)⟩

/-- One is put into its cells. -/
def putE (C : Array Value) (k : Nat) (e : EntD) (x : Value) : Array Value := ((((C.setIfInBounds (k * 5) (.string e.key)).setIfInBounds (k * 5 + 1) (.int .i64 e.val.kind)).setIfInBounds (k * 5 + 2) (.int .i64 e.val.til)).setIfInBounds (k * 5 + 3) (.string e.val.text)).setIfInBounds (k * 5 + 4) x
theorem putE_size (C : Array Value) (k : Nat) (e : EntD) (x : Value) : (putE C k e x).size = C.size := by simp [putE]
theorem putE_other (C : Array Value) (k : Nat) (e : EntD) (x : Value) (i : Nat) (h : i < k * 5 ∨ k * 5 + 4 < i) : (putE C k e x)[i]? = C[i]? := by
  unfold putE
  rw [Array.getElem?_setIfInBounds_ne (by omega), Array.getElem?_setIfInBounds_ne (by omega), Array.getElem?_setIfInBounds_ne (by omega), Array.getElem?_setIfInBounds_ne (by omega), Array.getElem?_setIfInBounds_ne (by omega)]
theorem putE_here (C : Array Value) (k : Nat) (e : EntD) (x : Value) (h : k * 5 + 4 < C.size) : (putE C k e x)[k * 5]? = some (.string e.key) ∧ (putE C k e x)[k * 5 + 1]? = some (.int .i64 e.val.kind) ∧ (putE C k e x)[k * 5 + 2]? = some (.int .i64 e.val.til) ∧ (putE C k e x)[k * 5 + 3]? = some (.string e.val.text) ∧ (putE C k e x)[k * 5 + 4]? = some x := by
  unfold putE
  refine ⟨?_, ?_, ?_, ?_, ?_⟩ <;> simp [Array.getElem?_setIfInBounds] <;> omega
/-- The world behind the five stores. -/
def storeE (w : World) (g k : Nat) (e : EntD) (x : Value) : World := ((((w.setCell ⟨g, k * 5, none⟩ (.string e.key)).setCell ⟨g, k * 5 + 1, none⟩ (.int .i64 e.val.kind)).setCell ⟨g, k * 5 + 2, none⟩ (.int .i64 e.val.til)).setCell ⟨g, k * 5 + 3, none⟩ (.string e.val.text)).setCell ⟨g, k * 5 + 4, none⟩ x
theorem storeE_here {w : World} {g k : Nat} {C : Array Value} {t : TypeId} (e : EntD) (x : Value) (h : w.heap[g]? = some (.cells C t (0, 0))) : (storeE w g k e x).heap[g]? = some (.cells (putE C k e x) t (0, 0)) :=
  heap_setCell_same _ g _ _ t _ (heap_setCell_same _ g _ _ t _ (heap_setCell_same _ g _ _ t _ (heap_setCell_same _ g _ _ t _ (heap_setCell_same w g _ C t _ h))))
theorem storeE_other (w : World) (g k : Nat) (e : EntD) (x : Value) (b : Nat) (h : b ≠ g) : (storeE w g k e x).heap[b]? = w.heap[b]? := by
  unfold storeE
  rw [Below.heap_setCell _ _ _ _ (by simpa using h), Below.heap_setCell _ _ _ _ (by simpa using h), Below.heap_setCell _ _ _ _ (by simpa using h), Below.heap_setCell _ _ _ _ (by simpa using h), Below.heap_setCell _ _ _ _ (by simpa using h)]
theorem storeE_below {w0 w : World} {B g k : Nat} (e : EntD) (x : Value) (h : Below B w0 w) (hg : B ≤ g) : Below B w0 (storeE w g k e x) :=
  ((((h.setCell (p := ⟨g, k * 5, none⟩) hg _).setCell (p := ⟨g, k * 5 + 1, none⟩) hg _).setCell (p := ⟨g, k * 5 + 2, none⟩) hg _).setCell (p := ⟨g, k * 5 + 3, none⟩) hg _).setCell (p := ⟨g, k * 5 + 4, none⟩) hg _

/-- One entry more stands in the row: its own row is newer than all ahead. -/
theorem kidsE_put {wr w1 : World} {B g k : Nat} {C : Array Value} {es : List EntD} {x : Value} (h : KidsE wr B g C es k) (hk : k < es.length) (hs : es.length * 5 ≤ C.size) (hBw : B ≤ wr.heap.size) (hg : g < wr.heap.size)
    (hb : Below wr.heap.size wr w1) (hx : RowText w1 wr.heap.size x es[k].val.items) : KidsE (storeE w1 g k es[k] x) B g (putE C k es[k] x) es (k + 1) := by
  have hxg : x.ownBlock ≠ some g := fun e => by have := (rowText_lt hx g e).1; omega
  refine ⟨fun j hj hjk => ?_, ?_⟩
  · by_cases e : j = k
    · subst e
      obtain ⟨h1, h2, h3, h4, h5⟩ := putE_here C j es[j] x (by omega)
      exact ⟨h1, h2, h3, h4, x, h5, rowText_le (rowText_keep hx (fun b hb' => storeE_other _ _ _ _ _ _ (fun e => hxg (by rw [hb', e])))) hBw, hxg⟩
    · obtain ⟨h1, h2, h3, h4, y, h5, h6, h7⟩ := h.1 j hj (by omega)
      refine ⟨by rw [putE_other _ _ _ _ _ (by omega)]; exact h1, by rw [putE_other _ _ _ _ _ (by omega)]; exact h2, by rw [putE_other _ _ _ _ _ (by omega)]; exact h3, by rw [putE_other _ _ _ _ _ (by omega)]; exact h4, y, by rw [putE_other _ _ _ _ _ (by omega)]; exact h5, rowText_keep h6 (fun b hb' => ?_), h7⟩
      rw [storeE_other _ _ _ _ _ _ (fun e => h7 (by rw [hb', e])), hb.block b (rowText_lt h6 b hb').2]
  · have old : ∀ i y, i < k → (putE C k es[k] x)[i * 5 + 4]? = some y → ∀ b, y.ownBlock = some b → b < wr.heap.size := by
      intro i y hi hy b hb'
      rw [putE_other _ _ _ _ _ (by omega)] at hy
      obtain ⟨_, _, _, _, z, h5, h6, _⟩ := h.1 i (by omega) hi
      rw [hy] at h5
      obtain rfl := Option.some.inj h5
      exact (rowText_lt h6 b hb').2
    have new : ∀ y, (putE C k es[k] x)[k * 5 + 4]? = some y → ∀ b, y.ownBlock = some b → wr.heap.size ≤ b := by
      intro y hy b hb'
      rw [(putE_here C k es[k] x (by omega)).2.2.2.2] at hy
      obtain rfl := Option.some.inj hy
      exact (rowText_lt hx b hb').1
    intro i j y z b hij hi hj hy hz hyb hzb
    by_cases ei : i = k
    · subst ei
      have := new y hy b hyb
      have := old j z (by omega) hz b hzb
      omega
    · by_cases ej : j = k
      · subst ej
        have := new z hz b hzb
        have := old i y (by omega) hy b hyb
        omega
      · rw [putE_other _ _ _ _ _ (by omega)] at hy hz
        exact h.2 i j y z b hij (by omega) (by omega) hy hz hyb hzb
end Go.Proofs.Ytpibnhodlojajaa
