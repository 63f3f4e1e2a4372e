/- Rows of rows of texts: anywhere in memory, of a call's own, and in the making. -/
import Derived.Test.YtnfnhkodjmilgaaDoorTxtL
import Derived.Maps.AppendAt
namespace Go.Proofs.YtnfnhkodjmilgaaDoor
open Go.RowKit

theorem objT_lt {w : World} {g : Nat} {o : Obj} (h : w.heap[g]? = some o) : g < w.heap.size := (Array.getElem?_eq_some_iff.1 h).1
theorem Tryd.infoTexts : (Tryd.prog.info? 22).map (fun i => (i.zero, i.size, i.bytes)) = some (some (.slice none 0 0), 1, 24) := by kernel_rfl

/-- Rows of texts in a row. -/
def RowsAt (w : World) (ao : Option Addr) (tt : List (List ByteArray)) : Prop := ∀ j (h : j < tt.length), ∃ b off : Nat, ao = some ⟨b, off, none⟩ ∧ b < w.heap.size ∧
  ∃ a c, w.cell? ⟨b, off + j, none⟩ = some (.slice a tt[j].length c) ∧ TextsAt w a tt[j]
theorem rowsAt_keep {w w' : World} {ao : Option Addr} {tt : List (List ByteArray)} (h : RowsAt w ao tt) (hb : Below w.heap.size w w') : RowsAt w' ao tt := by
  intro j hj
  obtain ⟨b, off, h1, h2, a, c, h7, h8⟩ := h j hj
  exact ⟨b, off, h1, Nat.lt_of_lt_of_le h2 hb.size, a, c, (hb.cell (p := ⟨b, off + j, none⟩) h2).trans h7, textsAt_keep h8 hb⟩

/-- What stands in the first k cells, each with a row of its own. -/
def KidsT (w : World) (B g : Nat) (C : Array Value) (tt : List (List ByteArray)) (k : Nat) : Prop :=
  (∀ j (h : j < tt.length), j < k → ∃ x, C[j]? = some x ∧ RowText w B x tt[j] ∧ x.ownBlock ≠ some g) ∧
  (∀ (i j : Nat) (x y : Value) (h : Nat), i ≠ j → i < k → j < k → C[i]? = some x → C[j]? = some y → x.ownBlock = some h → y.ownBlock ≠ some h)
/-- A row of rows of texts of a call's own. -/
def RowTT (w : World) (B : Nat) (v : Value) (tt : List (List ByteArray)) : Prop := (v = .slice none 0 0 ∧ tt = []) ∨
  ∃ (g cap : Nat) (C : Array Value), v = .slice (some ⟨g, 0, none⟩) tt.length cap ∧ B ≤ g ∧ w.heap[g]? = some (.cells C 22 (0, 0)) ∧ tt.length ≤ C.size ∧ KidsT w B g C tt tt.length
theorem kidsT_keep {w w' : World} {B g k : Nat} {C : Array Value} {tt : List (List ByteArray)} (h : KidsT w B g C tt k) (hk : ∀ b, B ≤ b → b < w.heap.size → b ≠ g → w'.heap[b]? = w.heap[b]?) : KidsT w' B g C tt k := by
  refine ⟨fun j hj hjk => ?_, h.2⟩
  obtain ⟨x, h5, h6, h7⟩ := h.1 j hj hjk
  exact ⟨x, h5, rowText_keep h6 (fun b hb => hk b (rowText_lt h6 b hb).1 (rowText_lt h6 b hb).2 (fun e => h7 (by rw [hb, e]))), h7⟩
theorem rowTT_keep {w w' : World} {B : Nat} {v : Value} {tt : List (List ByteArray)} (h : RowTT w B v tt) (hk : ∀ b, B ≤ b → b < w.heap.size → w'.heap[b]? = w.heap[b]?) : RowTT w' B v tt := by
  rcases h with h | ⟨g, cap, C, rfl, hB, hC, hs, hI⟩
  · exact .inl h
  · exact .inr ⟨g, cap, C, rfl, hB, (hk g hB (objT_lt hC)).trans hC, hs, kidsT_keep hI (fun b h1 h2 _ => hk b h1 h2)⟩
theorem rowTT_below {w w' : World} {B : Nat} {v : Value} {tt : List (List ByteArray)} (h : RowTT w B v tt) (hb : Below w.heap.size w w') : RowTT w' B v tt :=
  rowTT_keep h (fun k _ hk => hb.block k hk)
theorem rowTT_at {w : World} {B : Nat} {v : Value} {tt : List (List ByteArray)} (h : RowTT w B v tt) : ∃ ao cap, v = .slice ao tt.length cap ∧ RowsAt w ao tt := by
  rcases h with ⟨rfl, rfl⟩ | ⟨g, cap, C, rfl, _, hC, _, hI⟩
  · exact ⟨none, 0, rfl, fun j hj => absurd hj (by simp)⟩
  · refine ⟨_, cap, rfl, fun j hj => ⟨g, 0, rfl, objT_lt hC, ?_⟩⟩
    obtain ⟨x, h5, h6, -⟩ := hI.1 j hj hj
    obtain ⟨a, c, rfl, h8⟩ := rowText_at h6
    rw [Nat.zero_add]
    exact ⟨a, c, (cell_of_row w g _ _ _ (0, 0) hC).trans h5, h8⟩
theorem rowTT_rows {w : World} {B n c : Nat} {a : Option Addr} {tt : List (List ByteArray)} (h : RowTT w B (.slice a n c) tt) : RowsAt w a tt := by
  obtain ⟨ao, cap, e, hf⟩ := rowTT_at h
  cases e
  exact hf

/-- A row that a call is making: what it has so far. -/
def BuildT (w : World) (B : Nat) (v : Value) (bs : List (List ByteArray)) : Prop :=
  ∃ vs : List Value, vs.length = bs.length ∧ w.ownsRow B 22 1 v bs.length vs ∧ (∀ (j : Nat) (x : Value) (b : List ByteArray), vs[j]? = some x → bs[j]? = some b → RowText w B x b) ∧
    (∀ (i j : Nat) (x y : Value) (h : Nat), i ≠ j → vs[i]? = some x → vs[j]? = some y → x.ownBlock = some h → y.ownBlock ≠ some h)
theorem buildT_nil (w : World) (B : Nat) : BuildT w B (.slice none 0 0) [] := ⟨[], rfl, World.ownsRow_nil _ _ _ _, fun j x b h => by simp at h, fun i j x y h _ hx => by simp at hx⟩
theorem buildT_lit (w : World) (B : Nat) (hB : B ≤ w.heap.size) : BuildT (w.alloc (.cells #[] 22)) B (.slice (some ⟨w.heap.size, 0, none⟩) 0 0) [] :=
  ⟨[], rfl, ⟨rfl, .inr ⟨w.heap.size, 0, #[], rfl, hB, heap_alloc_new _ _, Nat.le_refl _, Nat.zero_le _, rfl, rfl⟩⟩, fun j x b h => by simp at h, fun i j x y h _ hx => by simp at hx⟩
theorem owns_blockT {w : World} {B : Nat} {e : TypeId} {s : Nat} {v : Value} {n : Nat} {xs : List Value} (h : w.ownsRow B e s v n xs) {g : Nat} (hg : v.ownBlock = some g) : ∃ C, w.heap[g]? = some (.cells C e (0, 0)) := by
  rcases h.2 with ⟨rfl, _⟩ | ⟨g', cap, cur, rfl, _, hC, _⟩
  · cases hg
  · obtain rfl : g' = g := by simpa [Value.ownBlock] using hg
    exact ⟨cur, hC⟩
/-- The row's own block is none of its texts' blocks: they are of another type. -/
theorem kid_apartT {w : World} {B B' : Nat} {v x : Value} {n s : Nat} {xs : List Value} {ts : List ByteArray} (h : w.ownsRow B 22 s v n xs) (hx : RowText w B' x ts) {g : Nat} (hg : x.ownBlock = some g) : v.ownBlock ≠ some g := by
  intro e
  obtain ⟨C, h1⟩ := owns_blockT h e
  obtain ⟨C', h2⟩ := text_block hx hg
  rw [h1] at h2
  simp at h2
theorem buildT_below {w w' : World} {B : Nat} {v : Value} {bs : List (List ByteArray)} (h : BuildT w B v bs) (hb : Below w.heap.size w w') : BuildT w' B v bs := by
  obtain ⟨vs, h1, h2, h3, h4⟩ := h
  exact ⟨vs, h1, ownsRow_below h2 hb, fun j x b hx hj => rowText_below (h3 j x b hx hj) hb, h4⟩
theorem slice_formT {w : World} {B : Nat} {e : TypeId} {s : Nat} {v : Value} {n : Nat} {xs : List Value} (h : w.ownsRow B e s v n xs) : ∃ a c, v = .slice a n c := by
  rcases h.2 with ⟨rfl, rfl⟩ | ⟨g, cap, cur, rfl, _⟩
  · exact ⟨none, 0, rfl⟩
  · exact ⟨_, cap, rfl⟩
theorem buildT_form {w : World} {B : Nat} {v : Value} {bs : List (List ByteArray)} (h : BuildT w B v bs) : ∃ a c, v = .slice a bs.length c := by
  obtain ⟨vs, -, h2, -⟩ := h
  exact slice_formT h2
theorem buildT_row {w : World} {B : Nat} {v : Value} {bs : List (List ByteArray)} (h : BuildT w B v bs) : RowTT w B v bs := by
  obtain ⟨vs, h1, h2, h3, h4⟩ := h
  rcases h2.2 with ⟨rfl, hn⟩ | ⟨g, cap, cur, rfl, hB, hC, hle, _, hs, ht⟩
  · exact .inl ⟨rfl, List.eq_nil_of_length_eq_zero hn⟩
  · have hget : ∀ j (hj : j < bs.length), ∃ x, vs[j]? = some x ∧ cur[j]? = some x := by
      intro j hj
      obtain ⟨x, hx⟩ : ∃ x, vs[j]? = some x := ⟨vs[j]'(by omega), List.getElem?_eq_getElem (by omega)⟩
      exact ⟨x, hx, take_getText ht (by omega) hx⟩
    refine .inr ⟨g, cap, cur, rfl, hB, hC, by omega, fun j hj _ => ?_, ?_⟩
    · obtain ⟨x, hx, k5⟩ := hget j hj
      refine ⟨x, k5, h3 j x _ hx (List.getElem?_eq_getElem hj), fun e => ?_⟩
      exact kid_apartT h2 (h3 j x _ hx (List.getElem?_eq_getElem hj)) e rfl
    · intro i j x y h hij hi hj hx hy e
      obtain ⟨x', hx', k2⟩ := hget i hi
      obtain ⟨y', hy', k2'⟩ := hget j hj
      rw [k2] at hx
      rw [k2'] at hy
      obtain rfl := Option.some.inj hx
      obtain rfl := Option.some.inj hy
      exact h4 i j x' y' h hij hx' hy' e

/-- One is put behind: what the row is then. -/
theorem buildT_put {W w' : World} {B : Nat} {v v' x : Value} {bs : List (List ByteArray)} {b : List ByteArray} (hx : RowText W B x b)
    (vs : List Value) (h1 : vs.length = bs.length) (h3 : ∀ (j : Nat) (y : Value) (c : List ByteArray), vs[j]? = some y → bs[j]? = some c → RowText W B y c) (h4 : ∀ (i j : Nat) (y z : Value) (h : Nat), i ≠ j → vs[i]? = some y → vs[j]? = some z → y.ownBlock = some h → z.ownBlock ≠ some h)
    (hnew : ∀ g, x.ownBlock = some g → ∀ y ∈ vs, y.ownBlock ≠ some g)
    (hown' : w'.ownsRow B 22 1 v' (bs ++ [b]).length (vs ++ [x])) (hkeep : ∀ k, v.ownBlock ≠ some k → k < W.heap.size → w'.heap[k]? = W.heap[k]?)
    (hown : W.ownsRow B 22 1 v bs.length vs) : BuildT w' B v' (bs ++ [b]) := by
  have keep : ∀ y (fs : List ByteArray), RowText W B y fs → RowText w' B y fs := fun y fs hy => rowText_keep hy (fun g hg => hkeep g (kid_apartT hown hy hg) (rowText_lt hy g hg).2)
  refine ⟨vs ++ [x], by simp [h1], hown', ?_, ?_⟩
  · intro j y c hy hc
    by_cases hj : j < bs.length
    · rw [List.getElem?_append_left (by omega)] at hy
      rw [List.getElem?_append_left hj] at hc
      exact keep _ _ (h3 j y c hy hc)
    · have hlt : j < (bs ++ [b]).length := (List.getElem?_eq_some_iff.1 hc).1
      have hje : j = bs.length := by simp at hlt; omega
      subst hje
      rw [List.getElem?_append_right (by omega)] at hy
      rw [List.getElem?_append_right (Nat.le_refl _)] at hc
      simp [h1] at hy hc
      subst hy hc
      exact keep _ _ hx
  · intro i j y z g hij hy hz hg e
    by_cases hi : i < vs.length
    · rw [List.getElem?_append_left hi] at hy
      by_cases hj : j < vs.length
      · rw [List.getElem?_append_left hj] at hz
        exact h4 i j y z g hij hy hz hg e
      · rw [List.getElem?_append_right (by omega)] at hz
        have hz' := List.mem_of_getElem? hz
        obtain rfl : z = x := by simpa using hz'
        exact hnew g e y (List.mem_of_getElem? hy) hg
    · rw [List.getElem?_append_right (by omega)] at hy
      have hy' := List.mem_of_getElem? hy
      obtain rfl : y = x := by simpa using hy'
      by_cases hj : j < vs.length
      · rw [List.getElem?_append_left hj] at hz
        exact hnew g hg z (List.mem_of_getElem? hz) e
      · have hi1 : i < (vs ++ [y]).length := by
          rcases Nat.lt_or_ge i (vs ++ [y]).length with h' | h'
          · exact h'
          · rw [List.getElem?_eq_none (by simp at h' ⊢; omega)] at hy; simp at hy
        have hj1 : j < (vs ++ [y]).length := by
          rcases Nat.lt_or_ge j (vs ++ [y]).length with h' | h'
          · exact h'
          · rw [List.getElem?_eq_none (by simpa using h')] at hz; simp at hz
        simp at hi1 hj1
        omega
theorem one_row {w : World} {B : Nat} {x : Value} {ts : List ByteArray} (h : RowText w B x ts) : ∀ u ∈ [x], Value.oneCell' u = true := by
  intro u hu
  obtain rfl : u = x := by simpa using hu
  exact rowText_one h
theorem buildT_after {W0 W w' : World} {B : Nat} {v x v' : Value} {bs : List (List ByteArray)} {b : List ByteArray} {vs : List Value} (hBs : B ≤ W0.heap.size) (hb : Below W0.heap.size W0 W)
    (h1 : vs.length = bs.length) (h2 : W0.ownsRow B 22 1 v bs.length vs) (h3 : ∀ (j : Nat) (x : Value) (b : List ByteArray), vs[j]? = some x → bs[j]? = some b → RowText W0 B x b)
    (h4 : ∀ (i j : Nat) (x y : Value) (h : Nat), i ≠ j → vs[i]? = some x → vs[j]? = some y → x.ownBlock = some h → y.ownBlock ≠ some h)
    (hx : RowText W W0.heap.size x b) (hown' : w'.ownsRow B 22 1 v' (bs ++ [b]).length (vs ++ [x])) (hgrow : W.grownBy w' v.ownBlock) : BuildT w' B v' (bs ++ [b]) := by
  refine buildT_put (W := W) (v := v) (rowText_le hx hBs) vs h1 (fun j y c hy hc => rowText_below (h3 j y c hy hc) hb) h4 ?_ hown' (fun k hk hlt => hgrow.block k hlt (fun e => hk e.symm)) (ownsRow_below h2 hb)
  intro g hg y hy e
  obtain ⟨j, hj, hjy⟩ := List.getElem_of_mem hy
  have k1 := h3 j y _ (by rw [List.getElem?_eq_getElem hj, hjy]) (List.getElem?_eq_getElem (by omega))
  have := (rowText_lt k1 g e).2
  have := (rowText_lt hx g hg).1
  omega

/-- One is put behind, in a plain region. W0: the world ahead of the new row's making. -/
theorem app_row {ops : Array Oper} {rest : List Oper} {o : Oper} {a : Act} {Q : Exit → Act → World → Prop} (W0 W : World) (B : Nat) (hgd : o.guard = none) (s y : Operand)
    (ho : o.op = .call { callee := .builtin .append, args := #[s, y], argTypes := #[32, 32] }) (v x : Value) (bs : List (List ByteArray)) (b : List ByteArray) (hs : a.eval s = v)
    (hbuild : BuildT W0 B v bs) (hBs : B ≤ W0.heap.size) (hb : Below W0.heap.size W0 W) (hx : RowText W W0.heap.size x b) (k : Nat) (hy : a.eval y = .slice (some ⟨k, 0, none⟩) 1 1) (hblk : W.heap[k]? = some (.cells #[x] 22 (0, 0)))
    (hlen : bs.length ≤ 1048576)
    (h : ∀ g cap w', BuildT w' B (.slice (some ⟨g, 0, none⟩) (bs.length + 1) cap) (bs ++ [b]) → Below B W w' → W.grownBy w' v.ownBlock → wpList Tryd.prog ops Q rest (a.put o.dst (.slice (some ⟨g, 0, none⟩) (bs.length + 1) cap)) w') :
    wpList Tryd.prog ops Q (o :: rest) a W := by
  obtain ⟨i0, hi, hz0, hz1, hz2⟩ := info_parts Tryd.infoTexts
  obtain ⟨vs, h1, h2, h3, h4⟩ := hbuild
  have hown := ownsRow_below h2 hb
  refine wpList_append_lies W hgd s y 32 ho B 22 i0 (.slice none 0 0) 1 24 Tryd.underlying32 hi hz0 hz1 hz2 rfl (by decide) v bs.length vs hs hown ⟨k, 0, none⟩ 1 1 [x] hy rfl
    (fun j u hj => World.news_of_block hblk j u hj) (one_row hx) (by omega) (by unfold maxLen; omega) (by omega) (Nat.le_trans hBs hb.size) W.heap.size rfl ?_
  intro g cap w' hown' hgrow hg hgl
  refine h g cap w' (buildT_after hBs hb h1 h2 h3 h4 hx (by rw [List.length_append]; exact hown') hgrow) ((Below.refl B W).grown hgrow (Nat.le_trans hBs hb.size) (fun k hk => (hown.lt k hk).1)) hgrow
end Go.Proofs.YtnfnhkodjmilgaaDoor
