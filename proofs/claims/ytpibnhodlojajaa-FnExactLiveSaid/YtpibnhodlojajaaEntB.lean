/- A row of entries that a call is making: one is put behind the other. -/
import Derived.Test.YtpibnhodlojajaaEntA
import Derived.Maps.AppendAt
namespace Go.Proofs.Ytpibnhodlojajaa
open Go.RowKit

/-- The five cells of an entry. -/
def cells1E (e : EntD) (x : Value) : List Value := [.string e.key, .int .i64 e.val.kind, .int .i64 e.val.til, .string e.val.text, x]
/-- The cells of a row. -/
def cellsEnt : List EntD → List Value → List Value
  | b :: r, x :: s => .string b.key :: .int .i64 b.val.kind :: .int .i64 b.val.til :: .string b.val.text :: x :: cellsEnt r s
  | _, _ => []
theorem cellsEnt_append : ∀ (a : List EntD) (s : List Value) (b : EntD) (x : Value), s.length = a.length → cellsEnt (a ++ [b]) (s ++ [x]) = cellsEnt a s ++ cells1E b x
  | [], [], _, _, _ => rfl
  | [], _ :: _, _, _, h => absurd h (by simp)
  | _ :: _, [], _, _, h => absurd h (by simp)
  | A :: r, y :: s, b, x, h => by simp only [List.cons_append, cellsEnt]; rw [cellsEnt_append r s b x (by simpa using h)]
theorem cellsEnt_get : ∀ (a : List EntD) (s : List Value) (j : Nat) (b : EntD) (x : Value), a[j]? = some b → s[j]? = some x →
    (cellsEnt a s)[j * 5]? = some (.string b.key) ∧ (cellsEnt a s)[j * 5 + 1]? = some (.int .i64 b.val.kind) ∧ (cellsEnt a s)[j * 5 + 2]? = some (.int .i64 b.val.til) ∧ (cellsEnt a s)[j * 5 + 3]? = some (.string b.val.text) ∧ (cellsEnt a s)[j * 5 + 4]? = some x
  | [], _, _, _, _, h, _ => absurd h (by simp)
  | _ :: _, [], _, _, _, _, h => absurd h (by simp)
  | A :: r, y :: s, 0, b, x, h, h' => by simp at h h'; subst h h'; simp [cellsEnt]
  | A :: r, y :: s, j + 1, b, x, h, h' => by
    have := cellsEnt_get r s j b x (by simpa using h) (by simpa using h')
    have e : (j + 1) * 5 = j * 5 + 5 := by omega
    simp only [cellsEnt, e]
    simpa using this

/-- A row that a call is making: what it has so far. -/
def BuildE (w : World) (B : Nat) (v : Value) (bs : List EntD) : Prop :=
  ∃ vs : List Value, vs.length = bs.length ∧ w.ownsRow B 42 5 v bs.length (cellsEnt bs vs) ∧ (∀ (j : Nat) (x : Value) (b : EntD), vs[j]? = some x → bs[j]? = some b → RowText w B x b.val.items) ∧
    (∀ (i j : Nat) (x y : Value) (h : Nat), i ≠ j → vs[i]? = some x → vs[j]? = some y → x.ownBlock = some h → y.ownBlock ≠ some h)
theorem buildE_nil (w : World) (B : Nat) : BuildE w B (.slice none 0 0) [] := ⟨[], rfl, World.ownsRow_nil _ _ _ _, fun j x b h => by simp at h, fun i j x y h _ hx => by simp at hx⟩
theorem buildE_lit (w : World) (B : Nat) (hB : B ≤ w.heap.size) (t : TypeId) (ht : t = 42) : BuildE (w.alloc (.cells #[] t)) B (.slice (some ⟨w.heap.size, 0, none⟩) 0 0) [] := by
  subst ht
  refine ⟨[], rfl, ⟨rfl, .inr ⟨w.heap.size, 0, #[], rfl, hB, heap_alloc_new _ _, Nat.le_refl _, Nat.zero_le _, rfl, rfl⟩⟩, fun j x b h => by simp at h, fun i j x y h _ hx => by simp at hx⟩
theorem owns_blockE {w : World} {B : Nat} {e : TypeId} {s : Nat} {v : Value} {n : Nat} {xs : List Value} (h : w.ownsRow B e s v n xs) {g : Nat} (hg : v.ownBlock = some g) : ∃ C, w.heap[g]? = some (.cells C e (0, 0)) := by
  rcases h.2 with ⟨rfl, _⟩ | ⟨g', cap, cur, rfl, _, hC, _⟩
  · cases hg
  · obtain rfl : g' = g := by simpa [Value.ownBlock] using hg
    exact ⟨cur, hC⟩
/-- The row's own block is none of its texts' blocks: they are of another type. -/
theorem kid_apartE {w : World} {B B' : Nat} {v x : Value} {n s : Nat} {xs : List Value} {ts : List ByteArray} (h : w.ownsRow B 42 s v n xs) (hx : RowText w B' x ts) {g : Nat} (hg : x.ownBlock = some g) : v.ownBlock ≠ some g := by
  intro e
  obtain ⟨C, h1⟩ := owns_blockE h e
  obtain ⟨C', h2⟩ := text_block hx hg
  rw [h1] at h2
  simp at h2
theorem buildE_below {w w' : World} {B : Nat} {v : Value} {bs : List EntD} (h : BuildE w B v bs) (hb : Below w.heap.size w w') : BuildE w' B v bs := by
  obtain ⟨vs, h1, h2, h3, h4⟩ := h
  exact ⟨vs, h1, ownsRow_below h2 hb, fun j x b hx hj => rowText_below (h3 j x b hx hj) hb, h4⟩
theorem buildE_form {w : World} {B : Nat} {v : Value} {bs : List EntD} (h : BuildE w B v bs) : ∃ a c, v = .slice a bs.length c := by
  obtain ⟨vs, -, h2, -⟩ := h
  exact slice_form h2
theorem buildE_row {w : World} {B : Nat} {v : Value} {bs : List EntD} (h : BuildE w B v bs) : RowEnt w B v bs := by
  obtain ⟨vs, h1, h2, h3, h4⟩ := h
  rcases h2.2 with ⟨rfl, hn⟩ | ⟨g, cap, cur, rfl, hB, hC, hle, _, hs, ht⟩
  · exact .inl ⟨rfl, List.eq_nil_of_length_eq_zero hn⟩
  · have hget : ∀ j (hj : j < bs.length), ∃ x, vs[j]? = some x ∧ cur[j * 5]? = some (.string bs[j].key) ∧ cur[j * 5 + 1]? = some (.int .i64 bs[j].val.kind) ∧ cur[j * 5 + 2]? = some (.int .i64 bs[j].val.til) ∧ cur[j * 5 + 3]? = some (.string bs[j].val.text) ∧ cur[j * 5 + 4]? = some x := by
      intro j hj
      obtain ⟨x, hx⟩ : ∃ x, vs[j]? = some x := ⟨vs[j]'(by omega), List.getElem?_eq_getElem (by omega)⟩
      obtain ⟨k1, k2, k3, k4, k5⟩ := cellsEnt_get bs vs j bs[j] x (List.getElem?_eq_getElem hj) hx
      exact ⟨x, hx, take_getText ht (by omega) k1, take_getText ht (by omega) k2, take_getText ht (by omega) k3, take_getText ht (by omega) k4, take_getText ht (by omega) k5⟩
    refine .inr ⟨g, cap, cur, rfl, hB, hC, by omega, fun j hj _ => ?_, ?_⟩
    · obtain ⟨x, hx, k1, k2, k3, k4, k5⟩ := hget j hj
      refine ⟨k1, k2, k3, k4, x, k5, h3 j x _ hx (List.getElem?_eq_getElem hj), fun e => ?_⟩
      exact kid_apartE h2 (h3 j x _ hx (List.getElem?_eq_getElem hj)) e rfl
    · intro i j x y h hij hi hj hx hy e
      obtain ⟨x', hx', -, -, -, -, k2⟩ := hget i hi
      obtain ⟨y', hy', -, -, -, -, k2'⟩ := hget j hj
      rw [k2] at hx
      rw [k2'] at hy
      obtain rfl := Option.some.inj hx
      obtain rfl := Option.some.inj hy
      exact h4 i j x' y' h hij hx' hy' e

/-- One is put behind: what the row is then. -/
theorem buildE_put {W w' : World} {B : Nat} {v v' x : Value} {bs : List EntD} {b : EntD} (hx : RowText W B x b.val.items)
    (vs : List Value) (h1 : vs.length = bs.length) (h3 : ∀ (j : Nat) (y : Value) (c : EntD), vs[j]? = some y → bs[j]? = some c → RowText W B y c.val.items) (h4 : ∀ (i j : Nat) (y z : Value) (h : Nat), i ≠ j → vs[i]? = some y → vs[j]? = some z → y.ownBlock = some h → z.ownBlock ≠ some h)
    (hnew : ∀ g, x.ownBlock = some g → ∀ y ∈ vs, y.ownBlock ≠ some g)
    (hown' : w'.ownsRow B 42 5 v' (bs ++ [b]).length (cellsEnt bs vs ++ cells1E b x)) (hkeep : ∀ k, v.ownBlock ≠ some k → k < W.heap.size → w'.heap[k]? = W.heap[k]?)
    (hown : W.ownsRow B 42 5 v bs.length (cellsEnt bs vs)) : BuildE w' B v' (bs ++ [b]) := by
  have keep : ∀ y (fs : List ByteArray), RowText W B y fs → RowText w' B y fs := fun y fs hy => rowText_keep hy (fun g hg => hkeep g (kid_apartE hown hy hg) (rowText_lt hy g hg).2)
  refine ⟨vs ++ [x], by simp [h1], by rw [cellsEnt_append bs vs b x h1]; exact hown', ?_, ?_⟩
  · intro j y c hy hc
    by_cases hj : j < bs.length
    · rw [List.getElem?_append_left (by omega)] at hy
      rw [List.getElem?_append_left hj] at hc
      exact keep _ _ (h3 j y c hy hc)
    · have hlt : j < (bs ++ [b]).length := (List.getElem?_eq_some_iff.1 hc).1
      have hje : j = bs.length := by simp at hlt; omega
      subst hje
      rw [List.getElem?_append_right (by omega)] at hy
      rw [List.getElem?_append_right (Nat.le_refl _)] at hc
      simp [h1] at hy hc
      subst hy hc
      exact keep _ _ hx
  · intro i j y z g hij hy hz hg e
    by_cases hi : i < vs.length
    · rw [List.getElem?_append_left hi] at hy
      by_cases hj : j < vs.length
      · rw [List.getElem?_append_left hj] at hz
        exact h4 i j y z g hij hy hz hg e
      · rw [List.getElem?_append_right (by omega)] at hz
        have hz' := List.mem_of_getElem? hz
        obtain rfl : z = x := by simpa using hz'
        exact hnew g e y (List.mem_of_getElem? hy) hg
    · rw [List.getElem?_append_right (by omega)] at hy
      have hy' := List.mem_of_getElem? hy
      obtain rfl : y = x := by simpa using hy'
      by_cases hj : j < vs.length
      · rw [List.getElem?_append_left hj] at hz
        exact hnew g hg z (List.mem_of_getElem? hz) e
      · have hi1 : i < (vs ++ [y]).length := by
          rcases Nat.lt_or_ge i (vs ++ [y]).length with h' | h'
          · exact h'
          · rw [List.getElem?_eq_none (by simp at h' ⊢; omega)] at hy; simp at hy
        have hj1 : j < (vs ++ [y]).length := by
          rcases Nat.lt_or_ge j (vs ++ [y]).length with h' | h'
          · exact h'
          · rw [List.getElem?_eq_none (by simpa using h')] at hz; simp at hz
        simp at hi1 hj1
        omega
theorem five_one {w : World} {B : Nat} {x : Value} {ts : List ByteArray} (h : RowText w B x ts) (e : EntD) : ∀ u ∈ cells1E e x, Value.oneCell' u = true := by
  intro u hu
  simp only [cells1E, List.mem_cons, List.not_mem_nil, or_false] at hu
  rcases hu with rfl | rfl | rfl | rfl | rfl
  · rfl
  · rfl
  · rfl
  · rfl
  · exact rowText_one h

/-- What the row is behind an append. -/
theorem buildE_after {W0 W w' : World} {B : Nat} {v x v' : Value} {bs : List EntD} {b : EntD} {vs : List Value} (hBs : B ≤ W0.heap.size) (hb : Below W0.heap.size W0 W)
    (h1 : vs.length = bs.length) (h2 : W0.ownsRow B 42 5 v bs.length (cellsEnt bs vs)) (h3 : ∀ (j : Nat) (x : Value) (b : EntD), vs[j]? = some x → bs[j]? = some b → RowText W0 B x b.val.items)
    (h4 : ∀ (i j : Nat) (x y : Value) (h : Nat), i ≠ j → vs[i]? = some x → vs[j]? = some y → x.ownBlock = some h → y.ownBlock ≠ some h)
    (hx : RowText W W0.heap.size x b.val.items) (hown' : w'.ownsRow B 42 5 v' (bs ++ [b]).length (cellsEnt bs vs ++ cells1E b x)) (hgrow : W.grownBy w' v.ownBlock) : BuildE w' B v' (bs ++ [b]) := by
  refine buildE_put (W := W) (v := v) (rowText_le hx hBs) vs h1 (fun j y c hy hc => rowText_below (h3 j y c hy hc) hb) h4 ?_ hown' (fun k hk hlt => hgrow.block k hlt (fun e => hk e.symm)) (ownsRow_below h2 hb)
  intro g hg y hy e
  obtain ⟨j, hj, hjy⟩ := List.getElem_of_mem hy
  have k1 := h3 j y _ (by rw [List.getElem?_eq_getElem hj, hjy]) (List.getElem?_eq_getElem (by omega))
  have := (rowText_lt k1 g e).2
  have := (rowText_lt hx g hg).1
  omega

/-- One is put behind, in a plain region. W0: the world ahead of the new value's making. -/
theorem app_ent {ops : Array Oper} {rest : List Oper} {o : Oper} {a : Act} {Q : Exit → Act → World → Prop} (W0 W : World) (B : Nat) (hgd : o.guard = none) (s y : Operand)
    (ho : o.op = .call { callee := .builtin .append, args := #[s, y], argTypes := #[24, 24] }) (v x : Value) (bs : List EntD) (b : EntD) (hs : a.eval s = v)
    (hbuild : BuildE W0 B v bs) (hBs : B ≤ W0.heap.size) (hb : Below W0.heap.size W0 W) (hx : RowText W W0.heap.size x b.val.items) (k : Nat) (hy : a.eval y = .slice (some ⟨k, 0, none⟩) 1 1) (hblk : W.heap[k]? = some (.cells #[.string b.key, .int .i64 b.val.kind, .int .i64 b.val.til, .string b.val.text, x] 42 (0, 0)))
    (hlen : bs.length ≤ 1048576)
    (h : ∀ g cap w', BuildE w' B (.slice (some ⟨g, 0, none⟩) (bs.length + 1) cap) (bs ++ [b]) → Below B W w' → W.grownBy w' v.ownBlock → wpList Try.prog ops Q rest (a.put o.dst (.slice (some ⟨g, 0, none⟩) (bs.length + 1) cap)) w') :
    wpList Try.prog ops Q (o :: rest) a W := by
  obtain ⟨i0, hi, hz0, hz1, hz2⟩ := info_parts Try.infoEntry
  obtain ⟨vs, h1, h2, h3, h4⟩ := hbuild
  have hown := ownsRow_below h2 hb
  refine wpList_append_lies W hgd s y 24 ho B 42 i0 (.agg #[.string ⟨#[]⟩, .int .i64 0, .int .i64 0, .string ⟨#[]⟩, .slice none 0 0]) 5 72 Try.underlying24 hi hz0 hz1 hz2 rfl (by decide) v bs.length (cellsEnt bs vs) hs hown ⟨k, 0, none⟩ 1 1 (cells1E b x) hy rfl
    (fun j u hj => World.news_of_block hblk j u hj) (five_one hx _) (by omega) (by unfold maxLen; omega) (by omega) (Nat.le_trans hBs hb.size) W.heap.size rfl ?_
  intro g cap w' hown' hgrow hg hgl
  refine h g cap w' (buildE_after hBs hb h1 h2 h3 h4 hx (by rw [List.length_append]; exact hown') hgrow) ((Below.refl B W).grown hgrow (Nat.le_trans hBs hb.size) (fun k hk => (hown.lt k hk).1)) hgrow
/-- The same at a step of a region that draws its order. -/
theorem step_app_ent {ops : Array Oper} {o : Oper} {a : Act} {K : Act → World → Prop} {Q : Exit → Act → World → Prop} {E : Prop} (W0 W : World) (B : Nat) (hgd : o.guard = none) (s y : Operand)
    (ho : o.op = .call { callee := .builtin .append, args := #[s, y], argTypes := #[24, 24] }) (v x : Value) (bs : List EntD) (b : EntD) (hs : a.eval s = v)
    (hbuild : BuildE W0 B v bs) (hBs : B ≤ W0.heap.size) (hb : Below W0.heap.size W0 W) (hx : RowText W W0.heap.size x b.val.items) (k : Nat) (hy : a.eval y = .slice (some ⟨k, 0, none⟩) 1 1) (hblk : W.heap[k]? = some (.cells #[.string b.key, .int .i64 b.val.kind, .int .i64 b.val.til, .string b.val.text, x] 42 (0, 0)))
    (hlen : bs.length ≤ 1048576)
    (h : ∀ g cap w', BuildE w' B (.slice (some ⟨g, 0, none⟩) (bs.length + 1) cap) (bs ++ [b]) → Below B W w' → W.grownBy w' v.ownBlock → K (a.put o.dst (.slice (some ⟨g, 0, none⟩) (bs.length + 1) cap)) w') :
    if Region.wanted o (yielded ops a.tmps) = true then Oper.wp Try.prog o a W K Q else E := by
  obtain ⟨i0, hi, hz0, hz1, hz2⟩ := info_parts Try.infoEntry
  obtain ⟨vs, h1, h2, h3, h4⟩ := hbuild
  have hown := ownsRow_below h2 hb
  refine step_append_lies W hgd s y 24 ho B 42 i0 (.agg #[.string ⟨#[]⟩, .int .i64 0, .int .i64 0, .string ⟨#[]⟩, .slice none 0 0]) 5 72 Try.underlying24 hi hz0 hz1 hz2 rfl (by decide) v bs.length (cellsEnt bs vs) hs hown ⟨k, 0, none⟩ 1 1 (cells1E b x) hy rfl
    (fun j u hj => World.news_of_block hblk j u hj) (five_one hx _) (by omega) (by unfold maxLen; omega) (by omega) (Nat.le_trans hBs hb.size) W.heap.size rfl ?_
  intro g cap w' hown' hgrow hg hgl
  refine h g cap w' (buildE_after hBs hb h1 h2 h3 h4 hx (by rw [List.length_append]; exact hown') hgrow) ((Below.refl B W).grown hgrow (Nat.le_trans hBs hb.size) (fun k hk => (hown.lt k hk).1)) hgrow
end Go.Proofs.Ytpibnhodlojajaa
