/- Rows of batches, each with a row of changes of its own: as a call leaves them, as the laws hold them. -/
import Derived.Test.YtmmchemgegmhhaaGreatDoorSegP
import Derived.Test.YtmmchemgegmhhaaGreatDoorBatchL
import Derived.Deep.RegionHeld3
namespace Go.Proofs.YtmmchemgegmhhaaGreatDoor
open Go.RowKit

theorem Tryz.infoBatch : (Tryz.prog.info? 96).map (fun i => (i.zero, i.size, i.bytes)) = some (some (.agg #[.int .i64 0, .slice none 0 0]), 2, 32) := by kernel_rfl

/-- A row of batches anywhere in memory. -/
def BatchesAt (w : World) (ao : Option Addr) (bs : List BatchD) : Prop := ∀ j (h : j < bs.length), ∃ b off : Nat, ao = some ⟨b, off, none⟩ ∧ b < w.heap.size ∧ w.cell? ⟨b, off + j * 2, none⟩ = some (.int .i64 bs[j].seq) ∧
  ∃ a c, w.cell? ⟨b, off + j * 2 + 1, none⟩ = some (.slice a bs[j].chs.length c) ∧ ChangesAt w a bs[j].chs
theorem batchesAt_keep {w w' : World} {ao : Option Addr} {bs : List BatchD} (h : BatchesAt w ao bs) (hb : Below w.heap.size w w') : BatchesAt w' ao bs := by
  intro j hj
  obtain ⟨b, off, h1, h2, h3, a, c, h4, h5⟩ := h j hj
  exact ⟨b, off, h1, Nat.lt_of_lt_of_le h2 hb.size, (hb.cell (p := ⟨b, off + j * 2, none⟩) h2).trans h3, a, c, (hb.cell (p := ⟨b, off + j * 2 + 1, none⟩) h2).trans h4, changesAt_keep h5 hb⟩

/-- What stands in the cells of a row of batches, each with a row of its own. -/
def KidsIn (w : World) (B g : Nat) (C : Array Value) (bs : List BatchD) : Prop :=
  (∀ j (h : j < bs.length), C[j * 2]? = some (.int .i64 bs[j].seq) ∧ ∃ x, C[j * 2 + 1]? = some x ∧ RowChange w B x bs[j].chs ∧ x.ownBlock ≠ some g) ∧
  (∀ (i j : Nat) (x y : Value) (h : Nat), i ≠ j → i < bs.length → j < bs.length → C[i * 2 + 1]? = some x → C[j * 2 + 1]? = some y → x.ownBlock = some h → y.ownBlock ≠ some h)
/-- A row of batches of a call's own. -/
def RowBatch (w : World) (B : Nat) (v : Value) (bs : List BatchD) : Prop := (v = .slice none 0 0 ∧ bs = []) ∨
  ∃ (g cap : Nat) (C : Array Value), v = .slice (some ⟨g, 0, none⟩) bs.length cap ∧ B ≤ g ∧ w.heap[g]? = some (.cells C 96 (0, 0)) ∧ bs.length * 2 ≤ C.size ∧ KidsIn w B g C bs

theorem kidsIn_keep {w w' : World} {B g : Nat} {C : Array Value} {bs : List BatchD} (h : KidsIn w B g C bs) (hk : ∀ k, B ≤ k → k < w.heap.size → w'.heap[k]? = w.heap[k]?) : KidsIn w' B g C bs := by
  refine ⟨fun j hj => ?_, h.2⟩
  obtain ⟨h1, x, h2, h3, h4⟩ := h.1 j hj
  exact ⟨h1, x, h2, rowChange_keep h3 (fun k hk' => hk k (rowChange_lt h3 k hk').1 (rowChange_lt h3 k hk').2), h4⟩
theorem rowBatch_keep {w w' : World} {B : Nat} {v : Value} {bs : List BatchD} (h : RowBatch w B v bs) (hk : ∀ k, B ≤ k → k < w.heap.size → w'.heap[k]? = w.heap[k]?) : RowBatch w' B v bs := by
  rcases h with h | ⟨g, cap, C, rfl, hB, hC, hs, hI⟩
  · exact .inl h
  · exact .inr ⟨g, cap, C, rfl, hB, (hk g hB (Array.getElem?_eq_some_iff.1 hC).1).trans hC, hs, kidsIn_keep hI hk⟩
theorem rowBatch_below {w w' : World} {B : Nat} {v : Value} {bs : List BatchD} (h : RowBatch w B v bs) (hb : Below w.heap.size w w') : RowBatch w' B v bs :=
  rowBatch_keep h (fun k _ hk => hb.block k hk)
theorem rowBatch_at {w : World} {B : Nat} {v : Value} {bs : List BatchD} (h : RowBatch w B v bs) : ∃ ao cap, v = .slice ao bs.length cap ∧ BatchesAt w ao bs := by
  rcases h with ⟨rfl, rfl⟩ | ⟨g, cap, C, rfl, _, hC, _, hI⟩
  · exact ⟨none, 0, rfl, fun j hj => absurd hj (by simp)⟩
  · refine ⟨_, cap, rfl, fun j hj => ⟨g, 0, rfl, (Array.getElem?_eq_some_iff.1 hC).1, ?_, ?_⟩⟩
    · rw [Nat.zero_add]
      exact (cell_of_row w g (j * 2) _ _ (0, 0) hC).trans (hI.1 j hj).1
    · obtain ⟨-, x, h2, h3, -⟩ := hI.1 j hj
      obtain ⟨a, c, rfl, h5⟩ := rowChange_at h3
      refine ⟨a, c, ?_, h5⟩
      rw [Nat.zero_add]
      exact (cell_of_row w g (j * 2 + 1) _ _ (0, 0) hC).trans h2
theorem rowBatch_rows {w : World} {B n c : Nat} {a : Option Addr} {bs : List BatchD} (h : RowBatch w B (.slice a n c) bs) : n = bs.length ∧ BatchesAt w a bs := by
  obtain ⟨ao, cap, e, hf⟩ := rowBatch_at h
  cases e
  exact ⟨rfl, hf⟩
theorem rowBatch_le {w : World} {B B' : Nat} {v : Value} {bs : List BatchD} (h : RowBatch w B v bs) (hB : B' ≤ B) : RowBatch w B' v bs := by
  rcases h with h | ⟨g, cap, C, h1, h2, h3, h4, h5⟩
  · exact .inl h
  · refine .inr ⟨g, cap, C, h1, by omega, h3, h4, fun j hj => ?_, h5.2⟩
    obtain ⟨k1, x, k2, k3, k4⟩ := h5.1 j hj
    exact ⟨k1, x, k2, rowChange_le k3 hB, k4⟩

/-! ### One behind the other -/

/-- The cells of a row. -/
def cellsBatch : List BatchD → List Value → List Value
  | b :: r, x :: s => .int .i64 b.seq :: x :: cellsBatch r s
  | _, _ => []
theorem cellsBatch_append : ∀ (a : List BatchD) (s : List Value) (b : BatchD) (x : Value), s.length = a.length → cellsBatch (a ++ [b]) (s ++ [x]) = cellsBatch a s ++ [.int .i64 b.seq, x]
  | [], [], _, _, _ => rfl
  | [], _ :: _, _, _, h => absurd h (by simp)
  | _ :: _, [], _, _, h => absurd h (by simp)
  | A :: r, y :: s, b, x, h => by simp only [List.cons_append, cellsBatch]; rw [cellsBatch_append r s b x (by simpa using h)]
theorem cellsBatch_get : ∀ (a : List BatchD) (s : List Value) (j : Nat) (b : BatchD) (x : Value), a[j]? = some b → s[j]? = some x → (cellsBatch a s)[j * 2]? = some (.int .i64 b.seq) ∧ (cellsBatch a s)[j * 2 + 1]? = some x
  | [], _, _, _, _, h, _ => absurd h (by simp)
  | _ :: _, [], _, _, _, _, h => absurd h (by simp)
  | A :: r, y :: s, 0, b, x, h, h' => by simp at h h'; subst h h'; simp [cellsBatch]
  | A :: r, y :: s, j + 1, b, x, h, h' => by
    have := cellsBatch_get r s j b x (by simpa using h) (by simpa using h')
    have e : (j + 1) * 2 = j * 2 + 2 := by omega
    simp only [cellsBatch, e]
    simpa using this

/-- A row that a call is making: what it has so far. -/
def BuildB (w : World) (B : Nat) (v : Value) (bs : List BatchD) : Prop :=
  ∃ vs : List Value, vs.length = bs.length ∧ w.ownsRow B 96 2 v bs.length (cellsBatch bs vs) ∧ (∀ (j : Nat) (x : Value) (b : BatchD), vs[j]? = some x → bs[j]? = some b → RowChange w B x b.chs) ∧
    (∀ (i j : Nat) (x y : Value) (h : Nat), i ≠ j → vs[i]? = some x → vs[j]? = some y → x.ownBlock = some h → y.ownBlock ≠ some h)
theorem buildB_nil (w : World) (B : Nat) : BuildB w B (.slice none 0 0) [] := ⟨[], rfl, World.ownsRow_nil _ _ _ _, fun j x b h => by simp at h, fun i j x y h _ hx => by simp at hx⟩
theorem buildB_lit (w : World) (B : Nat) (hB : B ≤ w.heap.size) (t : TypeId) (ht : t = 96) : BuildB (w.alloc (.cells #[] t)) B (.slice (some ⟨w.heap.size, 0, none⟩) 0 0) [] := by
  subst ht
  exact ⟨[], rfl, ownsRow_mono (World.ownsRow_lit w #[] 0 (Nat.le_refl _) (by unfold maxLen; omega) (by simp)) hB, fun j x b h => by simp at h, fun i j x y h _ hx => by simp at hx⟩
theorem owns_block {w : World} {B : Nat} {e : TypeId} {s : Nat} {v : Value} {n : Nat} {xs : List Value} (h : w.ownsRow B e s v n xs) {g : Nat} (hg : v.ownBlock = some g) : ∃ C, w.heap[g]? = some (.cells C e (0, 0)) := by
  rcases h.2 with ⟨rfl, _⟩ | ⟨g', cap, cur, rfl, _, hC, _⟩
  · cases hg
  · obtain rfl : g' = g := by simpa [Value.ownBlock] using hg
    exact ⟨cur, hC⟩
theorem change_block {w : World} {B : Nat} {x : Value} {fs : List ChangeD} (h : RowChange w B x fs) {g : Nat} (hg : x.ownBlock = some g) : ∃ C, w.heap[g]? = some (.cells C 144 (0, 0)) := by
  rcases h with ⟨rfl, rfl⟩ | ⟨g', cap, C, rfl, _, hC, _⟩
  · cases hg
  · obtain rfl : g' = g := by simpa [Value.ownBlock] using hg
    exact ⟨C, hC⟩
/-- The row's own block is none of its changes' blocks: they are of another type. -/
theorem kid_apart {w : World} {B B' : Nat} {v x : Value} {n s : Nat} {xs : List Value} {fs : List ChangeD} (h : w.ownsRow B 96 s v n xs) (hx : RowChange w B' x fs) {g : Nat} (hg : x.ownBlock = some g) : v.ownBlock ≠ some g := by
  intro e
  obtain ⟨C, h1⟩ := owns_block h e
  obtain ⟨C', h2⟩ := change_block hx hg
  rw [h1] at h2
  simp at h2
theorem buildB_below {w w' : World} {B : Nat} {v : Value} {bs : List BatchD} (h : BuildB w B v bs) (hb : Below w.heap.size w w') : BuildB w' B v bs := by
  obtain ⟨vs, h1, h2, h3, h4⟩ := h
  exact ⟨vs, h1, ownsRow_below h2 hb, fun j x b hx hj => rowChange_below (h3 j x b hx hj) hb, h4⟩
theorem buildB_row {w : World} {B : Nat} {v : Value} {bs : List BatchD} (h : BuildB w B v bs) : RowBatch w B v bs := by
  obtain ⟨vs, h1, h2, h3, h4⟩ := h
  rcases h2.2 with ⟨rfl, hn⟩ | ⟨g, cap, cur, rfl, hB, hC, hle, _, hs, ht⟩
  · exact .inl ⟨rfl, List.eq_nil_of_length_eq_zero hn⟩
  · have hget : ∀ j (hj : j < bs.length), ∃ x, vs[j]? = some x ∧ cur[j * 2]? = some (.int .i64 bs[j].seq) ∧ cur[j * 2 + 1]? = some x := by
      intro j hj
      obtain ⟨x, hx⟩ : ∃ x, vs[j]? = some x := ⟨vs[j]'(by omega), List.getElem?_eq_getElem (by omega)⟩
      obtain ⟨k1, k2⟩ := cellsBatch_get bs vs j bs[j] x (List.getElem?_eq_getElem hj) hx
      exact ⟨x, hx, take_getChange ht (by omega) k1, take_getChange ht (by omega) k2⟩
    refine .inr ⟨g, cap, cur, rfl, hB, hC, by omega, fun j hj => ?_, ?_⟩
    · obtain ⟨x, hx, k1, k2⟩ := hget j hj
      refine ⟨k1, x, k2, h3 j x _ hx (List.getElem?_eq_getElem hj), fun e => ?_⟩
      exact kid_apart h2 (h3 j x _ hx (List.getElem?_eq_getElem hj)) e rfl
    · intro i j x y h hij hi hj hx hy e
      obtain ⟨x', hx', -, k2⟩ := hget i hi
      obtain ⟨y', hy', -, k2'⟩ := hget j hj
      rw [k2] at hx
      rw [k2'] at hy
      obtain rfl := Option.some.inj hx
      obtain rfl := Option.some.inj hy
      exact h4 i j x' y' h hij hx' hy' e

/-- One is put behind: what the row is then. -/
theorem buildB_put {W w' : World} {B : Nat} {v v' x : Value} {bs : List BatchD} {b : BatchD} (hx : RowChange W B x b.chs)
    (vs : List Value) (h1 : vs.length = bs.length) (h3 : ∀ (j : Nat) (y : Value) (c : BatchD), vs[j]? = some y → bs[j]? = some c → RowChange W B y c.chs) (h4 : ∀ (i j : Nat) (y z : Value) (h : Nat), i ≠ j → vs[i]? = some y → vs[j]? = some z → y.ownBlock = some h → z.ownBlock ≠ some h)
    (hnew : ∀ g, x.ownBlock = some g → ∀ y ∈ vs, y.ownBlock ≠ some g)
    (hown' : w'.ownsRow B 96 2 v' (bs ++ [b]).length (cellsBatch bs vs ++ [.int .i64 b.seq, x])) (hkeep : ∀ k, v.ownBlock ≠ some k → k < W.heap.size → w'.heap[k]? = W.heap[k]?)
    (hown : W.ownsRow B 96 2 v bs.length (cellsBatch bs vs)) : BuildB w' B v' (bs ++ [b]) := by
  have keep : ∀ y (fs : List ChangeD), RowChange W B y fs → RowChange w' B y fs := fun y fs hy => rowChange_keep hy (fun g hg => hkeep g (kid_apart hown hy hg) (rowChange_lt hy g hg).2)
  refine ⟨vs ++ [x], by simp [h1], by rw [cellsBatch_append bs vs b x h1]; exact hown', ?_, ?_⟩
  · intro j y c hy hc
    by_cases hj : j < bs.length
    · rw [List.getElem?_append_left (by omega)] at hy
      rw [List.getElem?_append_left hj] at hc
      exact keep _ _ (h3 j y c hy hc)
    · have hlt : j < (bs ++ [b]).length := (List.getElem?_eq_some_iff.1 hc).1
      have hje : j = bs.length := by simp at hlt; omega
      subst hje
      rw [List.getElem?_append_right (by omega)] at hy
      rw [List.getElem?_append_right (Nat.le_refl _)] at hc
      simp [h1] at hy hc
      subst hy hc
      exact keep _ _ hx
  · intro i j y z g hij hy hz hg e
    by_cases hi : i < vs.length
    · rw [List.getElem?_append_left hi] at hy
      by_cases hj : j < vs.length
      · rw [List.getElem?_append_left hj] at hz
        exact h4 i j y z g hij hy hz hg e
      · rw [List.getElem?_append_right (by omega)] at hz
        have hz' := List.mem_of_getElem? hz
        obtain rfl : z = x := by simpa using hz'
        exact hnew g e y (List.mem_of_getElem? hy) hg
    · rw [List.getElem?_append_right (by omega)] at hy
      have hy' := List.mem_of_getElem? hy
      obtain rfl : y = x := by simpa using hy'
      by_cases hj : j < vs.length
      · rw [List.getElem?_append_left hj] at hz
        exact hnew g hg z (List.mem_of_getElem? hz) e
      · have hi1 : i < (vs ++ [y]).length := by
          rcases Nat.lt_or_ge i (vs ++ [y]).length with h' | h'
          · exact h'
          · rw [List.getElem?_eq_none (by simp at h' ⊢; omega)] at hy; simp at hy
        have hj1 : j < (vs ++ [y]).length := by
          rcases Nat.lt_or_ge j (vs ++ [y]).length with h' | h'
          · exact h'
          · rw [List.getElem?_eq_none (by simpa using h')] at hz; simp at hz
        simp at hi1 hj1
        omega
end Go.Proofs.YtmmchemgegmhhaaGreatDoor
