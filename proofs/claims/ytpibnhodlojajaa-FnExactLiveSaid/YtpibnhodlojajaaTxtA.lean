/- Rows of texts: anywhere in memory, and of a call's own. -/
import Derived.Test.YtpibnhodlojajaaBase
import Derived.Deep.RegionHeld3
import Derived.Laws.MakeOwn
namespace Go.Proofs.Ytpibnhodlojajaa
open Go.RowKit

/-- Texts in a row. -/
def TextsAt (w : World) (ao : Option Addr) (ts : List ByteArray) : Prop := ∀ j (h : j < ts.length), ∃ b off : Nat, ao = some ⟨b, off, none⟩ ∧ b < w.heap.size ∧ w.cell? ⟨b, off + j, none⟩ = some (.string ts[j])
theorem textsAt_keep {w w' : World} {ao : Option Addr} {ts : List ByteArray} (h : TextsAt w ao ts) (hb : Below w.heap.size w w') : TextsAt w' ao ts := by
  intro j hj
  obtain ⟨b, off, h1, h2, h3⟩ := h j hj
  exact ⟨b, off, h1, Nat.lt_of_lt_of_le h2 hb.size, (hb.cell (p := ⟨b, off + j, none⟩) h2).trans h3⟩

/-- The first k of these stand in these cells. -/
def TextsIn (C : Array Value) (ts : List ByteArray) (k : Nat) : Prop := ∀ j (h : j < ts.length), j < k → C[j]? = some (.string ts[j])
theorem textsIn_put {C : Array Value} {ts : List ByteArray} {k : Nat} (h : TextsIn C ts k) (hk : k < ts.length) (hs : ts.length ≤ C.size) : TextsIn (C.setIfInBounds k (.string ts[k])) ts (k + 1) := by
  intro j hj hjk
  by_cases e : j = k
  · subst e
    simp [Array.getElem?_setIfInBounds]
    omega
  · rw [Array.getElem?_setIfInBounds_ne (by omega)]
    exact h j hj (by omega)
theorem textsAt_in {w : World} {g : Nat} {C : Array Value} {t : TypeId} {ts : List ByteArray} (h : w.heap[g]? = some (.cells C t (0, 0))) (hC : TextsIn C ts ts.length) : TextsAt w (some ⟨g, 0, none⟩) ts := by
  intro j hj
  refine ⟨g, 0, rfl, (Array.getElem?_eq_some_iff.1 h).1, ?_⟩
  rw [Nat.zero_add, cell_of_row w g _ C t (0, 0) h]
  exact hC j hj hj

/-- A row of texts of a call's own. -/
def RowText (w : World) (B : Nat) (v : Value) (ts : List ByteArray) : Prop := (v = .slice none 0 0 ∧ ts = []) ∨
  ∃ (g cap : Nat) (C : Array Value), v = .slice (some ⟨g, 0, none⟩) ts.length cap ∧ B ≤ g ∧ w.heap[g]? = some (.cells C 9 (0, 0)) ∧ ts.length ≤ C.size ∧ TextsIn C ts ts.length
theorem rowText_at {w : World} {B : Nat} {v : Value} {ts : List ByteArray} (h : RowText w B v ts) : ∃ ao cap, v = .slice ao ts.length cap ∧ TextsAt w ao ts := by
  rcases h with ⟨rfl, rfl⟩ | ⟨g, cap, C, rfl, _, hC, _, hI⟩
  · exact ⟨none, 0, rfl, fun j hj => absurd hj (by simp)⟩
  · exact ⟨_, cap, rfl, textsAt_in hC hI⟩
theorem rowText_lt {w : World} {B : Nat} {v : Value} {ts : List ByteArray} (h : RowText w B v ts) : ∀ g, v.ownBlock = some g → B ≤ g ∧ g < w.heap.size := by
  rcases h with ⟨rfl, rfl⟩ | ⟨g, cap, C, rfl, hB, hC, _, hI⟩
  · intro g h; cases h
  · intro g' h
    obtain rfl : g = g' := by simpa [Value.ownBlock] using h
    exact ⟨hB, (Array.getElem?_eq_some_iff.1 hC).1⟩
theorem rowText_keep {w w' : World} {B : Nat} {v : Value} {ts : List ByteArray} (h : RowText w B v ts) (hk : ∀ g, v.ownBlock = some g → w'.heap[g]? = w.heap[g]?) : RowText w' B v ts := by
  rcases h with ⟨rfl, rfl⟩ | ⟨g, cap, C, rfl, hB, hC, hs, hI⟩
  · exact .inl ⟨rfl, rfl⟩
  · exact .inr ⟨g, cap, C, rfl, hB, (hk g rfl).trans hC, hs, hI⟩
theorem rowText_below {w w' : World} {B : Nat} {v : Value} {ts : List ByteArray} (h : RowText w B v ts) (hb : Below w.heap.size w w') : RowText w' B v ts :=
  rowText_keep h (fun g hg => hb.block g (rowText_lt h g hg).2)
theorem rowText_grown {w w' : World} {B : Nat} {v : Value} {ts : List ByteArray} {r : Option Nat} (h : RowText w B v ts) (hb : w.grownBy w' r) (hr : ∀ g, v.ownBlock = some g → some g ≠ r) : RowText w' B v ts :=
  rowText_keep h (fun g hg => hb.block g (rowText_lt h g hg).2 (hr g hg))
theorem rowText_le {w : World} {B B' : Nat} {v : Value} {ts : List ByteArray} (h : RowText w B v ts) (hB : B' ≤ B) : RowText w B' v ts := by
  rcases h with h | ⟨g, cap, C, h1, h2, h3⟩
  · exact .inl h
  · exact .inr ⟨g, cap, C, h1, by omega, h3⟩
theorem rowText_rows {w : World} {B n c : Nat} {a : Option Addr} {ts : List ByteArray} (h : RowText w B (.slice a n c) ts) : TextsAt w a ts := by
  obtain ⟨ao, cap, e, hf⟩ := rowText_at h
  cases e
  exact hf
theorem rowText_one {w : World} {B : Nat} {x : Value} {ts : List ByteArray} (h : RowText w B x ts) : x.oneCell' = true := by
  obtain ⟨a, c, rfl, -⟩ := rowText_at h
  rfl
theorem take_getText {C : Array Value} {xs : List Value} {n : Nat} (h : C.toList.take n = xs) {j : Nat} {u : Value} (hj : j < n) (hu : xs[j]? = some u) : C[j]? = some u := by
  rw [← h, List.getElem?_take_of_lt hj] at hu
  simpa using hu
theorem rowText_own {w : World} {B : Nat} {v : Value} {ts : List ByteArray} (h : w.ownsRow B 9 1 v ts.length (ts.map Value.string)) : RowText w B v ts := by
  rcases h.2 with ⟨rfl, hn⟩ | ⟨g, cap, cur, rfl, hB, hC, hle, _, hs, ht⟩
  · exact .inl ⟨rfl, List.eq_nil_of_length_eq_zero hn⟩
  · refine .inr ⟨g, cap, cur, rfl, hB, hC, by omega, ?_⟩
    intro j hj _
    exact take_getText ht (by omega) (by simp [hj])
theorem text_block {w : World} {B : Nat} {x : Value} {ts : List ByteArray} (h : RowText w B x ts) {g : Nat} (hg : x.ownBlock = some g) : ∃ C, w.heap[g]? = some (.cells C 9 (0, 0)) := by
  rcases h with ⟨rfl, rfl⟩ | ⟨g', cap, C, rfl, _, hC, _⟩
  · cases hg
  · obtain rfl : g' = g := by simpa [Value.ownBlock] using hg
    exact ⟨C, hC⟩

theorem Try.infoText : (Try.prog.info? 9).map (fun i => (i.zero, i.size, i.bytes)) = some (some (.string ⟨#[]⟩), 1, 16) := by kernel_rfl
theorem texts_one (ts : List ByteArray) : ∀ u ∈ ts.map Value.string, u.oneCell' = true := by
  intro u hu
  obtain ⟨b, _, rfl⟩ := List.mem_map.1 hu
  rfl

/-- One text is put behind a row of the call's own, in a plain region; the new one lies in block k. -/
theorem app_txt {ops : Array Oper} {rest : List Oper} {o : Oper} {a : Act} {Q : Exit → Act → World → Prop} (W : World) (B : Nat) (hgd : o.guard = none) (s y : Operand)
    (ho : o.op = .call { callee := .builtin .append, args := #[s, y], argTypes := #[36, 36] }) (v : Value) (l : List ByteArray) (F : ByteArray) (hs : a.eval s = v)
    (hown : W.ownsRow B 9 1 v l.length (l.map Value.string)) (k : Nat) (hx : a.eval y = .slice (some ⟨k, 0, none⟩) 1 1) (hblk : W.heap[k]? = some (.cells #[.string F] 9 (0, 0)))
    (hlen : l.length ≤ 1048576) (hbase : B ≤ W.heap.size)
    (h : ∀ g cap w', w'.ownsRow B 9 1 (.slice (some ⟨g, 0, none⟩) (l.length + 1) cap) (l ++ [F]).length ((l ++ [F]).map Value.string) → Below B W w' → W.grownBy w' v.ownBlock → B ≤ g → g < w'.heap.size → wpList Try.prog ops Q rest (a.put o.dst (.slice (some ⟨g, 0, none⟩) (l.length + 1) cap)) w') :
    wpList Try.prog ops Q (o :: rest) a W := by
  obtain ⟨i0, hi, hz0, hz1, hz2⟩ := info_parts Try.infoText
  refine wpList_append_lies W hgd s y 36 ho B 9 i0 (.string ⟨#[]⟩) 1 16 Try.underlying36 hi hz0 hz1 hz2 rfl (by decide) v l.length (l.map Value.string) hs hown ⟨k, 0, none⟩ 1 1 ([F].map Value.string) hx rfl
    (fun j u hj => World.news_of_block hblk j u hj) (texts_one [F]) (by omega) (by unfold maxLen; omega) (by omega) hbase W.heap.size rfl ?_
  intro g cap w' hown' hgrow hg hgl
  have hlt := hown.lt
  refine h g cap w' ?_ ((Below.refl B W).grown hgrow hbase (fun k hk => (hlt k hk).1)) hgrow ?_ hgl
  · rw [List.map_append, List.length_append]
    exact hown'
  · rcases hg with hg | rfl
    · exact (hlt g hg).1
    · exact hbase
/-- The same at a step of a region that draws its order. -/
theorem step_app_txt {ops : Array Oper} {o : Oper} {a : Act} {K : Act → World → Prop} {Q : Exit → Act → World → Prop} {E : Prop} (W : World) (B : Nat) (hgd : o.guard = none) (s y : Operand)
    (ho : o.op = .call { callee := .builtin .append, args := #[s, y], argTypes := #[36, 36] }) (v : Value) (l : List ByteArray) (F : ByteArray) (hs : a.eval s = v)
    (hown : W.ownsRow B 9 1 v l.length (l.map Value.string)) (k : Nat) (hx : a.eval y = .slice (some ⟨k, 0, none⟩) 1 1) (hblk : W.heap[k]? = some (.cells #[.string F] 9 (0, 0)))
    (hlen : l.length ≤ 1048576) (hbase : B ≤ W.heap.size)
    (h : ∀ g cap w', w'.ownsRow B 9 1 (.slice (some ⟨g, 0, none⟩) (l.length + 1) cap) (l ++ [F]).length ((l ++ [F]).map Value.string) → Below B W w' → W.grownBy w' v.ownBlock → B ≤ g → g < w'.heap.size → K (a.put o.dst (.slice (some ⟨g, 0, none⟩) (l.length + 1) cap)) w') :
    if Region.wanted o (yielded ops a.tmps) = true then Oper.wp Try.prog o a W K Q else E := by
  obtain ⟨i0, hi, hz0, hz1, hz2⟩ := info_parts Try.infoText
  refine step_append_lies W hgd s y 36 ho B 9 i0 (.string ⟨#[]⟩) 1 16 Try.underlying36 hi hz0 hz1 hz2 rfl (by decide) v l.length (l.map Value.string) hs hown ⟨k, 0, none⟩ 1 1 ([F].map Value.string) hx rfl
    (fun j u hj => World.news_of_block hblk j u hj) (texts_one [F]) (by omega) (by unfold maxLen; omega) (by omega) hbase W.heap.size rfl ?_
  intro g cap w' hown' hgrow hg hgl
  have hlt := hown.lt
  refine h g cap w' ?_ ((Below.refl B W).grown hgrow hbase (fun k hk => (hlt k hk).1)) hgrow ?_ hgl
  · rw [List.map_append, List.length_append]
    exact hown'
  · rcases hg with hg | rfl
    · exact (hlt g hg).1
    · exact hbase
end Go.Proofs.Ytpibnhodlojajaa
