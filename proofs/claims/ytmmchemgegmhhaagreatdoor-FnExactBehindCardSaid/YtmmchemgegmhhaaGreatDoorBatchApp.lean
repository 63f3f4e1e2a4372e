/- A batch is put behind a row of batches that a call is making. -/
import Derived.Test.YtmmchemgegmhhaaGreatDoorBatchRow
import Derived.Maps.AppendAt
namespace Go.Proofs.YtmmchemgegmhhaaGreatDoor
open Go.RowKit

theorem rowChange_one {w : World} {B : Nat} {x : Value} {fs : List ChangeD} (h : RowChange w B x fs) : x.oneCell' = true := by
  obtain ⟨a, c, rfl, -⟩ := rowChange_at h
  rfl
theorem two_one {w : World} {B : Nat} {x : Value} {fs : List ChangeD} (h : RowChange w B x fs) (q : Int) : ∀ u ∈ [.int .i64 q, x], Value.oneCell' u = true := by
  intro u hu
  simp only [List.mem_cons, List.not_mem_nil, or_false] at hu
  rcases hu with rfl | rfl
  · rfl
  · exact rowChange_one h

/-- What the row is behind an append. -/
theorem buildB_after {W0 W w' : World} {B : Nat} {v x v' : Value} {bs : List BatchD} {b : BatchD} {vs : List Value} (hBs : B ≤ W0.heap.size) (hb : Below W0.heap.size W0 W)
    (h1 : vs.length = bs.length) (h2 : W0.ownsRow B 96 2 v bs.length (cellsBatch bs vs)) (h3 : ∀ (j : Nat) (x : Value) (b : BatchD), vs[j]? = some x → bs[j]? = some b → RowChange W0 B x b.chs)
    (h4 : ∀ (i j : Nat) (x y : Value) (h : Nat), i ≠ j → vs[i]? = some x → vs[j]? = some y → x.ownBlock = some h → y.ownBlock ≠ some h)
    (hx : RowChange W W0.heap.size x b.chs) (hown' : w'.ownsRow B 96 2 v' (bs ++ [b]).length (cellsBatch bs vs ++ [.int .i64 b.seq, x])) (hgrow : W.grownBy w' v.ownBlock) : BuildB w' B v' (bs ++ [b]) := by
  refine buildB_put (W := W) (v := v) (rowChange_le hx hBs) vs h1 (fun j y c hy hc => rowChange_below (h3 j y c hy hc) hb) h4 ?_ hown' (fun k hk hlt => hgrow.block k hlt (fun e => hk e.symm)) (ownsRow_below h2 hb)
  intro g hg y hy e
  obtain ⟨j, hj, hjy⟩ := List.getElem_of_mem hy
  have k1 := h3 j y _ (by rw [List.getElem?_eq_getElem hj, hjy]) (List.getElem?_eq_getElem (by omega))
  have := (rowChange_lt k1 g e).2
  have := (rowChange_lt hx g hg).1
  omega

/-- One is put behind, in a plain region. -/
theorem app_batch {ops : Array Oper} {rest : List Oper} {o : Oper} {a : Act} {Q : Exit → Act → World → Prop} (W0 W : World) (B : Nat) (hgd : o.guard = none) (s y : Operand)
    (ho : o.op = .call { callee := .builtin .append, args := #[s, y], argTypes := #[105, 105] }) (v x : Value) (bs : List BatchD) (b : BatchD) (hs : a.eval s = v)
    (hbuild : BuildB W0 B v bs) (hBs : B ≤ W0.heap.size) (hb : Below W0.heap.size W0 W) (hx : RowChange W W0.heap.size x b.chs) (k : Nat) (hy : a.eval y = .slice (some ⟨k, 0, none⟩) 1 1) (hblk : W.heap[k]? = some (.cells #[.int .i64 b.seq, x] 96 (0, 0)))
    (hlen : bs.length ≤ 1048576)
    (h : ∀ g cap w', BuildB w' B (.slice (some ⟨g, 0, none⟩) (bs.length + 1) cap) (bs ++ [b]) → Below B W w' → W.grownBy w' v.ownBlock → wpList Tryz.prog ops Q rest (a.put o.dst (.slice (some ⟨g, 0, none⟩) (bs.length + 1) cap)) w') :
    wpList Tryz.prog ops Q (o :: rest) a W := by
  obtain ⟨i0, hi, hz0, hz1, hz2⟩ := info_parts Tryz.infoBatch
  obtain ⟨vs, h1, h2, h3, h4⟩ := hbuild
  have hown := ownsRow_below h2 hb
  refine wpList_append_lies W hgd s y 105 ho B 96 i0 (.agg #[.int .i64 0, .slice none 0 0]) 2 32 Tryz.underlying105 hi hz0 hz1 hz2 rfl (by decide) v bs.length (cellsBatch bs vs) hs hown ⟨k, 0, none⟩ 1 1 [.int .i64 b.seq, x] hy rfl
    (fun j u hj => World.news_of_block hblk j u hj) (two_one hx _) (by omega) (by unfold maxLen; omega) (by omega) (Nat.le_trans hBs hb.size) W.heap.size rfl ?_
  intro g cap w' hown' hgrow hg hgl
  refine h g cap w' (buildB_after hBs hb h1 h2 h3 h4 hx (by rw [List.length_append]; exact hown') hgrow) ((Below.refl B W).grown hgrow (Nat.le_trans hBs hb.size) (fun k hk => (hown.lt k hk).1)) hgrow

/-- A row of another type keeps what it has. -/
theorem row_apart {W w' : World} {B B' : Nat} {e : TypeId} {sz n : Nat} {v x : Value} {xs : List Value} {bs : List BatchD} (h : W.ownsRow B' e sz x n xs) (he : e ≠ 96) (hb : BuildB W B v bs) (hg : W.grownBy w' v.ownBlock) : w'.ownsRow B' e sz x n xs := by
  refine h.kept hg ?_
  cases hx : x.ownBlock with
  | none => exact .inl rfl
  | some g =>
    refine .inr (fun e2 => ?_)
    obtain ⟨vs, -, h2, -⟩ := hb
    obtain ⟨C, h3⟩ := owns_block h hx
    obtain ⟨C', h4⟩ := owns_block h2 e2.symm
    rw [h3] at h4
    simp at h4
    exact he h4.2
end Go.Proofs.YtmmchemgegmhhaaGreatDoor
