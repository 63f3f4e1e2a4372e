/- What the program holds while it reads batches one behind the other, plainly and in memory. -/
import Derived.Test.YtomdpkahcbnlnalDoorFramesP
import Derived.Test.YtomdpkahcbnlnalDoorSegS1
import Derived.RangeFuncBox
import Derived.OwnWalkIn
namespace Go.Proofs.YtomdpkahcbnlnalDoor
open Go.RowKit Go.Shelf

attribute [local go_sem] Oper.semAt_some

/-- The batches of some frames. -/
def batchesOf (s : ByteArray) (l : List (Nat × Nat)) : List BatchD := l.map fun x => ⟨rdSeq (s.extract x.1 x.2), rdChanges (s.extract x.1 x.2)⟩
theorem batchesOf_snoc (s : ByteArray) (l : List (Nat × Nat)) (x : Nat × Nat) : batchesOf s (l ++ [x]) = batchesOf s l ++ [⟨rdSeq (s.extract x.1 x.2), rdChanges (s.extract x.1 x.2)⟩] := by simp [batchesOf]
theorem batchesOf_len (s : ByteArray) (l : List (Nat × Nat)) : (batchesOf s l).length = l.length := by simp [batchesOf]
/-- All of some frames are batches whose numbers rise. -/
def RisP (s : ByteArray) (l : List (Nat × Nat)) : Prop := ∀ rest, ris s (l ++ rest) (-1) 0 = (batchesOf s l ++ (ris s rest (lastOf (batchesOf s l)) (endOf l)).1, (ris s rest (lastOf (batchesOf s l)) (endOf l)).2)
theorem risP_nil (s : ByteArray) : RisP s [] := fun rest => by simp [batchesOf, lastOf, endOf]
theorem risP_snoc {s : ByteArray} {l : List (Nat × Nat)} {x : Nat × Nat} (h : RisP s l) (h1 : rdOk (s.extract x.1 x.2) = true) (h2 : lastOf (batchesOf s l) < rdSeq (s.extract x.1 x.2)) : RisP s (l ++ [x]) := by
  intro rest
  rw [List.append_assoc, List.singleton_append, h (x :: rest), ris_more h1 h2, batchesOf_snoc, lastOf_snoc, endOf_snoc]
  simp
theorem risP_all {s : ByteArray} {l : List (Nat × Nat)} (h : RisP s l) : ris s l (-1) 0 = (batchesOf s l, endOf l) := by
  have := h []
  rw [List.append_nil] at this
  rw [this]
  simp [ris]
theorem risP_stop {s : ByteArray} {l rest : List (Nat × Nat)} {x : Nat × Nat} (h : RisP s l) (hn : ¬ (rdOk (s.extract x.1 x.2) = true ∧ lastOf (batchesOf s l) < rdSeq (s.extract x.1 x.2))) : ris s (l ++ [x] ++ rest) (-1) 0 = (batchesOf s l, endOf l) := by
  rw [List.append_assoc, List.singleton_append, h (x :: rest), ris_no hn]
  simp

theorem rowChange_own' {W W' : World} {row : Option Nat} {B : Nat} {x : Value} {fs : List ChangeD} (h : RowChange W B x fs) (hg : W.grownBy W' row) (hrow : ∀ r, row = some r → ∃ o : Obj, W.heap[r]? = some o ∧ o.isCells = false) : RowChange W' B x fs := by
  refine rowChange_grown h hg (fun g e e2 => ?_)
  obtain ⟨C, hC⟩ := change_block h e
  obtain ⟨o, ho, hc⟩ := hrow g e2.symm
  rw [hC] at ho
  cases ho
  cases hc
theorem buildB_own {W W' : World} {row : Option Nat} {B : Nat} {v : Value} {bs : List BatchD} (h : BuildB W B v bs) (hg : W.grownBy W' row) (hrow : ∀ r, row = some r → ∃ o : Obj, W.heap[r]? = some o ∧ o.isCells = false) : BuildB W' B v bs := by
  obtain ⟨vs, h1, h2, h3, h4⟩ := h
  refine ⟨vs, h1, h2.kept hg ?_, fun j x b hx hb => rowChange_own' (h3 j x b hx hb) hg hrow, h4⟩
  cases e : v.ownBlock with
  | none => exact .inl rfl
  | some g =>
    refine .inr (fun e2 => ?_)
    obtain ⟨C, hC⟩ := owns_block h2 e
    obtain ⟨o, ho, hc⟩ := hrow g e2.symm
    rw [hC] at ho
    cases ho
    cases hc
/-- 'The box holds a row of batches' speaks of cells alone. -/
theorem holdsBuild_own {β : Type} (n₀ B : Nat) (t : TypeId) (f : β → List BatchD) : Own (fun s W => ∃ v, Boxed W B t v ∧ BuildB W n₀ v (f s)) := by
  rintro s X Y row ⟨v, hv, hr⟩ hg hrow
  refine ⟨v, hv.kept hg (fun e' => ?_), buildB_own hr hg hrow⟩
  obtain ⟨o, ho, hc⟩ := hrow B e'.symm
  rw [show X.heap[B]? = _ from hv] at ho; cases ho; cases hc
/-- The answer: the batches, and the place behind them. -/
def RiseLeft (s : ByteArray) (w : World) (e : Ending) (w' : World) : Prop :=
  (∃ v, e = .returned (.tuple #[v, .int .i64 (((ris s (frs s (s.size + 1) 0) (-1) 0).2 : Nat) : Int)]) ∧ RowBatch w' w.heap.size v (ris s (frs s (s.size + 1) 0) (-1) 0).1) ∧ Below w.heap.size w w'

/-- An append at a step of a region that draws its order, by its run. -/
theorem stepIn_append {F : Fence} {n : Nat} {P : Program} {ops : Array Oper} {o : Oper} {a : Act} {W : World} {K : Act → World → Prop} {Q : Exit → Act → World → Prop} {E : Prop} (hg : o.guard = none) (s x : Operand) (t : TypeId)
    (hop : o.op = Op.call { callee := Callee.builtin Builtin.append, args := #[s, x], argTypes := #[t, t] }) (v : Value) (hs : a.eval s = v) (u : Value) (hx : a.eval x = u) (v' : Value) (w' : World)
    (hrun : (Builtin.append_ #[t, t] o.type #[v, u]).run P W = .ok v' w') (h : K (a.put o.dst v') w') :
    if Region.wanted o (yielded ops a.tmps) = true then Oper.wpIn F n P o a W K Q else E := by
  rw [if_pos (by simp [Region.wanted, hg])]
  unfold Oper.wpIn
  refine ⟨?_, ?_⟩
  · simp [Oper.about, hop, resolve, Target.leads, Sem.run_pure]
  · rw [Oper.semAt_plain F _ _ (by rw [hop]; intro c hc'; cases hc')]
    simp [execOp, hop, resolve, invoke, builtin, hs, hx, hrun, Result.andThen]
    exact h
/-- One is put behind, in a fenced plain region. -/
theorem appIn_batch {F : Fence} {n : Nat} {ops : Array Oper} {rest : List Oper} {o : Oper} {a : Act} {Q : Exit → Act → World → Prop} (W0 W : World) (B : Nat) (hgd : o.guard = none) (s y : Operand)
    (ho : o.op = .call { callee := .builtin .append, args := #[s, y], argTypes := #[42, 42] }) (v x : Value) (bs : List BatchD) (b : BatchD) (hs : a.eval s = v)
    (hbuild : BuildB W0 B v bs) (hBs : B ≤ W0.heap.size) (hb : Below W0.heap.size W0 W) (hx : RowChange W W0.heap.size x b.chs) (k : Nat) (hy : a.eval y = .slice (some ⟨k, 0, none⟩) 1 1) (hblk : W.heap[k]? = some (.cells #[.int .i64 b.seq, x] 58 (0, 0)))
    (hlen : bs.length ≤ 1048576)
    (h : ∀ g cap w', BuildB w' B (.slice (some ⟨g, 0, none⟩) (bs.length + 1) cap) (bs ++ [b]) → Below B W w' → W.grownBy w' v.ownBlock → wpListIn F n Tryd.prog ops Q rest (a.put o.dst (.slice (some ⟨g, 0, none⟩) (bs.length + 1) cap)) w') :
    wpListIn F n Tryd.prog ops Q (o :: rest) a W := by
  obtain ⟨i0, hi, hz0, hz1, hz2⟩ := info_parts Tryd.infoBatch
  obtain ⟨vs, h1, h2, h3, h4⟩ := hbuild
  have hown := ownsRow_below h2 hb
  refine wpListIn_append_own W hgd s y 42 ho B 58 i0 (.agg #[.int .i64 0, .slice none 0 0]) 2 32 Tryd.underlying42 hi hz0 hz1 hz2 rfl (by decide) v bs.length (cellsBatch bs vs) hs hown ⟨k, 0, none⟩ 1 1 [.int .i64 b.seq, x] hy rfl
    (fun j u hj => World.news_of_block hblk j u hj) (two_one hx _) (by unfold maxLen; omega) (by omega) (Nat.le_trans hBs hb.size) ?_
  intro v' w' hown' hgrow _
  obtain ⟨g, cap, rfl⟩ := ownsRow_succ hown'
  exact h g cap w' (buildB_after hBs hb h1 h2 h3 h4 hx (by rw [List.length_append]; exact hown') hgrow) ((Below.refl B W).grown hgrow (Nat.le_trans hBs hb.size) (fun k hk => (hown.lt k hk).1)) hgrow

/-- A box of another type may be stored into. -/
theorem buildB_box {W : World} {B k : Nat} {t : TypeId} {v u : Value} {bs : List BatchD} (h : BuildB W B v bs) (hk : Boxed W k t u) (h1 : t ≠ 58) (h2 : t ≠ 94) (u' : Value) : BuildB (W.setCell ⟨k, 0, none⟩ u') B v bs := by
  obtain ⟨vs, k1, k2, k3, k4⟩ := h
  have hg := grownBy_setCell' W k u'
  refine ⟨vs, k1, k2.kept hg (.inr (fun e => hk.not_row h1 k2 e.symm)), fun j x b hx hb => ?_, k4⟩
  refine rowChange_grown (k3 j x b hx hb) hg (fun g e e2 => ?_)
  obtain ⟨C, hC⟩ := change_block (k3 j x b hx hb) e
  obtain rfl : g = k := Option.some.inj e2
  rw [show W.heap[g]? = _ from hk] at hC
  simp at hC
  exact h2 hC.2

/-- What lies ahead of the append of a round. -/
theorem rise_pre {w W w1 : World} {v lv x : Value} {q : Int} (hv : Boxed W w.heap.size 42 v) (hl : Boxed W (w.heap.size + 1 + 1) 3 lv) (b1 : Below W.heap.size W w1) :
    (w1.alloc (.cells #[.int .i64 q, x] 58)).cell? ⟨w1.heap.size, 0, none⟩ = some (.int .i64 q) ∧ (w1.alloc (.cells #[.int .i64 q, x] 58)).cell? ⟨w1.heap.size, 1, none⟩ = some x ∧
    (w1.alloc (.cells #[.int .i64 q, x] 58)).cell? ⟨w.heap.size + 1 + 1, 0, none⟩ = some lv ∧ (w1.alloc (.cells #[.int .i64 q, x] 58)).cell? ⟨w.heap.size, 0, none⟩ = some v := by
  have g1 := grownBy_below none b1
  have hb := heap_alloc_new w1 (.cells #[.int .i64 q, x] 58)
  exact ⟨(cell_of_row _ _ 0 _ _ (0, 0) hb).trans rfl, (cell_of_row _ _ 1 _ _ (0, 0) hb).trans rfl, ((hl.kept g1 (by simp)).alloc _).cell, ((hv.kept g1 (by simp)).alloc _).cell⟩

/-- What lies behind it. -/
theorem rise_post {w W w1 w2 : World} {v ev lv x v2 : Value} {q : Int} {fs : List ChangeD} {bs : List BatchD} (hv : Boxed W w.heap.size 42 v) (he : Boxed W (w.heap.size + 1) 3 ev) (hl : Boxed W (w.heap.size + 1 + 1) 3 lv) (b1 : Below W.heap.size W w1)
    (hbu : BuildB W w.heap.size v bs) (hsz : w.heap.size + 4 ≤ W.heap.size)
    (hb2 : Below w.heap.size ((w1.alloc (.cells #[.int .i64 q, x] 58)).alloc (.cells #[.int .i64 q, x] 58)) w2) (hg2 : ((w1.alloc (.cells #[.int .i64 q, x] 58)).alloc (.cells #[.int .i64 q, x] 58)).grownBy w2 v.ownBlock)
    (hbu2 : BuildB w2 w.heap.size v2 (bs ++ [⟨q, fs⟩])) :
    w2.cell? ⟨w.heap.size, 0, none⟩ = some v ∧ w2.frozen? ⟨w.heap.size, 0, none⟩ = false ∧
    (w2.setCell ⟨w.heap.size, 0, none⟩ v2).cell? ⟨w1.heap.size, 0, none⟩ = some (.int .i64 q) ∧
    (w2.setCell ⟨w.heap.size, 0, none⟩ v2).cell? ⟨w.heap.size + 1, 0, none⟩ = some ev ∧ (w2.setCell ⟨w.heap.size, 0, none⟩ v2).frozen? ⟨w.heap.size + 1, 0, none⟩ = false ∧
    (∀ u, ((w2.setCell ⟨w.heap.size, 0, none⟩ v2).setCell ⟨w.heap.size + 1, 0, none⟩ u).cell? ⟨w1.heap.size, 0, none⟩ = some (.int .i64 q) ∧ ((w2.setCell ⟨w.heap.size, 0, none⟩ v2).setCell ⟨w.heap.size + 1, 0, none⟩ u).cell? ⟨w.heap.size + 1 + 1, 0, none⟩ = some lv ∧
      ((w2.setCell ⟨w.heap.size, 0, none⟩ v2).setCell ⟨w.heap.size + 1, 0, none⟩ u).frozen? ⟨w.heap.size + 1 + 1, 0, none⟩ = false) ∧
    Hid (∀ u u' W5, W5 = ((w2.setCell ⟨w.heap.size, 0, none⟩ v2).setCell ⟨w.heap.size + 1, 0, none⟩ u).setCell ⟨w.heap.size + 1 + 1, 0, none⟩ u' →
      KeepsOthers W W5 ∧ KpF w.heap.size (w.heap.size + 1 + 1 + 1) W W5 ∧ Boxed W5 w.heap.size 42 v2 ∧ BuildB W5 w.heap.size v2 (bs ++ [⟨q, fs⟩]) ∧ Boxed W5 (w.heap.size + 1) 3 u ∧ Boxed W5 (w.heap.size + 1 + 1) 3 u' ∧ W.heap.size ≤ W5.heap.size) := by
  have s1 := b1.size
  have g1 := grownBy_below none b1
  obtain ⟨vs, -, hown, -, -⟩ := hbu
  have hv1 := ((hv.kept g1 (by simp)).alloc (.cells #[.int .i64 q, x] 58)).alloc (.cells #[.int .i64 q, x] 58)
  have he1 := ((he.kept g1 (by simp)).alloc (.cells #[.int .i64 q, x] 58)).alloc (.cells #[.int .i64 q, x] 58)
  have hl1 := ((hl.kept g1 (by simp)).alloc (.cells #[.int .i64 q, x] 58)).alloc (.cells #[.int .i64 q, x] 58)
  have hv2 := hv1.kept hg2 (hv.not_row (by decide) hown)
  have he2 := he1.kept hg2 (he.not_row (by decide) hown)
  have hl2 := hl1.kept hg2 (hl.not_row (by decide) hown)
  have hne : ∀ k, v.ownBlock = some k → k < W.heap.size := fun k hk => (hown.lt k hk).2
  have hbk : w2.heap[w1.heap.size]? = some (.cells #[.int .i64 q, x] 58 (0, 0)) := by
    refine (hg2.block w1.heap.size (by simp; omega) (fun e => by have := hne _ e.symm; omega)).trans ?_
    exact (Below.heap_alloc _ _ _ (by simp)).trans (heap_alloc_new _ _)
  have hv3 := hv2.set v2
  have he3 := he2.other (by omega : w.heap.size + 1 ≠ w.heap.size) v2
  have hl3 := hl2.other (by omega : w.heap.size + 1 + 1 ≠ w.heap.size) v2
  have hbk3 : (w2.setCell ⟨w.heap.size, 0, none⟩ v2).heap[w1.heap.size]? = some (.cells #[.int .i64 q, x] 58 (0, 0)) := (Below.heap_setCell _ _ _ _ (by show w1.heap.size ≠ w.heap.size; omega)).trans hbk
  have hbu3 := buildB_box hbu2 hv2 (by decide) (by decide) v2
  refine ⟨hv2.cell, hv2.frozen, (cell_of_row _ _ 0 _ _ (0, 0) hbk3).trans rfl, he3.cell, he3.frozen, fun u => ?_, ?_⟩
  · have hl4 := hl3.other (by omega : w.heap.size + 1 + 1 ≠ w.heap.size + 1) u
    have hbk4 : ((w2.setCell ⟨w.heap.size, 0, none⟩ v2).setCell ⟨w.heap.size + 1, 0, none⟩ u).heap[w1.heap.size]? = some (.cells #[.int .i64 q, x] 58 (0, 0)) := (Below.heap_setCell _ _ _ _ (by show w1.heap.size ≠ w.heap.size + 1; omega)).trans hbk3
    exact ⟨(cell_of_row _ _ 0 _ _ (0, 0) hbk4).trans rfl, hl4.cell, hl4.frozen⟩
  · rintro u u' W5 rfl
    have he4 := he3.set u
    have hl4 := hl3.other (by omega : w.heap.size + 1 + 1 ≠ w.heap.size + 1) u
    have hv4 := hv3.other (by omega : w.heap.size ≠ w.heap.size + 1) u
    have hbu4 := buildB_box hbu3 he3 (by decide) (by decide) u
    have hbu5 := buildB_box hbu4 hl4 (by decide) (by decide) u'
    have kA : KeepsOthers W w2 := (((KeepsOthers.of_grownBy g1 (fun j o e => by cases e)).trans (KeepsOthers.alloc _ _)).trans (KeepsOthers.alloc _ _)).trans (KeepsOthers.of_grownBy hg2 (fun j o e ho => by
      obtain ⟨C, hC⟩ := owns_block (((ownsRow_below hown b1).alloc _).alloc _) e
      rw [hC] at ho
      cases ho
      rfl))
    have k5 := ((kA.trans (KeepsOthers.setCell w2 ⟨w.heap.size, 0, none⟩ v2)).trans (KeepsOthers.setCell _ ⟨w.heap.size + 1, 0, none⟩ u)).trans (KeepsOthers.setCell _ ⟨w.heap.size + 1 + 1, 0, none⟩ u')
    have bA : Below w.heap.size W w2 := (((b1.mono (by omega)).alloc (by omega) _).alloc (by simp; omega) _).trans hb2
    refine ⟨k5, ⟨((bA.setCell (p := ⟨w.heap.size, 0, none⟩) (Nat.le_refl _) v2).setCell (p := ⟨w.heap.size + 1, 0, none⟩) (by show w.heap.size ≤ w.heap.size + 1; omega) u).setCell (p := ⟨w.heap.size + 1 + 1, 0, none⟩) (by show w.heap.size ≤ w.heap.size + 1 + 1; omega) u', ?_⟩, hv4.other (by omega) u', hbu5, he4.other (by omega) u', hl4.set u', k5.size⟩
    intro z hz
    have q1 := ((hz.kept g1 (by simp)).alloc (.cells #[.int .i64 q, x] 58)).alloc (.cells #[.int .i64 q, x] 58)
    have q2 := q1.kept hg2 (hz.not_row (by decide) hown)
    exact ((q2.other (by omega) _).other (by omega) u).other (by omega) u'
end Go.Proofs.YtomdpkahcbnlnalDoor

