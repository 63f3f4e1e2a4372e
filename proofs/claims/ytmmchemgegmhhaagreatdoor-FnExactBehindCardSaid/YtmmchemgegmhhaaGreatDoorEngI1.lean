/- The program's lastSeq: from the last segment back to one that has a batch. -/
import Derived.Test.YtmmchemgegmhhaaGreatDoorBack
import Derived.Test.YtmmchemgegmhhaaGreatDoorEngI0
namespace Go.Proofs.YtmmchemgegmhhaaGreatDoor
open Go.RowKit Go.Shelf

attribute [local go_sem] Oper.semAt_some

theorem lastB_of_empty {l : List SegD} : ∀ (k : Nat), k ≤ l.length → (∀ j (h : j < l.length), k ≤ j → l[j].bs = []) → seqD l = seqD (l.take k) := by
  intro k hk h
  induction hn : l.length - k generalizing k with
  | zero => rw [List.take_of_length_le (by omega)]
  | succ n ih =>
    rw [ih (k + 1) (by omega) (fun j hj hkj => h j hj (by omega)) (by omega), seqD_take_succ (by omega), h k (by omega) (Nat.le_refl _)]
    rfl
theorem mem_downTo {n k j : Nat} : j ∈ downTo n k ↔ k ≤ j ∧ j < n := by
  unfold downTo
  rw [List.mem_reverse, List.mem_iff_getElem?]
  constructor
  · rintro ⟨i, hi⟩
    rw [List.getElem?_drop, List.getElem?_eq_some_iff] at hi
    obtain ⟨h1, h2⟩ := hi
    simp at h1 h2
    omega
  · rintro ⟨h1, h2⟩
    exact ⟨j - k, by rw [List.getElem?_drop, List.getElem?_eq_some_iff]; exact ⟨by simp; omega, by simp; omega⟩⟩
/-- What has come down to a place is all behind it. -/
theorem downTo_split {n j : Nat} {p rest : List Nat} (h : downTo n 0 = p ++ [j] ++ rest) : p = downTo n (j + 1) := by
  have hlen := congrArg List.length h
  have hp : p.length < n := by
    have : (downTo n 0).length = n := by unfold downTo; simp
    simp at hlen
    omega
  have h1 : (downTo n 0)[p.length]? = some j := by rw [h]; simp
  have h2 : j = n - 1 - p.length := by
    unfold downTo at h1
    rw [List.drop_zero, List.getElem?_reverse (by simpa using hp), List.length_range, List.getElem?_range (by omega)] at h1
    simp only [Option.some.injEq] at h1
    omega
  obtain ⟨r2, h3⟩ := downTo_pre (n := n) (k := j + 1)
  have h4 : (downTo n (j + 1)).length = p.length := by
    unfold downTo
    rw [List.length_reverse, List.length_drop, List.length_range]
    omega
  rw [h3, List.append_assoc] at h
  exact (List.append_inj h h4).1.symm

/-- What lies in the boxes when some segments have come: none of them has a batch. -/
def BackAt (l : List SegD) (w : World) (pre : List (Pl l)) (W : World) : Prop := (∀ x ∈ pre, (l[x.1]'x.2).bs = []) ∧ Below w.heap.size w W
theorem backAt_own (l : List SegD) (w : World) (B : Nat) (hB : w.heap.size ≤ B) : OwnFrom B (BackAt l w) := by
  rintro pre W W' row ⟨h, hBl⟩ hg hr
  exact ⟨h, hBl.grown hg hBl.size (fun k hk => Nat.le_trans hB (hr k hk).1)⟩
/-- One has come that has a batch: its number lies in the box of the answer. -/
def BackX (l : List SegD) (w : World) (Rb : Nat) (c : Go.Code) (pre : List (Pl l)) (W : World) : Prop :=
  c = .ret ∧ ∃ (p : List (Pl l)) (x : Pl l), pre = p ++ [x] ∧ (∀ y ∈ p, (l[y.1]'y.2).bs = []) ∧ (∃ h : 0 < (l[x.1]'x.2).bs.length, Boxed W Rb 3 (.int .i64 (((l[x.1]'x.2).bs[(l[x.1]'x.2).bs.length - 1]'(by omega)).seq))) ∧ Below w.heap.size w W
theorem backX_own (l : List SegD) (w : World) (Rb B : Nat) (hB : w.heap.size ≤ B) (hR : Rb < B) (c : Go.Code) : OwnFrom B (BackX l w Rb c) := by
  rintro pre W W' row ⟨h0, p, x, h1, h2, ⟨h3, h4⟩, hBl⟩ hg hr
  refine ⟨h0, p, x, h1, h2, ⟨h3, h4.kept hg (fun e => ?_)⟩, hBl.grown hg hBl.size (fun k hk => Nat.le_trans hB (hr k hk).1)⟩
  have := (hr _ e.symm).1
  omega

/-- A number is handed back through the box of the answer. -/
theorem box_ret {W : World} {g D : Nat} {t : TypeId} {v : Value} (h : Boxed W g t v) (hD : W.heap[D]? = some (.deferred (some []))) (o' : Obj) : (W.putObj D o').cell? ⟨g, 0, none⟩ = some v ∧ ∀ w : World, Below w.heap.size w W → w.heap.size ≤ D → Below w.heap.size w (W.putObj D o') := by
  have hne : D ≠ g := fun e => by rw [e, show W.heap[g]? = _ from h] at hD; cases hD
  have hb : Boxed (W.putObj D o') g t v := h.kept (grownBy_putObj' W D o') (fun e => by cases e; exact hne rfl)
  exact ⟨hb.cell, fun w hw h2 => hw.trans (belowK_b (w := w) (Nat.le_refl _) W D _ _ h2 hD rfl rfl)⟩

set_option maxRecDepth 100000 in
set_option maxHeartbeats 4000000 in
theorem lastSeq_any (l : List SegD) (v : Value) (B K : Nat) (w : World) (hl : l.length ≤ 100) (hb : ∀ s ∈ l, s.bs.length ≤ 20001) (h : BuildG w B K v l) :
    Calls Tryz.prog 133 #[v] w fun e w' => e = .returned (.int .i64 (seqD l)) ∧ Below w.heap.size w w' := by
  obtain ⟨a1, c1, rfl⟩ := buildG_form h
  obtain ⟨vs, ps, hV, hRB⟩ := segsV_of h
  have HB := hide hb
  have HRB := hide hRB
  have hvs := hV.1
  have hps := hV.2.1
  have hao : ∀ g, a1 = some ⟨g, 0, none⟩ → g < w.heap.size := fun g hg => by
    obtain ⟨vs, ps, -, -, h2, -⟩ := h
    subst hg
    exact (h2.lt g rfl).2
  clear hRB hb h
  refine (callsIn_wide (n := 3)).1 ?_
  refine callsIn_of_wp_marks Tryz.func133 rfl trivial ?_ rfl
  simp only [Tryz.ntmps133, List.size_toArray, List.length_cons, List.length_nil, Nat.reduceAdd, Nat.reduceSub, Array.replicate_succ, Array.replicate_zero, List.push_toArray, List.append_toArray, List.nil_append, List.cons_append]
  gi_wp2_with (first | (refine ⟨trivial, ?_⟩; gi_at_call 172; refine (callsIn_wide.2 (backward_any a1 l.length c1 _)).mono ?_; rintro e w' ⟨rfl, rfl⟩))
  obtain ⟨W0, hW0⟩ : ∃ W0, (w.alloc (.cells #[.int .i64 0] 3)).alloc (.cells #[.slice a1 l.length c1] 138) = W0 := ⟨_, rfl⟩
  have hB0 : Below w.heap.size w W0 := by rw [← hW0]; exact ((Below.refl _ w).alloc (Nat.le_refl _) _).alloc (by simp) _
  have hz0 : W0.heap.size = w.heap.size + 2 := by rw [← hW0]; simp
  have k1 : Boxed W0 w.heap.size 3 (.int .i64 0) := by rw [← hW0]; exact (Boxed.new w 3 (.int .i64 0)).alloc _
  have k2 : Boxed W0 (w.heap.size + 1) 138 (.slice a1 l.length c1) := by
    have h := Boxed.new (w.alloc (.cells #[.int .i64 0] 3)) 138 (.slice a1 l.length c1)
    rw [World.size_alloc] at h
    rw [← hW0]
    exact h
  have HV0 := hide (segsV_keep hV hao hB0 (by omega))
  rw [hW0]
  clear hW0
  obtain ⟨sf, hsf⟩ : ∃ f : Pl l → SegD, ∀ x, f x = l[x.1]'x.2 := ⟨_, fun x => rfl⟩
  obtain ⟨vf, hvf⟩ : ∃ f : Pl l → Option Addr × Nat, ∀ x, f x = vs[x.1]'(by have := x.2; omega) := ⟨fun x => vs[x.1]'(by have := x.2; omega), fun x => rfl⟩
  obtain ⟨pf, hpf⟩ : ∃ f : Pl l → Option Addr × Nat, ∀ x, f x = ps[x.1]'(by have := x.2; omega) := ⟨fun x => ps[x.1]'(by have := x.2; omega), fun x => rfl⟩
  have HST := back_stops l vs ps hvs hps hl a1 c1 2 (w.heap.size + 1) W0.heap.size (by omega) W0 (Nat.le_refl _) k2 (fun g hg => by have := hao g hg; omega) HV0.out
  simp only [← hsf, ← hvf, ← hpf] at HST
  have HSF := hide hsf
  have HVF := hide hvf
  clear hsf hvf hpf
  refine wpIn_rangeFunc_ownH rfl (by omega) (gf := 200) (lb := #[.pointer (some ⟨w.heap.size + 1, 0, none⟩)]) rfl trivial (enters_of Tryz.func200 (by kernel_rfl) rfl)
    HST kpT_t (kpT_b (Nat.le_refl _)) (Below.refl _ _) (fun _ => rfl)
    (BackAt l W0) (BackX l w w.heap.size) (backAt_own l W0 _ (Nat.le_refl _)) (backX_own l w w.heap.size _ (by omega) (by omega))
    ⟨fun x hx => absurd hx List.not_mem_nil, Below.refl _ _⟩
    (fun x a' W => ∃ g, a' = { tmps := #[.slice a1 l.length c1, undef, .pointer (some ⟨w.heap.size, 0, none⟩), undef, .pointer (some ⟨g, 0, none⟩), .slice a1 l.length c1, .func (.func 200) #[] #[.pointer (some ⟨w.heap.size + 1, 0, none⟩)], .int .i64 (x.1 : Int), segV (sf x) (vf x) (pf x), undef, undef, undef, undef, undef, undef, undef, undef, undef, undef, undef, undef, undef], defers := [] } ∧ W.heap[g]? = some (.cells (segC (sf x) (vf x) (pf x)) 161 (0, 0)))
    (fun x a' => by
      rintro _ W W' row ⟨g, h1, h2⟩ hg hr
      refine ⟨g, h1, (hg.block g (heap_lt h2) (fun e => ?_)).trans h2⟩
      obtain ⟨-, o, ho, hc⟩ := hr _ e.symm
      rw [h2] at ho
      cases ho
      cases hc) ?assign ?body ?done ?stop
  case assign =>
    rintro L pre x W K ⟨hE, hBl⟩ hK
    gi_wp2
    have b1 : Below W.heap.size W (W.alloc (.cells (segC (sf x) (vf x) (pf x)) 161)) := (Below.refl _ W).alloc (Nat.le_refl _) _
    exact hK _ _ (KeepsFrom.of_grownBy (grownBy_below none b1) (fun j e => by cases e)) ⟨b1.mono hBl.size, fun v hv => hv.alloc _⟩ ⟨hE, hBl.trans (b1.mono hBl.size)⟩ ⟨W.heap.size, rfl, heap_alloc_new W _⟩
  case body =>
    rintro L pre x a' W hLl hrec ⟨hE, hBl⟩ ⟨g, rfl, hblk⟩ hlt
    obtain ⟨e0, e1, e2, e3, e4, e5, e6⟩ := seven_cells hblk
    have HBb : (sf x).bs.length ≤ 20001 := by rw [HSF.out x]; exact HB.out _ (List.getElem_mem x.2)
    have HRx : Hid (RowBatch w K (.slice (vf x).1 (sf x).bs.length (vf x).2) (sf x).bs) := HRB.out x.1 (vf x) (sf x) (by rw [HVF.out x]; exact List.getElem?_eq_getElem (by have := x.2; omega)) (by rw [HSF.out x]; exact List.getElem?_eq_getElem x.2)
    have HBw : Hid (Below w.heap.size w W) := hB0.trans (hBl.mono (by omega))
    have HEX := hide hE
    by_cases hz : (sf x).bs.length = 0
    · have hz' : decide ((0 : Int) < ((sf x).bs.length : Int)) = false := by rw [decide_eq_false_iff_not]; omega
      have hzn : decide (0 < (sf x).bs.length) = false := by rw [decide_eq_false_iff_not]; omega
      have HZ := hide hz
      clear hz hE
      gi_wp2
      refine ⟨KeepsFrom.of_grownBy (World.grownBy.refl W none) (fun j e => by cases e), ⟨Below.refl _ _, fun v hv => hv⟩, fun y hy => ?_, hBl⟩
      rcases List.mem_append.1 hy with hy | hy
      · exact HEX.out y hy
      · obtain rfl : y = x := by simpa using hy
        have := HZ.out
        rw [HSF.out y] at this
        exact List.eq_nil_of_length_eq_zero this
    · have hz' : decide ((0 : Int) < ((sf x).bs.length : Int)) = true := by rw [decide_eq_true_eq]; omega
      have hzn : decide (0 < (sf x).bs.length) = true := by rw [decide_eq_true_eq]; omega
      obtain ⟨b, off, hab, hbw, hd0, -⟩ := (rowBatch_rows (rowBatch_below HRx.out HBw.out)).2 ((sf x).bs.length - 1) (by omega)
      have HQ : Hid (((sf x).bs[(sf x).bs.length - 1]'(by omega)) = ((l[x.1]'x.2).bs[(l[x.1]'x.2).bs.length - 1]'(by rw [← HSF.out x]; omega))) := by show _ = _; simp only [HSF.out x]
      generalize ((sf x).bs[(sf x).bs.length - 1]'(by omega)) = E at hd0 HQ
      have hj0 : (0 : Int) ≤ ((sf x).bs.length : Int) - 1 := by omega
      have hj1 : ((sf x).bs.length : Int) - 1 < ((sf x).bs.length : Int) := by omega
      have hjn : (((sf x).bs.length : Int) - 1).toNat = (sf x).bs.length - 1 := by omega
      have hjw : IntKind.i64.wrap (((sf x).bs.length : Int) - 1) = ((sf x).bs.length : Int) - 1 := by rw [IntKind.wrap_i64]; omega
      have hkx : Boxed W w.heap.size 3 (.int .i64 0) := (hBl.block w.heap.size (by omega)).trans k1
      have hc0 := hkx.cell
      have hf0 := hkx.frozen
      have HPOS : Hid (0 < (l[x.1]'x.2).bs.length) := by show _ < _; rw [← HSF.out x]; omega
      have HKX := hide hkx
      clear hkx hE
      gi_wp2
      refine ⟨KeepsFrom.of_grownBy (grownBy_setCell' W w.heap.size _) (fun j e => by cases e; omega), rfl, pre, x, rfl, HEX.out, ⟨HPOS.out, ?_⟩, HBw.out.setCell (p := ⟨w.heap.size, 0, none⟩) (Nat.le_refl _) _⟩
      rw [← HQ.out]
      exact HKX.out.set _
  case done =>
    rintro D ys W hD hys ⟨hE, hBl⟩ hK
    have HE : Hid (seqD l = 0) := by
      show _ = _
      rw [lastB_of_empty 0 (Nat.zero_le _) (fun j hj _ => ?_)]
      · rfl
      · have : j ∈ pv ys := by rw [hys]; exact mem_downTo.2 ⟨Nat.zero_le _, hj⟩
        unfold pv at this
        obtain ⟨y, hy, rfl⟩ := List.mem_map.1 this
        exact hE y hy
    have hkx : Boxed W w.heap.size 3 (.int .i64 0) := (hBl.block w.heap.size (by omega)).trans k1
    have hc0 := hkx.cell
    have hf0 := hkx.frozen
    have HKX := hide hkx
    have HBw : Hid (Below w.heap.size w W) := hB0.trans (hBl.mono (by omega))
    clear hkx hE
    gi_wp2
    have hD6 : (W.setCell ⟨w.heap.size, 0, none⟩ (.int .i64 0)).heap[D]? = some (.deferred (some [])) := (Below.heap_setCell _ _ _ _ (by show D ≠ w.heap.size; omega)).trans hK
    obtain ⟨y0, y1⟩ := box_ret (HKX.out.set (.int .i64 0)) hD6 (.deferred none)
    have y2 := y1 w (HBw.out.setCell (p := ⟨w.heap.size, 0, none⟩) (Nat.le_refl _) _) (by omega)
    refine ⟨by simp, .inl ⟨_, _, rfl, run_takeDeferred hD6, ?_⟩⟩
    generalize World.putObj _ D (.deferred none) = Wz at y0 y2 ⊢
    refine ⟨.int .i64 0, ?_, ?_⟩
    · simp [results, Tryz.results133, go_sem, y0]
    · rw [HE.out]
      exact ⟨rfl, y2⟩
  case stop =>
    rintro D c pre W hD ⟨rest, hrest⟩ ⟨rfl, p, x, rfl, hE, ⟨hpos, hbx⟩, hBl⟩ hK
    have HE : Hid (seqD l = ((l[x.1]'x.2).bs[(l[x.1]'x.2).bs.length - 1]'(by omega)).seq) := by
      show _ = _
      rw [pv_snoc] at hrest
      have hp := downTo_split hrest
      rw [lastB_of_empty (x.1 + 1) x.2 (fun j hj hxj => ?_), seqD_take_succ x.2, lastB_last _ _ hpos]
      have : j ∈ pv p := by rw [hp]; exact mem_downTo.2 ⟨hxj, hj⟩
      unfold pv at this
      obtain ⟨y, hy, rfl⟩ := List.mem_map.1 this
      exact hE y hy
    generalize ((l[x.1]'x.2).bs[(l[x.1]'x.2).bs.length - 1]'(by omega)).seq = Q at HE hbx
    have hc0 := hbx.cell
    have HBX := hide hbx
    clear hE hbx
    gi_wp2
    obtain ⟨y0, y1⟩ := box_ret HBX.out hK (.deferred none)
    have y2 := y1 w hBl (by omega)
    refine ⟨by simp, .inl ⟨_, _, rfl, run_takeDeferred hK, ?_⟩⟩
    generalize World.putObj _ D (.deferred none) = Wz at y0 y2 ⊢
    refine ⟨.int .i64 Q, ?_, ?_⟩
    · simp [results, Tryz.results133, go_sem, y0]
    · rw [HE.out]
      exact ⟨rfl, y2⟩
end Go.Proofs.YtmmchemgegmhhaaGreatDoor
