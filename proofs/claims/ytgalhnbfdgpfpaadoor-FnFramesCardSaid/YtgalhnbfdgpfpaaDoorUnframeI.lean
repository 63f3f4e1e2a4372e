/- The records of the frames that a file begins with: the program's. -/
import Derived.Test.YtgalhnbfdgpfpaaDoorFramesI
import Derived.Test.YtgalhnbfdgpfpaaDoorUnframeS
import Derived.Test.YtgalhnbfdgpfpaaDoorClone
import Derived.Maps.AppendAt
namespace Go.Proofs.YtgalhnbfdgpfpaaDoor
open Go.RowKit Go.Shelf

attribute [local go_sem] Oper.semAt_some

theorem unframe_long (s : ByteArray) (w : World) (hs : s.size ≤ 1048576) (h : 20000 < s.size) : Calls Tryd.prog 24 #[.string s] w (FramesLeft s w) := by
  have h' : decide (20000 < (s.size : Int)) = true := by simp; omega
  have hu := hide (unf_long s h)
  refine (callsIn_wide (n := 3)).1 ?_
  refine callsIn_of_wp Tryd.func24 rfl trivial ?_ rfl
  simp only [Tryd.ntmps24, List.size_toArray, List.length_cons, List.length_nil, Nat.reduceAdd, Nat.reduceSub, Array.replicate_succ, Array.replicate_zero, List.push_toArray, List.append_toArray, List.nil_append, List.cons_append]
  gi_wp2
  go_ret2
  refine ⟨_, by rw [hu.out]; rfl, ?_, Below.refl _ _⟩
  rw [hu.out]
  exact World.ownsRow_nil _ _ _ _

/-- An append at a step of a region that draws its order, by its run. -/
theorem stepIn_append {F : Fence} {n : Nat} {P : Program} {ops : Array Oper} {o : Oper} {a : Act} {W : World} {K : Act → World → Prop} {Q : Exit → Act → World → Prop} {E : Prop} (hg : o.guard = none) (s x : Operand) (t : TypeId)
    (hop : o.op = Op.call { callee := Callee.builtin Builtin.append, args := #[s, x], argTypes := #[t, t] }) (v : Value) (hs : a.eval s = v) (u : Value) (hx : a.eval x = u) (v' : Value) (w' : World)
    (hrun : (Builtin.append_ #[t, t] o.type #[v, u]).run P W = .ok v' w') (h : K (a.put o.dst v') w') :
    if Region.wanted o (yielded ops a.tmps) = true then Oper.wpIn F n P o a W K Q else E := by
  rw [if_pos (by simp [Region.wanted, hg])]
  unfold Oper.wpIn
  refine ⟨?_, ?_⟩
  · simp [Oper.about, hop, resolve, Target.leads, Sem.run_pure]
  · rw [Oper.semAt_plain F _ _ (by rw [hop]; intro c hc'; cases hc')]
    simp [execOp, hop, resolve, invoke, builtin, hs, hx, hrun, Result.andThen]
    exact h

/-- What one round leaves: the record is put behind the others, its end into its box; all that lay stays. -/
theorem round_facts {w W w1 : World} {v ev : Value} {L : List (List UInt8)} {R : ByteArray} (hv : Boxed W w.heap.size 41 v) (he : Boxed W (w.heap.size + 1) 3 ev) (hrow : W.ownsRow w.heap.size 9 1 v L.length (L.map sv))
    (hne : v.ownBlock ≠ some (w.heap.size + 1 + 1)) (hsz : w.heap.size + 3 ≤ W.heap.size) (b1 : Below W.heap.size W w1) (hlen : L.length ≤ 30000) :
    w1.cell? ⟨w.heap.size, 0, none⟩ = some v ∧ (w1.alloc (.cells #[.string R] 9)).cell? ⟨w.heap.size, 0, none⟩ = some v ∧
    ∃ g cap w2, (Builtin.append_ #[41, 41] 41 #[v, .slice (some ⟨w1.heap.size, 0, none⟩) 1 1]).run Tryd.prog (w1.alloc (.cells #[.string R] 9)) = .ok (.slice (some ⟨g, 0, none⟩) (L.length + 1) cap) w2 ∧
      w2.cell? ⟨w.heap.size, 0, none⟩ = some v ∧ w2.frozen? ⟨w.heap.size, 0, none⟩ = false ∧
      (w2.setCell ⟨w.heap.size, 0, none⟩ (.slice (some ⟨g, 0, none⟩) (L.length + 1) cap)).cell? ⟨w.heap.size + 1, 0, none⟩ = some ev ∧
      (w2.setCell ⟨w.heap.size, 0, none⟩ (.slice (some ⟨g, 0, none⟩) (L.length + 1) cap)).frozen? ⟨w.heap.size + 1, 0, none⟩ = false ∧
      Hid (∀ u W4, W4 = (w2.setCell ⟨w.heap.size, 0, none⟩ (.slice (some ⟨g, 0, none⟩) (L.length + 1) cap)).setCell ⟨w.heap.size + 1, 0, none⟩ u →
        KeepsOthers W W4 ∧ KpF w.heap.size (w.heap.size + 1 + 1) W W4 ∧ W.heap.size ≤ W4.heap.size ∧ Boxed W4 (w.heap.size + 1) 3 u ∧
        Boxed W4 w.heap.size 41 (.slice (some ⟨g, 0, none⟩) (L.length + 1) cap) ∧ (Value.slice (some ⟨g, 0, none⟩) (L.length + 1) cap).ownBlock ≠ some (w.heap.size + 1 + 1) ∧
        W4.ownsRow w.heap.size 9 1 (.slice (some ⟨g, 0, none⟩) (L.length + 1) cap) (L ++ [R.data.toList]).length ((L ++ [R.data.toList]).map sv)) := by
  obtain ⟨i0, hi, hz0, hz1, hz2⟩ := info_parts Tryd.info9
  have s1 := b1.size
  have g1 := grownBy_below none b1
  have hv1 : Boxed w1 w.heap.size 41 v := hv.kept g1 (by simp)
  have he1 : Boxed w1 (w.heap.size + 1) 3 ev := he.kept g1 (by simp)
  have hrow1 := ownsRow_below hrow b1
  refine ⟨hv1.cell, (hv1.alloc _).cell, ?_⟩
  obtain ⟨v', w2, hrun, hown', hgrow, _, hblk⟩ := run_append_own_at (P := Tryd.prog) (w1.alloc (.cells #[.string R] 9)) w.heap.size 41 41 9 i0 (.string ⟨#[]⟩) 1 16 Tryd.underlying41 hi hz0 hz1 hz2 rfl (by decide) v L.length (L.map sv) (hrow1.alloc _)
    ⟨w1.heap.size, 0, none⟩ 1 1 [.string R] rfl (cell_one_new _ _ _) (by simp [Value.oneCell']) (by unfold maxLen; omega) (by omega) (by simp; omega)
  obtain ⟨g, cap, rfl⟩ := ownsRow_succ hown'
  obtain ⟨hv2, hv3, hr3, hk3, hb3⟩ := hv1.appended (by decide) hrow1 (by omega) (Nat.le_refl _) hown' hgrow
  have he2 : Boxed w2 (w.heap.size + 1) 3 ev := (he1.alloc _).kept hgrow (he1.not_row (by decide) hrow1)
  have he3 := he2.other (by omega : w.heap.size + 1 ≠ w.heap.size) (.slice (some ⟨g, 0, none⟩) (L.length + 1) cap)
  refine ⟨g, cap, w2, hrun, hv2.cell, hv2.frozen, he3.cell, he3.frozen, ?_⟩
  rintro u W4 rfl
  have hz4 := hk3.size
  refine ⟨(KeepsOthers.of_grownBy g1 (fun j o e => by cases e)).trans (hk3.trans (KeepsOthers.setCell _ _ _)), ⟨?_, ?_⟩, ?_, he3.set u, hv3.other (by omega) u, ?_, ?_⟩
  · exact (b1.mono (by omega)).trans (hb3.setCell (p := ⟨w.heap.size + 1, 0, none⟩) (by show w.heap.size ≤ w.heap.size + 1; omega) u)
  · intro q hq
    have q1 := (hq.kept g1 (by simp)).alloc (.cells #[.string R] 9)
    have q2 := q1.kept hgrow (fun e => hne e.symm)
    exact (q2.other (by omega) _).other (by omega) u
  · have := (KeepsOthers.setCell (w2.setCell ⟨w.heap.size, 0, none⟩ (.slice (some ⟨g, 0, none⟩) (L.length + 1) cap)) ⟨w.heap.size + 1, 0, none⟩ u).size
    omega
  · rcases hblk with h | h
    · rw [h]; exact hne
    · rw [h]; intro e
      have := Option.some.inj e
      simp at this
      omega
  · have e : (L ++ [R.data.toList]).map sv = L.map sv ++ [.string R] := by
      rw [List.map_append]
      cases R
      simp [sv]
    rw [e, List.length_append]
    exact hr3.kept (grownBy_setCell' _ _ _) (.inr (he3.not_row (by decide) hr3).symm)

set_option maxRecDepth 100000 in
set_option maxHeartbeats 2000000 in
theorem unframe_in (s : ByteArray) (w : World) (hs : s.size ≤ 20000) (hT : SumTab w) : Calls Tryd.prog 24 #[.string s] w (FramesLeft s w) := by
  have h' : decide (20000 < (s.size : Int)) = false := by simp; omega
  have hu := hide (unf_in s hs)
  have HT := hide hT
  have hgl := sumTab_lt hT
  clear hT
  refine (callsIn_wide (n := 3)).1 ?_
  refine callsIn_of_wp_marks Tryd.func24 rfl trivial ?_ rfl
  simp only [Tryd.ntmps24, List.size_toArray, List.length_cons, List.length_nil, Nat.reduceAdd, Nat.reduceSub, Array.replicate_succ, Array.replicate_zero, List.push_toArray, List.append_toArray, List.nil_append, List.cons_append]
  gi_wp2_with (first | (refine ⟨trivial, ?_⟩; gi_at_call 39; refine (callsIn_wide.2 (framesOf_any s _)).mono ?_; rintro e w' ⟨rfl, rfl⟩))
  have bR := Boxed.new w 41 (.slice none 0 0)
  have bE := Boxed.new (w.alloc (.cells #[.slice none 0 0] 41)) 3 (.int .i64 0)
  have bF := Boxed.new ((w.alloc (.cells #[.slice none 0 0] 41)).alloc (.cells #[.int .i64 0] 3)) 9 (.string s)
  rw [World.size_alloc] at bE
  rw [World.size_alloc, World.size_alloc] at bF
  obtain ⟨W0, hW0⟩ : ∃ W0, (((w.alloc (.cells #[.slice none 0 0] 41)).alloc (.cells #[.int .i64 0] 3)).alloc (.cells #[.string s] 9)) = W0 := ⟨_, rfl⟩
  have hB0 : Below w.heap.size w W0 := by rw [← hW0]; exact (((Below.refl _ w).alloc (Nat.le_refl _) _).alloc (by simp) _).alloc (by simp; omega) _
  have hz0 : W0.heap.size = w.heap.size + 3 := by rw [← hW0]; simp
  have b1 : Boxed W0 w.heap.size 41 (.slice none 0 0) := by rw [← hW0]; exact (bR.alloc _).alloc _
  have b2 : Boxed W0 (w.heap.size + 1) 3 (.int .i64 0) := by rw [← hW0]; exact bE.alloc _
  rw [hW0] at bF ⊢
  clear hW0 bR bE
  refine wpIn_rangeFunc_ownF rfl (by omega) (gf := 43) (lb := #[.pointer (some ⟨w.heap.size + 1 + 1, 0, none⟩)]) rfl trivial (enters_of Tryd.func43 (by kernel_rfl) rfl)
    (frames_stops s hs 2 (w.heap.size + 1 + 1) w.heap.size (by omega) W0 (by omega) hgl bF (sumTab_below hB0 hgl HT.out)) kpF_t (kpF_b (by omega)) (Below.refl _ _) (fun _ => rfl)
    (fun pre W => ((∃ v, Boxed W w.heap.size 41 v ∧ W.ownsRow w.heap.size 9 1 v (recs s pre).length ((recs s pre).map sv) ∧ v.ownBlock ≠ some (w.heap.size + 1 + 1)) ∧ Boxed W (w.heap.size + 1) 3 (.int .i64 (endOf pre : Nat))) ∧ (Below w.heap.size w W ∧ w.heap.size + 3 ≤ W.heap.size))
    (fun _ _ _ => False)
    (OwnFrom.and (OwnFrom.and (Own.from (holdsRow_own w.heap.size w.heap.size 41 9 1 (fun pre => (recs s pre).length) (fun pre => (recs s pre).map sv) (fun _ v => v.ownBlock ≠ some (w.heap.size + 1 + 1))) _) (Own.from (boxed_own (w.heap.size + 1) 3 (fun pre => .int .i64 (endOf pre : Nat))) _)) (OwnFrom.and (ownFrom_below (Nat.le_refl _) (by omega)) (fun _ _ _ _ h hg _ => Nat.le_trans h hg.size)))
    (fun _ _ _ _ _ hs _ _ => hs)
    ⟨⟨⟨_, b1, World.ownsRow_nil _ _ _ _, by simp [Value.ownBlock]⟩, b2⟩, hB0, by omega⟩
    (fun x => { tmps := #[.string s, undef, .slice none 0 0, .int .i64 0, .pointer (some ⟨w.heap.size, 0, none⟩), .pointer (some ⟨w.heap.size + 1, 0, none⟩), .string (s.extract x.1 x.2), .int .i64 (x.2 : Int), .string s, .int .i64 s.size, .bool false, .string s, .func (.func 43) #[] #[.pointer (some ⟨w.heap.size + 1 + 1, 0, none⟩)], .string (s.extract x.1 x.2), .int .i64 (x.2 : Int), undef, undef, undef, undef, undef, undef, undef, undef], defers := [] }) ?assign ?body ?done ?stop
  case assign =>
    intro l x W K hK
    gi_wp2
    exact hK
  case body =>
    rintro l pre x W ⟨⟨⟨v, hv, hrow, hne⟩, he⟩, hB, hsz⟩ hlt
    have hc := hv.cell
    have hcd : W.drew.cell? ⟨w.heap.size, 0, none⟩ = some v := hc
    have hmx : Tryd.prog.follows .mixedOrders = true := by kernel_rfl
    obtain ⟨R, hR⟩ : ∃ R, s.extract x.1 x.2 = R := ⟨_, rfl⟩
    have hRz : R.size ≤ 20000 := by rw [← hR, ByteArray.size_extract]; omega
    have hsn := hide (recs_snoc s pre x)
    have hen := hide (endOf_snoc pre x)
    have hpl : (recs s pre).length ≤ 30000 := by rw [recs_len]; omega
    rw [hR]
    have HR := hide hR
    clear hR
    gi_wp2
    refine wpIn_region_any hmx ?_
    change wpAnyIn _ _ _ _ _ _ _ _ _ (World.drew _)
    refine wpAnyIn_ready (rs := [0, 1]) (by kernel_rfl) (by simp) ?_
    refine AllReadyIn.cons rfl (fun K hK => ?_) ?_
    · go_simp
      refine hK _ _ ?_
      clear hK K
      refine wpAnyIn_ready (rs := [1]) (by kernel_rfl) (by simp) ?_
      refine AllReadyIn.cons rfl (fun K hK => ?_) ?_
      · go_simp
        refine hK _ _ ?_
        clear hK K
        refine wpAnyIn_ready (rs := [2]) (by kernel_rfl) (by simp) ?_
        refine AllReadyIn.cons rfl (fun K hK => ?_) ?_
        · go_simp
          gi_wp2_with (first | (refine ⟨trivial, ?_⟩; gi_at_call 34; refine (CallsIn.inRound l (callsIn_wide.2 (ownText_any R _ (by omega)))).mono ?_; rintro e w1 ⟨rfl, b1⟩; obtain ⟨hc1, hc2, g, cap, w2, hrun, hc3, hf3, hc4, hf4, hfin⟩ := round_facts (R := R) hv he hrow hne hsz ((Below.refl _ W).drew.trans b1) hpl))
          refine wpAnyIn_ready (rs := [3]) (by kernel_rfl) (by simp) ?_
          refine AllReadyIn.cons rfl (fun K hK => ?_) ?_
          · go_simp
            refine hK _ _ ?_
            clear hK K
            refine wpAnyIn_ready (rs := [4]) (by kernel_rfl) (by simp) ?_
            refine AllReadyIn.cons rfl (fun K hK => ?_) ?_
            · refine stepIn_append rfl _ _ 41 rfl _ rfl _ rfl _ _ hrun ?_
              refine hK _ _ ?_
              clear hK K
              refine wpAnyIn_ready (rs := [5]) (by kernel_rfl) (by simp) ?_
              refine AllReadyIn.cons rfl (fun K hK => ?_) ?_
              · go_simp
                refine hK _ _ ?_
                clear hK K
                refine wpAnyIn_done (by kernel_rfl) ?_ _
                gi_wp2
                obtain ⟨k1, k2, k3, k4, k5, k6, k7⟩ := hfin.out (.int .i64 (x.2 : Int)) _ rfl
                exact ⟨k1, k2, ⟨⟨_, k5, by rw [hsn.out, HR.out]; exact k7, k6⟩, by rw [hen.out]; exact k4⟩, hB.trans k2.1, by omega⟩
              exact AllReadyIn.nil
            exact AllReadyIn.nil
          exact AllReadyIn.nil
        exact AllReadyIn.nil
      exact AllReadyIn.nil
    refine AllReadyIn.cons rfl (fun K hK => ?_) ?_
    · go_simp
      refine hK _ _ ?_
      clear hK K
      refine wpAnyIn_ready (rs := [0, 2]) (by kernel_rfl) (by simp) ?_
      refine AllReadyIn.cons rfl (fun K hK => ?_) ?_
      · go_simp
        refine hK _ _ ?_
        clear hK K
        refine wpAnyIn_ready (rs := [2]) (by kernel_rfl) (by simp) ?_
        refine AllReadyIn.cons rfl (fun K hK => ?_) ?_
        · go_simp
          gi_wp2_with (first | (refine ⟨trivial, ?_⟩; gi_at_call 34; refine (CallsIn.inRound l (callsIn_wide.2 (ownText_any R _ (by omega)))).mono ?_; rintro e w1 ⟨rfl, b1⟩; obtain ⟨hc1, hc2, g, cap, w2, hrun, hc3, hf3, hc4, hf4, hfin⟩ := round_facts (R := R) hv he hrow hne hsz ((Below.refl _ W).drew.trans b1) hpl))
          refine wpAnyIn_ready (rs := [3]) (by kernel_rfl) (by simp) ?_
          refine AllReadyIn.cons rfl (fun K hK => ?_) ?_
          · go_simp
            refine hK _ _ ?_
            clear hK K
            refine wpAnyIn_ready (rs := [4]) (by kernel_rfl) (by simp) ?_
            refine AllReadyIn.cons rfl (fun K hK => ?_) ?_
            · refine stepIn_append rfl _ _ 41 rfl _ rfl _ rfl _ _ hrun ?_
              refine hK _ _ ?_
              clear hK K
              refine wpAnyIn_ready (rs := [5]) (by kernel_rfl) (by simp) ?_
              refine AllReadyIn.cons rfl (fun K hK => ?_) ?_
              · go_simp
                refine hK _ _ ?_
                clear hK K
                refine wpAnyIn_done (by kernel_rfl) ?_ _
                gi_wp2
                obtain ⟨k1, k2, k3, k4, k5, k6, k7⟩ := hfin.out (.int .i64 (x.2 : Int)) _ rfl
                exact ⟨k1, k2, ⟨⟨_, k5, by rw [hsn.out, HR.out]; exact k7, k6⟩, by rw [hen.out]; exact k4⟩, hB.trans k2.1, by omega⟩
              exact AllReadyIn.nil
            exact AllReadyIn.nil
          exact AllReadyIn.nil
        exact AllReadyIn.nil
      refine AllReadyIn.cons rfl (fun K hK => ?_) ?_
      · go_simp
        gi_wp2_with (first | (refine ⟨trivial, ?_⟩; gi_at_call 34; refine (CallsIn.inRound l (callsIn_wide.2 (ownText_any R _ (by omega)))).mono ?_; rintro e w1 ⟨rfl, b1⟩; obtain ⟨hc1, hc2, g, cap, w2, hrun, hc3, hf3, hc4, hf4, hfin⟩ := round_facts (R := R) hv he hrow hne hsz ((Below.refl _ W).drew.trans b1) hpl))
        refine wpAnyIn_ready (rs := [0, 3]) (by kernel_rfl) (by simp) ?_
        refine AllReadyIn.cons rfl (fun K hK => ?_) ?_
        · go_simp
          refine hK _ _ ?_
          clear hK K
          refine wpAnyIn_ready (rs := [3]) (by kernel_rfl) (by simp) ?_
          refine AllReadyIn.cons rfl (fun K hK => ?_) ?_
          · go_simp
            refine hK _ _ ?_
            clear hK K
            refine wpAnyIn_ready (rs := [4]) (by kernel_rfl) (by simp) ?_
            refine AllReadyIn.cons rfl (fun K hK => ?_) ?_
            · refine stepIn_append rfl _ _ 41 rfl _ rfl _ rfl _ _ hrun ?_
              refine hK _ _ ?_
              clear hK K
              refine wpAnyIn_ready (rs := [5]) (by kernel_rfl) (by simp) ?_
              refine AllReadyIn.cons rfl (fun K hK => ?_) ?_
              · go_simp
                refine hK _ _ ?_
                clear hK K
                refine wpAnyIn_done (by kernel_rfl) ?_ _
                gi_wp2
                obtain ⟨k1, k2, k3, k4, k5, k6, k7⟩ := hfin.out (.int .i64 (x.2 : Int)) _ rfl
                exact ⟨k1, k2, ⟨⟨_, k5, by rw [hsn.out, HR.out]; exact k7, k6⟩, by rw [hen.out]; exact k4⟩, hB.trans k2.1, by omega⟩
              exact AllReadyIn.nil
            exact AllReadyIn.nil
          exact AllReadyIn.nil
        refine AllReadyIn.cons rfl (fun K hK => ?_) ?_
        · go_simp
          refine hK _ _ ?_
          clear hK K
          refine wpAnyIn_ready (rs := [0]) (by kernel_rfl) (by simp) ?_
          refine AllReadyIn.cons rfl (fun K hK => ?_) ?_
          · go_simp
            refine hK _ _ ?_
            clear hK K
            refine wpAnyIn_ready (rs := [4]) (by kernel_rfl) (by simp) ?_
            refine AllReadyIn.cons rfl (fun K hK => ?_) ?_
            · refine stepIn_append rfl _ _ 41 rfl _ rfl _ rfl _ _ hrun ?_
              refine hK _ _ ?_
              clear hK K
              refine wpAnyIn_ready (rs := [5]) (by kernel_rfl) (by simp) ?_
              refine AllReadyIn.cons rfl (fun K hK => ?_) ?_
              · go_simp
                refine hK _ _ ?_
                clear hK K
                refine wpAnyIn_done (by kernel_rfl) ?_ _
                gi_wp2
                obtain ⟨k1, k2, k3, k4, k5, k6, k7⟩ := hfin.out (.int .i64 (x.2 : Int)) _ rfl
                exact ⟨k1, k2, ⟨⟨_, k5, by rw [hsn.out, HR.out]; exact k7, k6⟩, by rw [hen.out]; exact k4⟩, hB.trans k2.1, by omega⟩
              exact AllReadyIn.nil
            exact AllReadyIn.nil
          exact AllReadyIn.nil
        exact AllReadyIn.nil
      exact AllReadyIn.nil
    exact AllReadyIn.nil
  case done =>
    rintro D ys W hD rfl ⟨⟨⟨v, hv, hrow, hne⟩, he⟩, hB, hsz⟩ hK
    have hc := hv.cell
    have hce := he.cell
    have hmx : Tryd.prog.follows .mixedOrders = true := by kernel_rfl
    gi_wp2
    gi_big_quiet_th_o (fail)
    gi_wp2
    have hK' : (W.drewN nq).heap[D]? = some (.deferred (some [])) := hK
    refine ⟨by simp, .inl ⟨_, _, rfl, run_takeDeferred hK', ?_⟩⟩
    refine ⟨_, results_tmp2 rfl _ _ _, v, by rw [hu.out]; rfl, ?_, ?_⟩
    · rw [hu.out]
      exact ownsRow_putObj (ownsRow_drewN hrow nq) _ hK' rfl
    · exact (below_drewN hB nq).trans (belowK_b (w := w) (Nat.le_refl _) (W.drewN nq) D _ _ (by omega) hK' rfl rfl)
  case stop =>
    rintro D c pre W _ _ h _
    exact h.elim

theorem unframe_any (s : ByteArray) (w : World) (hs : s.size ≤ 1048576) (hT : SumTab w) : Calls Tryd.prog 24 #[.string s] w (FramesLeft s w) := by
  by_cases h : s.size ≤ 20000
  · exact unframe_in s w h hT
  · exact unframe_long s w hs (by omega)
end Go.Proofs.YtgalhnbfdgpfpaaDoor
