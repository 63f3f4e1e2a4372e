/- The program's risingBatches: a range over a function, which breaks (written by tools/gen_rise.py). -/
import Derived.Test.YtomdpkahcbnlnalDoorSegI0
import Derived.Test.YtomdpkahcbnlnalDoorBatchI7
namespace Go.Proofs.YtomdpkahcbnlnalDoor
open Go.RowKit Go.Shelf

attribute [local go_sem] Oper.semAt_some

/-- What lies in the boxes when some frames have come. -/
def RiseAt (s : ByteArray) (w : World) (pre : List (Nat × Nat)) (W : World) : Prop :=
  (((∃ v, Boxed W w.heap.size 42 v ∧ BuildB W w.heap.size v (batchesOf s pre)) ∧ Boxed W (w.heap.size + 1) 3 (.int .i64 (endOf pre : Nat)) ∧ Boxed W (w.heap.size + 1 + 1) 3 (.int .i64 (lastOf (batchesOf s pre)))) ∧ RisP s pre) ∧ (Below w.heap.size w W ∧ w.heap.size + 4 ≤ W.heap.size)
theorem riseAt_own (s : ByteArray) (w : World) (B : Nat) (hB : w.heap.size ≤ B) : OwnFrom B (RiseAt s w) :=
  OwnFrom.and (OwnFrom.and (OwnFrom.and (Own.from (holdsBuild_own w.heap.size w.heap.size 42 (fun pre => batchesOf s pre)) _) (OwnFrom.and (Own.from (boxed_own (w.heap.size + 1) 3 (fun pre => .int .i64 (endOf pre : Nat))) _) (Own.from (boxed_own (w.heap.size + 1 + 1) 3 (fun pre => .int .i64 (lastOf (batchesOf s pre)))) _))) (fun _ _ _ _ h _ _ => h)) (OwnFrom.and (ownFrom_below (Nat.le_refl _) hB) (fun _ _ _ _ h hg _ => Nat.le_trans h hg.size))
/-- A round has broken: the last frame does not go on. -/
def RiseX (s : ByteArray) (w : World) (c : Code) (pre : List (Nat × Nat)) (W : World) : Prop :=
  ∃ k, c = .exit k ∧ ∃ p x, pre = p ++ [x] ∧ ¬ (rdOk (s.extract x.1 x.2) = true ∧ lastOf (batchesOf s p) < rdSeq (s.extract x.1 x.2)) ∧ RiseAt s w p W ∧ k = 0
theorem riseX_own (s : ByteArray) (w : World) (B : Nat) (hB : w.heap.size ≤ B) (c : Code) : OwnFrom B (RiseX s w c) := by
  rintro pre W W' row ⟨k, hk, p, x, h1, h2, h3, h4⟩ hg hr
  exact ⟨k, hk, p, x, h1, h2, riseAt_own s w B hB p W W' row h3 hg hr, h4⟩

set_option maxRecDepth 100000 in
set_option maxHeartbeats 4000000 in
theorem rising_any (s : ByteArray) (w : World) (hs : s.size ≤ 20000) (hT : SumTab w) : Calls Tryd.prog 63 #[.string s] w (RiseLeft s w) := by
  have HT := hide hT
  have hgl := sumTab_lt hT
  clear hT
  refine (callsIn_wide (n := 3)).1 ?_
  refine callsIn_of_wp_marks Tryd.func63 rfl trivial ?_ rfl
  simp only [Tryd.ntmps63, List.size_toArray, List.length_cons, List.length_nil, Nat.reduceAdd, Nat.reduceSub, Array.replicate_succ, Array.replicate_zero, List.push_toArray, List.append_toArray, List.nil_append, List.cons_append]
  gi_wp2_with (first | (refine ⟨trivial, ?_⟩; gi_at_call 68; refine (callsIn_wide.2 (framesOf_any s _)).mono ?_; rintro e w' ⟨rfl, rfl⟩))
  have bR := Boxed.new w 42 (.slice none 0 0)
  have bE := Boxed.new (w.alloc (.cells #[.slice none 0 0] 42)) 3 (.int .i64 0)
  have bL := Boxed.new ((w.alloc (.cells #[.slice none 0 0] 42)).alloc (.cells #[.int .i64 0] 3)) 3 (.int .i64 (-1))
  have bF := Boxed.new (((w.alloc (.cells #[.slice none 0 0] 42)).alloc (.cells #[.int .i64 0] 3)).alloc (.cells #[.int .i64 (-1)] 3)) 9 (.string s)
  rw [World.size_alloc] at bE
  rw [World.size_alloc, World.size_alloc] at bL
  rw [World.size_alloc, World.size_alloc, World.size_alloc] at bF
  obtain ⟨W0, hW0⟩ : ∃ W0, ((((w.alloc (.cells #[.slice none 0 0] 42)).alloc (.cells #[.int .i64 0] 3)).alloc (.cells #[.int .i64 (-1)] 3)).alloc (.cells #[.string s] 9)) = W0 := ⟨_, rfl⟩
  have hB0 : Below w.heap.size w W0 := by rw [← hW0]; exact ((((Below.refl _ w).alloc (Nat.le_refl _) _).alloc (by simp) _).alloc (by simp; omega) _).alloc (by simp; omega) _
  have hz0 : W0.heap.size = w.heap.size + 4 := by rw [← hW0]; simp
  have b1 : Boxed W0 w.heap.size 42 (.slice none 0 0) := by rw [← hW0]; exact ((bR.alloc _).alloc _).alloc _
  have b2 : Boxed W0 (w.heap.size + 1) 3 (.int .i64 0) := by rw [← hW0]; exact (bE.alloc _).alloc _
  have b3 : Boxed W0 (w.heap.size + 1 + 1) 3 (.int .i64 (-1)) := by rw [← hW0]; exact bL.alloc _
  rw [hW0] at bF ⊢
  clear hW0 bR bE bL
  refine wpIn_rangeFunc_ownF rfl (by omega) (gf := 78) (lb := #[.pointer (some ⟨w.heap.size + 1 + 1 + 1, 0, none⟩)]) rfl trivial (enters_of Tryd.func78 (by kernel_rfl) rfl)
    (frames_stopsP s hs 2 (w.heap.size + 1 + 1 + 1) w.heap.size (by omega) W0 (by omega) hgl bF (sumTab_below hB0 hgl HT.out)) kpF_t (kpF_b (by omega)) (Below.refl _ _) (fun _ => rfl)
    (RiseAt s w) (RiseX s w) (riseAt_own s w _ (by omega)) (riseX_own s w _ (by omega))
    ⟨⟨⟨⟨_, b1, buildB_nil _ _⟩, b2, b3⟩, risP_nil s⟩, hB0, by omega⟩
    (fun x => { tmps := #[.string s, undef, .slice none 0 0, .int .i64 0, .pointer (some ⟨w.heap.size, 0, none⟩), .pointer (some ⟨w.heap.size + 1, 0, none⟩), .pointer (some ⟨w.heap.size + 1 + 1, 0, none⟩), .string (s.extract x.1 x.2), .int .i64 (x.2 : Int), undef, undef, .string s, .func (.func 78) #[] #[.pointer (some ⟨w.heap.size + 1 + 1 + 1, 0, none⟩)], .string (s.extract x.1 x.2), .int .i64 (x.2 : Int), undef, undef, undef, undef, undef, undef, undef, undef, undef, undef, undef, undef, undef, undef, undef, undef, undef, undef, undef, undef, undef, undef], defers := [] }) ?assign ?body ?done ?stop
  case assign =>
    intro l x W K hK
    gi_wp2
    exact hK
  case body =>
    rintro l pre x W ⟨⟨⟨⟨v, hv, hbu⟩, he, hl⟩, hP⟩, hB, hsz⟩ hlt
    have hmx : Tryd.prog.follows .mixedOrders = true := by kernel_rfl
    have HBU := hide hbu
    have HP := hide hP
    obtain ⟨R, hR⟩ : ∃ R, s.extract x.1 x.2 = R := ⟨_, rfl⟩
    have hRz : R.size ≤ 20000 := by rw [← hR, ByteArray.size_extract]; omega
    have hpl : (batchesOf s pre).length ≤ 1048576 := by rw [batchesOf_len]; omega
    have HRB := hide (fun W => implReadBatch_any R W (by omega))
    obtain ⟨q, HQ⟩ : ∃ q, Hid (rdSeq R = q) := ⟨_, rfl⟩
    obtain ⟨fs, HFS⟩ : ∃ fs, Hid (rdChanges R = fs) := ⟨_, rfl⟩
    obtain ⟨lq, HLQ⟩ : ∃ lq, Hid (lastOf (batchesOf s pre) = lq) := ⟨_, rfl⟩
    have hsn := hide (batchesOf_snoc s pre x)
    have hen := hide (endOf_snoc pre x)
    rw [hR, HQ.out, HFS.out] at hsn
    have hln : Hid (lastOf (batchesOf s (pre ++ [x])) = q) := by show _ = _; rw [hsn.out, lastOf_snoc]
    rw [HQ.out, HFS.out] at HRB
    rw [HLQ.out] at hl
    rw [hR]
    clear hbu hP
    cases hok : rdOk R with
    | false =>
      have hno : Hid (¬ (rdOk (s.extract x.1 x.2) = true ∧ lastOf (batchesOf s pre) < rdSeq (s.extract x.1 x.2))) := by show ¬ _; rw [hR, hok]; simp
      rw [hok] at HRB
      have HR := hide hR
      clear hR hok
      gi_wp2_with (first | (refine ⟨trivial, ?_⟩; gi_at_call 69; refine (CallsIn.inRound l (callsIn_wide.2 (HRB.out _))).mono ?_; rintro e w1 ⟨⟨v1, rfl, r1⟩, b1⟩; obtain ⟨a1, c1, rfl, -⟩ := rowChange_at r1; have R1 := hide r1; have B1 := hide b1; obtain ⟨hA0, hA1, hA2, hA3⟩ := rise_pre (q := q) (x := .slice a1 fs.length c1) hv hl b1; clear r1 b1))
      rw [← HLQ.out] at hl
      obtain ⟨KO, KB, KK⟩ : KeepsOthers W (w1.alloc (.cells #[.int .i64 q, .slice a1 fs.length c1] 58)) ∧ Below W.heap.size W (w1.alloc (.cells #[.int .i64 q, .slice a1 fs.length c1] 58)) ∧ True := ⟨(KeepsOthers.of_grownBy (grownBy_below none B1.out) (fun j o e => by cases e)).trans (KeepsOthers.alloc _ _), B1.out.alloc B1.out.size _, trivial⟩
      exact ⟨KO, 0, rfl, pre, x, rfl, hno.out, ⟨⟨⟨⟨v, (hv.kept (grownBy_below none KB) (by simp)), buildB_below HBU.out KB⟩, (he.kept (grownBy_below none KB) (by simp)), (hl.kept (grownBy_below none KB) (by simp))⟩, HP.out⟩, hB.trans (KB.mono (by omega)), Nat.le_trans hsz KB.size⟩, rfl⟩
    | true =>
      rw [hok] at HRB
      by_cases hle : q ≤ lq
      · have hle' : decide (q ≤ lq) = true := by simp; omega
        have hno : Hid (¬ (rdOk (s.extract x.1 x.2) = true ∧ lastOf (batchesOf s pre) < rdSeq (s.extract x.1 x.2))) := by show ¬ _; rw [hR, HQ.out, HLQ.out]; omega
        have HR := hide hR
        clear hR hok
        gi_wp2_with (first | (refine ⟨trivial, ?_⟩; gi_at_call 69; refine (CallsIn.inRound l (callsIn_wide.2 (HRB.out _))).mono ?_; rintro e w1 ⟨⟨v1, rfl, r1⟩, b1⟩; obtain ⟨a1, c1, rfl, -⟩ := rowChange_at r1; have R1 := hide r1; have B1 := hide b1; obtain ⟨hA0, hA1, hA2, hA3⟩ := rise_pre (q := q) (x := .slice a1 fs.length c1) hv hl b1; clear r1 b1))
        rw [← HLQ.out] at hl
        obtain ⟨KO, KB, KK⟩ : KeepsOthers W (w1.alloc (.cells #[.int .i64 q, .slice a1 fs.length c1] 58)) ∧ Below W.heap.size W (w1.alloc (.cells #[.int .i64 q, .slice a1 fs.length c1] 58)) ∧ True := ⟨(KeepsOthers.of_grownBy (grownBy_below none B1.out) (fun j o e => by cases e)).trans (KeepsOthers.alloc _ _), B1.out.alloc B1.out.size _, trivial⟩
        exact ⟨KO, 0, rfl, pre, x, rfl, hno.out, ⟨⟨⟨⟨v, (hv.kept (grownBy_below none KB) (by simp)), buildB_below HBU.out KB⟩, (he.kept (grownBy_below none KB) (by simp)), (hl.kept (grownBy_below none KB) (by simp))⟩, HP.out⟩, hB.trans (KB.mono (by omega)), Nat.le_trans hsz KB.size⟩, rfl⟩
      have hle' : decide (q ≤ lq) = false := by simp; omega
      have HRP : Hid (RisP s (pre ++ [x])) := risP_snoc HP.out (by rw [hR]; exact hok) (by rw [hR, HQ.out, HLQ.out]; omega)
      have HR := hide hR
      clear hR hok
      gi_wp2_with (first | (refine ⟨trivial, ?_⟩; gi_at_call 69; refine (CallsIn.inRound l (callsIn_wide.2 (HRB.out _))).mono ?_; rintro e w1 ⟨⟨v1, rfl, r1⟩, b1⟩; obtain ⟨a1, c1, rfl, -⟩ := rowChange_at r1; have R1 := hide r1; have B1 := hide b1; obtain ⟨hA0, hA1, hA2, hA3⟩ := rise_pre (q := q) (x := .slice a1 fs.length c1) hv hl b1; clear r1 b1) | (gi_at_builtin; refine appIn_batch W _ w.heap.size (by rfl) _ _ (by rfl) v (.slice a1 fs.length c1) (batchesOf s pre) ⟨q, fs⟩ (by rfl) HBU.out (by omega) (((B1.out.alloc B1.out.size _)).alloc (by have := B1.out.size; simp; omega) _) (rowChange_below (rowChange_below R1.out ((Below.refl _ _).alloc (Nat.le_refl _) _)) ((Below.refl _ _).alloc (Nat.le_refl _) _)) (w1.heap.size + 1) (by rfl) (by have := heap_alloc_new (w1.alloc (.cells #[.int .i64 q, .slice a1 fs.length c1] 58)) (.cells #[.int .i64 q, .slice a1 fs.length c1] 58); simpa using this) hpl ?_; intro g cap w2 hbu2 hb2 hg2; obtain ⟨hc3, hf3, hq3, he3, hfe3, hlu, hfin⟩ := rise_post (v2 := .slice (some ⟨g, 0, none⟩) ((batchesOf s pre).length + 1) cap) hv he hl B1.out HBU.out hsz hb2 hg2 hbu2; obtain ⟨hq4, hl4, hf4⟩ := hlu (.int .i64 (x.2 : Int)); clear hlu hbu2 hb2 hg2))
      refine wpIn_region_any hmx ?_
      change wpAnyIn _ _ _ _ _ _ _ _ _ (World.drew _)
      refine wpAnyIn_ready (rs := [0, 1]) (by kernel_rfl) (by simp) ?_
      refine AllReadyIn.cons rfl (fun K hK => ?_) ?_
      · go_simp
        refine hK _ _ ?_
        clear hK K
        refine wpAnyIn_ready (rs := [1, 3]) (by kernel_rfl) (by simp) ?_
        refine AllReadyIn.cons rfl (fun K hK => ?_) ?_
        · go_simp
          refine hK _ _ ?_
          clear hK K
          refine wpAnyIn_ready (rs := [2, 3]) (by kernel_rfl) (by simp) ?_
          refine AllReadyIn.cons rfl (fun K hK => ?_) ?_
          · go_simp
            refine hK _ _ ?_
            clear hK K
            refine wpAnyIn_ready (rs := [3]) (by kernel_rfl) (by simp) ?_
            refine AllReadyIn.cons rfl (fun K hK => ?_) ?_
            · go_simp
              refine hK _ _ ?_
              clear hK K
              refine wpAnyIn_ready (rs := [4]) (by kernel_rfl) (by simp) ?_
              refine AllReadyIn.cons rfl (fun K hK => ?_) ?_
              · go_simp
                refine hK _ _ ?_
                clear hK K
                refine wpAnyIn_done (by kernel_rfl) ?_ _
                gi_wp2
                obtain ⟨k1, k2, k3, k4, k5, k6, k7⟩ := hfin.out (.int .i64 (x.2 : Int)) (.int .i64 q) _ rfl
                exact ⟨⟨k1.size, k1.same⟩, ⟨k2.1.drew, k2.2⟩, ⟨⟨⟨_, k3, by rw [hsn.out]; exact buildB_below k4 ((Below.refl _ _).drew)⟩, by rw [hen.out]; exact k5, by rw [hln.out]; exact k6⟩, HRP.out⟩, hB.trans k2.1.drew, Nat.le_trans hsz k7⟩
              exact AllReadyIn.nil
            exact AllReadyIn.nil
          refine AllReadyIn.cons rfl (fun K hK => ?_) ?_
          · go_simp
            refine hK _ _ ?_
            clear hK K
            refine wpAnyIn_ready (rs := [2]) (by kernel_rfl) (by simp) ?_
            refine AllReadyIn.cons rfl (fun K hK => ?_) ?_
            · go_simp
              refine hK _ _ ?_
              clear hK K
              refine wpAnyIn_ready (rs := [4]) (by kernel_rfl) (by simp) ?_
              refine AllReadyIn.cons rfl (fun K hK => ?_) ?_
              · go_simp
                refine hK _ _ ?_
                clear hK K
                refine wpAnyIn_done (by kernel_rfl) ?_ _
                gi_wp2
                obtain ⟨k1, k2, k3, k4, k5, k6, k7⟩ := hfin.out (.int .i64 (x.2 : Int)) (.int .i64 q) _ rfl
                exact ⟨⟨k1.size, k1.same⟩, ⟨k2.1.drew, k2.2⟩, ⟨⟨⟨_, k3, by rw [hsn.out]; exact buildB_below k4 ((Below.refl _ _).drew)⟩, by rw [hen.out]; exact k5, by rw [hln.out]; exact k6⟩, HRP.out⟩, hB.trans k2.1.drew, Nat.le_trans hsz k7⟩
              exact AllReadyIn.nil
            exact AllReadyIn.nil
          exact AllReadyIn.nil
        refine AllReadyIn.cons rfl (fun K hK => ?_) ?_
        · go_simp
          refine hK _ _ ?_
          clear hK K
          refine wpAnyIn_ready (rs := [1]) (by kernel_rfl) (by simp) ?_
          refine AllReadyIn.cons rfl (fun K hK => ?_) ?_
          · go_simp
            refine hK _ _ ?_
            clear hK K
            refine wpAnyIn_ready (rs := [2]) (by kernel_rfl) (by simp) ?_
            refine AllReadyIn.cons rfl (fun K hK => ?_) ?_
            · go_simp
              refine hK _ _ ?_
              clear hK K
              refine wpAnyIn_ready (rs := [4]) (by kernel_rfl) (by simp) ?_
              refine AllReadyIn.cons rfl (fun K hK => ?_) ?_
              · go_simp
                refine hK _ _ ?_
                clear hK K
                refine wpAnyIn_done (by kernel_rfl) ?_ _
                gi_wp2
                obtain ⟨k1, k2, k3, k4, k5, k6, k7⟩ := hfin.out (.int .i64 (x.2 : Int)) (.int .i64 q) _ rfl
                exact ⟨⟨k1.size, k1.same⟩, ⟨k2.1.drew, k2.2⟩, ⟨⟨⟨_, k3, by rw [hsn.out]; exact buildB_below k4 ((Below.refl _ _).drew)⟩, by rw [hen.out]; exact k5, by rw [hln.out]; exact k6⟩, HRP.out⟩, hB.trans k2.1.drew, Nat.le_trans hsz k7⟩
              exact AllReadyIn.nil
            exact AllReadyIn.nil
          exact AllReadyIn.nil
        exact AllReadyIn.nil
      refine AllReadyIn.cons rfl (fun K hK => ?_) ?_
      · go_simp
        refine hK _ _ ?_
        clear hK K
        refine wpAnyIn_ready (rs := [0, 2]) (by kernel_rfl) (by simp) ?_
        refine AllReadyIn.cons rfl (fun K hK => ?_) ?_
        · go_simp
          refine hK _ _ ?_
          clear hK K
          refine wpAnyIn_ready (rs := [2, 3]) (by kernel_rfl) (by simp) ?_
          refine AllReadyIn.cons rfl (fun K hK => ?_) ?_
          · go_simp
            refine hK _ _ ?_
            clear hK K
            refine wpAnyIn_ready (rs := [3]) (by kernel_rfl) (by simp) ?_
            refine AllReadyIn.cons rfl (fun K hK => ?_) ?_
            · go_simp
              refine hK _ _ ?_
              clear hK K
              refine wpAnyIn_ready (rs := [4]) (by kernel_rfl) (by simp) ?_
              refine AllReadyIn.cons rfl (fun K hK => ?_) ?_
              · go_simp
                refine hK _ _ ?_
                clear hK K
                refine wpAnyIn_done (by kernel_rfl) ?_ _
                gi_wp2
                obtain ⟨k1, k2, k3, k4, k5, k6, k7⟩ := hfin.out (.int .i64 (x.2 : Int)) (.int .i64 q) _ rfl
                exact ⟨⟨k1.size, k1.same⟩, ⟨k2.1.drew, k2.2⟩, ⟨⟨⟨_, k3, by rw [hsn.out]; exact buildB_below k4 ((Below.refl _ _).drew)⟩, by rw [hen.out]; exact k5, by rw [hln.out]; exact k6⟩, HRP.out⟩, hB.trans k2.1.drew, Nat.le_trans hsz k7⟩
              exact AllReadyIn.nil
            exact AllReadyIn.nil
          refine AllReadyIn.cons rfl (fun K hK => ?_) ?_
          · go_simp
            refine hK _ _ ?_
            clear hK K
            refine wpAnyIn_ready (rs := [2]) (by kernel_rfl) (by simp) ?_
            refine AllReadyIn.cons rfl (fun K hK => ?_) ?_
            · go_simp
              refine hK _ _ ?_
              clear hK K
              refine wpAnyIn_ready (rs := [4]) (by kernel_rfl) (by simp) ?_
              refine AllReadyIn.cons rfl (fun K hK => ?_) ?_
              · go_simp
                refine hK _ _ ?_
                clear hK K
                refine wpAnyIn_done (by kernel_rfl) ?_ _
                gi_wp2
                obtain ⟨k1, k2, k3, k4, k5, k6, k7⟩ := hfin.out (.int .i64 (x.2 : Int)) (.int .i64 q) _ rfl
                exact ⟨⟨k1.size, k1.same⟩, ⟨k2.1.drew, k2.2⟩, ⟨⟨⟨_, k3, by rw [hsn.out]; exact buildB_below k4 ((Below.refl _ _).drew)⟩, by rw [hen.out]; exact k5, by rw [hln.out]; exact k6⟩, HRP.out⟩, hB.trans k2.1.drew, Nat.le_trans hsz k7⟩
              exact AllReadyIn.nil
            exact AllReadyIn.nil
          exact AllReadyIn.nil
        refine AllReadyIn.cons rfl (fun K hK => ?_) ?_
        · go_simp
          refine hK _ _ ?_
          clear hK K
          refine wpAnyIn_ready (rs := [0]) (by kernel_rfl) (by simp) ?_
          refine AllReadyIn.cons rfl (fun K hK => ?_) ?_
          · go_simp
            refine hK _ _ ?_
            clear hK K
            refine wpAnyIn_ready (rs := [3]) (by kernel_rfl) (by simp) ?_
            refine AllReadyIn.cons rfl (fun K hK => ?_) ?_
            · go_simp
              refine hK _ _ ?_
              clear hK K
              refine wpAnyIn_ready (rs := [4]) (by kernel_rfl) (by simp) ?_
              refine AllReadyIn.cons rfl (fun K hK => ?_) ?_
              · go_simp
                refine hK _ _ ?_
                clear hK K
                refine wpAnyIn_done (by kernel_rfl) ?_ _
                gi_wp2
                obtain ⟨k1, k2, k3, k4, k5, k6, k7⟩ := hfin.out (.int .i64 (x.2 : Int)) (.int .i64 q) _ rfl
                exact ⟨⟨k1.size, k1.same⟩, ⟨k2.1.drew, k2.2⟩, ⟨⟨⟨_, k3, by rw [hsn.out]; exact buildB_below k4 ((Below.refl _ _).drew)⟩, by rw [hen.out]; exact k5, by rw [hln.out]; exact k6⟩, HRP.out⟩, hB.trans k2.1.drew, Nat.le_trans hsz k7⟩
              exact AllReadyIn.nil
            exact AllReadyIn.nil
          exact AllReadyIn.nil
        exact AllReadyIn.nil
      exact AllReadyIn.nil
  case done =>
    rintro D ys W hD rfl ⟨⟨⟨⟨v, hv, hbu⟩, he, hl⟩, hP⟩, hB, hsz⟩ hK
    have HA := hide (risP_all hP)
    have HBU := hide hbu
    have hc := hv.cell
    have hce := he.cell
    have hmx : Tryd.prog.follows .mixedOrders = true := by kernel_rfl
    clear hbu hP hl
    gi_wp2
    gi_big_quiet_th_o (fail)
    gi_wp2
    have hK' : (W.drewN nq).heap[D]? = some (.deferred (some [])) := hK
    refine ⟨by simp, .inl ⟨_, _, rfl, run_takeDeferred hK', ?_⟩⟩
    refine ⟨_, results_tmp2 rfl _ _ _, ⟨v, by rw [HA.out]; rfl, ?_⟩, ?_⟩
    · rw [HA.out]
      exact buildB_row (buildB_own (buildB_below HBU.out (drewN_below W nq)) (grownBy_putObj' _ D _) (fun r e => by cases e; exact ⟨_, hK', rfl⟩))
    · exact (below_drewN hB nq).trans (belowK_b (w := w) (Nat.le_refl _) (W.drewN nq) D _ _ (by omega) hK' rfl rfl)
  case stop =>
    rintro D c pre W hD ⟨rest, hrest⟩ ⟨k, rfl, p, x, rfl, hno, ⟨⟨⟨⟨v, hv, hbu⟩, he, hl⟩, hP⟩, hB, hsz⟩, rfl⟩ hK
    have HA := hide (risP_stop (rest := rest) hP hno)
    rw [← hrest] at HA
    have HBU := hide hbu
    have hc := hv.cell
    have hce := he.cell
    have hmx : Tryd.prog.follows .mixedOrders = true := by kernel_rfl
    clear hbu hP hl hno hrest
    gi_wp2
    gi_big_quiet_th_o (fail)
    gi_wp2
    have hK' : (W.drewN nq).heap[D]? = some (.deferred (some [])) := hK
    refine ⟨by simp, .inl ⟨_, _, rfl, run_takeDeferred hK', ?_⟩⟩
    refine ⟨_, results_tmp2 rfl _ _ _, ⟨v, by rw [HA.out]; rfl, ?_⟩, ?_⟩
    · rw [HA.out]
      exact buildB_row (buildB_own (buildB_below HBU.out (drewN_below W nq)) (grownBy_putObj' _ D _) (fun r e => by cases e; exact ⟨_, hK', rfl⟩))
    · exact (below_drewN hB nq).trans (belowK_b (w := w) (Nat.le_refl _) (W.drewN nq) D _ _ (by omega) hK' rfl rfl)
end Go.Proofs.YtomdpkahcbnlnalDoor
