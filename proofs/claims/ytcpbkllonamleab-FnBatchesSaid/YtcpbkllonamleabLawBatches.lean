/- The law FnBatches: a drawn batch comes back from its text; drawn bytes that are one are the bytes of it. -/
import Derived.Test.YtcpbkllonamleabDrawRB
import Derived.Test.YtcpbkllonamleabBatchI2
import Derived.Test.YtcpbkllonamleabBatchI7
import Derived.Test.YtcpbkllonamleabBatchS3
import Derived.Test.YtcpbkllonamleabSameCh
import Derived.Test.YtcpbkllonamleabTwoCells
import Derived.BigQuiet
namespace Go.Proofs.Ytcpbkllonamleab
open Go.RowKit

/-- An operation that yields one value in every world of a class, and the world that it got. -/
theorem quiet_run {P : Program} {C : World → Prop} {a : Act} {o : Oper} {K : Act → Prop} {v : Value} (hv : ∀ w, C w → (execOp a.eval o).run P w = .ok (.value v) w) (hk : K (a.put o.dst v)) : o.quiet P a C K :=
  ⟨v, fun w hw => by unfold Oper.quietAt; rw [hv w hw]; exact ⟨rfl, rfl⟩, hk⟩
/-- A call that hands back one value in every world of a class, and leaves a world of it. -/
theorem quiet_call {P : Program} {C : World → Prop} {a : Act} {o : Oper} {K : Act → Prop} {v : Value} {f : FuncId} {args : Array Value} (hv : ∀ w, C w → (execOp a.eval o).run P w = .ok (.enter f args) w) (hc : ∀ w, C w → Calls P f args w (fun e w'' => e = .returned v ∧ C w'')) (hk : K (a.put o.dst v)) : o.quiet P a C K :=
  ⟨v, fun w hw => by unfold Oper.quietAt; rw [hv w hw]; exact ⟨rfl, hc w hw⟩, hk⟩

/-- The walk of a quiet region, shut: it is not laid open by looking at it. -/
structure WQ (P : Program) (ops : Array Oper) (C : World → Prop) (Q : Act → Prop) (l : List Oper) (a : Act) : Prop where
  out : wpQuiet P ops C Q l a
section
variable {P : Program} {ops : Array Oper} {C : World → Prop} {Q : Act → Prop} {rest : List Oper} {a : Act} {o : Oper} {v : Value}
theorem WQ.run (hw : Region.wanted o (yielded ops a.tmps) = true) (hv : ∀ w, C w → (execOp a.eval o).run P w = .ok (.value v) w) (h : WQ P ops C Q rest (a.put o.dst v)) : WQ P ops C Q (o :: rest) a :=
  ⟨BigFrame.wpQuiet_want hw (fun _ hK => quiet_run hv (hK _ h.out))⟩
theorem WQ.call {f : FuncId} {args : Array Value} (hw : Region.wanted o (yielded ops a.tmps) = true) (hv : ∀ w, C w → (execOp a.eval o).run P w = .ok (.enter f args) w) (hc : ∀ w, C w → Calls P f args w (fun e w'' => e = .returned v ∧ C w'')) (h : WQ P ops C Q rest (a.put o.dst v)) : WQ P ops C Q (o :: rest) a :=
  ⟨BigFrame.wpQuiet_want hw (fun _ hK => quiet_call hv hc (hK _ h.out))⟩
theorem WQ.skip (hw : Region.wanted o (yielded ops a.tmps) = false) (h : WQ P ops C Q rest (a.put o.dst undef)) : WQ P ops C Q (o :: rest) a :=
  ⟨BigFrame.wpQuiet_skip hw h.out⟩
theorem WQ.nil (h : Q a) : WQ P ops C Q [] a := ⟨wpQuiet_nil h⟩
end

theorem rdChanges_small (t : ByteArray) : (rdChanges t).length ≤ 40 ∧ ∀ A ∈ rdChanges t, A.key.size ≤ 1048576 ∧ A.value.size ≤ 1048576 := by
  cases h : rdOk t
  · have e : rdChanges t = [] := by unfold rdChanges; rw [h]; rfl
    rw [e]
    exact ⟨Nat.zero_le _, fun A hA => absurd hA List.not_mem_nil⟩
  · have h1 := (rd_text h).1
    unfold textOkD at h1
    simp only [Bool.and_eq_true] at h1
    have hok : okChg none (rdChanges t) = true := by have hb := h1.1; unfold batchOkD at hb; simp only [Bool.and_eq_true] at hb; exact hb.2.2
    exact ⟨(batchOkD_bounds h1.1).2.2.2, fun A hA => by have := okChg_small _ _ hok A hA; omega⟩

set_option maxRecDepth 100000 in
set_option maxHeartbeats 8000000 in
theorem batches_walk (w : World) (ao : Option Addr) (len cap : Nat) (hcode : len ≤ 1048576 → Code w ao len) :
    Calls Try.prog 3 #[.slice ao len cap] w fun e w' => e = .returned (.bool true) ∧ Below w.heap.size w w' := by
  by_cases hlen : len ≤ 1048576
  case neg =>
    have hbig : decide (1048576 < (len : Int)) = true := by simp; omega
    go_enter Try.func3, Try.ntmps3
    go_wp2_with fail
    refine (big_any _ ao len cap).mono ?_
    rintro e w0 ⟨rfl, rfl⟩
    go_wp2
    go_ret
    exact ⟨rfl, Below.refl _ _⟩
  have hbig : decide (1048576 < (len : Int)) = false := by simp; omega
  have HC := hide (hcode hlen)
  clear hcode
  go_enter Try.func3, Try.ntmps3
  go_wp2_with fail
  refine (big_any _ ao len cap).mono ?_
  rintro e w0 ⟨rfl, hw0⟩
  obtain rfl := hw0.symm
  go_wp2_with fail
  refine (drawBatchText_any _ ao len cap hlen HC.out).mono ?_
  rintro e w1 ⟨q, a, c, fs, rfl, hrow, hl, hb, b1⟩
  obtain ⟨wA, hwA⟩ : ∃ wA, wA = w1.alloc (.cells #[.int .i64 q, .slice a fs.length c] 26) := ⟨_, rfl⟩
  have bA : Below w1.heap.size w1 wA := by rw [hwA]; exact (Below.refl _ w1).alloc (Nat.le_refl _) _
  have TA : Hid (wA.cell? ⟨w1.heap.size, 0, none⟩ = some (.int .i64 q) ∧ wA.cell? ⟨w1.heap.size, 1, none⟩ = some (.slice a fs.length c)) := by rw [hwA]; exact two_new _ _ _ _
  have hsA : w1.heap.size < wA.heap.size := by rw [hwA]; simp
  have RA := hide (rowChange_below hrow bA)
  have BA := hide (b1.trans (bA.mono b1.size))
  have HS : Hid (∀ A ∈ fs, A.key.size ≤ 1048576 ∧ A.value.size ≤ 1048576) := fun A hA => by have := hb A hA; omega
  clear hrow hb b1 bA
  -- what the four functions answer for the drawn batch
  have CT : Hid (∀ W, Below wA.heap.size wA W → Calls Try.prog 6 #[.agg #[.int .i64 q, .slice a fs.length c]] W fun e w' => e = .returned (.tuple #[.string (textD q fs), .bool (textOkD q fs)]) ∧ Below W.heap.size W w') := fun W hW => implBatchText_any q fs a c W (by omega) (changesAt_keep (rowChange_rows RA.out) hW) HS.out
  have CS : Hid (∀ W, Below wA.heap.size wA W → Calls Try.prog 8 #[.agg #[.int .i64 q, .slice a fs.length c]] W fun e w' => e = .returned (.tuple #[.string (textD q fs), .bool (textOkD q fs)]) ∧ Below W.heap.size W w') := fun W hW => specBatchText_any q fs a c W (by omega) (changesAt_keep (rowChange_rows RA.out) hW) HS.out
  have CO : Hid (∀ W, Below wA.heap.size wA W → Calls Try.prog 9 #[.agg #[.int .i64 q, .slice a fs.length c]] W fun e w' => e = .returned (.bool (batchOkD q fs)) ∧ Below W.heap.size W w') := fun W hW => implBatchOk_any q fs a c W (by omega) (changesAt_keep (rowChange_rows RA.out) hW) HS.out
  have CP : Hid (∀ W, Below wA.heap.size wA W → Calls Try.prog 10 #[.agg #[.int .i64 q, .slice a fs.length c]] W fun e w' => e = .returned (.bool (batchOkD q fs)) ∧ Below W.heap.size W w') := fun W hW => specBatchOk_any q fs a c W (by omega) (changesAt_keep (rowChange_rows RA.out) hW) (fun A hA => by have := HS.out A hA; unfold maxLen; omega)
  have hz := textD_size q fs
  have CR := hide (fun W => implReadBatch_any (textD q fs) W (by omega))
  have HRN := hide (rdChanges_small (textD q fs)).1
  have HBACK : Hid (textOkD q fs = true → rdOk (textD q fs) = true ∧ rdSeq (textD q fs) = q ∧ rdChanges (textD q fs) = fs) := fun h => rd_back h
  generalize textD q fs = X at CT CS CR hz HRN HBACK
  generalize textOkD q fs = tk at CT CS HBACK
  generalize rdSeq X = sq at CR HBACK
  generalize rdChanges X = gs at CR HRN HBACK
  generalize rdOk X = rok at CR HBACK
  go_wp2_with fail
  rw [← hwA]
  clear hwA
  refine (CT.out _ (Below.refl _ _)).mono ?_
  rintro e w2 ⟨rfl, b2⟩
  have B2 := hide b2
  clear b2
  go_wp2_with fail
  refine (CR.out _).mono ?_
  rintro e w3 ⟨⟨v3, rfl, r3⟩, b3⟩
  obtain ⟨a3, c3, rfl, -⟩ := rowChange_at r3
  have hs2 : wA.heap.size ≤ w2.heap.size := B2.out.size
  obtain ⟨wB, hwB⟩ : ∃ wB, wB = w3.alloc (.cells #[.int .i64 sq, .slice a3 gs.length c3] 26) := ⟨_, rfl⟩
  have bB : Below w3.heap.size w3 wB := by rw [hwB]; exact (Below.refl _ w3).alloc (Nat.le_refl _) _
  have TB : Hid (wB.cell? ⟨w3.heap.size, 0, none⟩ = some (.int .i64 sq) ∧ wB.cell? ⟨w3.heap.size, 1, none⟩ = some (.slice a3 gs.length c3)) := by rw [hwB]; exact two_new _ _ _ _
  have hs3 : wA.heap.size ≤ w3.heap.size := Nat.le_trans hs2 b3.size
  have hsB : w3.heap.size < wB.heap.size := by rw [hwB]; simp
  have BB : Hid (Below wA.heap.size wA wB) := (B2.out.trans (b3.mono hs2)).trans (bB.mono hs3)
  have RB := hide (rowChange_below r3 bB)
  clear r3 b3 bB
  have HTA : Hid (∀ W, Below wA.heap.size wA W → W.cell? ⟨w1.heap.size, 0, none⟩ = some (.int .i64 q) ∧ W.cell? ⟨w1.heap.size, 1, none⟩ = some (.slice a fs.length c)) := fun W hW => two_keep TA.out hW hsA
  have HTB : Hid (∀ W, Below wB.heap.size wB W → W.cell? ⟨w3.heap.size, 0, none⟩ = some (.int .i64 sq) ∧ W.cell? ⟨w3.heap.size, 1, none⟩ = some (.slice a3 gs.length c3)) := fun W hW => two_keep TB.out hW hsB
  obtain ⟨hp0, hp1⟩ := HTA.out _ BB.out
  obtain ⟨hq0, hq1⟩ := HTB.out _ (Below.refl _ _)
  clear TA TB
  go_upto_region 6 with fail
  rw [← hwB]
  clear hwB
  go_wp2_with fail
  refine (CS.out _ BB.out).mono ?_
  rintro e w4 ⟨rfl, b4⟩
  have B4 := hide (BB.out.trans (b4.mono (by have := BB.out.size; omega)))
  have D4 := hide b4
  clear b4 hp0 hp1 hq0 hq1
  obtain ⟨hp0, hp1⟩ := HTA.out _ B4.out
  obtain ⟨hq0, hq1⟩ := HTB.out _ D4.out
  have B4d := hide (B4.out.trans ((Below.refl w4.heap.size w4).drew.mono B4.out.size))
  have D4d := hide (D4.out.trans ((Below.refl w4.heap.size w4).drew.mono D4.out.size))
  have HT : Hid (∀ W, Below w4.heap.size w4 W → (W.cell? ⟨w1.heap.size, 0, none⟩ = some (.int .i64 q) ∧ W.cell? ⟨w1.heap.size, 1, none⟩ = some (.slice a fs.length c)) ∧ W.cell? ⟨w3.heap.size, 0, none⟩ = some (.int .i64 sq) ∧ W.cell? ⟨w3.heap.size, 1, none⟩ = some (.slice a3 gs.length c3)) := fun W hW => ⟨HTA.out _ (B4.out.trans (hW.mono B4.out.size)), HTB.out _ (D4.out.trans (hW.mono D4.out.size))⟩
  have CO4 : Hid (∀ W, Below w4.heap.size w4 W → Calls Try.prog 9 #[.agg #[.int .i64 q, .slice a fs.length c]] W fun e w' => e = .returned (.bool (batchOkD q fs)) ∧ Below w4.heap.size w4 w') := fun W hW => (CO.out W (B4.out.trans (hW.mono B4.out.size))).mono (fun e w' h => ⟨h.1, hW.trans (h.2.mono hW.size)⟩)
  have CP4 : Hid (∀ W, Below w4.heap.size w4 W → Calls Try.prog 10 #[.agg #[.int .i64 q, .slice a fs.length c]] W fun e w' => e = .returned (.bool (batchOkD q fs)) ∧ Below w4.heap.size w4 w') := fun W hW => (CP.out W (B4.out.trans (hW.mono B4.out.size))).mono (fun e w' h => ⟨h.1, hW.trans (h.2.mono hW.size)⟩)
  have E4 : Hid (Below w4.heap.size w4 w4.drew) := (Below.refl _ _).drew
  generalize batchOkD q fs = bok at CO4 CP4
  have hbb : (!(bok == bok)) = false := by simp
  clear CO CP CT CS CR
  go_wp2_with fail
  go_cut [67] from 36 (fun r wx => r = .bool false ∧ Hid (Below w4.heap.size w4 wx))
  case first =>
    rename_i hJ9 hK9
    cases tk
    · clear HBACK
      refine wp_region_quiet (C := fun W => Below w4.heap.size w4 W) (by kernel_rfl) (by kernel_rfl) (Below.refl _ _).drew (WQ.out ?_)
      refine WQ.run (v := .bool false) (by kernel_rfl) (fun W hW => ?hy) ?_
      case hy => go_simp
      simp only [Act.put, List.setIfInBounds_toArray, List.set_cons_zero, List.set_cons_succ]
      refine WQ.run (v := .bool false) (by kernel_rfl) (fun W hW => ?hy) ?_
      case hy => go_simp
      simp only [Act.put, List.setIfInBounds_toArray, List.set_cons_zero, List.set_cons_succ]
      refine WQ.run (v := .bool false) (by kernel_rfl) (fun W hW => ?hy) ?_
      case hy => go_simp
      simp only [Act.put, List.setIfInBounds_toArray, List.set_cons_zero, List.set_cons_succ]
      refine WQ.run (v := .bool false) (by kernel_rfl) (fun W hW => ?hy) ?_
      case hy => go_simp
      simp only [Act.put, List.setIfInBounds_toArray, List.set_cons_zero, List.set_cons_succ]
      refine WQ.run (v := .agg #[.int .i64 q, .slice a fs.length c]) (by kernel_rfl) (fun W hW => ?hy) ?_
      case hy => obtain ⟨⟨hx0, hx1⟩, -, -⟩ := HT.out W hW; go_simp; (try with_reducible rfl)
      simp only [Act.put, List.setIfInBounds_toArray, List.set_cons_zero, List.set_cons_succ]
      refine WQ.call (v := .bool bok) (by kernel_rfl) (fun W hW => ?hy) (fun W hW => CO4.out W hW) ?_
      case hy => go_simp; (try with_reducible rfl)
      simp only [Act.put, List.setIfInBounds_toArray, List.set_cons_zero, List.set_cons_succ]
      refine WQ.run (v := .agg #[.int .i64 q, .slice a fs.length c]) (by kernel_rfl) (fun W hW => ?hy) ?_
      case hy => obtain ⟨⟨hx0, hx1⟩, -, -⟩ := HT.out W hW; go_simp; (try with_reducible rfl)
      simp only [Act.put, List.setIfInBounds_toArray, List.set_cons_zero, List.set_cons_succ]
      refine WQ.call (v := .bool bok) (by kernel_rfl) (fun W hW => ?hy) (fun W hW => CP4.out W hW) ?_
      case hy => go_simp; (try with_reducible rfl)
      simp only [Act.put, List.setIfInBounds_toArray, List.set_cons_zero, List.set_cons_succ]
      refine WQ.run (v := .bool false) (by kernel_rfl) (fun W hW => ?hy) ?_
      case hy => go_simp
      simp only [Act.put, List.setIfInBounds_toArray, List.set_cons_zero, List.set_cons_succ]
      refine WQ.run (v := .bool false) (by kernel_rfl) (fun W hW => ?hy) ?_
      case hy => go_simp
      simp only [Act.put, List.setIfInBounds_toArray, List.set_cons_zero, List.set_cons_succ]
      refine WQ.run (v := .bool false) (by kernel_rfl) (fun W hW => ?hy) ?_
      case hy => go_simp
      simp only [Act.put, List.setIfInBounds_toArray, List.set_cons_zero, List.set_cons_succ]
      refine WQ.run (v := .bool false) (by kernel_rfl) (fun W hW => ?hy) ?_
      case hy => go_simp
      simp only [Act.put, List.setIfInBounds_toArray, List.set_cons_zero, List.set_cons_succ]
      refine WQ.run (v := .bool false) (by kernel_rfl) (fun W hW => ?hy) ?_
      case hy => go_simp
      simp only [Act.put, List.setIfInBounds_toArray, List.set_cons_zero, List.set_cons_succ]
      refine WQ.skip (by kernel_rfl) ?_
      simp only [Act.put, List.setIfInBounds_toArray, List.set_cons_zero, List.set_cons_succ]
      refine WQ.skip (by kernel_rfl) ?_
      simp only [Act.put, List.setIfInBounds_toArray, List.set_cons_zero, List.set_cons_succ]
      refine WQ.skip (by kernel_rfl) ?_
      simp only [Act.put, List.setIfInBounds_toArray, List.set_cons_zero, List.set_cons_succ]
      refine WQ.skip (by kernel_rfl) ?_
      simp only [Act.put, List.setIfInBounds_toArray, List.set_cons_zero, List.set_cons_succ]
      refine WQ.skip (by kernel_rfl) ?_
      simp only [Act.put, List.setIfInBounds_toArray, List.set_cons_zero, List.set_cons_succ]
      refine WQ.skip (by kernel_rfl) ?_
      simp only [Act.put, List.setIfInBounds_toArray, List.set_cons_zero, List.set_cons_succ]
      refine WQ.skip (by kernel_rfl) ?_
      simp only [Act.put, List.setIfInBounds_toArray, List.set_cons_zero, List.set_cons_succ]
      refine WQ.skip (by kernel_rfl) ?_
      simp only [Act.put, List.setIfInBounds_toArray, List.set_cons_zero, List.set_cons_succ]
      refine WQ.skip (by kernel_rfl) ?_
      simp only [Act.put, List.setIfInBounds_toArray, List.set_cons_zero, List.set_cons_succ]
      refine WQ.skip (by kernel_rfl) ?_
      simp only [Act.put, List.setIfInBounds_toArray, List.set_cons_zero, List.set_cons_succ]
      refine WQ.skip (by kernel_rfl) ?_
      simp only [Act.put, List.setIfInBounds_toArray, List.set_cons_zero, List.set_cons_succ]
      refine WQ.skip (by kernel_rfl) ?_
      simp only [Act.put, List.setIfInBounds_toArray, List.set_cons_zero, List.set_cons_succ]
      refine WQ.skip (by kernel_rfl) ?_
      simp only [Act.put, List.setIfInBounds_toArray, List.set_cons_zero, List.set_cons_succ]
      refine WQ.skip (by kernel_rfl) ?_
      simp only [Act.put, List.setIfInBounds_toArray, List.set_cons_zero, List.set_cons_succ]
      refine WQ.skip (by kernel_rfl) ?_
      simp only [Act.put, List.setIfInBounds_toArray, List.set_cons_zero, List.set_cons_succ]
      refine WQ.skip (by kernel_rfl) ?_
      simp only [Act.put, List.setIfInBounds_toArray, List.set_cons_zero, List.set_cons_succ]
      refine WQ.skip (by kernel_rfl) ?_
      simp only [Act.put, List.setIfInBounds_toArray, List.set_cons_zero, List.set_cons_succ]
      refine WQ.run (v := .bool false) (by kernel_rfl) (fun W hW => ?hy) ?_
      case hy => go_simp
      simp only [Act.put, List.setIfInBounds_toArray, List.set_cons_zero, List.set_cons_succ]
      refine WQ.run (v := .bool false) (by kernel_rfl) (fun W hW => ?hy) ?_
      case hy => go_simp
      simp only [Act.put, List.setIfInBounds_toArray, List.set_cons_zero, List.set_cons_succ]
      refine WQ.nil ?_
      intro W8 hW8
      refine hK9 _ _ (Met.intro (hJ9 _ _ ?_)); (repeat apply Exists.intro); refine ⟨?_, rfl⟩
      exact ⟨rfl, hW8⟩
    · obtain ⟨k1, k2, k3⟩ := HBACK.out rfl
      subst k1 k2 k3
      have hqq : (!(sq == sq)) = false := by simp
      have CC : Hid (∀ W, Below w4.heap.size w4 W → Calls Try.prog 11 #[.slice a3 gs.length c3, .slice a gs.length c] W fun e w' => e = .returned (.bool true) ∧ Below w4.heap.size w4 w') := fun W hW => (sameChanges_same gs a3 a c3 c W (by omega) (changesAt_keep (rowChange_rows RB.out) (D4.out.trans (hW.mono D4.out.size))) (changesAt_keep (rowChange_rows RA.out) (B4.out.trans (hW.mono B4.out.size)))).mono (fun e w' h => ⟨h.1, hW.trans (h.2.mono hW.size)⟩)
      go_region_held3 (fun w' => (w'.cell? ⟨w1.heap.size, 0, none⟩ = some (.int .i64 sq) ∧ w'.cell? ⟨w1.heap.size, 1, none⟩ = some (.slice a gs.length c)) ∧ w'.cell? ⟨w3.heap.size, 0, none⟩ = some (.int .i64 sq) ∧ w'.cell? ⟨w3.heap.size, 1, none⟩ = some (.slice a3 gs.length c3)) (first | (exact HT.out _ E4.out) | (exact HT.out _ E5.out) | (exact HT.out _ E6.out) | (exact HT.out _ E7.out) | fail) ((first | (go_at_call 9; refine (CO4.out _ E4.out).mono ?_; rintro e w5 ⟨rfl, b5⟩; have E5 := hide b5; clear b5) | (go_at_call 10; refine (CP4.out _ E5.out).mono ?_; rintro e w6 ⟨rfl, b6⟩; have E6 := hide b6; clear b6) | (go_at_call 11; refine (CC.out _ E6.out).mono ?_; rintro e w7 ⟨rfl, b7⟩; have E7 := hide b7; clear b7) | fail))
      all_goals (refine hK9 _ _ (Met.intro (hJ9 _ _ ?_)); (repeat apply Exists.intro); refine ⟨?_, rfl⟩)
      all_goals exact ⟨rfl, E7⟩
  case rest =>
  obtain ⟨rfl, E8⟩ := hcut
  have W8 : Hid (Below w.heap.size w wc) := BA.out.trans ((B4.out.trans (E8.out.mono B4.out.size)).mono BA.out.size)
  clear CO4 CP4 HT HTA HTB E4 E8 B4 D4 B4d D4d RA RB BA BB B2 hp0 hp1 hq0 hq1 HBACK HRN
  go_wp2_with fail
  refine (drawReadBatch_any _ ao len cap hlen (code_keep HC.out W8.out)).mono ?_
  rintro e w9 ⟨T, rfl, hT, b9⟩
  have W9 := hide (W8.out.trans (b9.mono W8.out.size))
  clear b9
  have CI := hide (fun W => implReadBatch_any T W (by omega))
  have CK := hide (fun W => specReadBatch_any T W (by omega))
  obtain ⟨hgl, hgz⟩ := rdChanges_small T
  have HGZ := hide hgz
  have CT : Hid (∀ (W : World) (a : Option Addr) (c : Nat), ChangesAt W a (rdChanges T) → Calls Try.prog 6 #[.agg #[.int .i64 (rdSeq T), .slice a (rdChanges T).length c]] W fun e w' => e = .returned (.tuple #[.string (textD (rdSeq T) (rdChanges T)), .bool (textOkD (rdSeq T) (rdChanges T))]) ∧ Below W.heap.size W w') := fun W a c hW => implBatchText_any (rdSeq T) (rdChanges T) a c W (by omega) hW HGZ.out
  have HTX : Hid (rdOk T = true → textD (rdSeq T) (rdChanges T) = T) := fun h => (rd_text h).2
  generalize textOkD (rdSeq T) (rdChanges T) = tok at CT
  generalize textD (rdSeq T) (rdChanges T) = Y at CT HTX
  generalize rdSeq T = s2 at CI CK CT
  generalize rdChanges T = hs at CI CK CT hgl hgz HGZ
  generalize rdOk T = ok2 at CI CK HTX
  clear hgz HGZ
  have hoo : (ok2 == ok2) = true := by simp
  go_wp2_with fail
  refine (CI.out _).mono ?_
  rintro e w10 ⟨⟨v10, rfl, r10⟩, b10⟩
  obtain ⟨a10, c10, rfl, -⟩ := rowChange_at r10
  obtain ⟨wC, hwC⟩ : ∃ wC, wC = w10.alloc (.cells #[.int .i64 s2, .slice a10 hs.length c10] 26) := ⟨_, rfl⟩
  have bC : Below w10.heap.size w10 wC := by rw [hwC]; exact (Below.refl _ w10).alloc (Nat.le_refl _) _
  have TC : Hid (wC.cell? ⟨w10.heap.size, 0, none⟩ = some (.int .i64 s2) ∧ wC.cell? ⟨w10.heap.size, 1, none⟩ = some (.slice a10 hs.length c10)) := by rw [hwC]; exact two_new _ _ _ _
  have hsC : w10.heap.size < wC.heap.size := by rw [hwC]; simp
  have RC := hide (rowChange_below r10 bC)
  have W10 : Hid (Below w.heap.size w wC) := (W9.out.trans (b10.mono W9.out.size)).trans (bC.mono (Nat.le_trans W9.out.size b10.size))
  clear r10 b10 bC
  go_upto_region 11 with fail
  rw [← hwC]
  clear hwC
  go_wp2_with fail
  refine (CK.out _).mono ?_
  rintro e w11 ⟨⟨v11, rfl, r11⟩, b11⟩
  obtain ⟨a11, c11, rfl, -⟩ := rowChange_at r11
  have hb12 : Below w11.heap.size w11 (w11.alloc (.cells #[.int .i64 s2, .slice a11 hs.length c11] 26)) := (Below.refl _ w11).alloc (Nat.le_refl _) _
  have E12 := hide (b11.trans (hb12.mono b11.size))
  clear r11 b11 hb12
  go_upto_region 12 with fail
  generalize w11.alloc (.cells #[.int .i64 s2, .slice a11 hs.length c11] 26) = w12 at E12
  obtain ⟨hp0, hp1⟩ := two_keep TC.out E12.out hsC
  go_wp2_with fail
  refine (CT.out _ _ _ (changesAt_keep (rowChange_rows RC.out) E12.out)).mono ?_
  rintro e w13 ⟨rfl, b13⟩
  have W13 : Hid (Below w.heap.size w w13) := W10.out.trans ((E12.out.trans (b13.mono E12.out.size)).mono W10.out.size)
  clear b13 hp0 hp1
  cases ok2
  · go_wp2
    go_ret
    exact ⟨rfl, W13.out⟩
  · have hY := HTX.out rfl
    subst hY
    have hyy : (Y.toList == Y.toList) = true := by simp
    go_wp2
    go_ret
    exact ⟨rfl, W13.out⟩
end Go.Proofs.Ytcpbkllonamleab
