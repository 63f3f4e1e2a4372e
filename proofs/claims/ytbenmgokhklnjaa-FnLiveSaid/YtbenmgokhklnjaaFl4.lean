import Derived.Deep.Upon
import Derived.Deep.RegionHeld3
import Derived.Deep.RegionLaw
import Derived.Deep.CutRange
import Derived.BigQuiet
import Derived.Test.YtbenmgokhklnjaaFl1
import Derived.Test.YtbenmgokhklnjaaFl3
import Derived.Test.YtbenmgokhklnjaaFl0
import Derived.Test.YtbenmgokhklnjaaFl2
set_option maxRecDepth 100000
set_option maxHeartbeats 3200000
namespace Go.Proofs.Ytbenmgokhklnjaa
open Go.RowKit
theorem sameTexts_same (ts : List ByteArray) (ao ao2 : Option Addr) (cap cap2 : Nat) (w : World) (hl : ts.length ≤ maxLen) (h1 : TextsAt w ao ts) (h2 : TextsAt w ao2 ts) :
    Calls Try.prog 38 #[.slice ao ts.length cap, .slice ao2 ts.length cap2] w fun e w' => e = .returned (.bool true) ∧ Below w.heap.size w w' := by
  have H1 := hide h1
  have H2 := hide h2
  clear h1 h2
  unfold maxLen at hl
  have hne : (!((ts.length : Int) == (ts.length : Int))) = false := by simp
  go_enter Try.func38, Try.ntmps38
  go_wp2
  go_loopw [5] (fun ii wr => ∃ (k q : Nat), ii = .int .i64 k ∧ k ≤ ts.length ∧ wr = w.drewN q) (fun ii _ => ts.length - (intOf ii).toNat)
  case atStart => exact ⟨0, 0, rfl, Nat.zero_le _, rfl⟩
  case round =>
    obtain ⟨k, q, rfl, hk, rfl⟩ := hrel
    by_cases hlt : k < ts.length
    · have hlt' : decide ((k : Int) < (ts.length : Int)) = true := by simp; omega
      obtain ⟨b, off, rfl, hbw, hc0⟩ := H1.out k hlt
      obtain ⟨b', off', rfl, hbw', hd0⟩ := H2.out k hlt
      generalize ts[k] = F at hc0 hd0
      have hi0 : (0 : Int) ≤ (k : Int) := by omega
      have hi1 : (k : Int) < (ts.length : Int) := by omega
      have hee : (F.toList == F.toList) = true := beq_self_eq_true _
      go_wp2
      go_quiet (fail)
      go_wp2
      go_roundw
      case rel => exact ⟨k + 1, q + nq, by go_num, by omega, rfl⟩
      case measure => simp [intOf]; omega
    · have hlt' : decide ((k : Int) < (ts.length : Int)) = false := by simp; omega
      go_wp2
      go_ret
      exact ⟨rfl, drewN_below w q⟩
theorem sameVal_same (v : ValD) (ao ao2 : Option Addr) (cap cap2 : Nat) (w : World) (hl : v.items.length ≤ maxLen) (h1 : TextsAt w ao v.items) (h2 : TextsAt w ao2 v.items) :
    Calls Try.prog 12 #[.agg #[.int .i64 v.kind, .int .i64 v.til, .string v.text, .slice ao v.items.length cap], .agg #[.int .i64 v.kind, .int .i64 v.til, .string v.text, .slice ao2 v.items.length cap2]] w fun e w' => e = .returned (.bool true) ∧ Below w.heap.size w w' := by
  obtain ⟨k, u, t, ts⟩ := v
  simp only at hl h1 h2 ⊢
  have H1 := hide h1
  have H2 := hide h2
  clear h1 h2
  have e0 : (k == k) = true := beq_self_eq_true _
  have e1 : (u == u) = true := beq_self_eq_true _
  have e2 : (t.toList == t.toList) = true := beq_self_eq_true _
  have H0 : Hid (Below w.heap.size w ((w.alloc (.cells #[.int .i64 k, .int .i64 u, .string t, .slice ao ts.length cap] 26)).alloc (.cells #[.int .i64 k, .int .i64 u, .string t, .slice ao2 ts.length cap2] 26))) := ((Below.refl _ w).alloc (Nat.le_refl _) _).alloc (by simp) _
  go_enter Try.func12, Try.ntmps12
  go_wp2_with fail
  refine (sameTexts_same ts ao ao2 cap cap2 _ hl (textsAt_keep H1.out H0.out) (textsAt_keep H2.out H0.out)).mono ?_
  rintro e w1 ⟨rfl, b1⟩
  have HB : Hid (Below w.heap.size w w1) := H0.out.trans (b1.mono H0.out.size)
  clear b1
  go_wp2
  go_ret
  exact ⟨rfl, HB.out⟩
theorem implFind_any (es : List EntD) (key : ByteArray) (ao : Option Addr) (cap : Nat) (w : World) (hl : es.length ≤ 1048576) (hes : EntriesAt w ao es) (hsz : ∀ e ∈ es, EntS 1048576 e) :
    Calls Try.prog 18 #[.slice ao es.length cap, .string key] w fun e w' => (∃ a c, e = .returned (.tuple #[.agg #[.int .i64 (findV es key).kind, .int .i64 (findV es key).til, .string (findV es key).text, .slice a (findV es key).items.length c], .bool (findB es key)]) ∧ RowText w' w.heap.size (.slice a (findV es key).items.length c) (findV es key).items) ∧ Below w.heap.size w w' := by
  have HT := hide hes
  have HS := hide hsz
  have HV : Hid (∀ r, findE es key = r → findV es key = r.getD noVal ∧ findB es key = r.isSome) := fun r h => by unfold findV findB; rw [h]; exact ⟨rfl, rfl⟩
  generalize findV es key = V at HV ⊢
  generalize findB es key = R at HV ⊢
  have HE0 : Hid (findE es key = findE (es.drop 0) key) := rfl
  clear hes hsz
  obtain ⟨wb, hwb⟩ : ∃ wb, wb = w.alloc (.cells #[.int .i64 0, .int .i64 0, .string ⟨#[]⟩, .slice none 0 0] 26) := ⟨_, rfl⟩
  have HB0 : Hid (Below w.heap.size w wb) := by rw [hwb]; exact (Below.refl _ w).alloc (Nat.le_refl _) _
  have HR0 : Hid (wb.heap[w.heap.size]? = some (.cells #[.int .i64 0, .int .i64 0, .string ⟨#[]⟩, .slice none 0 0] 26 (0, 0))) := by rw [hwb]; exact heap_alloc_new _ _
  go_enter Try.func18, Try.ntmps18
  go_wp2_with fail
  rw [← hwb]
  clear hwb
  go_loopw [10] (fun ii wr => ∃ (k : Nat), ii = .int .i64 (k : Int) ∧ k ≤ es.length ∧ Hid (findE es key = findE (es.drop k) key) ∧ Hid (Below w.heap.size w wr) ∧ Hid (wr.heap[w.heap.size]? = some (.cells #[.int .i64 0, .int .i64 0, .string ⟨#[]⟩, .slice none 0 0] 26 (0, 0)))) (fun ii _ => es.length - (intOf ii).toNat)
  case atStart => exact ⟨0, rfl, by omega, HE0, HB0, HR0⟩
  case round =>
    obtain ⟨k, rfl, hk, HE, HB, HR⟩ := hrel
    by_cases hlt : k < es.length
    · have hlt' : decide ((k : Int) < (es.length : Int)) = true := by simp; omega
      obtain ⟨b, off, rfl, hbw, hc0, hc1, hc2, hc3, a, c, hc4, hta⟩ := entriesAt_keep HT.out HB.out k hlt
      have hws := HB.out.size
      have hsA := HS.out es[k] (List.getElem_mem hlt)
      have HY := hide (fun h => HE.out.trans (findE_here (key := key) hlt h))
      have HNo := hide (fun h => HE.out.trans (findE_next (key := key) hlt h))
      have HOV := hide (fun W (hW : Below wr.heap.size wr W) => ownVal_any es[k].val a c W hsA.2.2.1 hsA.2.1 (textsAt_keep hta hW) hsA.2.2.2)
      generalize es[k] = F at hc0 hc1 hc2 hc3 hc4 HY HNo HOV
      clear hsA hta
      obtain ⟨ky, kd, u, t, ts⟩ := F
      simp only at hc0 hc1 hc2 hc3 hc4 HY HNo HOV
      have hi0 : (0 : Int) ≤ (k : Int) := by omega
      have hi1 : (k : Int) < (es.length : Int) := by omega
      have B1 : Hid (Below wr.heap.size wr (wr.alloc (.cells #[.string ky, .int .i64 kd, .int .i64 u, .string t, .slice a ts.length c] 43))) := (Below.refl _ wr).alloc (Nat.le_refl _) _
      have W1 := hide (HB.out.trans (B1.out.mono hws))
      cases hkk : (ky.toList == key.toList) with
      | true =>
        obtain ⟨hV, hR⟩ := HV.out _ (HY.out hkk)
        have HVV : Hid (V = ⟨kd, u, t, ts⟩ ∧ R = true) := ⟨hV, hR⟩
        clear hV hR
        obtain ⟨rfl, rfl⟩ := HVV.out
        go_wp2_with fail
        refine (HOV.out _ B1.out).mono ?_
        rintro e w2 ⟨⟨a2, c2, rfl, hr2⟩, b2⟩
        have hp := (b2.block w.heap.size (by have := obj_lt HR.out; simp; omega)).trans ((B1.out.block w.heap.size (obj_lt HR.out)).trans HR.out)
        have HR2 := hide hr2
        have HB2 := hide (W1.out.trans (b2.mono W1.out.size))
        have hlt2 := hide (rowText_lt hr2)
        have hwsz := obj_lt HR.out
        clear b2 hr2
        obtain ⟨r0, r1, r2, r3⟩ := val_cells hp
        obtain ⟨f0, f1, f2, f3⟩ := val_frozen hp
        clear hp
        go_wp2_with fail
        refine bodyPost_ret (v := .tuple #[.agg #[.int .i64 kd, .int .i64 u, .string t, .slice a2 ts.length c2], .bool true]) (by simp [results, Try.results18, go_sem, r0, r1, r2, r3]) rfl ⟨⟨a2, c2, rfl, ?_⟩, ?_⟩
        · refine rowText_le (rowText_keep HR2.out (fun g hg => ?_)) W1.out.size
          have h1 := hlt2.out g hg
          simp at h1
          rw [Below.heap_setCell _ _ _ _ (by simp; omega), Below.heap_setCell _ _ _ _ (by simp; omega), Below.heap_setCell _ _ _ _ (by simp; omega), Below.heap_setCell _ _ _ _ (by simp; omega)]
        · exact (((HB2.out.setCell (p := ⟨w.heap.size, 0, none⟩) (Nat.le_refl _) _).setCell (p := ⟨w.heap.size, 1, none⟩) (Nat.le_refl _) _).setCell (p := ⟨w.heap.size, 2, none⟩) (Nat.le_refl _) _).setCell (p := ⟨w.heap.size, 3, none⟩) (Nat.le_refl _) _
      | false =>
        have HE1 := hide (HNo.out hkk)
        go_wp2
        go_roundw
        case rel => exact ⟨k + 1, by go_num, by omega, HE1, W1, (B1.out.block w.heap.size (obj_lt HR.out)).trans HR.out⟩
        case measure => simp [intOf]; omega
    · have hlt' : decide ((k : Int) < (es.length : Int)) = false := by simp; omega
      have hke : k = es.length := by omega
      subst hke
      obtain ⟨hV, hR⟩ := HV.out none (HE.out.trans (by rw [List.drop_length]; rfl))
      have HVV : Hid (V = noVal ∧ R = false) := ⟨hV, hR⟩
      clear hV hR
      obtain ⟨rfl, rfl⟩ := HVV.out
      obtain ⟨r0, r1, r2, r3⟩ := val_cells HR.out
      obtain ⟨f0, f1, f2, f3⟩ := val_frozen HR.out
      go_wp2_with fail
      refine bodyPost_ret (v := .tuple #[.agg #[.int .i64 0, .int .i64 0, .string ⟨#[]⟩, .slice none 0 0], .bool false]) (by simp [results, Try.results18, go_sem, r0, r1, r2, r3]) rfl ⟨⟨none, 0, rfl, .inl ⟨rfl, rfl⟩⟩, ?_⟩
      exact (((HB.out.setCell (p := ⟨w.heap.size, 0, none⟩) (Nat.le_refl _) _).setCell (p := ⟨w.heap.size, 1, none⟩) (Nat.le_refl _) _).setCell (p := ⟨w.heap.size, 2, none⟩) (Nat.le_refl _) _).setCell (p := ⟨w.heap.size, 3, none⟩) (Nat.le_refl _) _
theorem quiet_run {P : Program} {C : World → Prop} {a : Act} {o : Oper} {K : Act → Prop} {v : Value} (hv : ∀ w, C w → (execOp a.eval o).run P w = .ok (.value v) w) (hk : K (a.put o.dst v)) : o.quiet P a C K :=
  ⟨v, fun w hw => by unfold Oper.quietAt; rw [hv w hw]; exact ⟨rfl, rfl⟩, hk⟩
theorem quiet_call {P : Program} {C : World → Prop} {a : Act} {o : Oper} {K : Act → Prop} {v : Value} {f : FuncId} {args : Array Value} (hv : ∀ w, C w → (execOp a.eval o).run P w = .ok (.enter f args) w) (hc : ∀ w, C w → Calls P f args w (fun e w'' => e = .returned v ∧ C w'')) (hk : K (a.put o.dst v)) : o.quiet P a C K :=
  ⟨v, fun w hw => by unfold Oper.quietAt; rw [hv w hw]; exact ⟨rfl, hc w hw⟩, hk⟩
structure WQ (P : Program) (ops : Array Oper) (C : World → Prop) (Q : Act → Prop) (l : List Oper) (a : Act) : Prop where
  out : wpQuiet P ops C Q l a
section
variable {P : Program} {ops : Array Oper} {C : World → Prop} {Q : Act → Prop} {rest : List Oper} {a : Act} {o : Oper} {v : Value}
theorem WQ.run (hw : Region.wanted o (yielded ops a.tmps) = true) (hv : ∀ w, C w → (execOp a.eval o).run P w = .ok (.value v) w) (h : WQ P ops C Q rest (a.put o.dst v)) : WQ P ops C Q (o :: rest) a :=
  ⟨BigFrame.wpQuiet_want hw (fun _ hK => quiet_run hv (hK _ h.out))⟩
theorem WQ.call {f : FuncId} {args : Array Value} (hw : Region.wanted o (yielded ops a.tmps) = true) (hv : ∀ w, C w → (execOp a.eval o).run P w = .ok (.enter f args) w) (hc : ∀ w, C w → Calls P f args w (fun e w'' => e = .returned v ∧ C w'')) (h : WQ P ops C Q rest (a.put o.dst v)) : WQ P ops C Q (o :: rest) a :=
  ⟨BigFrame.wpQuiet_want hw (fun _ hK => quiet_call hv hc (hK _ h.out))⟩
theorem WQ.skip (hw : Region.wanted o (yielded ops a.tmps) = false) (h : WQ P ops C Q rest (a.put o.dst undef)) : WQ P ops C Q (o :: rest) a :=
  ⟨BigFrame.wpQuiet_skip hw h.out⟩
theorem WQ.nil (h : Q a) : WQ P ops C Q [] a := ⟨wpQuiet_nil h⟩
end
theorem specTableOk_any (es : List EntD) (ao : Option Addr) (cap : Nat) (w : World) (R : Bool) (hR : R = true ↔ TabR es) (hl : es.length ≤ 1048576) (hes : EntriesAt w ao es) (hsz : ∀ e ∈ es, EntS 1048576 e) :
    Calls Try.prog 19 #[.slice ao es.length cap] w fun e w' => e = .returned (.bool R) ∧ Below w.heap.size w w' := by
  have HF := hide hes
  have HS := hide hsz
  have HR := hide hR
  clear hes hsz hR
  by_cases h1 : 20 < es.length
  · have h1' : decide ((20 : Int) < (es.length : Int)) = true := by simp; omega
    have hF : R = false := by
      cases R
      · rfl
      · have := (HR.out.1 rfl).1; omega
    subst hF
    go_enter Try.func19, Try.ntmps19
    go_wp2
    go_ret
    exact ⟨rfl, Below.refl _ _⟩
  have h1' : decide ((20 : Int) < (es.length : Int)) = false := by simp; omega
  go_enter Try.func19, Try.ntmps19
  go_wp2
  go_loopw [3] (fun ii wr => ∃ (k : Nat), ii = .int .i64 k ∧ k ≤ es.length ∧ Hid (EntsR es k) ∧ Hid (Below w.heap.size w wr)) (fun ii _ => es.length - (intOf ii).toNat)
  case atStart => exact ⟨0, rfl, Nat.zero_le _, entsR_zero es, Below.refl _ _⟩
  case round =>
    obtain ⟨k, rfl, hk, HK, HB⟩ := hrel
    by_cases hlt : k < es.length
    · have hlt' : decide ((k : Int) < (es.length : Int)) = true := by simp; omega
      obtain ⟨b, off, rfl, hbw, hc0, hc1, hc2, hc3, a, c, hc4, hta⟩ := entriesAt_keep HF.out HB.out k hlt
      have hsA := HS.out es[k] (List.getElem_mem hlt)
      have HNX := hide (fun h1 h2 h3 => entsR_next HK.out hlt h1 h2 h3)
      have HNO := hide (fun (h : TabR es) => entsR_of h k hlt)
      obtain ⟨r, Hr⟩ : ∃ r : Bool, Hid (r = true ↔ ValR es[k].val) := by classical exact ⟨decide (ValR es[k].val), by show _ ↔ _; simp⟩
      have HVO := hide (fun W (hW : Below wr.heap.size wr W) => specValOk_any es[k].val a c W r Hr.out hsA.2.2.1 (by have := hsA.2.1; unfold maxLen; omega) (textsAt_keep hta hW) (fun s hs => by have := hsA.2.2.2 s hs; unfold maxLen; omega))
      obtain ⟨F, HFk⟩ : ∃ F, Hid (es[k] = F) := ⟨_, hide rfl⟩
      have hks := hsA.1
      rw [HFk.out] at hc0 hc1 hc2 hc3 hc4 HVO Hr HNX HNO hks
      clear hsA hta
      have HVO2 : Hid (∀ W, Below wr.heap.size wr W → Calls Try.prog 10 #[.agg #[.int .i64 F.val.kind, .int .i64 F.val.til, .string F.val.text, .slice a F.val.items.length c]] W fun e w' => e = .returned (.bool r) ∧ Below wr.heap.size wr w') := fun W hW => (HVO.out W hW).mono (fun e w' h => ⟨h.1, hW.trans (h.2.mono hW.size)⟩)
      obtain ⟨key, kd, u, t, ts⟩ := F
      simp only at hc0 hc1 hc2 hc3 hc4 HVO2 HNX HNO hks
      have hi0 : (0 : Int) ≤ (k : Int) := by omega
      have hi1 : (k : Int) < (es.length : Int) := by omega
      have e1 : (decide ((1 : Int) ≤ (key.size : Int)) && decide ((key.size : Int) ≤ 20)) = (decide (1 ≤ key.size) && decide (key.size ≤ 20)) := by congr 1 <;> rw [decide_eq_decide] <;> omega
      have KS : Hid (∀ X, Below wr.heap.size wr X → X.cell? ⟨b, off + k * 5, none⟩ = some (.string key) ∧ X.cell? ⟨b, off + k * 5 + 1, none⟩ = some (.int .i64 kd) ∧ X.cell? ⟨b, off + k * 5 + 2, none⟩ = some (.int .i64 u) ∧ X.cell? ⟨b, off + k * 5 + 3, none⟩ = some (.string t) ∧ X.cell? ⟨b, off + k * 5 + 4, none⟩ = some (.slice a ts.length c)) :=
        fun X hX => ⟨(hX.cell (p := ⟨b, off + k * 5, none⟩) hbw).trans hc0, (hX.cell (p := ⟨b, off + k * 5 + 1, none⟩) hbw).trans hc1, (hX.cell (p := ⟨b, off + k * 5 + 2, none⟩) hbw).trans hc2, (hX.cell (p := ⟨b, off + k * 5 + 3, none⟩) hbw).trans hc3, (hX.cell (p := ⟨b, off + k * 5 + 4, none⟩) hbw).trans hc4⟩
      cases h1k : (decide (1 ≤ key.size) && decide (key.size ≤ 20))
      · have h1 := e1.trans h1k
        have hR : Hid (R = false) := by
          show _ = _
          cases R
          · rfl
          · have h := (HNO.out (HR.out.1 rfl)).1; have h' : ¬ (1 ≤ key.size ∧ key.size ≤ 20) := (by simpa using h1k); exact absurd h h'
        go_wp2
        go_quiet ((go_at_call 34; exact Calls.quiet_of_same (l01In_val _ _ _ _ _ h1)))
        go_wp2
        go_ret
        rw [hR.out]
        exact ⟨rfl, below_drewN HB.out _⟩
      have hkr : 1 ≤ key.size ∧ key.size ≤ 20 := by simpa using h1k
      have h1 := e1.trans h1k
      have L1 : Hid (∀ W, Below wr.heap.size wr W → Calls Try.prog 34 #[.int .i64 (key.size : Int), .int .i64 1, .int .i64 20] W fun e w' => e = .returned (.bool true) ∧ Below wr.heap.size wr w') := fun W hW => (l01In_val _ _ _ _ W h1).mono (fun e w' h => ⟨h.1, by rw [h.2]; exact hW⟩)
      by_cases hp : 0 < k
      case neg =>
        have hp1 : decide ((0 : Int) < (k : Int)) = false := by simp; omega
        have hp2 : decide (0 < k) = false := by simp; omega
        go_wp2
        refine wp_region_quiet (C := fun W => Below wr.heap.size wr W) (by kernel_rfl) (by kernel_rfl) (Below.refl _ _).drew (WQ.out ?_)
        refine WQ.run (v := .slice (some ⟨b, off, none⟩) es.length cap) (by kernel_rfl) (fun W hW => ?hy) ?_
        case hy => go_simp
        simp only [Act.put, List.setIfInBounds_toArray, List.set_cons_zero, List.set_cons_succ]
        refine WQ.run (v := .int .i64 (k : Int)) (by kernel_rfl) (fun W hW => ?hy) ?_
        case hy => go_simp
        simp only [Act.put, List.setIfInBounds_toArray, List.set_cons_zero, List.set_cons_succ]
        refine WQ.run (v := .pointer (some ⟨b, off + k * 5, none⟩)) (by kernel_rfl) (fun W hW => ?hy) ?_
        case hy => go_simp
        simp only [Act.put, List.setIfInBounds_toArray, List.set_cons_zero, List.set_cons_succ]
        refine WQ.run (v := .pointer (some ⟨b, off + k * 5, none⟩)) (by kernel_rfl) (fun W hW => ?hy) ?_
        case hy => go_simp
        simp only [Act.put, List.setIfInBounds_toArray, List.set_cons_zero, List.set_cons_succ]
        refine WQ.run (v := .string key) (by kernel_rfl) (fun W hW => ?hy) ?_
        case hy => obtain ⟨hx0, hx1, hx2, hx3, hx4⟩ := KS.out W hW; go_simp
        simp only [Act.put, List.setIfInBounds_toArray, List.set_cons_zero, List.set_cons_succ]
        refine WQ.run (v := .int .i64 (key.size : Int)) (by kernel_rfl) (fun W hW => ?hy) ?_
        case hy => go_simp
        simp only [Act.put, List.setIfInBounds_toArray, List.set_cons_zero, List.set_cons_succ]
        refine WQ.call (v := .bool true) (by kernel_rfl) (fun W hW => ?hy) (fun W hW => L1.out W hW) ?_
        case hy => go_simp; (try with_reducible rfl)
        simp only [Act.put, List.setIfInBounds_toArray, List.set_cons_zero, List.set_cons_succ]
        refine WQ.run (v := .bool false) (by kernel_rfl) (fun W hW => ?hy) ?_
        case hy => go_simp
        simp only [Act.put, List.setIfInBounds_toArray, List.set_cons_zero, List.set_cons_succ]
        refine WQ.run (v := .bool false) (by kernel_rfl) (fun W hW => ?hy) ?_
        case hy => go_simp
        simp only [Act.put, List.setIfInBounds_toArray, List.set_cons_zero, List.set_cons_succ]
        refine WQ.run (v := .int .i64 (k : Int)) (by kernel_rfl) (fun W hW => ?hy) ?_
        case hy => go_simp
        simp only [Act.put, List.setIfInBounds_toArray, List.set_cons_zero, List.set_cons_succ]
        refine WQ.run (v := .bool false) (by kernel_rfl) (fun W hW => ?hy) ?_
        case hy => go_simp
        simp only [Act.put, List.setIfInBounds_toArray, List.set_cons_zero, List.set_cons_succ]
        refine WQ.run (v := .bool false) (by kernel_rfl) (fun W hW => ?hy) ?_
        case hy => go_simp
        simp only [Act.put, List.setIfInBounds_toArray, List.set_cons_zero, List.set_cons_succ]
        refine WQ.skip (by kernel_rfl) ?_
        simp only [Act.put, List.setIfInBounds_toArray, List.set_cons_zero, List.set_cons_succ]
        refine WQ.skip (by kernel_rfl) ?_
        simp only [Act.put, List.setIfInBounds_toArray, List.set_cons_zero, List.set_cons_succ]
        refine WQ.skip (by kernel_rfl) ?_
        simp only [Act.put, List.setIfInBounds_toArray, List.set_cons_zero, List.set_cons_succ]
        refine WQ.skip (by kernel_rfl) ?_
        simp only [Act.put, List.setIfInBounds_toArray, List.set_cons_zero, List.set_cons_succ]
        refine WQ.skip (by kernel_rfl) ?_
        simp only [Act.put, List.setIfInBounds_toArray, List.set_cons_zero, List.set_cons_succ]
        refine WQ.skip (by kernel_rfl) ?_
        simp only [Act.put, List.setIfInBounds_toArray, List.set_cons_zero, List.set_cons_succ]
        refine WQ.skip (by kernel_rfl) ?_
        simp only [Act.put, List.setIfInBounds_toArray, List.set_cons_zero, List.set_cons_succ]
        refine WQ.skip (by kernel_rfl) ?_
        simp only [Act.put, List.setIfInBounds_toArray, List.set_cons_zero, List.set_cons_succ]
        refine WQ.skip (by kernel_rfl) ?_
        simp only [Act.put, List.setIfInBounds_toArray, List.set_cons_zero, List.set_cons_succ]
        refine WQ.skip (by kernel_rfl) ?_
        simp only [Act.put, List.setIfInBounds_toArray, List.set_cons_zero, List.set_cons_succ]
        refine WQ.skip (by kernel_rfl) ?_
        simp only [Act.put, List.setIfInBounds_toArray, List.set_cons_zero, List.set_cons_succ]
        refine WQ.skip (by kernel_rfl) ?_
        simp only [Act.put, List.setIfInBounds_toArray, List.set_cons_zero, List.set_cons_succ]
        refine WQ.run (v := .bool false) (by kernel_rfl) (fun W hW => ?hy) ?_
        case hy => go_simp
        simp only [Act.put, List.setIfInBounds_toArray, List.set_cons_zero, List.set_cons_succ]
        refine WQ.run (v := .bool false) (by kernel_rfl) (fun W hW => ?hy) ?_
        case hy => go_simp
        simp only [Act.put, List.setIfInBounds_toArray, List.set_cons_zero, List.set_cons_succ]
        refine WQ.run (v := .bool false) (by kernel_rfl) (fun W hW => ?hy) ?_
        case hy => go_simp
        simp only [Act.put, List.setIfInBounds_toArray, List.set_cons_zero, List.set_cons_succ]
        refine WQ.run (v := .slice (some ⟨b, off, none⟩) es.length cap) (by kernel_rfl) (fun W hW => ?hy) ?_
        case hy => go_simp
        simp only [Act.put, List.setIfInBounds_toArray, List.set_cons_zero, List.set_cons_succ]
        refine WQ.run (v := .int .i64 (k : Int)) (by kernel_rfl) (fun W hW => ?hy) ?_
        case hy => go_simp
        simp only [Act.put, List.setIfInBounds_toArray, List.set_cons_zero, List.set_cons_succ]
        refine WQ.run (v := .pointer (some ⟨b, off + k * 5, none⟩)) (by kernel_rfl) (fun W hW => ?hy) ?_
        case hy => go_simp
        simp only [Act.put, List.setIfInBounds_toArray, List.set_cons_zero, List.set_cons_succ]
        refine WQ.run (v := .pointer (some ⟨b, off + k * 5 + 1, none⟩)) (by kernel_rfl) (fun W hW => ?hy) ?_
        case hy => go_simp
        simp only [Act.put, List.setIfInBounds_toArray, List.set_cons_zero, List.set_cons_succ]
        refine WQ.run (v := .agg #[.int .i64 kd, .int .i64 u, .string t, .slice a ts.length c]) (by kernel_rfl) (fun W hW => ?hy) ?_
        case hy => obtain ⟨hx0, hx1, hx2, hx3, hx4⟩ := KS.out W hW; go_simp; (try with_reducible rfl)
        simp only [Act.put, List.setIfInBounds_toArray, List.set_cons_zero, List.set_cons_succ]
        refine WQ.call (v := .bool r) (by kernel_rfl) (fun W hW => ?hy) (fun W hW => HVO2.out W hW) ?_
        case hy => go_simp; (try with_reducible rfl)
        simp only [Act.put, List.setIfInBounds_toArray, List.set_cons_zero, List.set_cons_succ]
        refine WQ.run (v := .bool (!r)) (by kernel_rfl) (fun W hW => ?hy) ?_
        case hy => go_simp
        simp only [Act.put, List.setIfInBounds_toArray, List.set_cons_zero, List.set_cons_succ]
        refine WQ.run (v := .bool (!r)) (by kernel_rfl) (fun W hW => ?hy) ?_
        case hy => go_simp
        simp only [Act.put, List.setIfInBounds_toArray, List.set_cons_zero, List.set_cons_succ]
        refine WQ.nil ?_
        intro wx hwx
        cases r
        · have hR : Hid (R = false) := by
            show _ = _
            cases R
            · rfl
            · exact absurd (Hr.out.2 (HNO.out (HR.out.1 rfl)).2.1) (by simp)
          go_wp2
          go_ret
          rw [hR.out]
          exact ⟨rfl, HB.out.trans (hwx.mono HB.out.size)⟩
        · have HK1 : Hid (EntsR es (k + 1)) := HNX.out hkr (Hr.out.1 rfl) (fun h => absurd h hp)
          go_wp2
          go_roundw
          case rel => exact ⟨k + 1, by go_num, by omega, HK1, HB.out.trans (hwx.mono HB.out.size)⟩
          case measure => simp [intOf]; omega
      have hp1 : decide ((0 : Int) < (k : Int)) = true := by simp; omega
      have hp2 : decide (0 < k) = true := by simp; omega
      obtain ⟨b', off', hbe, hbw', hd0, -⟩ := entriesAt_keep HF.out HB.out (k - 1) (by omega)
      obtain ⟨rfl, rfl⟩ : b = b' ∧ off = off' := by simpa using hbe
      obtain ⟨G, HG⟩ : ∃ G, Hid (es[k - 1].key = G) := ⟨_, hide rfl⟩
      rw [HG.out] at hd0
      clear hbe
      have hw : IntKind.i64.wrap ((k : Int) - 1) = ((k - 1 : Nat) : Int) := by rw [IntKind.wrap_i64]; omega
      have hj0 : (0 : Int) ≤ ((k - 1 : Nat) : Int) := by omega
      have hj1 : ((k - 1 : Nat) : Int) < (es.length : Int) := by omega
      have KG : Hid (∀ X, Below wr.heap.size wr X → X.cell? ⟨b, off + (k - 1) * 5, none⟩ = some (.string G)) := fun X hX => (hX.cell (p := ⟨b, off + (k - 1) * 5, none⟩) hbw).trans hd0
      cases hless : Op.bytesLess G.toList key.toList
      · have hno := hless
        have hR : Hid (R = false) := by
          show _ = _
          cases R
          · rfl
          · have h := (HNO.out (HR.out.1 rfl)).2.2 hp; rw [HG.out, hless] at h; cases h
        go_wp2
        go_quiet ((go_at_call 34; exact Calls.quiet_of_same (l01In_val _ _ _ _ _ h1)))
        go_wp2
        go_ret
        rw [hR.out]
        exact ⟨rfl, below_drewN HB.out _⟩
      · have hyes := hless
        go_wp2
        refine wp_region_quiet (C := fun W => Below wr.heap.size wr W) (by kernel_rfl) (by kernel_rfl) (Below.refl _ _).drew (WQ.out ?_)
        refine WQ.run (v := .slice (some ⟨b, off, none⟩) es.length cap) (by kernel_rfl) (fun W hW => ?hy) ?_
        case hy => go_simp
        simp only [Act.put, List.setIfInBounds_toArray, List.set_cons_zero, List.set_cons_succ]
        refine WQ.run (v := .int .i64 (k : Int)) (by kernel_rfl) (fun W hW => ?hy) ?_
        case hy => go_simp
        simp only [Act.put, List.setIfInBounds_toArray, List.set_cons_zero, List.set_cons_succ]
        refine WQ.run (v := .pointer (some ⟨b, off + k * 5, none⟩)) (by kernel_rfl) (fun W hW => ?hy) ?_
        case hy => go_simp
        simp only [Act.put, List.setIfInBounds_toArray, List.set_cons_zero, List.set_cons_succ]
        refine WQ.run (v := .pointer (some ⟨b, off + k * 5, none⟩)) (by kernel_rfl) (fun W hW => ?hy) ?_
        case hy => go_simp
        simp only [Act.put, List.setIfInBounds_toArray, List.set_cons_zero, List.set_cons_succ]
        refine WQ.run (v := .string key) (by kernel_rfl) (fun W hW => ?hy) ?_
        case hy => obtain ⟨hx0, hx1, hx2, hx3, hx4⟩ := KS.out W hW; go_simp
        simp only [Act.put, List.setIfInBounds_toArray, List.set_cons_zero, List.set_cons_succ]
        refine WQ.run (v := .int .i64 (key.size : Int)) (by kernel_rfl) (fun W hW => ?hy) ?_
        case hy => go_simp
        simp only [Act.put, List.setIfInBounds_toArray, List.set_cons_zero, List.set_cons_succ]
        refine WQ.call (v := .bool true) (by kernel_rfl) (fun W hW => ?hy) (fun W hW => L1.out W hW) ?_
        case hy => go_simp; (try with_reducible rfl)
        simp only [Act.put, List.setIfInBounds_toArray, List.set_cons_zero, List.set_cons_succ]
        refine WQ.run (v := .bool false) (by kernel_rfl) (fun W hW => ?hy) ?_
        case hy => go_simp
        simp only [Act.put, List.setIfInBounds_toArray, List.set_cons_zero, List.set_cons_succ]
        refine WQ.run (v := .bool false) (by kernel_rfl) (fun W hW => ?hy) ?_
        case hy => go_simp
        simp only [Act.put, List.setIfInBounds_toArray, List.set_cons_zero, List.set_cons_succ]
        refine WQ.run (v := .int .i64 (k : Int)) (by kernel_rfl) (fun W hW => ?hy) ?_
        case hy => go_simp
        simp only [Act.put, List.setIfInBounds_toArray, List.set_cons_zero, List.set_cons_succ]
        refine WQ.run (v := .bool true) (by kernel_rfl) (fun W hW => ?hy) ?_
        case hy => go_simp
        simp only [Act.put, List.setIfInBounds_toArray, List.set_cons_zero, List.set_cons_succ]
        refine WQ.run (v := .bool true) (by kernel_rfl) (fun W hW => ?hy) ?_
        case hy => go_simp
        simp only [Act.put, List.setIfInBounds_toArray, List.set_cons_zero, List.set_cons_succ]
        refine WQ.run (v := .slice (some ⟨b, off, none⟩) es.length cap) (by kernel_rfl) (fun W hW => ?hy) ?_
        case hy => go_simp
        simp only [Act.put, List.setIfInBounds_toArray, List.set_cons_zero, List.set_cons_succ]
        refine WQ.run (v := .int .i64 (k : Int)) (by kernel_rfl) (fun W hW => ?hy) ?_
        case hy => go_simp
        simp only [Act.put, List.setIfInBounds_toArray, List.set_cons_zero, List.set_cons_succ]
        refine WQ.run (v := .int .i64 ((k - 1 : Nat) : Int)) (by kernel_rfl) (fun W hW => ?hy) ?_
        case hy => go_simp
        simp only [Act.put, List.setIfInBounds_toArray, List.set_cons_zero, List.set_cons_succ]
        refine WQ.run (v := .pointer (some ⟨b, off + (k - 1) * 5, none⟩)) (by kernel_rfl) (fun W hW => ?hy) ?_
        case hy => go_simp
        simp only [Act.put, List.setIfInBounds_toArray, List.set_cons_zero, List.set_cons_succ]
        refine WQ.run (v := .pointer (some ⟨b, off + (k - 1) * 5, none⟩)) (by kernel_rfl) (fun W hW => ?hy) ?_
        case hy => go_simp
        simp only [Act.put, List.setIfInBounds_toArray, List.set_cons_zero, List.set_cons_succ]
        refine WQ.run (v := .string G) (by kernel_rfl) (fun W hW => ?hy) ?_
        case hy => have hx := KG.out W hW; go_simp
        simp only [Act.put, List.setIfInBounds_toArray, List.set_cons_zero, List.set_cons_succ]
        refine WQ.run (v := .slice (some ⟨b, off, none⟩) es.length cap) (by kernel_rfl) (fun W hW => ?hy) ?_
        case hy => go_simp
        simp only [Act.put, List.setIfInBounds_toArray, List.set_cons_zero, List.set_cons_succ]
        refine WQ.run (v := .int .i64 (k : Int)) (by kernel_rfl) (fun W hW => ?hy) ?_
        case hy => go_simp
        simp only [Act.put, List.setIfInBounds_toArray, List.set_cons_zero, List.set_cons_succ]
        refine WQ.run (v := .pointer (some ⟨b, off + k * 5, none⟩)) (by kernel_rfl) (fun W hW => ?hy) ?_
        case hy => go_simp
        simp only [Act.put, List.setIfInBounds_toArray, List.set_cons_zero, List.set_cons_succ]
        refine WQ.run (v := .pointer (some ⟨b, off + k * 5, none⟩)) (by kernel_rfl) (fun W hW => ?hy) ?_
        case hy => go_simp
        simp only [Act.put, List.setIfInBounds_toArray, List.set_cons_zero, List.set_cons_succ]
        refine WQ.run (v := .string key) (by kernel_rfl) (fun W hW => ?hy) ?_
        case hy => obtain ⟨hx0, hx1, hx2, hx3, hx4⟩ := KS.out W hW; go_simp
        simp only [Act.put, List.setIfInBounds_toArray, List.set_cons_zero, List.set_cons_succ]
        refine WQ.run (v := .bool false) (by kernel_rfl) (fun W hW => ?hy) ?_
        case hy => go_simp
        simp only [Act.put, List.setIfInBounds_toArray, List.set_cons_zero, List.set_cons_succ]
        refine WQ.run (v := .bool false) (by kernel_rfl) (fun W hW => ?hy) ?_
        case hy => go_simp
        simp only [Act.put, List.setIfInBounds_toArray, List.set_cons_zero, List.set_cons_succ]
        refine WQ.run (v := .bool false) (by kernel_rfl) (fun W hW => ?hy) ?_
        case hy => go_simp
        simp only [Act.put, List.setIfInBounds_toArray, List.set_cons_zero, List.set_cons_succ]
        refine WQ.run (v := .bool false) (by kernel_rfl) (fun W hW => ?hy) ?_
        case hy => go_simp
        simp only [Act.put, List.setIfInBounds_toArray, List.set_cons_zero, List.set_cons_succ]
        refine WQ.run (v := .slice (some ⟨b, off, none⟩) es.length cap) (by kernel_rfl) (fun W hW => ?hy) ?_
        case hy => go_simp
        simp only [Act.put, List.setIfInBounds_toArray, List.set_cons_zero, List.set_cons_succ]
        refine WQ.run (v := .int .i64 (k : Int)) (by kernel_rfl) (fun W hW => ?hy) ?_
        case hy => go_simp
        simp only [Act.put, List.setIfInBounds_toArray, List.set_cons_zero, List.set_cons_succ]
        refine WQ.run (v := .pointer (some ⟨b, off + k * 5, none⟩)) (by kernel_rfl) (fun W hW => ?hy) ?_
        case hy => go_simp
        simp only [Act.put, List.setIfInBounds_toArray, List.set_cons_zero, List.set_cons_succ]
        refine WQ.run (v := .pointer (some ⟨b, off + k * 5 + 1, none⟩)) (by kernel_rfl) (fun W hW => ?hy) ?_
        case hy => go_simp
        simp only [Act.put, List.setIfInBounds_toArray, List.set_cons_zero, List.set_cons_succ]
        refine WQ.run (v := .agg #[.int .i64 kd, .int .i64 u, .string t, .slice a ts.length c]) (by kernel_rfl) (fun W hW => ?hy) ?_
        case hy => obtain ⟨hx0, hx1, hx2, hx3, hx4⟩ := KS.out W hW; go_simp; (try with_reducible rfl)
        simp only [Act.put, List.setIfInBounds_toArray, List.set_cons_zero, List.set_cons_succ]
        refine WQ.call (v := .bool r) (by kernel_rfl) (fun W hW => ?hy) (fun W hW => HVO2.out W hW) ?_
        case hy => go_simp; (try with_reducible rfl)
        simp only [Act.put, List.setIfInBounds_toArray, List.set_cons_zero, List.set_cons_succ]
        refine WQ.run (v := .bool (!r)) (by kernel_rfl) (fun W hW => ?hy) ?_
        case hy => go_simp
        simp only [Act.put, List.setIfInBounds_toArray, List.set_cons_zero, List.set_cons_succ]
        refine WQ.run (v := .bool (!r)) (by kernel_rfl) (fun W hW => ?hy) ?_
        case hy => go_simp
        simp only [Act.put, List.setIfInBounds_toArray, List.set_cons_zero, List.set_cons_succ]
        refine WQ.nil ?_
        intro wx hwx
        cases r
        · have hR : Hid (R = false) := by
            show _ = _
            cases R
            · rfl
            · exact absurd (Hr.out.2 (HNO.out (HR.out.1 rfl)).2.1) (by simp)
          go_wp2
          go_ret
          rw [hR.out]
          exact ⟨rfl, HB.out.trans (hwx.mono HB.out.size)⟩
        · have HK1 : Hid (EntsR es (k + 1)) := HNX.out hkr (Hr.out.1 rfl) (fun _ => by rw [HG.out]; exact hless)
          go_wp2
          go_roundw
          case rel => exact ⟨k + 1, by go_num, by omega, HK1, HB.out.trans (hwx.mono HB.out.size)⟩
          case measure => simp [intOf]; omega
    · have hlt' : decide ((k : Int) < (es.length : Int)) = false := by simp; omega
      have hke : k = es.length := by omega
      subst hke
      have hR : Hid (R = true) := HR.out.2 (tabR_of (by omega) HK.out)
      go_wp2
      go_ret
      rw [hR.out]
      exact ⟨rfl, HB.out⟩
end Go.Proofs.Ytbenmgokhklnjaa
