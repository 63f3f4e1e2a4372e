/- The law of ValText. -/
import Derived.Test.YtiokajdkgkpeiaaValL
import Derived.Test.YtiokajdkgkpeiaaValTS
import Derived.Test.YtiokajdkgkpeiaaValTI
namespace Go.Proofs.Ytiokajdkgkpeiaa
open Go.RowKit

set_option maxRecDepth 100000 in
set_option maxHeartbeats 1600000 in
theorem lawValText (v : ValD) (ao : Option Addr) (cap : Nat) (w : World) (ht0 : v.text.size ≤ maxLen) (hl0 : v.items.length ≤ maxLen) (hts : TextsAt w ao v.items) (hsz0 : ∀ s ∈ v.items, s.size ≤ maxLen) :
    Calls Try.prog 5 #[.agg #[.int .i64 v.kind, .int .i64 v.til, .string v.text, .slice ao v.items.length cap]] w fun e w' => e = .returned (.bool true) ∧ Below w.heap.size w w' := by
  have HT := hide hts
  have HS := hide hsz0
  clear hts hsz0
  obtain ⟨R, HR⟩ : ∃ R : Bool, Hid (R = true ↔ ValR v) := by classical exact ⟨decide (ValR v), by show _ ↔ _; simp⟩
  have HN := hide (szValD_small (v := v) (n := 1048576) (by omega) (by omega))
  have HSP := hide (fun a c W h1 h2 h3 h4 => specValText_any v a c W R HR.out h1 h2 h3 h4)
  have HIM := hide (fun a c W h1 h2 h3 h4 => implValText_any v a c W R HR.out h1 h2 h3 h4)
  have HSZ := hide (fun a c W h3 => szVal_any v a c 1048576 W (by decide) (by decide) ht0 hl0 h3 HS.out)
  have HTO := hide (fun a c W h1 h2 => toVal_any v a c W h1 h2)
  have HEQ := hide (fun a a2 c c2 W h1 h2 => eqVal_same v a a2 c c2 W hl0 h1 h2)
  clear HR
  generalize cond R (valT v) ⟨#[]⟩ = T at HSP HIM
  generalize szValD v 1048576 = r at HN HSZ
  obtain ⟨k, u, t, ts⟩ := v
  simp only at ht0 hl0 HT HS HN HSP HIM HSZ HTO HEQ ⊢
  obtain ⟨wA, hwA⟩ : ∃ wA, wA = w.alloc (.cells #[.int .i64 k, .int .i64 u, .string t, .slice ao ts.length cap] 24) := ⟨_, rfl⟩
  have HA : Hid (Below w.heap.size w wA) := by rw [hwA]; exact (Below.refl _ w).alloc (Nat.le_refl _) _
  have hAs : wA.heap.size = w.heap.size + 1 := by rw [hwA]; simp
  have HAs := hide hAs
  have PA : Hid (wA.heap[w.heap.size]? = some (.cells #[.int .i64 k, .int .i64 u, .string t, .slice ao ts.length cap] 24 (0, 0))) := by rw [hwA]; exact heap_alloc_new _ _
  clear hAs
  go_enter Try.func5, Try.ntmps5
  go_wp2_with fail
  rw [← hwA]
  clear hwA
  refine (HSZ.out _ _ _ (textsAt_keep HT.out HA.out)).mono ?_
  rintro e w1 ⟨rfl, b1⟩
  have HB1 := hide b1
  clear b1
  by_cases hneg : r < 0
  · have hneg' : decide (r < 0) = true := by simp; omega
    go_wp2
    go_ret
    exact ⟨rfl, HA.out.trans (HB1.out.mono HA.out.size)⟩
  have hneg' : decide (r < 0) = false := by simp; omega
  obtain ⟨ht1, hl1, hs1⟩ := HN.out (by omega)
  have HS1 := hide hs1
  clear hs1
  have P1 := hide (val_keep PA.out HB1.out (by have := HAs.out; omega))
  obtain ⟨p0, p1, p2, p3⟩ := val_cells P1.out
  have W1 := hide (HA.out.trans (HB1.out.mono HA.out.size))
  go_wp2_with fail
  refine (HTO.out _ _ _ hl1 (textsAt_keep HT.out W1.out)).mono ?_
  rintro e w2 ⟨⟨x2, rfl, hr2⟩, b2⟩
  obtain ⟨a2, c2, rfl, hx2⟩ := rowText_at hr2
  have HX2 := hide hx2
  have HB2 := hide b2
  clear hr2 b2 hx2
  go_wp2_with fail
  refine (HSP.out _ _ _ hl1 ht0 HX2.out HS.out).mono ?_
  rintro e w3 ⟨rfl, b3⟩
  have HB3 := hide (HB2.out.trans (b3.mono HB2.out.size))
  clear b3 p0 p1 p2 p3
  have P3 := hide (val_keep P1.out HB3.out (obj_lt P1.out))
  obtain ⟨p0, p1, p2, p3⟩ := val_cells P3.out
  have W3 := hide (W1.out.trans (HB3.out.mono W1.out.size))
  go_wp2_with fail
  refine (HTO.out _ _ _ hl1 (textsAt_keep HT.out W3.out)).mono ?_
  rintro e w4 ⟨⟨x4, rfl, hr4⟩, b4⟩
  obtain ⟨a4, c4, rfl, hx4⟩ := rowText_at hr4
  have HX4 := hide hx4
  have HB4 := hide b4
  clear hr4 b4 hx4 p0 p1 p2 p3
  obtain ⟨wX, hwX⟩ : ∃ wX, wX = w4.alloc (.cells #[.int .i64 k, .int .i64 u, .string t, .slice a4 ts.length c4] 27) := ⟨_, rfl⟩
  have HX : Hid (Below w4.heap.size w4 wX) := by rw [hwX]; exact (Below.refl _ w4).alloc (Nat.le_refl _) _
  have PX : Hid (wX.heap[w4.heap.size]? = some (.cells #[.int .i64 k, .int .i64 u, .string t, .slice a4 ts.length c4] 27 (0, 0))) := by rw [hwX]; exact heap_alloc_new _ _
  have W4 := hide (W3.out.trans (HB4.out.mono W3.out.size))
  have WX := hide (W4.out.trans (HX.out.mono W4.out.size))
  go_wp2_with fail
  rw [← hwX]
  clear hwX
  refine (HIM.out _ _ _ hl1 ht0 (textsAt_keep HX4.out HX.out) HS.out).mono ?_
  rintro e w5 ⟨rfl, b5⟩
  have HB5 := hide b5
  have PX5 := hide (val_keep PX.out b5 (obj_lt PX.out))
  have PA5 := hide (val_keep (val_keep (val_keep P3.out HB4.out (obj_lt P3.out)) HX.out (Nat.lt_of_lt_of_le (obj_lt P3.out) HB4.out.size)) b5 (Nat.lt_of_lt_of_le (Nat.lt_of_lt_of_le (obj_lt P3.out) HB4.out.size) HX.out.size))
  have W5 := hide (WX.out.trans (b5.mono WX.out.size))
  clear b5
  have HX5 := hide (textsAt_keep (textsAt_keep HX4.out HX.out) HB5.out)
  have hRR : (R == R) = true := beq_self_eq_true _
  have hTT : (T.toList == T.toList) = true := beq_self_eq_true _
  have KS : Hid (∀ X, Below w5.heap.size w5 X → (X.cell? ⟨w.heap.size, 0, none⟩ = some (.int .i64 k) ∧ X.cell? ⟨w.heap.size, 1, none⟩ = some (.int .i64 u) ∧ X.cell? ⟨w.heap.size, 2, none⟩ = some (.string t) ∧ X.cell? ⟨w.heap.size, 3, none⟩ = some (.slice ao ts.length cap)) ∧ (X.cell? ⟨w4.heap.size, 0, none⟩ = some (.int .i64 k) ∧ X.cell? ⟨w4.heap.size, 1, none⟩ = some (.int .i64 u) ∧ X.cell? ⟨w4.heap.size, 2, none⟩ = some (.string t) ∧ X.cell? ⟨w4.heap.size, 3, none⟩ = some (.slice a4 ts.length c4))) :=
    fun X hX => ⟨val_cells (val_keep PA5.out hX (obj_lt PA5.out)), val_cells (val_keep PX5.out hX (obj_lt PX5.out))⟩
  have HTX : Hid (∀ W, Below w5.heap.size w5 W → Calls Try.prog 11 #[.agg #[.int .i64 k, .int .i64 u, .string t, .slice ao ts.length cap]] W fun e w' => (∃ x, e = .returned (.agg #[.int .i64 k, .int .i64 u, .string t, x]) ∧ RowText w' W.heap.size x ts) ∧ Below W.heap.size W w') := fun W hW => HTO.out _ _ W hl1 (textsAt_keep HT.out (W5.out.trans (hW.mono W5.out.size)))
  have HEX : Hid (∀ W a c, Below w5.heap.size w5 W → TextsAt W a ts → Calls Try.prog 13 #[.agg #[.int .i64 k, .int .i64 u, .string t, .slice a4 ts.length c4], .agg #[.int .i64 k, .int .i64 u, .string t, .slice a ts.length c]] W fun e w' => e = .returned (.bool true) ∧ Below W.heap.size W w') := fun W a c hW h => HEQ.out _ _ _ _ W (textsAt_keep HX5.out hW) h
  go_wp2_with fail
  go_region_held3 (fun X => (X.cell? ⟨w.heap.size, 0, none⟩ = some (.int .i64 k) ∧ X.cell? ⟨w.heap.size, 1, none⟩ = some (.int .i64 u) ∧ X.cell? ⟨w.heap.size, 2, none⟩ = some (.string t) ∧ X.cell? ⟨w.heap.size, 3, none⟩ = some (.slice ao ts.length cap)) ∧ (X.cell? ⟨w4.heap.size, 0, none⟩ = some (.int .i64 k) ∧ X.cell? ⟨w4.heap.size, 1, none⟩ = some (.int .i64 u) ∧ X.cell? ⟨w4.heap.size, 2, none⟩ = some (.string t) ∧ X.cell? ⟨w4.heap.size, 3, none⟩ = some (.slice a4 ts.length c4))) (first | (exact KS.out _ (Below.refl _ _)) | (exact KS.out _ (Below.refl _ _).drew) | (exact KS.out _ e7) | (exact KS.out _ e6) | fail) ((first | (go_at_call 13; refine (HEX.out _ _ _ e6 h6).mono ?_; rintro e w7 ⟨rfl, b7⟩; have e7 := e6.trans (b7.mono e6.size)) | (go_at_call 11; refine (HTX.out _ (by first | exact Below.refl _ _ | exact (Below.refl _ _).drew)).mono ?_; rintro e w6 ⟨⟨x6, rfl, r6⟩, b6⟩; obtain ⟨a6, c6, rfl, h6⟩ := rowText_at r6; have e6 := (Below.refl _ _).drew.trans b6) | fail))
  have E7 := hide e7
  clear b6 e6 b7 e7 r6 h6
  go_wp2
  go_ret
  exact ⟨rfl, W5.out.trans (E7.out.mono W5.out.size)⟩
end Go.Proofs.Ytiokajdkgkpeiaa
