import Derived.OpenShut
import Derived.Test.YtpibnhodlojajaaFl4
import Derived.Test.YtpibnhodlojajaaFl5
import Derived.Test.YtpibnhodlojajaaFl6
import Derived.Test.YtpibnhodlojajaaFl0
set_option maxRecDepth 100000
set_option maxHeartbeats 6400000
namespace Go.Proofs.Ytpibnhodlojajaa
open Go.RowKit
theorem tab_ents {es : List EntD} (h : TabR es) : es.length ≤ 1048576 ∧ ∀ e ∈ es, EntS 1048576 e := by
  refine ⟨by have := h.1; omega, fun e he => ?_⟩
  obtain ⟨h1, h2⟩ := tab_all h e he
  obtain ⟨-, -, -, -, g1, g2, g3⟩ := valR_bounds h2
  exact ⟨by omega, by omega, by omega, fun s hs => by have := g3 s hs; omega⟩
theorem live_walk (w : World) (ao : Option Addr) (len cap : Nat) (hcode : len ≤ 1048576 → Code w ao len) :
    Calls Try.prog 4 #[.slice ao len cap] w fun e w' => e = .returned (.bool true) ∧ Below w.heap.size w w' := by
  by_cases hlen : len ≤ 1048576
  case neg =>
    have hbig : decide (1048576 < (len : Int)) = true := by simp; omega
    go_enter Try.func4, Try.ntmps4
    go_wp2_with fail
    refine (big_any _ ao len cap).mono ?_
    rintro e w1 ⟨rfl, rfl⟩
    rw [hbig]
    go_wp2
    go_ret
    exact ⟨rfl, Below.refl _ _⟩
  have hbig : decide (1048576 < (len : Int)) = false := by simp; omega
  have HC := hide (hcode hlen)
  clear hcode
  go_enter Try.func4, Try.ntmps4
  go_wp2_with fail
  refine (big_any _ ao len cap).mono ?_
  rintro e w1 ⟨rfl, rfl⟩
  rw [hbig]
  clear hbig
  go_wp2_with fail
  refine (drawTables_any _ ao len cap hlen HC.out).mono ?_
  rintro e w2 ⟨⟨es, fs, v2, u2, B2, rfl, ⟨hT, hU, hK3⟩, -, r2, r2u, -⟩, b2⟩
  obtain ⟨a2, c2, rfl, h2⟩ := rowEnt_at r2
  obtain ⟨a2u, c2u, rfl, -⟩ := rowEnt_at r2u
  have HX2 := hide h2
  have W2 := hide b2
  obtain ⟨hl, hS⟩ := tab_ents hT
  have HS := hide hS
  have HTR := hide hT
  have HU := hide hU
  have HK3 := hide hK3
  clear r2 r2u h2 b2 hS hT hU hK3
  go_wp2_with fail
  refine (drawPlaces_any _ ao len cap hlen (code_keep HC.out W2.out)).mono ?_
  rintro e w3 ⟨v3, zs, rfl, hz12, hzs, o3, b3⟩
  obtain ⟨z0, zr, rfl⟩ : ∃ z0 zr, zs = z0 :: zr := by
    cases zs with
    | nil => simp at hz12
    | cons a r => exact ⟨a, r, rfl⟩
  have hz0 := hzs z0 (by simp)
  have B3 := hide b3
  have W3 := hide (W2.out.trans (b3.mono W2.out.size))
  obtain ⟨g3, cp3, rfl, hc3⟩ : ∃ g3 cp3, v3 = .slice (some ⟨g3, 0, none⟩) 12 cp3 ∧ w3.cell? ⟨g3, 0, none⟩ = some (.int .i64 (z0 : Int)) := by
    rcases o3.2 with ⟨rfl, hn⟩ | ⟨q, cq, cur, rfl, _⟩
    · cases hn
    · refine ⟨q, cq, rfl, ?_⟩
      rw [o3.cellAt 0 (by omega)]
      rfl
  clear b3 o3 hzs hz12
  obtain ⟨now, hnow⟩ : ∃ now : Int, ((z0 % 45 : Nat) : Int) = now := ⟨_, rfl⟩
  have hrem : Int.tmod (z0 : Int) 45 = now := by rw [← hnow]; rfl
  have hn0 : 0 ≤ now := by omega
  have HLV := hide (fun a c W (h : EntriesAt W a es) => implLive_any es now a c W hl h HS.out)
  have HTL := hide (tab_live now HTR.out)
  have HFL := hide (fun k (hk : k < es.length) => tab_find_live now HTR.out hk)
  have HFT := hide (fun k (hk : k < es.length) => tab_find HTR.out hk)
  obtain ⟨L, HL⟩ : ∃ L, Hid (liveDs now es = L) := ⟨_, hide rfl⟩
  rw [HL.out] at HLV HTL HFL
  obtain ⟨hlL, hSL⟩ := tab_ents HTL.out
  have HSL := hide hSL
  clear hSL
  have HX3 := hide (entriesAt_keep HX2.out B3.out)
  go_wp2_with fail
  refine (HLV.out _ _ _ HX3.out).mono ?_
  rintro e w4 ⟨⟨v4, rfl, r4⟩, b4⟩
  obtain ⟨a4, c4, rfl, h4⟩ := rowEnt_at r4
  have HXL := hide h4
  have HXT := hide (entriesAt_keep HX3.out b4)
  have W4 := hide (W3.out.trans (b4.mono W3.out.size))
  clear r4 h4 b4 hc3 hrem hnow
  go_wp2_with fail
  go_loopw [7, 8] (fun nn ii wr => ∃ (k n : Nat), ii = .int .i64 (k : Int) ∧ nn = .int .i64 (n : Int) ∧ k ≤ es.length ∧ n ≤ k ∧ Hid (n = (liveDs now (es.take k)).length) ∧ Hid (Below w4.heap.size w4 wr)) (fun _ ii _ => es.length - (intOf ii).toNat)
  case atStart => exact ⟨0, 0, rfl, rfl, by omega, by omega, hide rfl, Below.refl _ _⟩
  case round =>
    obtain ⟨k, n, rfl, rfl, hk, hnk, HN, HB⟩ := hrel
    by_cases hlt : k < es.length
    · have hlt' : decide ((k : Int) < (es.length : Int)) = true := by simp; omega
      have hes20 : es.length ≤ 20 := HTR.out.1
      have HTX : Hid (∀ X, Below wr.heap.size wr X → EntriesAt X a2 es) := fun X hX => entriesAt_keep HXT.out (HB.out.trans (hX.mono HB.out.size))
      have HLX : Hid (∀ X, Below wr.heap.size wr X → EntriesAt X a4 L) := fun X hX => entriesAt_keep HXL.out (HB.out.trans (hX.mono HB.out.size))
      obtain ⟨b, off, rfl, hbw, hc0, hc1, hc2, hc3, a, c, hc4, hta⟩ := HTX.out wr (Below.refl _ _) k hlt
      have KS : Hid (∀ X, Below wr.heap.size wr X → X.cell? ⟨b, off + k * 5, none⟩ = some (.string es[k].key) ∧ X.cell? ⟨b, off + k * 5 + 1, none⟩ = some (.int .i64 es[k].val.kind) ∧ X.cell? ⟨b, off + k * 5 + 2, none⟩ = some (.int .i64 es[k].val.til) ∧ X.cell? ⟨b, off + k * 5 + 3, none⟩ = some (.string es[k].val.text) ∧ X.cell? ⟨b, off + k * 5 + 4, none⟩ = some (.slice a es[k].val.items.length c)) :=
        fun X hX => ⟨(hX.cell (p := ⟨b, off + k * 5, none⟩) hbw).trans hc0, (hX.cell (p := ⟨b, off + k * 5 + 1, none⟩) hbw).trans hc1, (hX.cell (p := ⟨b, off + k * 5 + 2, none⟩) hbw).trans hc2, (hX.cell (p := ⟨b, off + k * 5 + 3, none⟩) hbw).trans hc3, (hX.cell (p := ⟨b, off + k * 5 + 4, none⟩) hbw).trans hc4⟩
      have HTA : Hid (∀ X, Below wr.heap.size wr X → TextsAt X a es[k].val.items) := fun X hX => textsAt_keep hta hX
      have hvr := (tab_all HTR.out es[k] (List.getElem_mem hlt)).2
      have hvb := valR_bounds hvr
      obtain ⟨al, HAL⟩ : ∃ al, Hid (aliveB now es[k] = al) := ⟨_, hide rfl⟩
      have hdead : (decide (0 < es[k].val.til) && decide (es[k].val.til ≤ now)) = !al := by
        rw [← HAL.out]
        unfold aliveB
        have := hvb.2.2.1
        by_cases h0 : es[k].val.til = 0
        · simp [h0]
        · have h1 : 0 < es[k].val.til := by omega
          by_cases h2 : es[k].val.til ≤ now
          · have h3 : ¬ now < es[k].val.til := by omega
            simp [h0, h1, h2, h3]
          · have h3 : now < es[k].val.til := by omega
            simp [h1, h2, h3]
      have HF1 := hide (fun X (hX : Below wr.heap.size wr X) => implFind_any L es[k].key a4 c4 X hlL (HLX.out X hX) HSL.out)
      have HF2 := hide (fun X (hX : Below wr.heap.size wr X) => implFind_any es es[k].key (some ⟨b, off, none⟩) c2 X hl (HTX.out X hX) HS.out)
      have e1 : findV L es[k].key = cond al es[k].val noVal ∧ findB L es[k].key = al := by
        unfold findV findB
        rw [HFL.out k hlt, HAL.out]
        cases al <;> exact ⟨rfl, rfl⟩
      have e2 : findV es es[k].key = es[k].val ∧ findB es es[k].key = true := by
        unfold findV findB
        rw [HFT.out k hlt]
        exact ⟨rfl, rfl⟩
      rw [e1.1, e1.2] at HF1
      rw [e2.1, e2.2] at HF2
      have HNX : Hid ((liveDs now (es.take (k + 1))).length = n + cond al 1 0) := by
        show _ = _
        rw [HN.out]
        cases al
        · rw [liveDs_no hlt HAL.out]; rfl
        · rw [liveDs_yes hlt HAL.out, List.length_append]; rfl
      have HSM := hide (fun a2 c2 X (k1 : TextsAt X a2 es[k].val.items) (k2 : TextsAt X a es[k].val.items) => sameVal_same es[k].val a2 a c2 c X (by have := hvb.2.2.2.2.2.1; unfold maxLen; omega) k1 k2)
      clear e1 e2 hvr hvb HAL
      generalize es[k] = F at hc0 hc1 hc2 hc3 hc4 KS HTA hdead HF1 HF2 HSM
      clear hta
      obtain ⟨ky, kd, u, t, ts⟩ := F
      simp only at hc0 hc1 hc2 hc3 hc4 KS HTA hdead HF1 HF2 HSM
      have hi0 : (0 : Int) ≤ (k : Int) := by omega
      have hi1 : (k : Int) < (es.length : Int) := by omega
      obtain ⟨V, HV⟩ : ∃ V, Hid (cond al ⟨kd, u, t, ts⟩ noVal = V) := ⟨_, hide rfl⟩
      rw [HV.out] at HF1
      go_wp2_with fail
      refine (HF1.out _ (Below.refl _ _)).mono ?_
      rintro e w5 ⟨⟨a5, c5, rfl, r5⟩, b5⟩
      have R5 := hide r5
      have E5 := hide b5
      clear r5 b5
      obtain ⟨w6, hw6⟩ : ∃ w6, w6 = w5.alloc (.cells #[.int .i64 V.kind, .int .i64 V.til, .string V.text, .slice a5 V.items.length c5] 38) := ⟨_, rfl⟩
      have B56 : Hid (Below w5.heap.size w5 w6) := by rw [hw6]; exact (Below.refl _ w5).alloc (Nat.le_refl _) _
      have P6 : Hid (w6.heap[w5.heap.size]? = some (.cells #[.int .i64 V.kind, .int .i64 V.til, .string V.text, .slice a5 V.items.length c5] 38 (0, 0))) := by rw [hw6]; exact heap_alloc_new _ _
      have E6 := hide (E5.out.trans (B56.out.mono E5.out.size))
      have R6 := hide (rowText_below R5.out B56.out)
      clear hc0 hc1 hc2 hc3 hc4
      obtain ⟨hc0, hc1, hc2, hc3, hc4⟩ := KS.out _ E6.out
      go_upto_region 11 with fail
      rw [← hw6]
      clear hw6
      go_wp2_with fail
      refine (HF2.out _ E6.out).mono ?_
      rintro e w7 ⟨⟨a7, c7, rfl, r7⟩, b7⟩
      have R7 := hide r7
      have B67 := hide b7
      have E7 := hide (E6.out.trans (b7.mono E6.out.size))
      clear r7 b7
      obtain ⟨w8, hw8⟩ : ∃ w8, w8 = w7.alloc (.cells #[.int .i64 kd, .int .i64 u, .string t, .slice a7 ts.length c7] 38) := ⟨_, rfl⟩
      have B78 : Hid (Below w7.heap.size w7 w8) := by rw [hw8]; exact (Below.refl _ w7).alloc (Nat.le_refl _) _
      have P8 : Hid (w8.heap[w7.heap.size]? = some (.cells #[.int .i64 kd, .int .i64 u, .string t, .slice a7 ts.length c7] 38 (0, 0))) := by rw [hw8]; exact heap_alloc_new _ _
      have E8 := hide (E7.out.trans (B78.out.mono E7.out.size))
      have B68 := hide (B67.out.trans (B78.out.mono B67.out.size))
      have R8 := hide (rowText_below R7.out B78.out)
      have P68 := hide ((B68.out.block _ (obj_lt P6.out)).trans P6.out)
      have R68 := hide (rowText_below R6.out B68.out)
      clear hc0 hc1 hc2 hc3 hc4
      obtain ⟨hc0, hc1, hc2, hc3, hc4⟩ := KS.out _ E8.out
      go_upto_region 12 with fail
      rw [← hw8]
      clear hw8
      have KQ : Hid (∀ X, Below w8.heap.size w8 X → X.cell? ⟨b, off + k * 5 + 1, none⟩ = some (.int .i64 kd) ∧ X.cell? ⟨b, off + k * 5 + 2, none⟩ = some (.int .i64 u) ∧ X.cell? ⟨b, off + k * 5 + 3, none⟩ = some (.string t) ∧ X.cell? ⟨b, off + k * 5 + 4, none⟩ = some (.slice a ts.length c)) := fun X hX => (KS.out X (E8.out.trans (hX.mono E8.out.size))).2
      have KP : Hid (∀ X, Below w8.heap.size w8 X → X.cell? ⟨w7.heap.size, 0, none⟩ = some (.int .i64 kd) ∧ X.cell? ⟨w7.heap.size, 1, none⟩ = some (.int .i64 u) ∧ X.cell? ⟨w7.heap.size, 2, none⟩ = some (.string t) ∧ X.cell? ⟨w7.heap.size, 3, none⟩ = some (.slice a7 ts.length c7)) := fun X hX => val_cells ((hX.block _ (obj_lt P8.out)).trans P8.out)
      have KR : Hid (∀ X, Below w8.heap.size w8 X → X.cell? ⟨w5.heap.size, 0, none⟩ = some (.int .i64 V.kind) ∧ X.cell? ⟨w5.heap.size, 1, none⟩ = some (.int .i64 V.til) ∧ X.cell? ⟨w5.heap.size, 2, none⟩ = some (.string V.text) ∧ X.cell? ⟨w5.heap.size, 3, none⟩ = some (.slice a5 V.items.length c5)) := fun X hX => val_cells ((hX.block _ (obj_lt P68.out)).trans P68.out)
      have L1 : Hid (∀ X, Below w8.heap.size w8 X → Calls Try.prog 16 #[.agg #[.int .i64 kd, .int .i64 u, .string t, .slice a7 ts.length c7], .agg #[.int .i64 kd, .int .i64 u, .string t, .slice a ts.length c]] X fun e w' => e = .returned (.bool true) ∧ Below w8.heap.size w8 w') := fun X hX => (HSM.out a7 c7 X (textsAt_keep (rowText_rows R8.out) hX) (HTA.out X (E8.out.trans (hX.mono E8.out.size)))).mono (fun e w' h => ⟨h.1, hX.trans (h.2.mono hX.size)⟩)
      have hcase : (al = true ∧ decide (0 < u) = false) ∨ (al = true ∧ decide (0 < u) = true ∧ decide (u ≤ now) = false) ∨ (al = false ∧ decide (0 < u) = true ∧ decide (u ≤ now) = true) := by
        cases al <;> cases h1 : decide (0 < u) <;> cases h2 : decide (u ≤ now) <;> rw [h1, h2] at hdead <;> simp at hdead ⊢
      clear hdead
      rcases hcase with ⟨rfl, hd0⟩ | ⟨rfl, hd0, hd1⟩ | ⟨rfl, hd0, hd1⟩
      · have HVV : Hid (⟨kd, u, t, ts⟩ = V) := HV.out
        obtain rfl := HVV.out
        simp only at KR R68
        have L2 : Hid (∀ X, Below w8.heap.size w8 X → Calls Try.prog 16 #[.agg #[.int .i64 kd, .int .i64 u, .string t, .slice a5 ts.length c5], .agg #[.int .i64 kd, .int .i64 u, .string t, .slice a ts.length c]] X fun e w' => e = .returned (.bool true) ∧ Below w8.heap.size w8 w') := fun X hX => (HSM.out a5 c5 X (textsAt_keep (rowText_rows R68.out) hX) (HTA.out X (E8.out.trans (hX.mono E8.out.size)))).mono (fun e w' h => ⟨h.1, hX.trans (h.2.mono hX.size)⟩)
        go_upto_region 13 with fail
        refine wp_region_quiet (C := fun W => Below w8.heap.size w8 W) (by kernel_rfl) (by kernel_rfl) (Below.refl _ _).drew (WQ.out ?_)
        refine WQ.run (v := .bool true) (by kernel_rfl) (fun W hW => ?hy) ?_
        case hy => go_simp
        simp only [Act.put, List.setIfInBounds_toArray, List.set_cons_zero, List.set_cons_succ]
        refine WQ.run (v := .bool false) (by kernel_rfl) (fun W hW => ?hy) ?_
        case hy => go_simp
        simp only [Act.put, List.setIfInBounds_toArray, List.set_cons_zero, List.set_cons_succ]
        refine WQ.run (v := .bool false) (by kernel_rfl) (fun W hW => ?hy) ?_
        case hy => go_simp
        simp only [Act.put, List.setIfInBounds_toArray, List.set_cons_zero, List.set_cons_succ]
        refine WQ.run (v := .bool false) (by kernel_rfl) (fun W hW => ?hy) ?_
        case hy => go_simp
        simp only [Act.put, List.setIfInBounds_toArray, List.set_cons_zero, List.set_cons_succ]
        refine WQ.run (v := .bool true) (by kernel_rfl) (fun W hW => ?hy) ?_
        case hy => go_simp
        simp only [Act.put, List.setIfInBounds_toArray, List.set_cons_zero, List.set_cons_succ]
        refine WQ.run (v := .bool false) (by kernel_rfl) (fun W hW => ?hy) ?_
        case hy => go_simp
        simp only [Act.put, List.setIfInBounds_toArray, List.set_cons_zero, List.set_cons_succ]
        refine WQ.run (v := .bool false) (by kernel_rfl) (fun W hW => ?hy) ?_
        case hy => go_simp
        simp only [Act.put, List.setIfInBounds_toArray, List.set_cons_zero, List.set_cons_succ]
        refine WQ.run (v := .bool false) (by kernel_rfl) (fun W hW => ?hy) ?_
        case hy => go_simp
        simp only [Act.put, List.setIfInBounds_toArray, List.set_cons_zero, List.set_cons_succ]
        refine WQ.run (v := .agg #[.int .i64 kd, .int .i64 u, .string t, .slice a7 ts.length c7]) (by kernel_rfl) (fun W hW => ?hy) ?_
        case hy => obtain ⟨x1, x2, x3, x4⟩ := KP.out W hW; go_simp; (try with_reducible rfl)
        simp only [Act.put, List.setIfInBounds_toArray, List.set_cons_zero, List.set_cons_succ]
        refine WQ.run (v := .slice (some ⟨b, off, none⟩) es.length c2) (by kernel_rfl) (fun W hW => ?hy) ?_
        case hy => go_simp
        simp only [Act.put, List.setIfInBounds_toArray, List.set_cons_zero, List.set_cons_succ]
        refine WQ.run (v := .int .i64 (k : Int)) (by kernel_rfl) (fun W hW => ?hy) ?_
        case hy => go_simp
        simp only [Act.put, List.setIfInBounds_toArray, List.set_cons_zero, List.set_cons_succ]
        refine WQ.run (v := .pointer (some ⟨b, off + k * 5, none⟩)) (by kernel_rfl) (fun W hW => ?hy) ?_
        case hy => go_simp
        simp only [Act.put, List.setIfInBounds_toArray, List.set_cons_zero, List.set_cons_succ]
        refine WQ.run (v := .pointer (some ⟨b, off + k * 5 + 1, none⟩)) (by kernel_rfl) (fun W hW => ?hy) ?_
        case hy => go_simp
        simp only [Act.put, List.setIfInBounds_toArray, List.set_cons_zero, List.set_cons_succ]
        refine WQ.run (v := .agg #[.int .i64 kd, .int .i64 u, .string t, .slice a ts.length c]) (by kernel_rfl) (fun W hW => ?hy) ?_
        case hy => obtain ⟨x1, x2, x3, x4⟩ := KQ.out W hW; go_simp; (try with_reducible rfl)
        simp only [Act.put, List.setIfInBounds_toArray, List.set_cons_zero, List.set_cons_succ]
        refine WQ.call (v := .bool true) (by kernel_rfl) (fun W hW => ?hy) (fun W hW => L1.out W hW) ?_
        case hy => go_simp; (try with_reducible rfl)
        simp only [Act.put, List.setIfInBounds_toArray, List.set_cons_zero, List.set_cons_succ]
        refine WQ.run (v := .bool false) (by kernel_rfl) (fun W hW => ?hy) ?_
        case hy => go_simp
        simp only [Act.put, List.setIfInBounds_toArray, List.set_cons_zero, List.set_cons_succ]
        refine WQ.run (v := .bool false) (by kernel_rfl) (fun W hW => ?hy) ?_
        case hy => go_simp
        simp only [Act.put, List.setIfInBounds_toArray, List.set_cons_zero, List.set_cons_succ]
        refine WQ.run (v := .bool false) (by kernel_rfl) (fun W hW => ?hy) ?_
        case hy => go_simp
        simp only [Act.put, List.setIfInBounds_toArray, List.set_cons_zero, List.set_cons_succ]
        refine WQ.run (v := .bool true) (by kernel_rfl) (fun W hW => ?hy) ?_
        case hy => go_simp
        simp only [Act.put, List.setIfInBounds_toArray, List.set_cons_zero, List.set_cons_succ]
        refine WQ.run (v := .bool true) (by kernel_rfl) (fun W hW => ?hy) ?_
        case hy => go_simp
        simp only [Act.put, List.setIfInBounds_toArray, List.set_cons_zero, List.set_cons_succ]
        refine WQ.run (v := .agg #[.int .i64 kd, .int .i64 u, .string t, .slice a5 ts.length c5]) (by kernel_rfl) (fun W hW => ?hy) ?_
        case hy => obtain ⟨x1, x2, x3, x4⟩ := KR.out W hW; go_simp; (try with_reducible rfl)
        simp only [Act.put, List.setIfInBounds_toArray, List.set_cons_zero, List.set_cons_succ]
        refine WQ.run (v := .slice (some ⟨b, off, none⟩) es.length c2) (by kernel_rfl) (fun W hW => ?hy) ?_
        case hy => go_simp
        simp only [Act.put, List.setIfInBounds_toArray, List.set_cons_zero, List.set_cons_succ]
        refine WQ.run (v := .int .i64 (k : Int)) (by kernel_rfl) (fun W hW => ?hy) ?_
        case hy => go_simp
        simp only [Act.put, List.setIfInBounds_toArray, List.set_cons_zero, List.set_cons_succ]
        refine WQ.run (v := .pointer (some ⟨b, off + k * 5, none⟩)) (by kernel_rfl) (fun W hW => ?hy) ?_
        case hy => go_simp
        simp only [Act.put, List.setIfInBounds_toArray, List.set_cons_zero, List.set_cons_succ]
        refine WQ.run (v := .pointer (some ⟨b, off + k * 5 + 1, none⟩)) (by kernel_rfl) (fun W hW => ?hy) ?_
        case hy => go_simp
        simp only [Act.put, List.setIfInBounds_toArray, List.set_cons_zero, List.set_cons_succ]
        refine WQ.run (v := .agg #[.int .i64 kd, .int .i64 u, .string t, .slice a ts.length c]) (by kernel_rfl) (fun W hW => ?hy) ?_
        case hy => obtain ⟨x1, x2, x3, x4⟩ := KQ.out W hW; go_simp; (try with_reducible rfl)
        simp only [Act.put, List.setIfInBounds_toArray, List.set_cons_zero, List.set_cons_succ]
        refine WQ.call (v := .bool true) (by kernel_rfl) (fun W hW => ?hy) (fun W hW => L2.out W hW) ?_
        case hy => go_simp; (try with_reducible rfl)
        simp only [Act.put, List.setIfInBounds_toArray, List.set_cons_zero, List.set_cons_succ]
        refine WQ.run (v := .bool false) (by kernel_rfl) (fun W hW => ?hy) ?_
        case hy => go_simp
        simp only [Act.put, List.setIfInBounds_toArray, List.set_cons_zero, List.set_cons_succ]
        refine WQ.run (v := .bool false) (by kernel_rfl) (fun W hW => ?hy) ?_
        case hy => go_simp
        simp only [Act.put, List.setIfInBounds_toArray, List.set_cons_zero, List.set_cons_succ]
        refine WQ.run (v := .bool false) (by kernel_rfl) (fun W hW => ?hy) ?_
        case hy => go_simp
        simp only [Act.put, List.setIfInBounds_toArray, List.set_cons_zero, List.set_cons_succ]
        refine WQ.nil ?_
        intro wx hwx
        go_wp2
        go_roundw
        case rel => exact ⟨k + 1, n + 1, by go_num, by go_num, by omega, by omega, by show _ = _; rw [HNX.out]; rfl, HB.out.trans ((E8.out.trans (hwx.mono E8.out.size)).mono HB.out.size)⟩
        case measure => simp [intOf]; omega
      · have HVV : Hid (⟨kd, u, t, ts⟩ = V) := HV.out
        obtain rfl := HVV.out
        simp only at KR R68
        have L2 : Hid (∀ X, Below w8.heap.size w8 X → Calls Try.prog 16 #[.agg #[.int .i64 kd, .int .i64 u, .string t, .slice a5 ts.length c5], .agg #[.int .i64 kd, .int .i64 u, .string t, .slice a ts.length c]] X fun e w' => e = .returned (.bool true) ∧ Below w8.heap.size w8 w') := fun X hX => (HSM.out a5 c5 X (textsAt_keep (rowText_rows R68.out) hX) (HTA.out X (E8.out.trans (hX.mono E8.out.size)))).mono (fun e w' h => ⟨h.1, hX.trans (h.2.mono hX.size)⟩)
        go_upto_region 13 with fail
        refine wp_region_quiet (C := fun W => Below w8.heap.size w8 W) (by kernel_rfl) (by kernel_rfl) (Below.refl _ _).drew (WQ.out ?_)
        refine WQ.run (v := .bool true) (by kernel_rfl) (fun W hW => ?hy) ?_
        case hy => go_simp
        simp only [Act.put, List.setIfInBounds_toArray, List.set_cons_zero, List.set_cons_succ]
        refine WQ.run (v := .bool false) (by kernel_rfl) (fun W hW => ?hy) ?_
        case hy => go_simp
        simp only [Act.put, List.setIfInBounds_toArray, List.set_cons_zero, List.set_cons_succ]
        refine WQ.run (v := .bool false) (by kernel_rfl) (fun W hW => ?hy) ?_
        case hy => go_simp
        simp only [Act.put, List.setIfInBounds_toArray, List.set_cons_zero, List.set_cons_succ]
        refine WQ.run (v := .bool false) (by kernel_rfl) (fun W hW => ?hy) ?_
        case hy => go_simp
        simp only [Act.put, List.setIfInBounds_toArray, List.set_cons_zero, List.set_cons_succ]
        refine WQ.run (v := .bool true) (by kernel_rfl) (fun W hW => ?hy) ?_
        case hy => go_simp
        simp only [Act.put, List.setIfInBounds_toArray, List.set_cons_zero, List.set_cons_succ]
        refine WQ.run (v := .bool false) (by kernel_rfl) (fun W hW => ?hy) ?_
        case hy => go_simp
        simp only [Act.put, List.setIfInBounds_toArray, List.set_cons_zero, List.set_cons_succ]
        refine WQ.run (v := .bool false) (by kernel_rfl) (fun W hW => ?hy) ?_
        case hy => go_simp
        simp only [Act.put, List.setIfInBounds_toArray, List.set_cons_zero, List.set_cons_succ]
        refine WQ.run (v := .bool false) (by kernel_rfl) (fun W hW => ?hy) ?_
        case hy => go_simp
        simp only [Act.put, List.setIfInBounds_toArray, List.set_cons_zero, List.set_cons_succ]
        refine WQ.run (v := .agg #[.int .i64 kd, .int .i64 u, .string t, .slice a7 ts.length c7]) (by kernel_rfl) (fun W hW => ?hy) ?_
        case hy => obtain ⟨x1, x2, x3, x4⟩ := KP.out W hW; go_simp; (try with_reducible rfl)
        simp only [Act.put, List.setIfInBounds_toArray, List.set_cons_zero, List.set_cons_succ]
        refine WQ.run (v := .slice (some ⟨b, off, none⟩) es.length c2) (by kernel_rfl) (fun W hW => ?hy) ?_
        case hy => go_simp
        simp only [Act.put, List.setIfInBounds_toArray, List.set_cons_zero, List.set_cons_succ]
        refine WQ.run (v := .int .i64 (k : Int)) (by kernel_rfl) (fun W hW => ?hy) ?_
        case hy => go_simp
        simp only [Act.put, List.setIfInBounds_toArray, List.set_cons_zero, List.set_cons_succ]
        refine WQ.run (v := .pointer (some ⟨b, off + k * 5, none⟩)) (by kernel_rfl) (fun W hW => ?hy) ?_
        case hy => go_simp
        simp only [Act.put, List.setIfInBounds_toArray, List.set_cons_zero, List.set_cons_succ]
        refine WQ.run (v := .pointer (some ⟨b, off + k * 5 + 1, none⟩)) (by kernel_rfl) (fun W hW => ?hy) ?_
        case hy => go_simp
        simp only [Act.put, List.setIfInBounds_toArray, List.set_cons_zero, List.set_cons_succ]
        refine WQ.run (v := .agg #[.int .i64 kd, .int .i64 u, .string t, .slice a ts.length c]) (by kernel_rfl) (fun W hW => ?hy) ?_
        case hy => obtain ⟨x1, x2, x3, x4⟩ := KQ.out W hW; go_simp; (try with_reducible rfl)
        simp only [Act.put, List.setIfInBounds_toArray, List.set_cons_zero, List.set_cons_succ]
        refine WQ.call (v := .bool true) (by kernel_rfl) (fun W hW => ?hy) (fun W hW => L1.out W hW) ?_
        case hy => go_simp; (try with_reducible rfl)
        simp only [Act.put, List.setIfInBounds_toArray, List.set_cons_zero, List.set_cons_succ]
        refine WQ.run (v := .bool false) (by kernel_rfl) (fun W hW => ?hy) ?_
        case hy => go_simp
        simp only [Act.put, List.setIfInBounds_toArray, List.set_cons_zero, List.set_cons_succ]
        refine WQ.run (v := .bool false) (by kernel_rfl) (fun W hW => ?hy) ?_
        case hy => go_simp
        simp only [Act.put, List.setIfInBounds_toArray, List.set_cons_zero, List.set_cons_succ]
        refine WQ.run (v := .bool false) (by kernel_rfl) (fun W hW => ?hy) ?_
        case hy => go_simp
        simp only [Act.put, List.setIfInBounds_toArray, List.set_cons_zero, List.set_cons_succ]
        refine WQ.run (v := .bool true) (by kernel_rfl) (fun W hW => ?hy) ?_
        case hy => go_simp
        simp only [Act.put, List.setIfInBounds_toArray, List.set_cons_zero, List.set_cons_succ]
        refine WQ.run (v := .bool true) (by kernel_rfl) (fun W hW => ?hy) ?_
        case hy => go_simp
        simp only [Act.put, List.setIfInBounds_toArray, List.set_cons_zero, List.set_cons_succ]
        refine WQ.run (v := .agg #[.int .i64 kd, .int .i64 u, .string t, .slice a5 ts.length c5]) (by kernel_rfl) (fun W hW => ?hy) ?_
        case hy => obtain ⟨x1, x2, x3, x4⟩ := KR.out W hW; go_simp; (try with_reducible rfl)
        simp only [Act.put, List.setIfInBounds_toArray, List.set_cons_zero, List.set_cons_succ]
        refine WQ.run (v := .slice (some ⟨b, off, none⟩) es.length c2) (by kernel_rfl) (fun W hW => ?hy) ?_
        case hy => go_simp
        simp only [Act.put, List.setIfInBounds_toArray, List.set_cons_zero, List.set_cons_succ]
        refine WQ.run (v := .int .i64 (k : Int)) (by kernel_rfl) (fun W hW => ?hy) ?_
        case hy => go_simp
        simp only [Act.put, List.setIfInBounds_toArray, List.set_cons_zero, List.set_cons_succ]
        refine WQ.run (v := .pointer (some ⟨b, off + k * 5, none⟩)) (by kernel_rfl) (fun W hW => ?hy) ?_
        case hy => go_simp
        simp only [Act.put, List.setIfInBounds_toArray, List.set_cons_zero, List.set_cons_succ]
        refine WQ.run (v := .pointer (some ⟨b, off + k * 5 + 1, none⟩)) (by kernel_rfl) (fun W hW => ?hy) ?_
        case hy => go_simp
        simp only [Act.put, List.setIfInBounds_toArray, List.set_cons_zero, List.set_cons_succ]
        refine WQ.run (v := .agg #[.int .i64 kd, .int .i64 u, .string t, .slice a ts.length c]) (by kernel_rfl) (fun W hW => ?hy) ?_
        case hy => obtain ⟨x1, x2, x3, x4⟩ := KQ.out W hW; go_simp; (try with_reducible rfl)
        simp only [Act.put, List.setIfInBounds_toArray, List.set_cons_zero, List.set_cons_succ]
        refine WQ.call (v := .bool true) (by kernel_rfl) (fun W hW => ?hy) (fun W hW => L2.out W hW) ?_
        case hy => go_simp; (try with_reducible rfl)
        simp only [Act.put, List.setIfInBounds_toArray, List.set_cons_zero, List.set_cons_succ]
        refine WQ.run (v := .bool false) (by kernel_rfl) (fun W hW => ?hy) ?_
        case hy => go_simp
        simp only [Act.put, List.setIfInBounds_toArray, List.set_cons_zero, List.set_cons_succ]
        refine WQ.run (v := .bool false) (by kernel_rfl) (fun W hW => ?hy) ?_
        case hy => go_simp
        simp only [Act.put, List.setIfInBounds_toArray, List.set_cons_zero, List.set_cons_succ]
        refine WQ.run (v := .bool false) (by kernel_rfl) (fun W hW => ?hy) ?_
        case hy => go_simp
        simp only [Act.put, List.setIfInBounds_toArray, List.set_cons_zero, List.set_cons_succ]
        refine WQ.nil ?_
        intro wx hwx
        go_wp2
        go_roundw
        case rel => exact ⟨k + 1, n + 1, by go_num, by go_num, by omega, by omega, by show _ = _; rw [HNX.out]; rfl, HB.out.trans ((E8.out.trans (hwx.mono E8.out.size)).mono HB.out.size)⟩
        case measure => simp [intOf]; omega
      · go_upto_region 13 with fail
        refine wp_region_quiet (C := fun W => Below w8.heap.size w8 W) (by kernel_rfl) (by kernel_rfl) (Below.refl _ _).drew (WQ.out ?_)
        refine WQ.run (v := .bool false) (by kernel_rfl) (fun W hW => ?hy) ?_
        case hy => go_simp
        simp only [Act.put, List.setIfInBounds_toArray, List.set_cons_zero, List.set_cons_succ]
        refine WQ.run (v := .bool true) (by kernel_rfl) (fun W hW => ?hy) ?_
        case hy => go_simp
        simp only [Act.put, List.setIfInBounds_toArray, List.set_cons_zero, List.set_cons_succ]
        refine WQ.run (v := .bool false) (by kernel_rfl) (fun W hW => ?hy) ?_
        case hy => go_simp
        simp only [Act.put, List.setIfInBounds_toArray, List.set_cons_zero, List.set_cons_succ]
        refine WQ.run (v := .bool false) (by kernel_rfl) (fun W hW => ?hy) ?_
        case hy => go_simp
        simp only [Act.put, List.setIfInBounds_toArray, List.set_cons_zero, List.set_cons_succ]
        refine WQ.run (v := .bool true) (by kernel_rfl) (fun W hW => ?hy) ?_
        case hy => go_simp
        simp only [Act.put, List.setIfInBounds_toArray, List.set_cons_zero, List.set_cons_succ]
        refine WQ.run (v := .bool false) (by kernel_rfl) (fun W hW => ?hy) ?_
        case hy => go_simp
        simp only [Act.put, List.setIfInBounds_toArray, List.set_cons_zero, List.set_cons_succ]
        refine WQ.run (v := .bool false) (by kernel_rfl) (fun W hW => ?hy) ?_
        case hy => go_simp
        simp only [Act.put, List.setIfInBounds_toArray, List.set_cons_zero, List.set_cons_succ]
        refine WQ.run (v := .bool false) (by kernel_rfl) (fun W hW => ?hy) ?_
        case hy => go_simp
        simp only [Act.put, List.setIfInBounds_toArray, List.set_cons_zero, List.set_cons_succ]
        refine WQ.run (v := .agg #[.int .i64 kd, .int .i64 u, .string t, .slice a7 ts.length c7]) (by kernel_rfl) (fun W hW => ?hy) ?_
        case hy => obtain ⟨x1, x2, x3, x4⟩ := KP.out W hW; go_simp; (try with_reducible rfl)
        simp only [Act.put, List.setIfInBounds_toArray, List.set_cons_zero, List.set_cons_succ]
        refine WQ.run (v := .slice (some ⟨b, off, none⟩) es.length c2) (by kernel_rfl) (fun W hW => ?hy) ?_
        case hy => go_simp
        simp only [Act.put, List.setIfInBounds_toArray, List.set_cons_zero, List.set_cons_succ]
        refine WQ.run (v := .int .i64 (k : Int)) (by kernel_rfl) (fun W hW => ?hy) ?_
        case hy => go_simp
        simp only [Act.put, List.setIfInBounds_toArray, List.set_cons_zero, List.set_cons_succ]
        refine WQ.run (v := .pointer (some ⟨b, off + k * 5, none⟩)) (by kernel_rfl) (fun W hW => ?hy) ?_
        case hy => go_simp
        simp only [Act.put, List.setIfInBounds_toArray, List.set_cons_zero, List.set_cons_succ]
        refine WQ.run (v := .pointer (some ⟨b, off + k * 5 + 1, none⟩)) (by kernel_rfl) (fun W hW => ?hy) ?_
        case hy => go_simp
        simp only [Act.put, List.setIfInBounds_toArray, List.set_cons_zero, List.set_cons_succ]
        refine WQ.run (v := .agg #[.int .i64 kd, .int .i64 u, .string t, .slice a ts.length c]) (by kernel_rfl) (fun W hW => ?hy) ?_
        case hy => obtain ⟨x1, x2, x3, x4⟩ := KQ.out W hW; go_simp; (try with_reducible rfl)
        simp only [Act.put, List.setIfInBounds_toArray, List.set_cons_zero, List.set_cons_succ]
        refine WQ.call (v := .bool true) (by kernel_rfl) (fun W hW => ?hy) (fun W hW => L1.out W hW) ?_
        case hy => go_simp; (try with_reducible rfl)
        simp only [Act.put, List.setIfInBounds_toArray, List.set_cons_zero, List.set_cons_succ]
        refine WQ.run (v := .bool false) (by kernel_rfl) (fun W hW => ?hy) ?_
        case hy => go_simp
        simp only [Act.put, List.setIfInBounds_toArray, List.set_cons_zero, List.set_cons_succ]
        refine WQ.run (v := .bool false) (by kernel_rfl) (fun W hW => ?hy) ?_
        case hy => go_simp
        simp only [Act.put, List.setIfInBounds_toArray, List.set_cons_zero, List.set_cons_succ]
        refine WQ.run (v := .bool false) (by kernel_rfl) (fun W hW => ?hy) ?_
        case hy => go_simp
        simp only [Act.put, List.setIfInBounds_toArray, List.set_cons_zero, List.set_cons_succ]
        refine WQ.run (v := .bool false) (by kernel_rfl) (fun W hW => ?hy) ?_
        case hy => go_simp
        simp only [Act.put, List.setIfInBounds_toArray, List.set_cons_zero, List.set_cons_succ]
        refine WQ.run (v := .bool false) (by kernel_rfl) (fun W hW => ?hy) ?_
        case hy => go_simp
        simp only [Act.put, List.setIfInBounds_toArray, List.set_cons_zero, List.set_cons_succ]
        refine WQ.skip (by kernel_rfl) ?_
        simp only [Act.put, List.setIfInBounds_toArray, List.set_cons_zero, List.set_cons_succ]
        refine WQ.skip (by kernel_rfl) ?_
        simp only [Act.put, List.setIfInBounds_toArray, List.set_cons_zero, List.set_cons_succ]
        refine WQ.skip (by kernel_rfl) ?_
        simp only [Act.put, List.setIfInBounds_toArray, List.set_cons_zero, List.set_cons_succ]
        refine WQ.skip (by kernel_rfl) ?_
        simp only [Act.put, List.setIfInBounds_toArray, List.set_cons_zero, List.set_cons_succ]
        refine WQ.skip (by kernel_rfl) ?_
        simp only [Act.put, List.setIfInBounds_toArray, List.set_cons_zero, List.set_cons_succ]
        refine WQ.skip (by kernel_rfl) ?_
        simp only [Act.put, List.setIfInBounds_toArray, List.set_cons_zero, List.set_cons_succ]
        refine WQ.skip (by kernel_rfl) ?_
        simp only [Act.put, List.setIfInBounds_toArray, List.set_cons_zero, List.set_cons_succ]
        refine WQ.skip (by kernel_rfl) ?_
        simp only [Act.put, List.setIfInBounds_toArray, List.set_cons_zero, List.set_cons_succ]
        refine WQ.run (v := .bool false) (by kernel_rfl) (fun W hW => ?hy) ?_
        case hy => go_simp
        simp only [Act.put, List.setIfInBounds_toArray, List.set_cons_zero, List.set_cons_succ]
        refine WQ.run (v := .bool false) (by kernel_rfl) (fun W hW => ?hy) ?_
        case hy => go_simp
        simp only [Act.put, List.setIfInBounds_toArray, List.set_cons_zero, List.set_cons_succ]
        refine WQ.nil ?_
        intro wx hwx
        go_wp2
        go_roundw
        case rel => exact ⟨k + 1, n + 0, by go_num, by go_num, by omega, by omega, by show _ = _; rw [HNX.out]; rfl, HB.out.trans ((E8.out.trans (hwx.mono E8.out.size)).mono HB.out.size)⟩
        case measure => simp [intOf]; omega
    · have hlt' : decide ((k : Int) < (es.length : Int)) = false := by simp; omega
      have hke : k = es.length := by omega
      subst hke
      have HNL : Hid (n = L.length) := by show _ = _; rw [HN.out, List.take_length, HL.out]
      have HFN := hide (implFind_any es ⟨#[110, 101, 118, 101, 114, 32, 116, 104, 101, 114, 101]⟩ a2 c2 wr hl (entriesAt_keep HXT.out HB.out) HS.out)
      have e1 : findV es ⟨#[110, 101, 118, 101, 114, 32, 116, 104, 101, 114, 101]⟩ = noVal ∧ findB es ⟨#[110, 101, 118, 101, 114, 32, 116, 104, 101, 114, 101]⟩ = false := by
        unfold findV findB
        rw [tab_never HK3.out (by decide)]
        exact ⟨rfl, rfl⟩
      rw [e1.1, e1.2] at HFN
      clear e1
      go_wp2_with fail
      refine HFN.out.mono ?_
      rintro e w9 ⟨⟨a9, c9, rfl, -⟩, b9⟩
      have E9 := hide (HB.out.trans (b9.mono HB.out.size))
      clear b9
      have hnl : n = L.length := HNL.out
      have hnn : ((n : Int) == (L.length : Int)) = true := by rw [hnl]; exact beq_self_eq_true _
      have E10 : Hid (Below w4.heap.size w4 (w9.alloc (.cells #[.int .i64 noVal.kind, .int .i64 noVal.til, .string noVal.text, .slice a9 noVal.items.length c9] 38))) := E9.out.alloc E9.out.size _
      have HTB := hide (specTableOk_any L a4 c4 _ true ⟨fun _ => HTL.out, fun _ => rfl⟩ hlL (entriesAt_keep HXL.out E10.out) HSL.out)
      clear hnl
      go_wp2_with fail
      refine HTB.out.mono ?_
      rintro e w11 ⟨rfl, b11⟩
      have W11 := hide (W4.out.trans ((E10.out.trans (b11.mono E10.out.size)).mono W4.out.size))
      clear b11
      go_wp2
      go_ret
      exact ⟨rfl, W11.out⟩
end Go.Proofs.Ytpibnhodlojajaa
namespace Go.Proofs.Ytpibnhodlojajaa
open Go.RowKit Go.ChangeShapes
theorem code_of {w : World} {x : Addr} {len : Nat} {zs : List Int} (hl : len ≤ zs.length) (hcell : ∀ i, i < zs.length → w.cell? (x.add i) = some (.int .u8 (zs.getD i 0))) (hwz : ∀ n ∈ zs, (Lit.int .u8 n).wf = true) : Code w (some x) len := by
  intro j hj
  have hjl : j < zs.length := by omega
  have hc := hcell j hjl
  obtain ⟨b, off, spot⟩ := x
  have hspot : spot = none := by
    have h0 := hcell 0 (by omega)
    simpa [Addr.add] using World.cell?_spot h0
  subst hspot
  have hz : zs.getD j 0 = zs[j] := by simp [List.getD, hjl]
  have hb := bounds_u8 (hwz zs[j] (List.getElem_mem hjl))
  have ha : ((⟨b, off, none⟩ : Addr).add j) = ⟨b, off + j, none⟩ := by cases j <;> simp [Addr.add]
  rw [ha, hz] at hc
  obtain ⟨z, hzz⟩ := Int.eq_ofNat_of_zero_le hb.1
  rw [hzz] at hc
  refine ⟨b, off, z, rfl, ?_, hc, by omega⟩
  rcases Nat.lt_or_ge b w.heap.size with h | h
  · exact h
  · unfold World.cell? at hc
    rw [show w.heap[(⟨b, off + j, none⟩ : Addr).block]? = none from Array.getElem?_eq_none h] at hc
    cases hc
end Go.Proofs.Ytpibnhodlojajaa
namespace Go.Proofs.Ytpibnhodlojajaa
open Go.RowKit Go.ChangeShapes Go.WideShapes
theorem code_in {H : Type} {enc : TypeId × Value → H} {w : World} {base : Nat} {v : Value} {d : DataW H} {p : List MemPlace} (hv : Value.okWide Try.prog w .any base 30 v)
    (h : DataW.Trod enc Try.prog w 0 (fun _ => true) true 30 v d p) : ∃ (ao : Option Addr) (len cap : Nat), v = .slice ao len cap ∧ Code w ao len := by
  obtain ⟨a0, len0, cap0, rfl⟩ := okWide_slice Try.underlying30 hv
  refine ⟨a0, len0, cap0, rfl, ?_⟩
  obtain ⟨fuel0, hf⟩ := h
  rcases open_ints Try.underlying30 Try.underlying5 (by kernel_rfl) hf with ⟨hcs, _⟩ | ⟨x, l, c, zs, hcs, _, hl, hm, hz, _, hcell, hwz⟩
  · simp [Value.cells] at hcs
    obtain ⟨rfl, rfl, rfl⟩ := hcs
    intro j hj; omega
  · simp [Value.cells] at hcs
    obtain ⟨rfl, rfl, rfl⟩ := hcs
    have hzl : zs.length = cap0 := by simpa using hz
    exact code_of (by omega) hcell hwz
end Go.Proofs.Ytpibnhodlojajaa
