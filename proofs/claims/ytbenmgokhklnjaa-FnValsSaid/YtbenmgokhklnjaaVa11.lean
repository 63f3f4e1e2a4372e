import Derived.OpenShut
import Derived.Test.YtbenmgokhklnjaaVa6
import Derived.Test.YtbenmgokhklnjaaVa9
import Derived.Test.YtbenmgokhklnjaaVa10
import Derived.Test.YtbenmgokhklnjaaVa0
set_option maxRecDepth 100000
set_option maxHeartbeats 6400000
namespace Go.Proofs.Ytbenmgokhklnjaa
open Go.RowKit
theorem rvOk_empty : ¬ RvOk ⟨#[]⟩ := fun h => absurd h.1 (by show ¬ (0 : Nat) < 0; omega)
theorem rvOk_valT {v : ValD} (h : ValR v) : RvOk (valT v) ∧ (rvRaw (valT v)).1 = v := rvOk_val (valT_read h).1 h
theorem noVal_wrong : ¬ ValR noVal := fun h => absurd (valR_bounds h).1 (by show ¬ (1 : Int) ≤ 0; omega)
theorem vals_walk (w : World) (ao : Option Addr) (len cap : Nat) (hcode : len ≤ 1048576 → Code w ao len) :
    Calls Try.prog 3 #[.slice ao len cap] w fun e w' => e = .returned (.bool true) ∧ Below w.heap.size w w' := by
  by_cases hlen : len ≤ 1048576
  case neg =>
    have hbig : decide (1048576 < (len : Int)) = true := by simp; omega
    go_enter Try.func3, Try.ntmps3
    go_wp2_with fail
    refine (big_any _ ao len cap).mono ?_
    rintro e w1 ⟨rfl, rfl⟩
    rw [hbig]
    go_wp2
    go_ret
    exact ⟨rfl, Below.refl _ _⟩
  have hbig : decide (1048576 < (len : Int)) = false := by simp; omega
  have HC := hide (hcode hlen)
  clear hcode
  go_enter Try.func3, Try.ntmps3
  go_wp2_with fail
  refine (big_any _ ao len cap).mono ?_
  rintro e w1 ⟨rfl, rfl⟩
  rw [hbig]
  clear hbig
  go_wp2_with fail
  refine (drawValText_any _ ao len cap hlen HC.out).mono ?_
  rintro e w2 ⟨⟨v, a, c, rfl, hbd, hr⟩, b2⟩
  obtain ⟨R, HRV⟩ : ∃ R : Bool, Hid (R = true ↔ ValR v) := by classical exact ⟨decide (ValR v), by show _ ↔ _; simp⟩
  have W2 := hide b2
  have h1 : v.items.length ≤ 1048576 := by have := hbd.2.1; omega
  have h2 : v.text.size ≤ maxLen := by have := hbd.1; unfold maxLen; omega
  have h4 : ∀ s ∈ v.items, s.size ≤ maxLen := fun s hs => by have := hbd.2.2 s hs; unfold maxLen; omega
  have HT := hide (fun W (hW : TextsAt W a v.items) => implValText_any v a c W R HRV.out h1 h2 hW h4)
  have HSO := hide (fun W (hW : TextsAt W a v.items) => specValOk_any v a c W R HRV.out h1 h2 hW h4)
  have HIO := hide (fun W (hW : TextsAt W a v.items) => implValOk_any v a c W R HRV.out h1 h2 hW h4)
  have HR2 := hide (rowText_rows hr)
  have HRD : Hid (∀ W, Calls Try.prog 9 #[.string (cond R (valT v) ⟨#[]⟩)] W fun e w' => (∃ a c, e = .returned (.tuple #[.agg #[.int .i64 (cond R v noVal).kind, .int .i64 (cond R v noVal).til, .string (cond R v noVal).text, .slice a (cond R v noVal).items.length c], .bool R]) ∧ RowText w' W.heap.size (.slice a (cond R v noVal).items.length c) (cond R v noVal).items) ∧ Below W.heap.size W w') := fun W => by
    cases R
    · have h := implReadVal_any ⟨#[]⟩ W false ⟨fun h => (by cases h), fun h => absurd h rvOk_empty⟩ (by show (0 : Nat) ≤ _; omega)
      exact h
    · have hv := HRV.out.1 rfl
      have h := implReadVal_any (valT v) W true ⟨fun _ => (rvOk_valT hv).1, fun _ => rfl⟩ (by have := valT_small hv; omega)
      rw [show (cond true (rvRaw (valT v)).1 noVal) = v from (rvOk_valT hv).2] at h
      exact h
  have HSM : Hid (R = true → ∀ a2 c2 W, TextsAt W a2 v.items → TextsAt W a v.items → Calls Try.prog 12 #[.agg #[.int .i64 v.kind, .int .i64 v.til, .string v.text, .slice a2 v.items.length c2], .agg #[.int .i64 v.kind, .int .i64 v.til, .string v.text, .slice a v.items.length c]] W fun e w' => e = .returned (.bool true) ∧ Below W.heap.size W w') := fun _ a2 c2 W k1 k2 => sameVal_same v a2 a c2 c W (by unfold maxLen; omega) k1 k2
  obtain ⟨X, HX⟩ : ∃ X, Hid (cond R v noVal = X) := ⟨_, rfl⟩
  have HXY : Hid (R = true → X = v) := fun h => by rw [← HX.out, h]; rfl
  rw [HX.out] at HRD
  generalize cond R (valT v) ⟨#[]⟩ = T at HT HRD
  clear hbd hr b2 h1 h2 h4 HX
  have hRR : (!(R == R)) = false := by simp
  obtain ⟨k, u, s, ts⟩ := v
  simp only at HT HSO HIO HR2 HSM HXY
  obtain ⟨w3, hw3⟩ : ∃ w3, w3 = w2.alloc (.cells #[.int .i64 k, .int .i64 u, .string s, .slice a ts.length c] 26) := ⟨_, rfl⟩
  have B3 : Hid (Below w2.heap.size w2 w3) := by rw [hw3]; exact (Below.refl _ w2).alloc (Nat.le_refl _) _
  have P3 : Hid (w3.heap[w2.heap.size]? = some (.cells #[.int .i64 k, .int .i64 u, .string s, .slice a ts.length c] 26 (0, 0))) := by rw [hw3]; exact heap_alloc_new _ _
  have W3 := hide (W2.out.trans (B3.out.mono W2.out.size))
  have HR3 := hide (textsAt_keep HR2.out B3.out)
  go_upto_region 4 with fail
  rw [← hw3]
  clear hw3
  obtain ⟨q0, q1, q2, q3⟩ := val_cells P3.out
  go_wp2_with fail
  refine (HT.out _ HR3.out).mono ?_
  rintro e w4 ⟨rfl, b4⟩
  have B4 := hide b4
  have W4 := hide (W3.out.trans (b4.mono W3.out.size))
  clear b4 q0 q1 q2 q3
  go_wp2_with fail
  refine (HRD.out _).mono ?_
  rintro e w5 ⟨⟨a5, c5, rfl, r5⟩, b5⟩
  have R5 := hide r5
  have B5 := hide (B4.out.trans (b5.mono B4.out.size))
  have W5 := hide (W4.out.trans (b5.mono W4.out.size))
  clear r5 b5
  obtain ⟨w6, hw6⟩ : ∃ w6, w6 = w5.alloc (.cells #[.int .i64 X.kind, .int .i64 X.til, .string X.text, .slice a5 X.items.length c5] 26) := ⟨_, rfl⟩
  have B56 : Hid (Below w5.heap.size w5 w6) := by rw [hw6]; exact (Below.refl _ w5).alloc (Nat.le_refl _) _
  have P6 : Hid (w6.heap[w5.heap.size]? = some (.cells #[.int .i64 X.kind, .int .i64 X.til, .string X.text, .slice a5 X.items.length c5] 26 (0, 0))) := by rw [hw6]; exact heap_alloc_new _ _
  have B6 := hide (B5.out.trans (B56.out.mono B5.out.size))
  have W6 := hide (W5.out.trans (B56.out.mono W5.out.size))
  have P36 := hide ((B6.out.block _ (obj_lt P3.out)).trans P3.out)
  have HR6 := hide (textsAt_keep HR3.out B6.out)
  have K6 := hide (rowText_rows (rowText_below R5.out B56.out))
  go_upto_region 6 with fail
  rw [← hw6]
  clear hw6
  obtain ⟨q0, q1, q2, q3⟩ := val_cells P36.out
  obtain ⟨y0, y1, y2, y3⟩ := val_cells P6.out
  go_wp2_with fail
  refine (HSO.out _ HR6.out).mono ?_
  rintro e w7 ⟨rfl, b7⟩
  have B7 := hide b7
  have W7 := hide (W6.out.trans (b7.mono W6.out.size))
  clear b7 q0 q1 q2 q3 y0 y1 y2 y3
  obtain ⟨q0, q1, q2, q3⟩ := val_cells ((B7.out.block _ (obj_lt P36.out)).trans P36.out)
  obtain ⟨y0, y1, y2, y3⟩ := val_cells ((B7.out.block _ (obj_lt P6.out)).trans P6.out)
  go_wp2_with fail
  refine (HIO.out _ (textsAt_keep HR6.out B7.out)).mono ?_
  rintro e w8 ⟨rfl, b8⟩
  have B8 := hide (B7.out.trans (b8.mono B7.out.size))
  have W8 := hide (W7.out.trans (b8.mono W7.out.size))
  clear b8 q0 q1 q2 q3 y0 y1 y2 y3
  obtain ⟨q0, q1, q2, q3⟩ := val_cells ((B8.out.block _ (obj_lt P36.out)).trans P36.out)
  obtain ⟨y0, y1, y2, y3⟩ := val_cells ((B8.out.block _ (obj_lt P6.out)).trans P6.out)
  have HR8 := hide (textsAt_keep HR6.out B8.out)
  have K8 := hide (textsAt_keep K6.out B8.out)
  clear HRV HT HSO HIO HRD B3 B4 B5 B56 B6 B7 B8 R5 K6 HR6 HR3 HR2 P36 P6 P3 W2 W3 W4 W5 W6 W7
  cases R
  all_goals
    first
    | (have HSM2 := hide (HSM.out rfl)
       have HXX := hide (HXY.out rfl)
       obtain rfl := HXX.out
       go_wp2_with fail
       refine (HSM2.out a5 c5 _ K8.out HR8.out).mono ?_
       rintro e w9 ⟨rfl, b9⟩
       have W9 := hide (W8.out.trans (b9.mono W8.out.size))
       clear b9 q0 q1 q2 q3 y0 y1 y2 y3 HSM HSM2 HXY HXX
       go_wp2_with fail)
    | (obtain ⟨w9, hw9⟩ : ∃ w9, w9 = w8 := ⟨_, rfl⟩
       have W9 := W8
       rw [← hw9] at W9
       go_wp2_with fail
       rw [← hw9]
       clear hw9)
  all_goals
    refine (drawReadVal_any _ ao len cap hlen (code_keep HC.out W9.out)).mono ?_
    rintro e w10 ⟨T2, rfl, hT2, b10⟩
    have W10 := hide (W9.out.trans (b10.mono W9.out.size))
    clear b10
    obtain ⟨R2, HRI⟩ : ∃ R : Bool, Hid (R = true ↔ RvOk T2) := by classical exact ⟨decide (RvOk T2), by show _ ↔ _; simp⟩
    have HSP := hide (fun W => specReadVal_any T2 W R2 HRI.out (by omega))
    have HIM := hide (fun W => implReadVal_any T2 W R2 HRI.out (by omega))
    have HV2 : Hid ((R2 = true ↔ ValR (cond R2 (rvRaw T2).1 noVal)) ∧ (R2 = true → valT (cond R2 (rvRaw T2).1 noVal) = T2) ∧ (cond R2 (rvRaw T2).1 noVal).items.length ≤ 1048576 ∧ (cond R2 (rvRaw T2).1 noVal).text.size ≤ maxLen ∧ ∀ x ∈ (cond R2 (rvRaw T2).1 noVal).items, x.size ≤ maxLen) := by
      cases R2
      · exact ⟨⟨fun h => (by cases h), fun h => absurd h noVal_wrong⟩, fun h => (by cases h), Nat.zero_le _, Nat.zero_le _, fun x hx => absurd hx List.not_mem_nil⟩
      · have h := HRI.out.1 rfl
        have hb := valR_bounds h.2.2.1
        exact ⟨⟨fun _ => h.2.2.1, fun _ => rfl⟩, fun _ => h.2.2.2, by show (rvRaw T2).1.items.length ≤ _; omega, by show (rvRaw T2).1.text.size ≤ _; unfold maxLen; omega, fun x hx => by have := hb.2.2.2.2.2.2 x hx; unfold maxLen; omega⟩
    generalize cond R2 (rvRaw T2).1 noVal = V2 at HSP HIM HV2
    have HVT := hide (fun a c W (hW : TextsAt W a V2.items) => implValText_any V2 a c W R2 HV2.out.1 HV2.out.2.2.1 HV2.out.2.2.2.1 hW HV2.out.2.2.2.2)
    have HAG : Hid (R2 = true → cond R2 (valT V2) ⟨#[]⟩ = T2) := fun h => by rw [h]; exact HV2.out.2.1 h
    generalize cond R2 (valT V2) ⟨#[]⟩ = AG at HVT HAG
    obtain ⟨k2, u2, s2, ts2⟩ := V2
    simp only at HSP HIM HVT
    clear HRI HV2
    go_wp2_with fail
    refine (HIM.out _).mono ?_
    rintro e w11 ⟨⟨a11, c11, rfl, r11⟩, b11⟩
    have R11 := hide r11
    have W11 := hide (W10.out.trans (b11.mono W10.out.size))
    clear r11 b11
    obtain ⟨w12, hw12⟩ : ∃ w12, w12 = w11.alloc (.cells #[.int .i64 k2, .int .i64 u2, .string s2, .slice a11 ts2.length c11] 26) := ⟨_, rfl⟩
    have B12 : Hid (Below w11.heap.size w11 w12) := by rw [hw12]; exact (Below.refl _ w11).alloc (Nat.le_refl _) _
    have P12 : Hid (w12.heap[w11.heap.size]? = some (.cells #[.int .i64 k2, .int .i64 u2, .string s2, .slice a11 ts2.length c11] 26 (0, 0))) := by rw [hw12]; exact heap_alloc_new _ _
    have W12 := hide (W11.out.trans (B12.out.mono W11.out.size))
    have K12 := hide (rowText_rows (rowText_below R11.out B12.out))
    go_wp2_with fail
    rw [← hw12]
    clear hw12
    refine (HSP.out _).mono ?_
    rintro e w13 ⟨⟨a13, c13, rfl, -⟩, b13⟩
    have B13 := hide b13
    have W13 := hide (W12.out.trans (b13.mono W12.out.size))
    clear b13
    obtain ⟨w14, hw14⟩ : ∃ w14, w14 = w13.alloc (.cells #[.int .i64 k2, .int .i64 u2, .string s2, .slice a13 ts2.length c13] 26) := ⟨_, rfl⟩
    have B14 : Hid (Below w13.heap.size w13 w14) := by rw [hw14]; exact (Below.refl _ w13).alloc (Nat.le_refl _) _
    have B24 := hide (B13.out.trans (B14.out.mono B13.out.size))
    have W14 := hide (W13.out.trans (B14.out.mono W13.out.size))
    obtain ⟨z0, z1, z2, z3⟩ := val_cells ((B24.out.block _ (obj_lt P12.out)).trans P12.out)
    go_upto_region 11 with fail
    rw [← hw14]
    clear hw14
    go_wp2_with fail
    refine (HVT.out _ _ _ (textsAt_keep K12.out B24.out)).mono ?_
    rintro e w15 ⟨rfl, b15⟩
    have W15 := hide (W14.out.trans (b15.mono W14.out.size))
    clear b15 z0 z1 z2 z3
    cases R2
    · go_wp2
      go_ret
      exact ⟨rfl, W15.out⟩
    · have hag := HAG.out rfl
      have hcmp : (AG.toList == T2.toList) = true := by rw [hag]; exact beq_self_eq_true _
      clear hag
      go_wp2
      go_ret
      exact ⟨rfl, W15.out⟩
end Go.Proofs.Ytbenmgokhklnjaa
namespace Go.Proofs.Ytbenmgokhklnjaa
open Go.RowKit Go.ChangeShapes
theorem code_of {w : World} {x : Addr} {len : Nat} {zs : List Int} (hl : len ≤ zs.length) (hcell : ∀ i, i < zs.length → w.cell? (x.add i) = some (.int .u8 (zs.getD i 0))) (hwz : ∀ n ∈ zs, (Lit.int .u8 n).wf = true) : Code w (some x) len := by
  intro j hj
  have hjl : j < zs.length := by omega
  have hc := hcell j hjl
  obtain ⟨b, off, spot⟩ := x
  have hspot : spot = none := by
    have h0 := hcell 0 (by omega)
    simpa [Addr.add] using World.cell?_spot h0
  subst hspot
  have hz : zs.getD j 0 = zs[j] := by simp [List.getD, hjl]
  have hb := bounds_u8 (hwz zs[j] (List.getElem_mem hjl))
  have ha : ((⟨b, off, none⟩ : Addr).add j) = ⟨b, off + j, none⟩ := by cases j <;> simp [Addr.add]
  rw [ha, hz] at hc
  obtain ⟨z, hzz⟩ := Int.eq_ofNat_of_zero_le hb.1
  rw [hzz] at hc
  refine ⟨b, off, z, rfl, ?_, hc, by omega⟩
  rcases Nat.lt_or_ge b w.heap.size with h | h
  · exact h
  · unfold World.cell? at hc
    rw [show w.heap[(⟨b, off + j, none⟩ : Addr).block]? = none from Array.getElem?_eq_none h] at hc
    cases hc
end Go.Proofs.Ytbenmgokhklnjaa
namespace Go.Proofs.Ytbenmgokhklnjaa
open Go.RowKit Go.ChangeShapes Go.WideShapes
theorem code_in {H : Type} {enc : TypeId × Value → H} {w : World} {base : Nat} {v : Value} {d : DataW H} {p : List MemPlace} (hv : Value.okWide Try.prog w .any base 22 v)
    (h : DataW.Trod enc Try.prog w 0 (fun _ => true) true 22 v d p) : ∃ (ao : Option Addr) (len cap : Nat), v = .slice ao len cap ∧ Code w ao len := by
  obtain ⟨a0, len0, cap0, rfl⟩ := okWide_slice Try.underlying22 hv
  refine ⟨a0, len0, cap0, rfl, ?_⟩
  obtain ⟨fuel0, hf⟩ := h
  rcases open_ints Try.underlying22 Try.underlying5 (by kernel_rfl) hf with ⟨hcs, _⟩ | ⟨x, l, c, zs, hcs, _, hl, hm, hz, _, hcell, hwz⟩
  · simp [Value.cells] at hcs
    obtain ⟨rfl, rfl, rfl⟩ := hcs
    intro j hj; omega
  · simp [Value.cells] at hcs
    obtain ⟨rfl, rfl, rfl⟩ := hcs
    have hzl : zs.length = cap0 := by simpa using hz
    exact code_of (by omega) hcell hwz
end Go.Proofs.Ytbenmgokhklnjaa
