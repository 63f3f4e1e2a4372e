/- The law of Find. -/
import Derived.Test.YtiokajdkgkpeiaaFindI
import Derived.Test.YtiokajdkgkpeiaaValM
namespace Go.Proofs.Ytiokajdkgkpeiaa
open Go.RowKit

theorem findV_small {es : List EntD} {key : ByteArray} (h : ∀ e ∈ es, EntS 1048576 e) : (findV es key).items.length ≤ 1048576 := by
  rcases findV_mem es key with e | ⟨x, hx, e⟩
  · rw [e]; exact Nat.zero_le _
  · rw [← e]; exact (h x hx).2.2.1

set_option maxRecDepth 100000 in
set_option maxHeartbeats 3200000 in
theorem lawFind (es : List EntD) (ao : Option Addr) (cap : Nat) (key : ByteArray) (w : World) (hl0 : es.length ≤ maxLen) (hes : EntriesAt w ao es) (hsz0 : ∀ e ∈ es, EntS maxLen e) (hz : key.size ≤ maxLen) :
    Calls Try.prog 7 #[.slice ao es.length cap, .string key] w fun e w' => e = .returned (.bool true) ∧ Below w.heap.size w w' := by
  unfold maxLen at hz
  by_cases hbig : 1048576 < key.size
  · have hbig' : decide ((1048576 : Int) < (key.size : Int)) = true := by simp; omega
    go_enter Try.func7, Try.ntmps7
    go_wp2
    go_ret
    exact ⟨rfl, Below.refl _ _⟩
  have hbig' : decide ((1048576 : Int) < (key.size : Int)) = false := by simp; omega
  have HT := hide hes
  have HS := hide hsz0
  clear hes hsz0
  have HN := hide (szEs_small (es := es) (n := 1048576) (by omega) (by omega))
  have HSU := hide (szEs_sum (es := es) (n := 1048576))
  have HSZ := hide (szEntryS_any es ao cap 1048576 w (by decide) (by decide) hl0 HT.out HS.out)
  generalize szEs es 1048576 = r at HN HSZ HSU
  go_enter Try.func7, Try.ntmps7
  go_wp2_with fail
  refine HSZ.out.mono ?_
  rintro e w1 ⟨rfl, b1⟩
  have W1 := hide b1
  clear b1
  by_cases hneg : r < 0
  · have hneg' : decide (r < 0) = true := by simp; omega
    go_wp2
    go_ret
    exact ⟨rfl, W1.out⟩
  have hneg' : decide (r < 0) = false := by simp; omega
  obtain ⟨hl1, hs1⟩ := HN.out (by omega)
  have hsum : 4 * es.length + sumI es ≤ 6000000 := by have := HSU.out (by omega); omega
  have HS1 := hide hs1
  have HIC : Hid (∀ e ∈ es, e.val.items.length ≤ 1048576) := fun e he => (HS1.out e he).2.2.1
  clear hs1
  have HTO := hide (fun W (hW : Below w.heap.size w W) => toEntryS_any es ao cap W hl1 (entriesAt_keep HT.out hW) HS1.out)
  have HSP := hide (fun a c W h => specFind_any es key a c W hl1 h HS1.out)
  have HIM := hide (fun a c W h => implFind_any es key a c W hl1 h HS1.out)
  have hVl := findV_small (key := key) HS1.out
  generalize findV es key = V at HSP HIM hVl
  generalize findB es key = ok at HSP HIM
  obtain ⟨k, u, t, ts⟩ := V
  simp only at HSP HIM hVl
  have HEQ := hide (fun a a2 c c2 W (h1 : TextsAt W a ts) (h2 : TextsAt W a2 ts) => eqVal_same ⟨k, u, t, ts⟩ a a2 c c2 W (by unfold maxLen; simp only; omega) h1 h2)
  simp only at HEQ
  have hoo : (!(ok == ok)) = false := by simp
  obtain ⟨KE, HKE⟩ : ∃ KE : Int, Hid (((markEEnd 1 es : Nat) : Int) = KE) := ⟨_, rfl⟩
  have hKE : decide (KE < 0) = false := by have := HKE.out; simp; omega
  obtain ⟨KM, HKM⟩ : ∃ KM : Int, Hid (((1 + ts.length : Nat) : Int) = KM) := ⟨_, rfl⟩
  have hKM : decide (KM < 0) = false := by have := HKM.out; simp; omega
  have hKK : (!(KM == KM)) = false := by simp
  go_wp2_with fail
  refine (HTO.out _ W1.out).mono ?_
  rintro e w2 ⟨⟨v2, rfl, r2⟩, b2⟩
  obtain ⟨a2, c2, rfl, h2⟩ := rowEnt_at r2
  have HX2 := hide h2
  have W2 := hide (W1.out.trans (b2.mono W1.out.size))
  clear r2 b2 h2
  go_wp2_with fail
  refine (HSP.out _ _ _ HX2.out).mono ?_
  rintro e w3 ⟨⟨a3, c3, rfl, r3⟩, b3⟩
  have R3 := hide r3
  have W3 := hide (W2.out.trans (b3.mono W2.out.size))
  clear b3 r3 HX2
  obtain ⟨wA, hwA⟩ : ∃ wA, wA = w3.alloc (.cells #[.int .i64 k, .int .i64 u, .string t, .slice a3 ts.length c3] 27) := ⟨_, rfl⟩
  have BA : Hid (Below w3.heap.size w3 wA) := by rw [hwA]; exact (Below.refl _ w3).alloc (Nat.le_refl _) _
  have PA : Hid (wA.heap[w3.heap.size]? = some (.cells #[.int .i64 k, .int .i64 u, .string t, .slice a3 ts.length c3] 27 (0, 0))) := by rw [hwA]; exact heap_alloc_new _ _
  have hAs : wA.heap.size = w3.heap.size + 1 := by rw [hwA]; simp
  have HAs := hide hAs
  have WA := hide (W3.out.trans (BA.out.mono W3.out.size))
  have RA := hide (rowText_below R3.out BA.out)
  clear hAs
  go_wp2_with fail
  rw [← hwA]
  clear hwA
  refine (HTO.out _ WA.out).mono ?_
  rintro e w4 ⟨⟨v4, rfl, r4⟩, b4⟩
  obtain ⟨a4, c4, rfl, h4⟩ := rowEnt_at r4
  have R4 := hide r4
  have HX4 := hide h4
  have BA4 := hide b4
  have W4 := hide (WA.out.trans (b4.mono WA.out.size))
  have hs4 : w3.heap.size + 1 ≤ w4.heap.size := by have := b4.size; have := HAs.out; omega
  clear r4 h4 b4
  go_wp2_with fail
  refine (HIM.out _ _ _ HX4.out).mono ?_
  rintro e w5 ⟨⟨a5, c5, rfl, r5⟩, b5⟩
  have R5 := hide r5
  have B5 := hide b5
  have W5 := hide (W4.out.trans (b5.mono W4.out.size))
  have hs5 : w4.heap.size ≤ w5.heap.size := b5.size
  clear r5 b5
  obtain ⟨wB, hwB⟩ : ∃ wB, wB = w5.alloc (.cells #[.int .i64 k, .int .i64 u, .string t, .slice a5 ts.length c5] 27) := ⟨_, rfl⟩
  have BB : Hid (Below w5.heap.size w5 wB) := by rw [hwB]; exact (Below.refl _ w5).alloc (Nat.le_refl _) _
  have PB : Hid (wB.heap[w5.heap.size]? = some (.cells #[.int .i64 k, .int .i64 u, .string t, .slice a5 ts.length c5] 27 (0, 0))) := by rw [hwB]; exact heap_alloc_new _ _
  have hBs : wB.heap.size = w5.heap.size + 1 := by rw [hwB]; simp
  have HBs := hide hBs
  have WB := hide (W5.out.trans (BB.out.mono W5.out.size))
  have B4B := hide (B5.out.trans (BB.out.mono hs5))
  have BAB : Hid (Below wA.heap.size wA wB) := BA4.out.trans (B4B.out.mono (by have := HAs.out; omega))
  have P1B : Hid (wB.heap[w3.heap.size]? = some (.cells #[.int .i64 k, .int .i64 u, .string t, .slice a3 ts.length c3] 27 (0, 0))) := (BAB.out.block _ (obj_lt PA.out)).trans PA.out
  have K1 := hide (rowText_rows (rowText_below RA.out BAB.out))
  have K2 := hide (rowText_rows (rowText_below R5.out BB.out))
  go_upto_region 10 with fail
  rw [← hwB]
  clear hwB hBs
  obtain ⟨hp0, hp1, hp2, hp3⟩ := val_cells P1B.out
  obtain ⟨hq0, hq1, hq2, hq3⟩ := val_cells PB.out
  go_wp2_with fail
  refine (HEQ.out _ _ _ _ _ K2.out K1.out).mono ?_
  rintro e w6 ⟨rfl, b6⟩
  have BB6 := hide b6
  have W6 := hide (WB.out.trans (b6.mono WB.out.size))
  clear b6 hp0 hp1 hp2 hp3 hq0 hq1 hq2 hq3
  have B46 := hide (B4B.out.trans (BB6.out.mono B4B.out.size))
  have hs6 : w5.heap.size + 1 ≤ w6.heap.size := by have := BB6.out.size; have := HBs.out; omega
  go_wp2_with fail
  refine (HTO.out _ W6.out).mono ?_
  rintro e w7 ⟨⟨v7, rfl, r7⟩, b7⟩
  obtain ⟨a7, c7, rfl, h7⟩ := rowEnt_at r7
  have HX7 := hide h7
  have B47 := hide (B46.out.trans (b7.mono B46.out.size))
  have BB7 := hide (BB6.out.trans (b7.mono BB6.out.size))
  have W7 := hide (W6.out.trans (b7.mono W6.out.size))
  clear r7 h7 b7
  go_wp2_with fail
  refine (eqEntryS_same es a4 a7 c4 c7 _ hl1 HIC.out (entriesAt_keep HX4.out B47.out) HX7.out).mono ?_
  rintro e w8 ⟨rfl, b8⟩
  have B48 := hide (B47.out.trans (b8.mono B47.out.size))
  have W8 := hide (W7.out.trans (b8.mono W7.out.size))
  have BB8 := hide (BB7.out.trans (b8.mono BB7.out.size))
  have hs8 : w5.heap.size + 1 ≤ w8.heap.size := by have := BB8.out.size; have := HBs.out; omega
  clear b8
  have BA8 : Hid (Below wA.heap.size wA w8) := BA4.out.trans (B48.out.mono (by have := HAs.out; omega))
  go_wp2_with fail
  refine (markEntryS_row _ es wA.heap.size 1 _ hsum HIC.out (by omega) (by omega) (rowEnt_below R4.out B48.out) w4.heap.size (topE_below (topE_of R4.out) (Nat.le_refl _) B48.out)).mono ?_
  rintro e w9 ⟨rfl, -, b9, t9⟩
  rw [HKE.out]
  have BA9 := hide (BA8.out.trans b9)
  have W9 := hide (W8.out.trans (b9.mono WA.out.size))
  have hs9 : w8.heap.size ≤ w9.heap.size := b9.size
  have HT9 : Hid (∀ b, w4.heap.size ≤ b → b < wB.heap.size → w9.heap[b]? = wB.heap[b]?) := fun b h1 h2 => (t9 b h1 (by have := BB8.out.size; omega)).trans (BB8.out.block b h2)
  clear b9 t9
  have P19 : Hid (w9.heap[w3.heap.size]? = some (.cells #[.int .i64 k, .int .i64 u, .string t, .slice a3 ts.length c3] 27 (0, 0))) := (BA9.out.block _ (obj_lt PA.out)).trans PA.out
  have P29 : Hid (w9.heap[w5.heap.size]? = some (.cells #[.int .i64 k, .int .i64 u, .string t, .slice a5 ts.length c5] 27 (0, 0))) := (HT9.out _ hs5 (obj_lt PB.out)).trans PB.out
  have R19 := hide (rowText_below RA.out BA9.out)
  have R29 : Hid (RowText w9 w4.heap.size (.slice a5 ts.length c5) ts) := rowText_keep (rowText_below R5.out BB.out) (fun g hg => HT9.out g (rowText_lt R5.out g hg).1 (by have := (rowText_lt R5.out g hg).2; have := BB.out.size; omega))
  have HG1 := hide (rowText_lt R3.out)
  have HG2 := hide (rowText_lt R5.out)
  have K19 := hide (rowText_rows R19.out)
  have K29 := hide (rowText_rows R29.out)
  obtain ⟨hp0, hp1, hp2, hp3⟩ := val_cells P19.out
  obtain ⟨hq0, hq1, hq2, hq3⟩ := val_cells P29.out
  go_wp2_with fail
  refine (HEQ.out _ _ _ _ _ K29.out K19.out).mono ?_
  rintro e w10 ⟨rfl, b10⟩
  have W10 := hide (W9.out.trans (b10.mono W9.out.size))
  have hs10 : w9.heap.size ≤ w10.heap.size := b10.size
  have P110 := hide ((b10.block _ (obj_lt P19.out)).trans P19.out)
  have P210 := hide ((b10.block _ (obj_lt P29.out)).trans P29.out)
  have R110 := hide (rowText_below R19.out b10)
  have R210 := hide (rowText_below R29.out b10)
  clear b10 hp0 hp1 hp2 hp3 hq0 hq1 hq2 hq3
  obtain ⟨hq0, hq1, hq2, hq3⟩ := val_cells P210.out
  go_wp2_with fail
  refine (markVal_row k u t a5 c5 ts w4.heap.size 1 _ hVl (by omega) (by omega) (by omega) R210.out).mono ?_
  rintro e w11 ⟨rfl, r11, b11, t11⟩
  rw [HKM.out]
  have R11 := hide r11
  have K11 : Hid (TextsAt w11 a5 (markTs 1 ts.length)) := rowText_rows r11
  have W11 := hide (W10.out.trans (b11.mono W4.out.size))
  have hs11 : w10.heap.size ≤ w11.heap.size := b11.size
  have P111 : Hid (w11.heap[w3.heap.size]? = _) := (t11 _ (obj_lt P110.out) (fun e => by have := (HG2.out _ e.symm).1; omega)).trans P110.out
  have P211 : Hid (w11.heap[w5.heap.size]? = _) := (t11 _ (obj_lt P210.out) (fun e => by have := (HG2.out _ e.symm).2; omega)).trans P210.out
  have R111 : Hid (RowText w11 w2.heap.size (.slice a3 ts.length c3) ts) := rowText_keep R110.out (fun g hg => t11 g (rowText_lt R110.out g hg).2 (fun e => by have h1 := (HG2.out _ e.symm).1; have h2 := (HG1.out g hg).2; omega))
  clear r11 b11 t11 hq0 hq1 hq2 hq3
  obtain ⟨hq0, hq1, hq2, hq3⟩ := val_cells P211.out
  go_wp2_with fail
  refine (heldVal_any k u t a5 c5 ts.length 1 _ hVl (by omega) (by omega) K11.out).mono ?_
  rintro e w12 ⟨rfl, b12⟩
  rw [HKM.out]
  have X12 := hide b12
  have W12 := hide (W11.out.trans (b12.mono W11.out.size))
  clear b12 hq0 hq1 hq2 hq3
  go_wp2_with fail
  refine (HTO.out _ W12.out).mono ?_
  rintro e w13 ⟨⟨v13, rfl, r13⟩, b13⟩
  obtain ⟨a13, c13, rfl, h13⟩ := rowEnt_at r13
  have HX13 := hide h13
  have X13 := hide (X12.out.trans (b13.mono X12.out.size))
  clear r13 h13 b13
  go_wp2_with fail
  refine (HIM.out _ _ _ HX13.out).mono ?_
  rintro e w14 ⟨⟨a14, c14, rfl, r14⟩, b14⟩
  have R14 := hide r14
  have X14 := hide (X13.out.trans (b14.mono X13.out.size))
  clear r14 b14
  obtain ⟨wC, hwC⟩ : ∃ wC, wC = w14.alloc (.cells #[.int .i64 k, .int .i64 u, .string t, .slice a14 ts.length c14] 27) := ⟨_, rfl⟩
  have BC : Hid (Below w14.heap.size w14 wC) := by rw [hwC]; exact (Below.refl _ w14).alloc (Nat.le_refl _) _
  have PC : Hid (wC.heap[w14.heap.size]? = some (.cells #[.int .i64 k, .int .i64 u, .string t, .slice a14 ts.length c14] 27 (0, 0))) := by rw [hwC]; exact heap_alloc_new _ _
  have XC := hide (X14.out.trans (BC.out.mono X14.out.size))
  have P1C := hide ((XC.out.block _ (obj_lt P111.out)).trans P111.out)
  have K1C := hide (rowText_rows (rowText_below R111.out XC.out))
  have K3C := hide (rowText_rows (rowText_below R14.out BC.out))
  go_upto_region 27 with fail
  rw [← hwC]
  clear hwC
  obtain ⟨hp0, hp1, hp2, hp3⟩ := val_cells P1C.out
  obtain ⟨hq0, hq1, hq2, hq3⟩ := val_cells PC.out
  go_wp2_with fail
  refine (HEQ.out _ _ _ _ _ K3C.out K1C.out).mono ?_
  rintro e w15 ⟨rfl, b15⟩
  have X15 := hide (XC.out.trans (b15.mono XC.out.size))
  clear b15 hp0 hp1 hp2 hp3 hq0 hq1 hq2 hq3
  have P215 := hide ((X15.out.block _ (obj_lt P211.out)).trans P211.out)
  obtain ⟨hq0, hq1, hq2, hq3⟩ := val_cells P215.out
  go_wp2_with fail
  refine (heldVal_any k u t a5 c5 ts.length 1 _ hVl (by omega) (by omega) (textsAt_keep K11.out X15.out)).mono ?_
  rintro e w16 ⟨rfl, b16⟩
  rw [HKM.out]
  have X16 := hide (X15.out.trans (b16.mono X15.out.size))
  clear b16
  go_wp2
  go_ret
  exact ⟨rfl, W11.out.trans (X16.out.mono W11.out.size)⟩
end Go.Proofs.Ytiokajdkgkpeiaa
