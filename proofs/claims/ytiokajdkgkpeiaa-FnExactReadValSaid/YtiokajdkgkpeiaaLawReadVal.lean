/- The law of ReadVal. -/
import Derived.Test.YtiokajdkgkpeiaaRdvS
import Derived.Test.YtiokajdkgkpeiaaRdvI
import Derived.Test.YtiokajdkgkpeiaaValM
namespace Go.Proofs.Ytiokajdkgkpeiaa
open Go.RowKit

set_option maxRecDepth 100000 in
set_option maxHeartbeats 3200000 in
theorem lawReadVal (t : ByteArray) (w : World) (hz : t.size ≤ maxLen) :
    Calls Try.prog 6 #[.string t] w fun e w' => e = .returned (.bool true) ∧ Below w.heap.size w w' := by
  unfold maxLen at hz
  by_cases hbig : 1048576 < t.size
  · have hbig' : decide ((1048576 : Int) < (t.size : Int)) = true := by simp; omega
    go_enter Try.func6, Try.ntmps6
    go_wp2
    go_ret
    exact ⟨rfl, Below.refl _ _⟩
  have hbig' : decide ((1048576 : Int) < (t.size : Int)) = false := by simp; omega
  obtain ⟨ok, HR⟩ : ∃ R : Bool, Hid (R = true ↔ RvOk t) := by classical exact ⟨decide (RvOk t), by show _ ↔ _; simp⟩
  have HSP := hide (fun W => specReadVal_any t W ok HR.out (by omega))
  have HIM := hide (fun W => implReadVal_any t W ok HR.out (by omega))
  have hVl : (cond ok (rvRaw t).1 noVal).items.length ≤ 1048576 := by
    cases ok
    · exact Nat.zero_le _
    · have := (valR_bounds (HR.out.1 rfl).2.2.1).2.2.2.2.2.1
      show (rvRaw t).1.items.length ≤ _
      omega
  generalize cond ok (rvRaw t).1 noVal = V at HSP HIM hVl
  obtain ⟨k, u, s, ts⟩ := V
  simp only at HSP HIM hVl
  have HEQ := hide (fun a a2 c c2 W (h1 : TextsAt W a ts) (h2 : TextsAt W a2 ts) => eqVal_same ⟨k, u, s, ts⟩ a a2 c c2 W (by unfold maxLen; simp only; omega) h1 h2)
  simp only at HEQ
  have hoo : (!(ok == ok)) = false := by simp
  obtain ⟨KM, HKM⟩ : ∃ KM : Int, Hid (((1 + ts.length : Nat) : Int) = KM) := ⟨_, rfl⟩
  have hKM : decide (KM < 0) = false := by have := HKM.out; simp; omega
  have hKK : (!(KM == KM)) = false := by simp
  go_enter Try.func6, Try.ntmps6
  go_wp2_with fail
  refine (HSP.out _).mono ?_
  rintro e w3 ⟨⟨a3, c3, rfl, r3⟩, b3⟩
  have R3 := hide r3
  have W3 := hide b3
  clear b3 r3
  obtain ⟨wA, hwA⟩ : ∃ wA, wA = w3.alloc (.cells #[.int .i64 k, .int .i64 u, .string s, .slice a3 ts.length c3] 27) := ⟨_, rfl⟩
  have BA : Hid (Below w3.heap.size w3 wA) := by rw [hwA]; exact (Below.refl _ w3).alloc (Nat.le_refl _) _
  have PA : Hid (wA.heap[w3.heap.size]? = some (.cells #[.int .i64 k, .int .i64 u, .string s, .slice a3 ts.length c3] 27 (0, 0))) := by rw [hwA]; exact heap_alloc_new _ _
  have hAs : wA.heap.size = w3.heap.size + 1 := by rw [hwA]; simp
  have HAs := hide hAs
  have WA := hide (W3.out.trans (BA.out.mono W3.out.size))
  have RA := hide (rowText_below R3.out BA.out)
  clear hAs
  go_wp2_with fail
  rw [← hwA]
  clear hwA
  refine (HIM.out _).mono ?_
  rintro e w5 ⟨⟨a5, c5, rfl, r5⟩, b5⟩
  have R5 := hide r5
  have BA5 := hide b5
  have W5 := hide (WA.out.trans (b5.mono WA.out.size))
  have hs5 : w3.heap.size + 1 ≤ w5.heap.size := by have := b5.size; have := HAs.out; omega
  clear r5 b5
  obtain ⟨wB, hwB⟩ : ∃ wB, wB = w5.alloc (.cells #[.int .i64 k, .int .i64 u, .string s, .slice a5 ts.length c5] 27) := ⟨_, rfl⟩
  have BB : Hid (Below w5.heap.size w5 wB) := by rw [hwB]; exact (Below.refl _ w5).alloc (Nat.le_refl _) _
  have PB : Hid (wB.heap[w5.heap.size]? = some (.cells #[.int .i64 k, .int .i64 u, .string s, .slice a5 ts.length c5] 27 (0, 0))) := by rw [hwB]; exact heap_alloc_new _ _
  have WB := hide (W5.out.trans (BB.out.mono W5.out.size))
  have BAB := hide (BA5.out.trans (BB.out.mono BA5.out.size))
  have P1B := hide ((BAB.out.block _ (obj_lt PA.out)).trans PA.out)
  have R1B := hide (rowText_below RA.out BAB.out)
  have R2B := hide (rowText_below R5.out BB.out)
  have K1 := hide (rowText_rows R1B.out)
  have K2 := hide (rowText_rows R2B.out)
  have HG1 := hide (rowText_lt R3.out)
  have HG2 := hide (rowText_lt R5.out)
  go_upto_region 5 with fail
  rw [← hwB]
  clear hwB
  obtain ⟨hp0, hp1, hp2, hp3⟩ := val_cells P1B.out
  obtain ⟨hq0, hq1, hq2, hq3⟩ := val_cells PB.out
  go_wp2_with fail
  refine (HEQ.out _ _ _ _ _ K2.out K1.out).mono ?_
  rintro e w10 ⟨rfl, b10⟩
  have W10 := hide (WB.out.trans (b10.mono WB.out.size))
  have P110 := hide ((b10.block _ (obj_lt P1B.out)).trans P1B.out)
  have P210 := hide ((b10.block _ (obj_lt PB.out)).trans PB.out)
  have R110 := hide (rowText_below R1B.out b10)
  have R210 := hide (rowText_below R2B.out b10)
  have hs10 : w5.heap.size ≤ w10.heap.size := Nat.le_trans BB.out.size b10.size
  clear b10 hp0 hp1 hp2 hp3 hq0 hq1 hq2 hq3
  obtain ⟨hq0, hq1, hq2, hq3⟩ := val_cells P210.out
  go_wp2_with fail
  refine (markVal_row k u s a5 c5 ts wA.heap.size 1 _ hVl (by omega) (by omega) (by have := BA5.out.size; omega) R210.out).mono ?_
  rintro e w11 ⟨rfl, r11, b11, t11⟩
  rw [HKM.out]
  have K11 : Hid (TextsAt w11 a5 (markTs 1 ts.length)) := rowText_rows r11
  have W11 := hide (W10.out.trans (b11.mono WA.out.size))
  have P111 : Hid (w11.heap[w3.heap.size]? = _) := (t11 _ (obj_lt P110.out) (fun e => by have := (HG2.out _ e.symm).1; have := HAs.out; omega)).trans P110.out
  have P211 : Hid (w11.heap[w5.heap.size]? = _) := (t11 _ (obj_lt P210.out) (fun e => by have := (HG2.out _ e.symm).2; omega)).trans P210.out
  have R111 : Hid (RowText w11 w.heap.size (.slice a3 ts.length c3) ts) := rowText_keep R110.out (fun g hg => t11 g (rowText_lt R110.out g hg).2 (fun e => by have h1 := (HG2.out _ e.symm).1; have h2 := (HG1.out g hg).2; have := HAs.out; omega))
  clear r11 b11 t11 hq0 hq1 hq2 hq3
  obtain ⟨hq0, hq1, hq2, hq3⟩ := val_cells P211.out
  go_wp2_with fail
  refine (heldVal_any k u s a5 c5 ts.length 1 _ hVl (by omega) (by omega) K11.out).mono ?_
  rintro e w12 ⟨rfl, b12⟩
  rw [HKM.out]
  have X12 := hide b12
  clear b12 hq0 hq1 hq2 hq3
  go_wp2_with fail
  refine (HIM.out _).mono ?_
  rintro e w14 ⟨⟨a14, c14, rfl, r14⟩, b14⟩
  have R14 := hide r14
  have X14 := hide (X12.out.trans (b14.mono X12.out.size))
  clear r14 b14
  obtain ⟨wC, hwC⟩ : ∃ wC, wC = w14.alloc (.cells #[.int .i64 k, .int .i64 u, .string s, .slice a14 ts.length c14] 27) := ⟨_, rfl⟩
  have BC : Hid (Below w14.heap.size w14 wC) := by rw [hwC]; exact (Below.refl _ w14).alloc (Nat.le_refl _) _
  have PC : Hid (wC.heap[w14.heap.size]? = some (.cells #[.int .i64 k, .int .i64 u, .string s, .slice a14 ts.length c14] 27 (0, 0))) := by rw [hwC]; exact heap_alloc_new _ _
  have XC := hide (X14.out.trans (BC.out.mono X14.out.size))
  have P1C := hide ((XC.out.block _ (obj_lt P111.out)).trans P111.out)
  have K1C := hide (rowText_rows (rowText_below R111.out XC.out))
  have K3C := hide (rowText_rows (rowText_below R14.out BC.out))
  go_upto_region 16 with fail
  rw [← hwC]
  clear hwC
  obtain ⟨hp0, hp1, hp2, hp3⟩ := val_cells P1C.out
  obtain ⟨hq0, hq1, hq2, hq3⟩ := val_cells PC.out
  go_wp2_with fail
  refine (HEQ.out _ _ _ _ _ K3C.out K1C.out).mono ?_
  rintro e w15 ⟨rfl, b15⟩
  have X15 := hide (XC.out.trans (b15.mono XC.out.size))
  clear b15 hp0 hp1 hp2 hp3 hq0 hq1 hq2 hq3
  have P215 := hide ((X15.out.block _ (obj_lt P211.out)).trans P211.out)
  obtain ⟨hq0, hq1, hq2, hq3⟩ := val_cells P215.out
  go_wp2_with fail
  refine (heldVal_any k u s a5 c5 ts.length 1 _ hVl (by omega) (by omega) (textsAt_keep K11.out X15.out)).mono ?_
  rintro e w16 ⟨rfl, b16⟩
  rw [HKM.out]
  have X16 := hide (X15.out.trans (b16.mono X15.out.size))
  clear b16
  go_wp2
  go_ret
  exact ⟨rfl, W11.out.trans (X16.out.mono W11.out.size)⟩
end Go.Proofs.Ytiokajdkgkpeiaa
