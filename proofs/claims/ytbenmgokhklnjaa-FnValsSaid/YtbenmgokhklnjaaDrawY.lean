/- Drawn values and texts of values; values told the same. -/
import Derived.Test.YtbenmgokhklnjaaDrawX
import Derived.Test.YtbenmgokhklnjaaDrawSp
import Derived.Test.YtbenmgokhklnjaaValTS
namespace Go.Proofs.Ytbenmgokhklnjaa
open Go.RowKit

set_option maxRecDepth 100000 in
set_option maxHeartbeats 800000 in
theorem sameTexts_same (ts : List ByteArray) (ao ao2 : Option Addr) (cap cap2 : Nat) (w : World) (hl : ts.length ≤ maxLen) (h1 : TextsAt w ao ts) (h2 : TextsAt w ao2 ts) :
    Calls Try.prog 38 #[.slice ao ts.length cap, .slice ao2 ts.length cap2] w fun e w' => e = .returned (.bool true) ∧ Below w.heap.size w w' := by
  have H1 := hide h1
  have H2 := hide h2
  clear h1 h2
  unfold maxLen at hl
  have hne : (!((ts.length : Int) == (ts.length : Int))) = false := by simp
  go_enter Try.func38, Try.ntmps38
  go_wp2
  go_loopw [5] (fun ii wr => ∃ (k q : Nat), ii = .int .i64 k ∧ k ≤ ts.length ∧ wr = w.drewN q) (fun ii _ => ts.length - (intOf ii).toNat)
  case atStart => exact ⟨0, 0, rfl, Nat.zero_le _, rfl⟩
  case round =>
    obtain ⟨k, q, rfl, hk, rfl⟩ := hrel
    by_cases hlt : k < ts.length
    · have hlt' : decide ((k : Int) < (ts.length : Int)) = true := by simp; omega
      obtain ⟨b, off, rfl, hbw, hc0⟩ := H1.out k hlt
      obtain ⟨b', off', rfl, hbw', hd0⟩ := H2.out k hlt
      generalize ts[k] = F at hc0 hd0
      have hi0 : (0 : Int) ≤ (k : Int) := by omega
      have hi1 : (k : Int) < (ts.length : Int) := by omega
      have hee : (F.toList == F.toList) = true := beq_self_eq_true _
      go_wp2
      go_quiet (fail)
      go_wp2
      go_roundw
      case rel => exact ⟨k + 1, q + nq, by go_num, by omega, rfl⟩
      case measure => simp [intOf]; omega
    · have hlt' : decide ((k : Int) < (ts.length : Int)) = false := by simp; omega
      go_wp2
      go_ret
      exact ⟨rfl, drewN_below w q⟩

set_option maxRecDepth 100000 in
set_option maxHeartbeats 800000 in
theorem sameVal_same (v : ValD) (ao ao2 : Option Addr) (cap cap2 : Nat) (w : World) (hl : v.items.length ≤ maxLen) (h1 : TextsAt w ao v.items) (h2 : TextsAt w ao2 v.items) :
    Calls Try.prog 12 #[.agg #[.int .i64 v.kind, .int .i64 v.til, .string v.text, .slice ao v.items.length cap], .agg #[.int .i64 v.kind, .int .i64 v.til, .string v.text, .slice ao2 v.items.length cap2]] w fun e w' => e = .returned (.bool true) ∧ Below w.heap.size w w' := by
  obtain ⟨k, u, t, ts⟩ := v
  simp only at hl h1 h2 ⊢
  have H1 := hide h1
  have H2 := hide h2
  clear h1 h2
  have e0 : (k == k) = true := beq_self_eq_true _
  have e1 : (u == u) = true := beq_self_eq_true _
  have e2 : (t.toList == t.toList) = true := beq_self_eq_true _
  have H0 : Hid (Below w.heap.size w ((w.alloc (.cells #[.int .i64 k, .int .i64 u, .string t, .slice ao ts.length cap] 26)).alloc (.cells #[.int .i64 k, .int .i64 u, .string t, .slice ao2 ts.length cap2] 26))) := ((Below.refl _ w).alloc (Nat.le_refl _) _).alloc (by simp) _
  go_enter Try.func12, Try.ntmps12
  go_wp2_with fail
  refine (sameTexts_same ts ao ao2 cap cap2 _ hl (textsAt_keep H1.out H0.out) (textsAt_keep H2.out H0.out)).mono ?_
  rintro e w1 ⟨rfl, b1⟩
  have HB : Hid (Below w.heap.size w w1) := H0.out.trans (b1.mono H0.out.size)
  clear b1
  go_wp2
  go_ret
  exact ⟨rfl, HB.out⟩

set_option maxRecDepth 100000 in
set_option maxHeartbeats 800000 in
theorem drawValText_any (w : World) (ao : Option Addr) (len cap : Nat) (hlen : len ≤ 1048576) (hcode : Code w ao len) :
    Calls Try.prog 7 #[.slice ao len cap] w fun e w' => (∃ (v : ValD) (a : Option Addr) (c : Nat), e = .returned (.agg #[.int .i64 v.kind, .int .i64 v.til, .string v.text, .slice a v.items.length c]) ∧ BndV v ∧ RowText w' w.heap.size (.slice a v.items.length c) v.items) ∧ Below w.heap.size w w' := by
  obtain ⟨wb, hwb⟩ : ∃ wb, wb = w.alloc (.cells #[.int .i64 0, .int .i64 0, .string ⟨#[]⟩, .slice none 0 0] 26) := ⟨_, rfl⟩
  have BB : Hid (Below w.heap.size w wb) := by rw [hwb]; exact (Below.refl _ w).alloc (Nat.le_refl _) _
  have PB : Hid (wb.heap[w.heap.size]? = some (.cells #[.int .i64 0, .int .i64 0, .string ⟨#[]⟩, .slice none 0 0] 26 (0, 0))) := by rw [hwb]; exact heap_alloc_new _ _
  have HC := hide (code_keep hcode BB.out)
  clear hcode
  go_enter Try.func7, Try.ntmps7
  go_wp2_with fail
  rw [← hwb]
  clear hwb
  refine (new_any _ ao len cap hlen HC.out).mono ?_
  rintro e w1 ⟨g, rfl, c1⟩
  have C1 := hide c1
  clear c1
  go_wp2_with fail
  refine (l10AnyVal_any wb w1 g ao len cap hlen HC.out C1.out).mono ?_
  rintro e w2 ⟨⟨⟨k, u, s, ts⟩, a, c, rfl, hbd, hr⟩, c2, -⟩
  simp only at hr
  have HBD := hide hbd
  have HR := hide hr
  have B2 := hide c2.1
  have hs1 := C1.out.1.size
  have hlt := hide (rowText_lt hr)
  clear hbd hr c2
  have hp := (B2.out.block _ (obj_lt PB.out)).trans PB.out
  have hws := obj_lt PB.out
  obtain ⟨r0, r1, r2, r3⟩ := val_cells hp
  obtain ⟨f0, f1, f2, f3⟩ := val_frozen hp
  clear hp
  go_wp2_with fail
  refine bodyPost_ret (v := .agg #[.int .i64 k, .int .i64 u, .string s, .slice a ts.length c]) (by simp [results, Try.results7, go_sem, r0, r1, r2, r3]) rfl ⟨⟨⟨k, u, s, ts⟩, a, c, rfl, HBD.out, ?_⟩, ?_⟩
  · refine rowText_le (rowText_keep HR.out (fun x hx => ?_)) (by omega : w.heap.size ≤ w1.heap.size)
    have h1 := (hlt.out x hx).1
    rw [Below.heap_setCell _ _ _ _ (by simp; omega), Below.heap_setCell _ _ _ _ (by simp; omega), Below.heap_setCell _ _ _ _ (by simp; omega), Below.heap_setCell _ _ _ _ (by simp; omega)]
  · exact ((((BB.out.trans (B2.out.mono BB.out.size)).setCell (p := ⟨w.heap.size, 0, none⟩) (Nat.le_refl _) _).setCell (p := ⟨w.heap.size, 1, none⟩) (Nat.le_refl _) _).setCell (p := ⟨w.heap.size, 2, none⟩) (Nat.le_refl _) _).setCell (p := ⟨w.heap.size, 3, none⟩) (Nat.le_refl _) _

theorem valT_small {v : ValD} (h : ValR v) : (valT v).size ≤ 9000 := by
  obtain ⟨-, -, -, -, h1, h2, h3⟩ := valR_bounds h
  have h4 := headV_size v
  have h5 := textsL_len v.items h3
  have e : (valT v).size = (headV v).size + (textsL v.items).length := by
    unfold valT
    show ((headV v).data.toList ++ textsL v.items).length = _
    rw [List.length_append]
    rfl
  omega

set_option maxRecDepth 100000 in
set_option maxHeartbeats 800000 in
theorem drawReadVal_any (w : World) (ao : Option Addr) (len cap : Nat) (hlen : len ≤ 1048576) (hcode : Code w ao len) :
    Calls Try.prog 13 #[.slice ao len cap] w fun e w' => ∃ T : ByteArray, e = .returned (.string T) ∧ T.size ≤ 30000 ∧ Below w.heap.size w w' := by
  have HC := hide hcode
  clear hcode
  go_enter Try.func13, Try.ntmps13
  go_wp2_with fail
  refine (new_any _ ao len cap hlen HC.out).mono ?_
  rintro e w1 ⟨g, rfl, c1⟩
  have C1 := hide c1
  clear c1
  go_wp2_with fail
  refine (l10AnyVal_any w w1 g ao len cap hlen HC.out C1.out).mono ?_
  rintro e w2 ⟨⟨v, a, c, rfl, hbd, hr⟩, c2, -⟩
  have C2 := hide c2
  have HR := hide (rowText_rows hr)
  obtain ⟨R, HRV⟩ : ∃ R : Bool, Hid (R = true ↔ ValR v) := by classical exact ⟨decide (ValR v), by show _ ↔ _; simp⟩
  have CT := hide (specValText_any v a c w2 R HRV.out (by have := hbd.2.1; omega) (by have := hbd.1; unfold maxLen; omega) HR.out (fun s hs => by have := hbd.2.2 s hs; unfold maxLen; omega))
  have hz : (cond R (valT v) ⟨#[]⟩).size ≤ 9000 := by
    cases R
    · exact Nat.zero_le _
    · exact valT_small (HRV.out.1 rfl)
  generalize cond R (valT v) ⟨#[]⟩ = X at CT hz
  obtain ⟨k, u, s, ts⟩ := v
  simp only at CT
  clear hbd hr c2 HRV HR
  go_wp2_with fail
  refine CT.out.mono ?_
  rintro e w3 ⟨rfl, b3⟩
  have C3 := hide (cur_keep C2.out b3 (cur_lt C2.out))
  clear b3
  go_wp2_with fail
  refine (spoilt_any w _ g ao len cap X hlen hz HC.out C3.out).mono ?_
  rintro e w4 ⟨T, rfl, hT, hc4, g4⟩
  have B4 := hide hc4.1
  clear hc4 g4
  go_wp2
  go_ret
  exact ⟨T, rfl, hT, B4.out⟩
end Go.Proofs.Ytbenmgokhklnjaa
