import Derived.Deep.RegionHeld3
import Derived.BigQuiet
import Derived.WalkSmall
import Derived.Lib.ConvBytes
import Derived.Deep.AppendLies
import Derived.Deep.CutRange
import Derived.Deep.RegionLaw
import Derived.Test.YtbenmgokhklnjaaVa3
import Derived.Test.YtbenmgokhklnjaaVa5
import Derived.Test.YtbenmgokhklnjaaVa0
import Derived.Test.YtbenmgokhklnjaaVa2
set_option maxRecDepth 100000
set_option maxHeartbeats 1600000
namespace Go.Proofs.Ytbenmgokhklnjaa
open Go.RowKit
theorem sameTexts_same (ts : List ByteArray) (ao ao2 : Option Addr) (cap cap2 : Nat) (w : World) (hl : ts.length ≤ maxLen) (h1 : TextsAt w ao ts) (h2 : TextsAt w ao2 ts) :
    Calls Try.prog 38 #[.slice ao ts.length cap, .slice ao2 ts.length cap2] w fun e w' => e = .returned (.bool true) ∧ Below w.heap.size w w' := by
  have H1 := hide h1
  have H2 := hide h2
  clear h1 h2
  unfold maxLen at hl
  have hne : (!((ts.length : Int) == (ts.length : Int))) = false := by simp
  go_enter Try.func38, Try.ntmps38
  go_wp2
  go_loopw [5] (fun ii wr => ∃ (k q : Nat), ii = .int .i64 k ∧ k ≤ ts.length ∧ wr = w.drewN q) (fun ii _ => ts.length - (intOf ii).toNat)
  case atStart => exact ⟨0, 0, rfl, Nat.zero_le _, rfl⟩
  case round =>
    obtain ⟨k, q, rfl, hk, rfl⟩ := hrel
    by_cases hlt : k < ts.length
    · have hlt' : decide ((k : Int) < (ts.length : Int)) = true := by simp; omega
      obtain ⟨b, off, rfl, hbw, hc0⟩ := H1.out k hlt
      obtain ⟨b', off', rfl, hbw', hd0⟩ := H2.out k hlt
      generalize ts[k] = F at hc0 hd0
      have hi0 : (0 : Int) ≤ (k : Int) := by omega
      have hi1 : (k : Int) < (ts.length : Int) := by omega
      have hee : (F.toList == F.toList) = true := beq_self_eq_true _
      go_wp2
      go_quiet (fail)
      go_wp2
      go_roundw
      case rel => exact ⟨k + 1, q + nq, by go_num, by omega, rfl⟩
      case measure => simp [intOf]; omega
    · have hlt' : decide ((k : Int) < (ts.length : Int)) = false := by simp; omega
      go_wp2
      go_ret
      exact ⟨rfl, drewN_below w q⟩
theorem sameVal_same (v : ValD) (ao ao2 : Option Addr) (cap cap2 : Nat) (w : World) (hl : v.items.length ≤ maxLen) (h1 : TextsAt w ao v.items) (h2 : TextsAt w ao2 v.items) :
    Calls Try.prog 12 #[.agg #[.int .i64 v.kind, .int .i64 v.til, .string v.text, .slice ao v.items.length cap], .agg #[.int .i64 v.kind, .int .i64 v.til, .string v.text, .slice ao2 v.items.length cap2]] w fun e w' => e = .returned (.bool true) ∧ Below w.heap.size w w' := by
  obtain ⟨k, u, t, ts⟩ := v
  simp only at hl h1 h2 ⊢
  have H1 := hide h1
  have H2 := hide h2
  clear h1 h2
  have e0 : (k == k) = true := beq_self_eq_true _
  have e1 : (u == u) = true := beq_self_eq_true _
  have e2 : (t.toList == t.toList) = true := beq_self_eq_true _
  have H0 : Hid (Below w.heap.size w ((w.alloc (.cells #[.int .i64 k, .int .i64 u, .string t, .slice ao ts.length cap] 26)).alloc (.cells #[.int .i64 k, .int .i64 u, .string t, .slice ao2 ts.length cap2] 26))) := ((Below.refl _ w).alloc (Nat.le_refl _) _).alloc (by simp) _
  go_enter Try.func12, Try.ntmps12
  go_wp2_with fail
  refine (sameTexts_same ts ao ao2 cap cap2 _ hl (textsAt_keep H1.out H0.out) (textsAt_keep H2.out H0.out)).mono ?_
  rintro e w1 ⟨rfl, b1⟩
  have HB : Hid (Below w.heap.size w w1) := H0.out.trans (b1.mono H0.out.size)
  clear b1
  go_wp2
  go_ret
  exact ⟨rfl, HB.out⟩
theorem drawValText_any (w : World) (ao : Option Addr) (len cap : Nat) (hlen : len ≤ 1048576) (hcode : Code w ao len) :
    Calls Try.prog 7 #[.slice ao len cap] w fun e w' => (∃ (v : ValD) (a : Option Addr) (c : Nat), e = .returned (.agg #[.int .i64 v.kind, .int .i64 v.til, .string v.text, .slice a v.items.length c]) ∧ BndV v ∧ RowText w' w.heap.size (.slice a v.items.length c) v.items) ∧ Below w.heap.size w w' := by
  obtain ⟨wb, hwb⟩ : ∃ wb, wb = w.alloc (.cells #[.int .i64 0, .int .i64 0, .string ⟨#[]⟩, .slice none 0 0] 26) := ⟨_, rfl⟩
  have BB : Hid (Below w.heap.size w wb) := by rw [hwb]; exact (Below.refl _ w).alloc (Nat.le_refl _) _
  have PB : Hid (wb.heap[w.heap.size]? = some (.cells #[.int .i64 0, .int .i64 0, .string ⟨#[]⟩, .slice none 0 0] 26 (0, 0))) := by rw [hwb]; exact heap_alloc_new _ _
  have HC := hide (code_keep hcode BB.out)
  clear hcode
  go_enter Try.func7, Try.ntmps7
  go_wp2_with fail
  rw [← hwb]
  clear hwb
  refine (new_any _ ao len cap hlen HC.out).mono ?_
  rintro e w1 ⟨g, rfl, c1⟩
  have C1 := hide c1
  clear c1
  go_wp2_with fail
  refine (l10AnyVal_any wb w1 g ao len cap hlen HC.out C1.out).mono ?_
  rintro e w2 ⟨⟨⟨k, u, s, ts⟩, a, c, rfl, hbd, hr⟩, c2, -⟩
  simp only at hr
  have HBD := hide hbd
  have HR := hide hr
  have B2 := hide c2.1
  have hs1 := C1.out.1.size
  have hlt := hide (rowText_lt hr)
  clear hbd hr c2
  have hp := (B2.out.block _ (obj_lt PB.out)).trans PB.out
  have hws := obj_lt PB.out
  obtain ⟨r0, r1, r2, r3⟩ := val_cells hp
  obtain ⟨f0, f1, f2, f3⟩ := val_frozen hp
  clear hp
  go_wp2_with fail
  refine bodyPost_ret (v := .agg #[.int .i64 k, .int .i64 u, .string s, .slice a ts.length c]) (by simp [results, Try.results7, go_sem, r0, r1, r2, r3]) rfl ⟨⟨⟨k, u, s, ts⟩, a, c, rfl, HBD.out, ?_⟩, ?_⟩
  · refine rowText_le (rowText_keep HR.out (fun x hx => ?_)) (by omega : w.heap.size ≤ w1.heap.size)
    have h1 := (hlt.out x hx).1
    rw [Below.heap_setCell _ _ _ _ (by simp; omega), Below.heap_setCell _ _ _ _ (by simp; omega), Below.heap_setCell _ _ _ _ (by simp; omega), Below.heap_setCell _ _ _ _ (by simp; omega)]
  · exact ((((BB.out.trans (B2.out.mono BB.out.size)).setCell (p := ⟨w.heap.size, 0, none⟩) (Nat.le_refl _) _).setCell (p := ⟨w.heap.size, 1, none⟩) (Nat.le_refl _) _).setCell (p := ⟨w.heap.size, 2, none⟩) (Nat.le_refl _) _).setCell (p := ⟨w.heap.size, 3, none⟩) (Nat.le_refl _) _
theorem valT_small {v : ValD} (h : ValR v) : (valT v).size ≤ 9000 := by
  obtain ⟨-, -, -, -, h1, h2, h3⟩ := valR_bounds h
  have h4 := headV_size v
  have h5 := textsL_len v.items h3
  have e : (valT v).size = (headV v).size + (textsL v.items).length := by
    unfold valT
    show ((headV v).data.toList ++ textsL v.items).length = _
    rw [List.length_append]
    rfl
  omega
theorem drawReadVal_any (w : World) (ao : Option Addr) (len cap : Nat) (hlen : len ≤ 1048576) (hcode : Code w ao len) :
    Calls Try.prog 13 #[.slice ao len cap] w fun e w' => ∃ T : ByteArray, e = .returned (.string T) ∧ T.size ≤ 30000 ∧ Below w.heap.size w w' := by
  have HC := hide hcode
  clear hcode
  go_enter Try.func13, Try.ntmps13
  go_wp2_with fail
  refine (new_any _ ao len cap hlen HC.out).mono ?_
  rintro e w1 ⟨g, rfl, c1⟩
  have C1 := hide c1
  clear c1
  go_wp2_with fail
  refine (l10AnyVal_any w w1 g ao len cap hlen HC.out C1.out).mono ?_
  rintro e w2 ⟨⟨v, a, c, rfl, hbd, hr⟩, c2, -⟩
  have C2 := hide c2
  have HR := hide (rowText_rows hr)
  obtain ⟨R, HRV⟩ : ∃ R : Bool, Hid (R = true ↔ ValR v) := by classical exact ⟨decide (ValR v), by show _ ↔ _; simp⟩
  have CT := hide (specValText_any v a c w2 R HRV.out (by have := hbd.2.1; omega) (by have := hbd.1; unfold maxLen; omega) HR.out (fun s hs => by have := hbd.2.2 s hs; unfold maxLen; omega))
  have hz : (cond R (valT v) ⟨#[]⟩).size ≤ 9000 := by
    cases R
    · exact Nat.zero_le _
    · exact valT_small (HRV.out.1 rfl)
  generalize cond R (valT v) ⟨#[]⟩ = X at CT hz
  obtain ⟨k, u, s, ts⟩ := v
  simp only at CT
  clear hbd hr c2 HRV HR
  go_wp2_with fail
  refine CT.out.mono ?_
  rintro e w3 ⟨rfl, b3⟩
  have C3 := hide (cur_keep C2.out b3 (cur_lt C2.out))
  clear b3
  go_wp2_with fail
  refine (spoilt_any w _ g ao len cap X hlen hz HC.out C3.out).mono ?_
  rintro e w4 ⟨T, rfl, hT, hc4, g4⟩
  have B4 := hide hc4.1
  clear hc4 g4
  go_wp2
  go_ret
  exact ⟨T, rfl, hT, B4.out⟩
def rvAns : Option (Nat × Nat) → Value
  | some (n, p) => .tuple #[.int .i64 n, .int .i64 p, .bool true]
  | none => .tuple #[.int .i64 0, .int .i64 0, .bool false]
theorem ret3 {a a' b b' : Int} {c : Bool} (h1 : a = a') (h2 : b = b') : Ending.returned (.tuple #[.int .i64 a, .int .i64 b, .bool c]) = .returned (.tuple #[.int .i64 a', .int .i64 b', .bool c]) := by rw [h1, h2]
theorem Wd.rvF_bounds (s : ByteArray) : ∀ f p k q n a b, Wd.rvF s f p k q n = some (a, b) → a ≤ 1000000000 ∧ p < b ∧ b ≤ s.size := by
  intro f
  induction f with
  | zero => intro p k q n a b h; simp [Wd.rvF] at h
  | succ f ih =>
    intro p k q n a b h
    by_cases h1 : p < s.size
    · by_cases h2 : Wd.bt s p < 128
      · by_cases h3 : n + Wd.bt s p % 128 * q ≤ 1000000000 ∧ (0 < Wd.bt s p ∨ k = 0)
        · rw [Wd.rvF_last s f p k q n h1 h2 h3.1 h3.2] at h
          simp at h
          omega
        · rw [Wd.rvF_not s f p k q n h2 h3] at h; simp at h
      · rw [Wd.rvF_more s f p k q n h1 h2] at h
        have := ih _ _ _ _ _ _ h
        omega
    · rw [Wd.rvF_end s _ p k q n h1] at h; simp at h
theorem Wd.rv_bounds (s : ByteArray) (i a b : Nat) (h : Wd.rv s i = some (a, b)) : a ≤ 1000000000 ∧ i < b ∧ b ≤ s.size := Wd.rvF_bounds s _ _ _ _ _ _ _ h
def Wd.rvI (s : ByteArray) (i : Int) : Option (Nat × Nat) := if i < 0 ∨ (s.size : Int) < i then none else Wd.rv s i.toNat
theorem Wd.rvI_bounds (s : ByteArray) (i : Int) (a b : Nat) (h : Wd.rvI s i = some (a, b)) : a ≤ 1000000000 ∧ b ≤ s.size := by
  unfold Wd.rvI at h
  split at h
  · simp at h
  · have := Wd.rv_bounds s _ _ _ h; omega
theorem cut_run (s : ByteArray) (i P : Nat) (h1 : i ≤ P + 1) (h2 : P < s.size) : ∀ W : World, (Instr.slice 9 (.string s) (some (.int .i64 (i : Int))) (some (.int .i64 ((P : Int) + 1))) none).run Try.prog W = .ok (.string (s.extract i (P + 1))) W := by
  intro W
  have := run_slice_string (P := Try.prog) W 9 s .i64 .i64 (i : Int) ((P : Int) + 1) Try.underlying9 (by omega) (by omega) (by omega)
  rw [this, Int.toNat_natCast, show ((P : Int) + 1).toNat = P + 1 from by omega]
theorem canon_test (s : ByteArray) (i P k m b Q : Nat) (hPk : P = i + k) (hm : m = Wd.valF s i k) (hall : ∀ j, j < k → 128 ≤ Wd.bt s (i + j)) (hB : Wd.bt s P = b) (hb : b < 128) (hlt : P < s.size) (hk : k < 5) (hQ : Q = 128 ^ k) :
    ∀ N, N = m + b % 128 * Q → (Wd.varF 5 N == (s.extract i (P + 1)).toList) = decide (0 < b ∨ k = 0) := by
  intro N hN
  subst hPk hm hB hQ
  have e1 : N = Wd.valF s i (k + 1) := by rw [hN, Wd.valF_snoc]
  have e2 : (s.extract i (i + k + 1)).toList = Wd.subF s i (k + 1) := by
    rw [show i + k + 1 = i + (k + 1) from by omega, ByteArray.toList_eq, Wd.subF_extract s i (k + 1) (by omega)]
  rw [e1, e2, Bool.eq_iff_iff, beq_iff_eq, decide_eq_true_iff]
  exact Wd.canonF s k i 5 hall hb (by omega)
theorem val_more (s : ByteArray) (i P k m b : Nat) (hPk : P = i + k) (hm : m = Wd.valF s i k) (hB : Wd.bt s P = b) : m + b % 128 * 128 ^ k = Wd.valF s i (k + 1) := by
  subst hPk hm hB; rw [Wd.valF_snoc]
theorem all_more (s : ByteArray) (i P k b : Nat) (hPk : P = i + k) (hall : ∀ j, j < k → 128 ≤ Wd.bt s (i + j)) (hB : Wd.bt s P = b) (hb : 128 ≤ b) : ∀ j, j < k + 1 → 128 ≤ Wd.bt s (i + j) := by
  intro j hj
  by_cases h : j < k
  · exact hall j h
  · have : j = k := by omega
    subst this hPk; omega
theorem specRead_in (s : ByteArray) (i : Nat) (w : World) (hs : s.size ≤ 1048576) (h : i ≤ s.size) :
    Calls Try.prog 74 #[.string s, .int .i64 i] w fun e w' => e = .returned (rvAns (Wd.rv s i)) ∧ Below w.heap.size w w' := by
  have h0 : decide ((0 : Int) ≤ (i : Int)) = true := by simp
  have h1 : decide ((i : Int) ≤ (s.size : Int)) = true := by simp; omega
  go_enter Try.func74, Try.ntmps74
  go_wp2
  go_loop [7, 8, 9] (fun n q p => ∃ k f Q m P : Nat, n = .int .i64 m ∧ q = .int .i64 Q ∧ p = .int .i64 P ∧ P ≤ s.size ∧ Hid (Wd.rv s i = Wd.rvF s f P k Q m) ∧ Hid (P = i + k) ∧ Hid (m = Wd.valF s i k) ∧ Hid (∀ j, j < k → 128 ≤ Wd.bt s (i + j)) ∧ ((k = 0 ∧ f = 5 ∧ Q = 1 ∧ m = 0) ∨ (k = 1 ∧ f = 4 ∧ Q = 128 ∧ m < 128) ∨ (k = 2 ∧ f = 3 ∧ Q = 16384 ∧ m < 16384) ∨ (k = 3 ∧ f = 2 ∧ Q = 2097152 ∧ m < 2097152) ∨ (k = 4 ∧ f = 1 ∧ Q = 268435456 ∧ m < 268435456) ∨ (k = 5 ∧ f = 0 ∧ Q = 34359738368 ∧ m < 34359738368))) (fun _ _ p => s.size - (intOf p).toNat)
  case atStart => exact ⟨0, 5, 1, 0, i, rfl, rfl, rfl, h, rfl, rfl, rfl, fun j hj => absurd hj (by omega), .inl ⟨rfl, rfl, rfl, rfl⟩⟩
  case round =>
    obtain ⟨k, f, Q, m, P, rfl, rfl, rfl, hP, hrv, hPk, hval, hall, hcase⟩ := hrel
    by_cases hlt : P < s.size
    · obtain ⟨b, hB, hbt, hb256⟩ : ∃ b : Nat, Hid (Wd.bt s P = b) ∧ (s[P]'hlt).toNat = b ∧ b < 256 := ⟨_, rfl, Wd.bt_eq s P hlt, Wd.bt_lt s P⟩
      by_cases hb : b < 128
      · rcases hcase with ⟨rfl, rfl, rfl, rfl⟩ | ⟨rfl, rfl, rfl, hm⟩ | ⟨rfl, rfl, rfl, hm⟩ | ⟨rfl, rfl, rfl, hm⟩ | ⟨rfl, rfl, rfl, hm⟩ | ⟨rfl, rfl, rfl, hm⟩
        case inr.inr.inr.inr.inr =>
          have hfin : Hid (Wd.rv s i = none) := hrv.out.trans rfl
          have hP5 : decide ((P : Int) < (i : Int) + 5) = false := by have := hPk.out; simp; omega
          go_wp2
          go_ret3
          rw [hfin.out]
          exact ⟨rfl, Below.refl _ _⟩
        case inr.inr.inr.inr.inl =>
          have hP5 : decide ((P : Int) < (i : Int) + 5) = true := by have := hPk.out; simp; omega
          by_cases hn : m + b % 128 * 268435456 ≤ 1000000000
          · have hn' : decide (1000000000 < (m : Int) + (b : Int) % 128 * 268435456) = false := by simp; omega
            have hc := hide (canon_test s i P _ m b 268435456 hPk.out hval.out hall.out hB.out hb hlt (by omega) rfl)
            have hsl := cut_run s i P (by have := hPk.out; omega) hlt
            have hwr : IntKind.i64.wrap ((P : Int) + 1) = (P : Int) + 1 := by rw [IntKind.wrap_i64]; omega
            go_wp2
            go_region_held3 (fun _ => True) (trivial) ((go_at_call 71; refine (l01Var_int _ _ (by omega) (by omega)).mono ?_; rintro e w1 ⟨rfl, hbw⟩))
            go_wp2
            · have ht := ‹(!Wd.varF 5 _ == (s.extract i (P + 1)).toList) = true›
              rw [hc.out _ (by omega)] at ht
              have hz : ¬ (0 < b ∨ 4 = 0) := by simpa using ht
              have hfin := hide (hrv.out.trans (Wd.rvF_notB hB.out hb (fun h => hz h.2)))
              go_ret3
              rw [hfin.out]
              exact ⟨rfl, (Below.refl _ _).drew.trans hbw⟩
            · have ht := ‹(!Wd.varF 5 _ == (s.extract i (P + 1)).toList) = false›
              rw [hc.out _ (by omega)] at ht
              have hz : 0 < b ∨ 4 = 0 := by simpa using ht
              have hfin := hide (hrv.out.trans (Wd.rvF_lastB hB.out hlt hb hn hz))
              go_ret3
              rw [hfin.out]
              exact ⟨ret3 (by omega) (by omega), (Below.refl _ _).drew.trans hbw⟩
          · have hn' : decide (1000000000 < (m : Int) + (b : Int) % 128 * 268435456) = true := by simp; omega
            have hfin := hide (hrv.out.trans (Wd.rvF_notB hB.out hb (fun h => hn h.1)))
            go_wp2
            go_quiet (fail)
            go_wp2
            go_ret3
            rw [hfin.out]
            exact ⟨rfl, below_drewN (Below.refl _ _) _⟩
        case inl =>
          have hP5 : decide ((P : Int) < (i : Int) + 5) = true := by have := hPk.out; simp; omega
          have hn' : decide (1000000000 < (b : Int) % 128) = false := by simp; omega
          have hc := hide (canon_test s i P _ 0 b 1 hPk.out hval.out hall.out hB.out hb hlt (by omega) rfl)
          have hsl := cut_run s i P (by have := hPk.out; omega) hlt
          have hwr : IntKind.i64.wrap ((P : Int) + 1) = (P : Int) + 1 := by rw [IntKind.wrap_i64]; omega
          go_wp2
          go_region_held3 (fun _ => True) (trivial) ((go_at_call 71; refine (l01Var_int _ _ (by omega) (by omega)).mono ?_; rintro e w1 ⟨rfl, hbw⟩))
          go_wp2
          · have ht := ‹(!Wd.varF 5 _ == (s.extract i (P + 1)).toList) = true›
            rw [hc.out _ (by omega)] at ht
            exact absurd ht (by simp)
          · have hfin := hide (hrv.out.trans (Wd.rvF_lastB hB.out hlt hb (by omega) (.inr rfl)))
            go_ret3
            rw [hfin.out]
            exact ⟨ret3 (by omega) (by omega), (Below.refl _ _).drew.trans hbw⟩
        case inr.inl =>
          have hP5 : decide ((P : Int) < (i : Int) + 5) = true := by have := hPk.out; simp; omega
          have hn' : decide (1000000000 < (m : Int) + (b : Int) % 128 * 128) = false := by simp; omega
          have hc := hide (canon_test s i P _ m b 128 hPk.out hval.out hall.out hB.out hb hlt (by omega) rfl)
          have hsl := cut_run s i P (by have := hPk.out; omega) hlt
          have hwr : IntKind.i64.wrap ((P : Int) + 1) = (P : Int) + 1 := by rw [IntKind.wrap_i64]; omega
          go_wp2
          go_region_held3 (fun _ => True) (trivial) ((go_at_call 71; refine (l01Var_int _ _ (by omega) (by omega)).mono ?_; rintro e w1 ⟨rfl, hbw⟩))
          go_wp2
          · have ht := ‹(!Wd.varF 5 _ == (s.extract i (P + 1)).toList) = true›
            rw [hc.out _ (by omega)] at ht
            have hz : ¬ (0 < b ∨ 1 = 0) := by simpa using ht
            have hfin := hide (hrv.out.trans (Wd.rvF_notB hB.out hb (fun h => hz h.2)))
            go_ret3
            rw [hfin.out]
            exact ⟨rfl, (Below.refl _ _).drew.trans hbw⟩
          · have ht := ‹(!Wd.varF 5 _ == (s.extract i (P + 1)).toList) = false›
            rw [hc.out _ (by omega)] at ht
            have hz : 0 < b ∨ 1 = 0 := by simpa using ht
            have hfin := hide (hrv.out.trans (Wd.rvF_lastB hB.out hlt hb (by omega) hz))
            go_ret3
            rw [hfin.out]
            exact ⟨ret3 (by omega) (by omega), (Below.refl _ _).drew.trans hbw⟩
        case inr.inr.inl =>
          have hP5 : decide ((P : Int) < (i : Int) + 5) = true := by have := hPk.out; simp; omega
          have hn' : decide (1000000000 < (m : Int) + (b : Int) % 128 * 16384) = false := by simp; omega
          have hc := hide (canon_test s i P _ m b 16384 hPk.out hval.out hall.out hB.out hb hlt (by omega) rfl)
          have hsl := cut_run s i P (by have := hPk.out; omega) hlt
          have hwr : IntKind.i64.wrap ((P : Int) + 1) = (P : Int) + 1 := by rw [IntKind.wrap_i64]; omega
          go_wp2
          go_region_held3 (fun _ => True) (trivial) ((go_at_call 71; refine (l01Var_int _ _ (by omega) (by omega)).mono ?_; rintro e w1 ⟨rfl, hbw⟩))
          go_wp2
          · have ht := ‹(!Wd.varF 5 _ == (s.extract i (P + 1)).toList) = true›
            rw [hc.out _ (by omega)] at ht
            have hz : ¬ (0 < b ∨ 2 = 0) := by simpa using ht
            have hfin := hide (hrv.out.trans (Wd.rvF_notB hB.out hb (fun h => hz h.2)))
            go_ret3
            rw [hfin.out]
            exact ⟨rfl, (Below.refl _ _).drew.trans hbw⟩
          · have ht := ‹(!Wd.varF 5 _ == (s.extract i (P + 1)).toList) = false›
            rw [hc.out _ (by omega)] at ht
            have hz : 0 < b ∨ 2 = 0 := by simpa using ht
            have hfin := hide (hrv.out.trans (Wd.rvF_lastB hB.out hlt hb (by omega) hz))
            go_ret3
            rw [hfin.out]
            exact ⟨ret3 (by omega) (by omega), (Below.refl _ _).drew.trans hbw⟩
        case inr.inr.inr.inl =>
          have hP5 : decide ((P : Int) < (i : Int) + 5) = true := by have := hPk.out; simp; omega
          have hn' : decide (1000000000 < (m : Int) + (b : Int) % 128 * 2097152) = false := by simp; omega
          have hc := hide (canon_test s i P _ m b 2097152 hPk.out hval.out hall.out hB.out hb hlt (by omega) rfl)
          have hsl := cut_run s i P (by have := hPk.out; omega) hlt
          have hwr : IntKind.i64.wrap ((P : Int) + 1) = (P : Int) + 1 := by rw [IntKind.wrap_i64]; omega
          go_wp2
          go_region_held3 (fun _ => True) (trivial) ((go_at_call 71; refine (l01Var_int _ _ (by omega) (by omega)).mono ?_; rintro e w1 ⟨rfl, hbw⟩))
          go_wp2
          · have ht := ‹(!Wd.varF 5 _ == (s.extract i (P + 1)).toList) = true›
            rw [hc.out _ (by omega)] at ht
            have hz : ¬ (0 < b ∨ 3 = 0) := by simpa using ht
            have hfin := hide (hrv.out.trans (Wd.rvF_notB hB.out hb (fun h => hz h.2)))
            go_ret3
            rw [hfin.out]
            exact ⟨rfl, (Below.refl _ _).drew.trans hbw⟩
          · have ht := ‹(!Wd.varF 5 _ == (s.extract i (P + 1)).toList) = false›
            rw [hc.out _ (by omega)] at ht
            have hz : 0 < b ∨ 3 = 0 := by simpa using ht
            have hfin := hide (hrv.out.trans (Wd.rvF_lastB hB.out hlt hb (by omega) hz))
            go_ret3
            rw [hfin.out]
            exact ⟨ret3 (by omega) (by omega), (Below.refl _ _).drew.trans hbw⟩
      · rcases hcase with ⟨rfl, rfl, rfl, rfl⟩ | ⟨rfl, rfl, rfl, hm⟩ | ⟨rfl, rfl, rfl, hm⟩ | ⟨rfl, rfl, rfl, hm⟩ | ⟨rfl, rfl, rfl, hm⟩ | ⟨rfl, rfl, rfl, hm⟩
        case inr.inr.inr.inr.inr =>
          have hfin : Hid (Wd.rv s i = none) := hrv.out.trans rfl
          have hP5 : decide ((P : Int) < (i : Int) + 5) = false := by have := hPk.out; simp; omega
          go_wp2
          go_ret3
          rw [hfin.out]
          exact ⟨rfl, Below.refl _ _⟩
        all_goals
          have hP5 : decide ((P : Int) < (i : Int) + 5) = true := by have := hPk.out; simp; omega
          have hmore := hide (hrv.out.trans (Wd.rvF_moreB hB.out hlt hb))
          have hval' := hide (val_more s i P _ _ b hPk.out hval.out hB.out)
          have hall' := hide (all_more s i P _ b hPk.out hall.out hB.out (by omega))
          go_wp2
          go_round
          case rel =>
            refine ⟨_, _, _, _, P + 1, ?_, ?_, by go_num, by omega, hmore, by have := hPk.out; show _ = _; omega, hval', hall', ?_⟩
            · go_num
            · go_num
            · simp; try omega
          case measure => simp [intOf]; omega
    · have hfin : Hid (Wd.rv s i = none) := hrv.out.trans (Wd.rvF_end _ _ _ _ _ _ hlt)
      go_wp2
      go_ret3
      rw [hfin.out]
      exact ⟨rfl, Below.refl _ _⟩
theorem cut_at (s : ByteArray) (a b : Nat) (ai bi : Int) (R : ByteArray) (ha : ai = a) (hb : bi = b) (h1 : a ≤ b) (h2 : b ≤ s.size) (hR : s.extract a b = R) :
    ∀ W : World, (Instr.slice 9 (.string s) (some (.int .i64 ai)) (some (.int .i64 bi)) none).run Try.prog W = .ok (.string R) W := by
  intro W
  subst ha hb hR
  have := run_slice_string (P := Try.prog) W 9 s .i64 .i64 (a : Int) (b : Int) Try.underlying9 (by omega) (by omega) (by omega)
  rw [this, Int.toNat_natCast, Int.toNat_natCast]
theorem txt_eq {a b : ByteArray} (h : a = b) : (a.toList == b.toList) = true := by rw [h]; exact beq_self_eq_true _
theorem txt_ne {a b : ByteArray} (h : a ≠ b) : (a.toList == b.toList) = false := by
  rw [beq_eq_false_iff_ne, ByteArray.toList_eq, ByteArray.toList_eq]
  intro e
  exact h (ByteArray.ext (Array.toList_inj.1 e))
def CurB (w : World) (g : Nat) (t : ByteArray) (i : Nat) (bad : Bool) : Prop := w.heap[g]? = some (.cells #[.string t, .int .i64 (i : Int), .bool bad] 72 (0, 0))
def varC (t : ByteArray) (i : Nat) (bad : Bool) : Nat × Nat × Bool :=
  match bad, Wd.rv t i with
  | false, some (n, p) => (n, p, false)
  | _, _ => (0, i, true)
def takeC (t : ByteArray) (n i : Nat) (bad : Bool) : ByteArray × Nat × Bool :=
  if bad = true ∨ t.size < i + n then (⟨#[]⟩, i, true) else (t.extract i (i + n), i + n, false)
def shortC (t : ByteArray) (i : Nat) (bad : Bool) : ByteArray × Nat × Bool := takeC t (varC t i bad).1 (varC t i bad).2.1 (varC t i bad).2.2
theorem varC_le {t : ByteArray} {i : Nat} (bad : Bool) (h : i ≤ t.size) : (varC t i bad).2.1 ≤ t.size ∧ (varC t i bad).1 ≤ 1000000000 := by
  unfold varC
  split
  · rename_i n p hr
    have := Wd.rv_bounds t i n p hr
    exact ⟨this.2.2, this.1⟩
  · exact ⟨h, Nat.zero_le _⟩
theorem takeC_le {t : ByteArray} {n i : Nat} (bad : Bool) (h : i ≤ t.size) : (takeC t n i bad).2.1 ≤ t.size ∧ (takeC t n i bad).1.size ≤ t.size := by
  unfold takeC
  split
  · exact ⟨h, Nat.zero_le _⟩
  · rename_i hc
    rw [ByteArray.size_extract]
    exact ⟨show i + n ≤ t.size by omega, by omega⟩
theorem curB_cells {w : World} {g : Nat} {t : ByteArray} {i : Nat} {bad : Bool} (h : CurB w g t i bad) : w.cell? ⟨g, 0, none⟩ = some (.string t) ∧ w.cell? ⟨g, 1, none⟩ = some (.int .i64 (i : Int)) ∧ w.cell? ⟨g, 2, none⟩ = some (.bool bad) :=
  ⟨(cell_of_row w g 0 _ _ (0, 0) h).trans rfl, (cell_of_row w g 1 _ _ (0, 0) h).trans rfl, (cell_of_row w g 2 _ _ (0, 0) h).trans rfl⟩
theorem curB_lt {w : World} {g : Nat} {t : ByteArray} {i : Nat} {bad : Bool} (h : CurB w g t i bad) : g < w.heap.size := (Array.getElem?_eq_some_iff.1 h).1
theorem curB_below {w w' : World} {g : Nat} {t : ByteArray} {i : Nat} {bad : Bool} (h : CurB w g t i bad) (hb : Below w.heap.size w w') : CurB w' g t i bad := (hb.block g (curB_lt h)).trans h
theorem l05Var_any (t : ByteArray) (g i : Nat) (bad : Bool) (w : World) (ht : t.size ≤ 1048576) (hi : i ≤ t.size) (h : CurB w g t i bad) :
    Calls Try.prog 42 #[.pointer (some ⟨g, 0, none⟩)] w fun e w' => e = .returned (.int .i64 ((varC t i bad).1 : Int)) ∧ CurB w' g t (varC t i bad).2.1 (varC t i bad).2.2 ∧ w.grownBy w' (some g) := by
  have HC := hide h
  have hg := curB_lt h
  obtain ⟨hc0, hc1, hc2⟩ := curB_cells h
  clear h
  cases hr : Wd.rv t i with
  | none =>
    have HV : Hid (varC t i bad = (0, i, true)) := by show _ = _; unfold varC; rw [hr]; cases bad <;> rfl
    have HR : Hid (∀ W, Calls Try.prog 74 #[.string t, .int .i64 (i : Int)] W fun e w' => e = .returned (.tuple #[.int .i64 0, .int .i64 0, .bool false]) ∧ Below W.heap.size W w') := fun W => by have h := specRead_in t i W ht hi; rw [hr] at h; exact h
    rw [HV.out]
    clear hr
    cases bad <;>
    · go_enter Try.func42, Try.ntmps42
      go_wp2_with fail
      go_region_held3 (fun w' => w'.cell? ⟨g, 0, none⟩ = some (.string t) ∧ w'.cell? ⟨g, 1, none⟩ = some (.int .i64 (i : Int))) (first | (go_keep; done) | (exact ⟨(B2.out.cell (p := ⟨g, 0, none⟩) hg).trans hc0, (B2.out.cell (p := ⟨g, 1, none⟩) hg).trans hc1⟩) | fail) ((first | (go_at_call 74; refine (HR.out _).mono ?_; rintro e w2 ⟨rfl, b2⟩; have B2 : Hid (Below w.heap.size w w2) := (Below.refl _ _).drew.trans b2; clear b2) | fail))
      have HC2 := hide (curB_below HC.out B2.out)
      obtain ⟨_, _, hd2⟩ := curB_cells HC2.out
      have hf2 := frozen_of_row w2 g 2 _ _ HC2.out
      go_wp2
      go_ret
      exact ⟨rfl, (heap_setCell_same _ g _ _ _ _ HC2.out).trans rfl, grownBy_store (grownBy_below _ B2.out) 2 _⟩
  | some x =>
    obtain ⟨n, p⟩ := x
    have HR : Hid (∀ W, Calls Try.prog 74 #[.string t, .int .i64 (i : Int)] W fun e w' => e = .returned (.tuple #[.int .i64 (n : Int), .int .i64 (p : Int), .bool true]) ∧ Below W.heap.size W w') := fun W => by have h := specRead_in t i W ht hi; rw [hr] at h; exact h
    cases bad
    · have HV : Hid (varC t i false = (n, p, false)) := by show _ = _; unfold varC; rw [hr]
      rw [HV.out]
      clear hr
      go_enter Try.func42, Try.ntmps42
      go_wp2_with fail
      go_region_held3 (fun w' => w'.cell? ⟨g, 0, none⟩ = some (.string t) ∧ w'.cell? ⟨g, 1, none⟩ = some (.int .i64 (i : Int))) (first | (go_keep; done) | (exact ⟨(B2.out.cell (p := ⟨g, 0, none⟩) hg).trans hc0, (B2.out.cell (p := ⟨g, 1, none⟩) hg).trans hc1⟩) | fail) ((first | (go_at_call 74; refine (HR.out _).mono ?_; rintro e w2 ⟨rfl, b2⟩; have B2 : Hid (Below w.heap.size w w2) := (Below.refl _ _).drew.trans b2; clear b2) | fail))
      have HC2 := hide (curB_below HC.out B2.out)
      obtain ⟨_, hd1, hd2⟩ := curB_cells HC2.out
      have hf1 := frozen_of_row w2 g 1 _ _ HC2.out
      go_wp2
      go_ret
      exact ⟨rfl, (heap_setCell_same _ g _ _ _ _ HC2.out).trans rfl, grownBy_store (grownBy_below _ B2.out) 1 _⟩
    · have HV : Hid (varC t i true = (0, i, true)) := by show _ = _; unfold varC; rw [hr]
      rw [HV.out]
      clear hr
      go_enter Try.func42, Try.ntmps42
      go_wp2_with fail
      go_region_held3 (fun w' => w'.cell? ⟨g, 0, none⟩ = some (.string t) ∧ w'.cell? ⟨g, 1, none⟩ = some (.int .i64 (i : Int))) (first | (go_keep; done) | (exact ⟨(B2.out.cell (p := ⟨g, 0, none⟩) hg).trans hc0, (B2.out.cell (p := ⟨g, 1, none⟩) hg).trans hc1⟩) | fail) ((first | (go_at_call 74; refine (HR.out _).mono ?_; rintro e w2 ⟨rfl, b2⟩; have B2 : Hid (Below w.heap.size w w2) := (Below.refl _ _).drew.trans b2; clear b2) | fail))
      have HC2 := hide (curB_below HC.out B2.out)
      obtain ⟨_, _, hd2⟩ := curB_cells HC2.out
      have hf2 := frozen_of_row w2 g 2 _ _ HC2.out
      go_wp2
      go_ret
      exact ⟨rfl, (heap_setCell_same _ g _ _ _ _ HC2.out).trans rfl, grownBy_store (grownBy_below _ B2.out) 2 _⟩
theorem l05Take_any (t : ByteArray) (g n i : Nat) (bad : Bool) (w : World) (ht : t.size ≤ 1048576) (hi : i ≤ t.size) (hn : n ≤ 1000000000) (h : CurB w g t i bad) :
    Calls Try.prog 41 #[.pointer (some ⟨g, 0, none⟩), .int .i64 (n : Int)] w fun e w' => e = .returned (.string (takeC t n i bad).1) ∧ CurB w' g t (takeC t n i bad).2.1 (takeC t n i bad).2.2 ∧ w.grownBy w' (some g) := by
  have HC := hide h
  obtain ⟨hc0, hc1, hc2⟩ := curB_cells h
  have hf1 := frozen_of_row w g 1 _ _ h
  have hf2 := frozen_of_row w g 2 _ _ h
  have hw : IntKind.i64.wrap ((t.size : Int) - (i : Int)) = (t.size : Int) - (i : Int) := by rw [IntKind.wrap_i64]; omega
  clear h
  by_cases hc : bad = true ∨ t.size < i + n
  · have HV : Hid (takeC t n i bad = (⟨#[]⟩, i, true)) := by show _ = _; unfold takeC; rw [if_pos hc]
    rw [HV.out]
    cases bad
    · have hlt : decide ((t.size : Int) - (i : Int) < (n : Int)) = true := by simp at hc; simp; omega
      clear hc
      go_enter Try.func41, Try.ntmps41
      go_wp2_with fail
      go_quiet (fail)
      go_wp2
      go_ret
      exact ⟨rfl, (heap_setCell_same _ g _ _ _ _ HC.out).trans rfl, grownBy_store (grownBy_below _ (below_drewN (Below.refl _ w) _)) 2 _⟩
    · clear hc
      go_enter Try.func41, Try.ntmps41
      go_wp2_with fail
      go_quiet (fail)
      go_wp2
      go_ret
      exact ⟨rfl, (heap_setCell_same _ g _ _ _ _ HC.out).trans rfl, grownBy_store (grownBy_below _ (below_drewN (Below.refl _ w) _)) 2 _⟩
  · have HV : Hid (takeC t n i bad = (t.extract i (i + n), i + n, false)) := by show _ = _; unfold takeC; rw [if_neg hc]
    rw [HV.out]
    obtain rfl : bad = false := by cases bad <;> simp at hc ⊢
    obtain ⟨P, hP⟩ : ∃ P : Nat, P = i + n := ⟨_, rfl⟩
    rw [← hP]
    have hlt : decide ((t.size : Int) - (i : Int) < (n : Int)) = false := by simp at hc; simp; omega
    have hw2 : IntKind.i64.wrap ((i : Int) + (n : Int)) = (P : Int) := by rw [IntKind.wrap_i64]; omega
    have hw3 : IntKind.i64.wrap ((P : Int) - (n : Int)) = (i : Int) := by rw [IntKind.wrap_i64]; omega
    obtain ⟨R, hR⟩ : ∃ R, t.extract i P = R := ⟨_, rfl⟩
    have hcut := cut_at t i P (i : Int) (P : Int) R rfl rfl (by omega) (by simp at hc; omega) hR
    rw [hR]
    have HP := hide hP
    clear hc hP hR
    go_enter Try.func41, Try.ntmps41
    go_wp2_with fail
    go_quiet (fail)
    go_wp2_with fail
    go_quiet (fail)
    go_wp2
    go_ret
    exact ⟨rfl, (heap_setCell_same _ g _ _ _ _ HC.out).trans rfl, grownBy_trans (grownBy_store (grownBy_below _ (below_drewN (Below.refl _ w) _)) 1 _) (grownBy_below _ (below_drewN (Below.refl _ _) _))⟩
theorem l05ReadShort_any (t : ByteArray) (g i : Nat) (bad : Bool) (w : World) (ht : t.size ≤ 1048576) (hi : i ≤ t.size) (h : CurB w g t i bad) :
    Calls Try.prog 43 #[.pointer (some ⟨g, 0, none⟩)] w fun e w' => e = .returned (.string (shortC t i bad).1) ∧ CurB w' g t (shortC t i bad).2.1 (shortC t i bad).2.2 ∧ w.grownBy w' (some g) := by
  have HC := hide h
  clear h
  have hv := varC_le bad hi
  have hcall := hide (fun W (hW : CurB W g t i bad) => l05Var_any t g i bad W ht hi hW)
  obtain ⟨x, HX⟩ : ∃ x, Hid (varC t i bad = x) := ⟨_, rfl⟩
  obtain ⟨n, j, b⟩ := x
  have HS : Hid (shortC t i bad = takeC t n j b) := by show _ = _; unfold shortC; rw [HX.out]
  rw [HX.out] at hv hcall
  rw [HS.out]
  go_enter Try.func43, Try.ntmps43
  go_wp2_with fail
  refine (hcall.out _ HC.out).mono ?_
  rintro e w1 ⟨rfl, hc1, hg1⟩
  have H1 := hide hc1
  have G1 := hide hg1
  clear hc1 hg1
  go_wp2_with fail
  refine (l05Take_any t g n j b _ ht hv.1 hv.2 H1.out).mono ?_
  rintro e w2 ⟨rfl, hc2, hg2⟩
  have H2 := hide hc2
  have G2 := hide hg2
  clear hc2 hg2
  go_wp2
  go_ret
  exact ⟨rfl, H2.out, grownBy_trans G1.out G2.out⟩
theorem shortC_le {t : ByteArray} {i : Nat} (bad : Bool) (h : i ≤ t.size) : (shortC t i bad).2.1 ≤ t.size ∧ (shortC t i bad).1.size ≤ t.size := takeC_le _ (varC_le bad h).1
theorem heap_lt {w : World} {k : Nat} {x : Obj} (h : w.heap[k]? = some x) : k < w.heap.size := (Array.getElem?_eq_some_iff.1 h).1
theorem own_ne {w : World} {B : Nat} {e : TypeId} {s : Nat} {v : Value} {n : Nat} {xs : List Value} (h : w.ownsRow B e s v n xs) {k : Nat} (hk : k < B) : v.ownBlock = none ∨ v.ownBlock ≠ some k := by
  cases e : v.ownBlock with
  | none => exact .inl rfl
  | some g => exact .inr (fun e2 => by have := (h.lt g e).1; simp at e2; omega)
theorem bt_list (L : List UInt8) (p : Nat) (h : p < L.length) : Wd.bt ⟨L.toArray⟩ p = L[p].toNat := by
  unfold Wd.bt
  rw [dif_pos (show p < (⟨L.toArray⟩ : ByteArray).size from h)]
  rfl
theorem bt_here (L : List UInt8) (p : Nat) (b : UInt8) (h : L[p]? = some b) : Wd.bt ⟨L.toArray⟩ p = b.toNat := by
  obtain ⟨hp, e⟩ := List.getElem?_eq_some_iff.1 h
  rw [bt_list L p hp, e]
theorem rvF_varF (s : ByteArray) : ∀ f n p k q acc, n < 128 ^ (f + 1) → acc + n * q ≤ 1000000000 → (0 < n ∨ k = 0) →
    (∀ j b, (Wd.varF (f + 1) n)[j]? = some b → p + j < s.size ∧ Wd.bt s (p + j) = b.toNat) → Wd.rvF s (f + 1) p k q acc = some (acc + n * q, p + (Wd.varF (f + 1) n).length)
  | f, n, p, k, q, acc, hn, hb, hk, hs => by
    by_cases h : n < 128
    · rw [Wd.varF_low f n h] at hs ⊢
      have h0 := hs 0 (UInt8.ofNat n) rfl
      have hbt : Wd.bt s p = n := by have := h0.2; simpa [Nat.mod_eq_of_lt (show n < 256 by omega)] using this
      have := Wd.rvF_lastB (f := f) (q := q) (n := acc) (k := k) hbt h0.1 h (by rw [Nat.mod_eq_of_lt h]; exact hb) hk
      rw [this, Nat.mod_eq_of_lt h]
      rfl
    · rw [Wd.varF_high f n h] at hs ⊢
      have h0 := hs 0 (UInt8.ofNat (n % 128 + 128)) rfl
      have hbt : Wd.bt s p = n % 128 + 128 := by have := h0.2; simpa [Nat.mod_eq_of_lt (show n % 128 + 128 < 256 by omega)] using this
      rw [Wd.rvF_moreB (f := f) (q := q) (n := acc) (k := k) hbt h0.1 (by omega)]
      cases f with
      | zero => simp at hn; omega
      | succ f =>
        have e : acc + n * q = acc + (n % 128 + 128) % 128 * q + n / 128 * (q * 128) := by
          have e1 : (n % 128 + 128) % 128 = n % 128 := by omega
          have e2 : n * q = (n % 128 + 128 * (n / 128)) * q := by rw [Nat.mod_add_div]
          rw [e1, e2, Nat.add_mul, Nat.add_assoc, Nat.mul_comm q 128, ← Nat.mul_assoc, Nat.mul_comm 128 (n / 128)]
        have ih := rvF_varF s f (n / 128) (p + 1) (k + 1) (q * 128) (acc + (n % 128 + 128) % 128 * q) (Wd.div_lt_pow _ _ hn) (by rw [← e]; exact hb) (.inl (by omega))
          (fun j b hj => by
            have := hs (j + 1) b (by simpa using hj)
            rw [show p + 1 + j = p + (j + 1) by omega]
            exact this)
        rw [ih, ← e, List.length_cons]
        congr 2
        omega
theorem rvI_at (a b : List UInt8) (n : Nat) (hn : n ≤ 1000000000) (i : Int) (hi : i = (a.length : Int)) : Wd.rvI ⟨(a ++ Wd.varF 5 n ++ b).toArray⟩ i = some (n, a.length + (Wd.varF 5 n).length) := by
  subst hi
  unfold Wd.rvI
  have hsz : (⟨(a ++ Wd.varF 5 n ++ b).toArray⟩ : ByteArray).size = a.length + (Wd.varF 5 n).length + b.length := by
    show (a ++ Wd.varF 5 n ++ b).length = _
    rw [List.length_append, List.length_append]
  rw [if_neg (by rw [hsz]; omega), Int.toNat_natCast]
  unfold Wd.rv
  have := rvF_varF ⟨(a ++ Wd.varF 5 n ++ b).toArray⟩ 4 n a.length 0 1 0 (by omega) (by omega) (.inr rfl) (fun j x hj => by
    have hj' : j < (Wd.varF 5 n).length := (List.getElem?_eq_some_iff.1 hj).1
    refine ⟨by rw [hsz]; omega, bt_here _ _ _ ?_⟩
    rw [List.append_assoc, List.getElem?_append_right (by omega), Nat.add_sub_cancel_left, List.getElem?_append_left hj', hj])
  rw [this]
  simp
theorem varC_at {t : ByteArray} (a b : List UInt8) (n : Nat) (hn : n ≤ 1000000000) (ht : t = ⟨(a ++ Wd.varF 5 n ++ b).toArray⟩) : varC t a.length false = (n, a.length + (Wd.varF 5 n).length, false) := by
  have h := rvI_at a b n hn (a.length : Int) rfl
  have hs : (⟨(a ++ Wd.varF 5 n ++ b).toArray⟩ : ByteArray).size = a.length + (Wd.varF 5 n).length + b.length := by
    show (a ++ Wd.varF 5 n ++ b).length = _
    rw [List.length_append, List.length_append]
  unfold Wd.rvI at h
  rw [if_neg (by rw [hs]; omega), Int.toNat_natCast, ← ht] at h
  unfold varC
  rw [h]
theorem takeC_at {t : ByteArray} (a b : List UInt8) (s : ByteArray) (ht : t = ⟨(a ++ s.data.toList ++ b).toArray⟩) : takeC t s.size a.length false = (s, a.length + s.size, false) := by
  have hl : s.data.toList.length = s.size := rfl
  have hs : t.size = a.length + s.size + b.length := by
    rw [ht]
    show (a ++ s.data.toList ++ b).length = _
    rw [List.length_append, List.length_append, hl]
  unfold takeC
  rw [if_neg (by simp; omega)]
  have e : t.extract a.length (a.length + s.size) = s := by
    apply ByteArray.ext
    rw [ByteArray.data_extract, ht]
    apply Array.toList_inj.1
    rw [Array.toList_extract, List.extract_eq_take_drop]
    simp only [List.append_assoc]
    rw [List.drop_left, show a.length + s.size - a.length = s.data.toList.length from by omega, List.take_left]
  rw [e]
theorem shortB_list (s : ByteArray) : (shortB s).data.toList = Wd.varF 5 s.size ++ s.data.toList := by
  unfold shortB
  rw [ByteArray.data_append, Array.toList_append]
theorem shortB_len (s : ByteArray) : (shortB s).size = (Wd.varF 5 s.size).length + s.size := by
  unfold shortB
  rw [ByteArray.size_append, size_of_list]
theorem shortC_at {t : ByteArray} (a b : List UInt8) (s : ByteArray) (hs : s.size ≤ 1000000000) (ht : t = ⟨(a ++ (shortB s).data.toList ++ b).toArray⟩) : shortC t a.length false = (s, a.length + (shortB s).size, false) := by
  rw [shortB_list] at ht
  unfold shortC
  rw [varC_at a (s.data.toList ++ b) s.size hs (by rw [ht]; simp only [List.append_assoc])]
  have h := takeC_at (t := t) (a ++ Wd.varF 5 s.size) b s (by rw [ht]; simp only [List.append_assoc])
  rw [List.length_append] at h
  simp only
  rw [h, shortB_len, Nat.add_assoc]
end Go.Proofs.Ytbenmgokhklnjaa
