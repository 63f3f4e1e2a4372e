import Derived.Test.YtifjneldjjmeaaaGreatDoorChecked
import Derived.Lib.ConvBytes
import Derived.WalkSmall
import Derived.Laws.CopyRow
import Derived.Deep.RegionHeld3
import Derived.Laws.CopyOwn
import Derived.Test.YtifjneldjjmeaaaGreatDoorCn7
import Derived.Test.YtifjneldjjmeaaaGreatDoorCn0
import Derived.Test.YtifjneldjjmeaaaGreatDoorCn6
set_option maxRecDepth 100000
set_option maxHeartbeats 6400000
namespace Go.Proofs.YtifjneldjjmeaaaGreatDoor
open Go.RowKit
theorem valS_bound {l : ByteArray} {m : Int} (h : valS l = some m) : -1000000000 ≤ m ∧ m ≤ 1000000000 := by
  rw [valI_range] at h
  cases hI : valI l with
  | none => rw [hI] at h; cases h
  | some v =>
    rw [hI] at h
    simp only at h
    split at h
    · rename_i hv
      cases h
      exact hv
    · cases h
theorem box_text {W : World} {q : Nat} {k u t x t2 : Value} {ty : TypeId} (h : W.heap[q]? = some (.cells #[k, u, t, x] ty (0, 0))) : (W.setCell ⟨q, 2, none⟩ t2).heap[q]? = some (.cells #[k, u, t2, x] ty (0, 0)) := (heap_setCell_same W q 2 _ ty _ h).trans rfl
def cntI (t : ByteArray) (th : Bool) (more : Int) : Option Int := if th = true then (match valS t with | some m => some (m + more) | none => none) else some (0 + more)
def cntV : Option Int → Value
  | some n => .tuple #[.int .i64 n, .bool true]
  | none => .tuple #[.int .i64 0, .bool false]
theorem countedI_any (k u : Int) (t : ByteArray) (more : Int) (x : Value) (th : Bool) (w : World) (hx : ∃ a n c, x = .slice a n c) (ht : t.size ≤ 1048576) (hm : -1000000000 ≤ more ∧ more ≤ 1000000000) (hv : RVars w) :
    Calls Tryz.prog 118 #[.agg #[.int .i64 k, .int .i64 u, .string t, x], .bool th, .func (.func 119) #[] #[], .int .i64 more] w fun e w' => e = .returned (cntV (cntI t th more)) ∧ Below w.heap.size w w' := by
  obtain ⟨a, n, c, rfl⟩ := hx
  obtain ⟨wA, hwA⟩ : ∃ wA, wA = w.alloc (.cells #[.int .i64 k, .int .i64 u, .string t, .slice a n c] 38) := ⟨_, rfl⟩
  have BA : Hid (Below w.heap.size w wA) := by rw [hwA]; exact (Below.refl _ w).alloc (Nat.le_refl _) _
  have PA : Hid (wA.heap[w.heap.size]? = some (.cells #[.int .i64 k, .int .i64 u, .string t, .slice a n c] 38 (0, 0))) := by rw [hwA]; exact heap_alloc_new _ _
  have HR := hide (implReadInt_any t wA ht (rvars_below hv BA.out))
  obtain ⟨y0, y1, y2, y3⟩ := box4w PA.out
  have HC : Hid (cntI t th more = if th = true then (match valS t with | some m => some (m + more) | none => none) else some (0 + more)) := rfl
  have HBd : Hid (∀ m, valS t = some m → -1000000000 ≤ m ∧ m ≤ 1000000000) := fun m h => valS_bound h
  clear hv
  generalize cntI t th more = C at HC ⊢
  generalize valS t = q at HR HC HBd
  cases th with
  | false =>
    have hC := HC.out
    rw [if_neg (by decide)] at hC
    subst hC
    have hw1 : IntKind.i64.wrap (0 + more) = 0 + more := by rw [IntKind.wrap_i64]; omega
    have hw2 : IntKind.i64.wrap more = more := by rw [IntKind.wrap_i64]; omega
    go_enter Tryz.func118, Tryz.ntmps118
    go_upto_region 1 with fail
    rw [← hwA]
    clear hwA
    go_wp2
    go_ret2
    exact ⟨by simp [cntV], BA.out⟩
  | true =>
    have hC := HC.out
    rw [if_pos rfl] at hC
    cases q with
    | none =>
      simp only at hC
      subst hC
      simp only [riV] at HR
      go_enter Tryz.func118, Tryz.ntmps118
      go_upto_region 1 with fail
      rw [← hwA]
      clear hwA
      go_wp2_with fail
      refine HR.out.mono ?_
      rintro e w1 ⟨rfl, b1⟩
      have B1 := hide (BA.out.trans (b1.mono BA.out.size))
      clear b1
      go_wp2
      go_ret2
      exact ⟨rfl, B1.out⟩
    | some m =>
      simp only at hC
      subst hC
      simp only [riV] at HR
      have hb := HBd.out m rfl
      have hw1 : IntKind.i64.wrap (m + more) = m + more := by rw [IntKind.wrap_i64]; omega
      go_enter Tryz.func118, Tryz.ntmps118
      go_upto_region 1 with fail
      rw [← hwA]
      clear hwA
      go_wp2_with fail
      refine HR.out.mono ?_
      rintro e w1 ⟨rfl, b1⟩
      have B1 := hide (BA.out.trans (b1.mono BA.out.size))
      clear b1
      go_wp2
      go_ret2
      exact ⟨rfl, B1.out⟩
noncomputable def countF (T : List EntD) (key told : ByteArray) (sign : Int) : ByteArray × Option ByteArray × List EntD :=
  match (lookK T key 1).2.2 with
  | some e => (⟨#[]⟩, some e, T)
  | none => match valS told with
    | none => (⟨#[]⟩, some notInt, T)
    | some m => match cntI (lookK T key 1).1.text (lookK T key 1).2.1 (sign * m) with
      | none => (⟨#[]⟩, some notInt, T)
      | some n => if inLim n = true then (hdB ⟨#[58]⟩ n, putErr (putT T key ⟨(lookK T key 1).1.kind, (lookK T key 1).1.til, numB n, (lookK T key 1).1.items⟩), putT T key ⟨(lookK T key 1).1.kind, (lookK T key 1).1.til, numB n, (lookK T key 1).1.items⟩)
        else (⟨#[]⟩, some tooMuch, T)
theorem look_text {T : List EntD} (hT : TabR T) (k : ByteArray) (h : (lookK T k 1).2.2 = none) : (lookK T k 1).1.text.size ≤ 60 ∧ (lookK T k 1).1.items = [] := by
  unfold lookK at h ⊢
  cases hf : findE T k with
  | none => exact ⟨Nat.zero_le 60, rfl⟩
  | some v =>
    simp only [hf] at h ⊢
    by_cases hk : v.kind = 1
    · simp only [hk, if_pos]
      obtain ⟨-, -, -, h3⟩ := tab_all hT _ ((findE_iff (tab_pw hT) k v).1 hf)
      rcases h3 with ⟨-, h4, h5⟩ | ⟨h4, -⟩ | ⟨h4, -⟩ | ⟨h4, -⟩
      · exact ⟨h5, List.eq_nil_of_length_eq_zero h4⟩
      all_goals (simp only at h4; omega)
    · rw [if_neg hk] at h
      cases h
theorem numB_small (n : Int) (h : -1000000000 ≤ n ∧ n ≤ 1000000000) : (numB n).size ≤ 1048576 := by
  have := numB_size n (by omega) (by omega)
  omega
def toldV : Option Int → Value
  | some m => .tuple #[.int .i64 m, errV none]
  | none => .tuple #[.int .i64 0, errV (some notInt)]
theorem toldInt_any (s : ByteArray) (w : World) (hm : s.size ≤ 1048576) (hv : RVars w) :
    Calls Tryz.prog 117 #[.string s] w fun e w' => e = .returned (toldV (valS s)) ∧ Below w.heap.size w w' := by
  have HRT := hide (implReadInt_any s w hm hv)
  clear hv
  generalize valS s = q at HRT ⊢
  cases q with
  | none =>
    simp only [riV] at HRT
    simp only [toldV, errV]
    go_enter Tryz.func117, Tryz.ntmps117
    go_wp2_with fail
    refine HRT.out.mono ?_
    rintro e w1 ⟨rfl, b1⟩
    have B1 := hide b1
    clear b1
    go_wp2
    go_ret2
    exact ⟨by simp [notInt], B1.out⟩
  | some m =>
    simp only [riV] at HRT
    simp only [toldV, errV]
    go_enter Tryz.func117, Tryz.ntmps117
    go_wp2_with fail
    refine HRT.out.mono ?_
    rintro e w1 ⟨rfl, b1⟩
    have B1 := hide b1
    clear b1
    go_wp2
    go_ret2
    exact ⟨rfl, B1.out⟩
theorem count_any (T : List EntD) (key told : ByteArray) (sign : Int) (w0 w : World) (b : Nat) (tb : TypeId) (htb : (tb == 40) = false) (htb9 : (tb == 9) = false) (hT : TabR T) (hW : WorkS tb w w0.heap.size b T) (hv : RVars w0) (h0 : Below w0.heap.size w0 w) (hk : key.size ≤ 1048576) (hm : told.size ≤ 1048576) (hs : sign = 1 ∨ sign = -1) :
    Calls Tryz.prog 75 #[.pointer (some ⟨b, 0, none⟩), .string key, .string told, .int .i64 sign] w (DoP tb w0.heap.size b w (countF T key told sign).1 (countF T key told sign).2.1 (countF T key told sign).2.2) := by
  have HT := hide hT
  have HLT := hide (look_text hT key)
  have HF := hide (find_any T key 1 w w0.heap.size b tb hT hW)
  have HW := hide (fun W (h : Below w.heap.size w W) => workS_below hW h)
  have HV := hide (fun W (h : Below w.heap.size w W) => rvars_below hv (h0.trans (h.mono h0.size)))
  have HRT := hide (fun W (h : Below w.heap.size w W) => toldInt_any told W hm (rvars_below hv (h0.trans (h.mono h0.size))))
  have hw0 := h0.size
  have hsz := (look_small hT key 1).2.1
  have HBd : Hid (∀ m, valS told = some m → -1000000000 ≤ m ∧ m ≤ 1000000000) := fun m h => valS_bound h
  have HG : Hid (countF T key told sign = match (lookK T key 1).2.2 with
    | some e => (⟨#[]⟩, some e, T)
    | none => match valS told with
      | none => (⟨#[]⟩, some notInt, T)
      | some m => match cntI (lookK T key 1).1.text (lookK T key 1).2.1 (sign * m) with
        | none => (⟨#[]⟩, some notInt, T)
        | some n => if inLim n = true then (hdB ⟨#[58]⟩ n, putErr (putT T key ⟨(lookK T key 1).1.kind, (lookK T key 1).1.til, numB n, (lookK T key 1).1.items⟩), putT T key ⟨(lookK T key 1).1.kind, (lookK T key 1).1.til, numB n, (lookK T key 1).1.items⟩)
          else (⟨#[]⟩, some tooMuch, T)) := rfl
  clear hT hW hv h0
  generalize countF T key told sign = G at HG ⊢
  generalize lookK T key 1 = r at HF HG hsz HLT
  generalize valS told = q at HRT HBd HG
  obtain ⟨⟨k, u, t, ts⟩, th, er⟩ := r
  simp only [valC] at HF HG hsz HLT
  cases er with
  | some y =>
    have hG := HG.out
    simp only at hG
    subst hG
    simp only [errV] at HF
    go_enter Tryz.func75, Tryz.ntmps75
    go_wp2_with fail
    refine HF.out.mono ?_
    rintro e w1 ⟨⟨a1, c1, rfl, -⟩, b1⟩
    have B2 := hide (b1.alloc b1.size (.cells #[.int .i64 k, .int .i64 u, .string t, .slice a1 ts.length c1] 38))
    have W2 := hide (HW.out _ B2.out)
    clear b1
    go_wp2
    go_ret2
    exact ⟨rfl, W2.out, B2.out.mono hw0⟩
  | none =>
    obtain ⟨ht60, hts⟩ := HLT.out rfl
    subst hts
    simp only [errV, List.length_nil] at HF
    go_enter Tryz.func75, Tryz.ntmps75
    go_wp2_with fail
    refine HF.out.mono ?_
    rintro e w1 ⟨⟨a1, c1, rfl, -⟩, b1⟩
    have B1 := hide b1
    clear b1
    go_upto_region 2 with fail
    obtain ⟨wB, hwB⟩ : ∃ wB, wB = w1.alloc (.cells #[.int .i64 k, .int .i64 u, .string t, .slice a1 0 c1] 38) := ⟨_, rfl⟩
    rw [← hwB]
    have BB : Hid (Below w1.heap.size w1 wB) := by rw [hwB]; exact (Below.refl _ w1).alloc (Nat.le_refl _) _
    have PB : Hid (wB.heap[w1.heap.size]? = some (.cells #[.int .i64 k, .int .i64 u, .string t, .slice a1 0 c1] 38 (0, 0))) := by rw [hwB]; exact heap_alloc_new _ _
    clear hwB
    have hq := B1.out.size
    have B1B := hide (B1.out.trans (BB.out.mono hq))
    cases q with
    | none =>
      have hG := HG.out
      simp only at hG
      subst hG
      simp only [toldV, errV] at HRT
      go_wp2_with fail
      refine (HRT.out wB B1B.out).mono ?_
      rintro e w2 ⟨rfl, b2⟩
      have B2 := hide (B1B.out.trans (b2.mono B1B.out.size))
      have W2 := hide (HW.out _ B2.out)
      clear b2
      go_wp2
      go_ret2
      exact ⟨by simp [errV, notInt], W2.out, B2.out.mono hw0⟩
    | some m =>
      have hmb := HBd.out m rfl
      simp only [toldV, errV] at HRT
      have hmul : IntKind.i64.wrap (sign * m) = sign * m := by
        rw [IntKind.wrap_i64]
        rcases hs with rfl | rfl <;> omega
      have hsm : -1000000000 ≤ sign * m ∧ sign * m ≤ 1000000000 := by rcases hs with rfl | rfl <;> omega
      clear hs
      have HCI := hide (fun W (x : Value) (hx : ∃ a n c, x = .slice a n c) (h : Below w.heap.size w W) => countedI_any k u t (sign * m) x th W hx hsz hsm (HV.out W h))
      go_wp2_with fail
      refine (HRT.out wB B1B.out).mono ?_
      rintro e w2 ⟨rfl, b2⟩
      have B2 := hide (B1B.out.trans (b2.mono B1B.out.size))
      have P2 := hide ((b2.block _ (obj_lt PB.out)).trans PB.out)
      clear b2
      obtain ⟨y0, y1, y2, y3⟩ := box4w P2.out
      go_wp2_with fail
      refine (HCI.out w2 _ ⟨a1, 0, c1, rfl⟩ B2.out).mono ?_
      rintro e w3 ⟨rfl, b3⟩
      have B3 := hide (B2.out.trans (b3.mono B2.out.size))
      have P3 := hide ((b3.block _ (obj_lt P2.out)).trans P2.out)
      clear b3 y0 y1 y2 y3 HCI HRT
      cases hn : cntI t th (sign * m) with
      | none =>
        have hG := HG.out
        simp only [hn] at hG
        subst hG
        clear hn
        have W3 := hide (HW.out _ B3.out)
        simp only [cntV]
        go_wp2
        go_ret2
        exact ⟨by simp [errV, notInt], W3.out, B3.out.mono hw0⟩
      | some n =>
        have hG := HG.out
        simp only [hn] at hG
        have HG2 := hide hG
        clear hn hG
        simp only [cntV]
        have HIN := hide (fun W => inLimits_any n W)
        have HLM : Hid (inLim n = true → -1000000000 ≤ n ∧ n ≤ 1000000000) := fun h => by simpa [inLim] using h
        generalize inLim n = lim at HG2 HIN HLM
        cases lim with
        | false =>
          have hG := HG2.out
          rw [if_neg (by decide)] at hG
          subst hG
          have W3 := hide (HW.out _ B3.out)
          go_wp2_with fail
          refine (HIN.out _).mono ?_
          rintro e w4 ⟨rfl, rfl⟩
          go_wp2
          go_ret2
          exact ⟨by simp [errV, tooMuch], W3.out, B3.out.mono hw0⟩
        | true =>
          have hG := HG2.out
          rw [if_pos rfl] at hG
          subst hG
          obtain ⟨hn0, hn1⟩ := HLM.out rfl
          have hnz := numB_small n ⟨hn0, hn1⟩
          have HD := hide (fun W (h : Below w.heap.size w W) => implDec_any n W (by omega) (by omega) (HV.out W h).pow)
          have HN := hide (fun W (h : Below w.heap.size w W) => implNumber_any n W (by omega) (by omega) (HV.out W h).pow)
          have HP := hide (fun W a c (hT2 : WorkS tb W w0.heap.size b T) (hB : w0.heap.size ≤ W.heap.size) => put_any T ⟨key, k, u, numB n, []⟩ a c W w0.heap.size b tb htb htb9 HT.out ⟨hk, hnz, Nat.zero_le _, fun s hs => by cases hs⟩ (fun j hj => absurd hj (Nat.not_lt_zero j)) hT2 hB)
          simp only [List.length_nil] at HP
          change Hid (∀ W, Below w.heap.size w W → Calls Tryz.prog 121 #[.int .i64 n] W fun e w' => e = .returned (.string (numB n)) ∧ Below W.heap.size W w') at HD
          obtain ⟨tx, htx⟩ : ∃ tx, Hid (numB n = tx) := ⟨_, rfl⟩
          rw [htx.out] at HD HP hnz
          go_wp2_with fail
          refine (HIN.out _).mono ?_
          rintro e w4 ⟨rfl, rfl⟩
          go_wp2_with fail
          refine (HD.out w4 B3.out).mono ?_
          rintro e w5 ⟨rfl, b5⟩
          have B5 := hide (B3.out.trans (b5.mono B3.out.size))
          have P5 := hide ((b5.block _ (obj_lt P3.out)).trans P3.out)
          clear b5
          obtain ⟨z0, z1, z2, z3⟩ := box4w P5.out
          obtain ⟨f0, f1, f2, f3⟩ := box4f P5.out
          have P6 := hide (box_text (t2 := .string tx) P5.out)
          have B6 := hide (B5.out.setCell (p := ⟨w1.heap.size, 2, none⟩) hq (.string tx))
          go_upto_region 13 with fail
          generalize w5.setCell ⟨w1.heap.size, 2, none⟩ (.string tx) = w6 at P6 B6 ⊢
          clear z0 z1 z2 z3 f0 f1 f2 f3
          have KQ := hide (fun X (hX : Below w6.heap.size w6 X) => box4w ((hX.block _ (obj_lt P6.out)).trans P6.out))
          have hb6 := B6.out.size
          obtain ⟨x0, x1, x2, x3⟩ := KQ.out _ (Below.refl _ _)
          go_region_law (first | (go_simp; go_at_call 114; go_loud (refine (HN.out _ (B6.out.trans ((Below.refl _ w6).drew.mono hb6))).mono ?_; rintro e w7 ⟨rfl, b7⟩; have E7 : Hid (Below w6.heap.size w6 w7) := (Below.refl _ w6).drew.trans b7; obtain ⟨v0, v1, v2, v3⟩ := KQ.out _ E7.out; clear b7)) | (go_simp; go_at_call 112; go_loud (refine (HP.out _ _ _ (HW.out _ (B6.out.trans (E7.out.mono hb6))) (Nat.le_trans hw0 (Nat.le_trans hb6 E7.out.size))).mono ?_; rintro e w8 ⟨rfl, s8, b8⟩; have W8 := hide s8; have B8 := hide (((B6.out.trans (E7.out.mono hb6)).mono hw0).trans b8); clear s8 b8)))
          all_goals go_wp2
          all_goals go_ret2
          all_goals rw [htx.out]
          all_goals exact ⟨rfl, W8.out, B8.out⟩
theorem putErr_cases (T : List EntD) : (putErr T = none ∧ TabR T) ∨ (putErr T = some tooMuch ∧ ¬ TabR T) := by
  unfold putErr
  cases h : tabB T with
  | true => exact .inl ⟨rfl, (tabB_iff T).1 h⟩
  | false => exact .inr ⟨rfl, fun hh => by rw [(tabB_iff T).2 hh] at h; cases h⟩
theorem doINCR_any (T : List EntD) (nm : ByteArray) (L : List ByteArray) (ao : Option Addr) (cap : Nat) (w0 w : World) (b : Nat) (tb : TypeId) (htb : (tb == 40) = false) (htb9 : (tb == 9) = false) (hT : TabR T) (hW : WorkS tb w w0.heap.size b T) (hv : RVars w0) (h0 : Below w0.heap.size w0 w) (hks : TextsAt w0 ao L) (hz : ∀ x ∈ L, x.size ≤ 1000000) (hl : 1 ≤ L.length)  (n0 : (nm.toList == [71, 69, 84]) = false) (n1 : (nm.toList == [83, 69, 84]) = false) (n2 : (nm.toList == [83, 69, 84, 78, 88]) = false) (n3 : (nm.toList == [71, 69, 84, 83, 69, 84]) = false) (n4 : (nm.toList == [65, 80, 80, 69, 78, 68]) = false) (n5 : (nm.toList == [83, 84, 82, 76, 69, 78]) = false) (n6 : (nm.toList == [73, 78, 67, 82]) = true) :
    Calls Tryz.prog 37 #[.pointer (some ⟨b, 0, none⟩), .string nm, .slice ao L.length cap] w (DoP tb w0.heap.size b w (countF T L[0] ⟨#[49]⟩ 1).1 (countF T L[0] ⟨#[49]⟩ 1).2.1 (countF T L[0] ⟨#[49]⟩ 1).2.2) := by
  obtain ⟨b0, off, rfl, hbw, hc0⟩ := textsAt_keep hks h0 0 (by omega)
  rw [Nat.add_zero] at hc0
  have hi0 : (0 : Int) < (L.length : Int) := by omega
  have hN0 : 0 < L.length := by omega
  have HC := hide (fun W (h : Below w.heap.size w W) => count_any T L[0] ⟨#[49]⟩ 1 w0 W b tb htb htb9 hT (workS_below hW h) hv (h0.trans (h.mono h0.size)) (by have := hz _ (List.getElem_mem (show 0 < L.length by omega)); omega) (by decide) (.inl rfl))
  clear hT hW hv h0 hks hz
  go_enter Tryz.func37, Tryz.ntmps37
  go_wp2_with fail
  refine (HC.out w (Below.refl _ w)).mono ?_
  rintro e w1 ⟨rfl, s1, b1⟩
  have S1 := hide s1
  have B1 := hide b1
  clear b1 s1
  go_wp2
  go_ret2
  exact ⟨rfl, S1.out, B1.out⟩
theorem doDECR_any (T : List EntD) (nm : ByteArray) (L : List ByteArray) (ao : Option Addr) (cap : Nat) (w0 w : World) (b : Nat) (tb : TypeId) (htb : (tb == 40) = false) (htb9 : (tb == 9) = false) (hT : TabR T) (hW : WorkS tb w w0.heap.size b T) (hv : RVars w0) (h0 : Below w0.heap.size w0 w) (hks : TextsAt w0 ao L) (hz : ∀ x ∈ L, x.size ≤ 1000000) (hl : 1 ≤ L.length)  (n0 : (nm.toList == [71, 69, 84]) = false) (n1 : (nm.toList == [83, 69, 84]) = false) (n2 : (nm.toList == [83, 69, 84, 78, 88]) = false) (n3 : (nm.toList == [71, 69, 84, 83, 69, 84]) = false) (n4 : (nm.toList == [65, 80, 80, 69, 78, 68]) = false) (n5 : (nm.toList == [83, 84, 82, 76, 69, 78]) = false) (n6 : (nm.toList == [73, 78, 67, 82]) = false) (n7 : (nm.toList == [68, 69, 67, 82]) = true) :
    Calls Tryz.prog 37 #[.pointer (some ⟨b, 0, none⟩), .string nm, .slice ao L.length cap] w (DoP tb w0.heap.size b w (countF T L[0] ⟨#[49]⟩ (-1)).1 (countF T L[0] ⟨#[49]⟩ (-1)).2.1 (countF T L[0] ⟨#[49]⟩ (-1)).2.2) := by
  obtain ⟨b0, off, rfl, hbw, hc0⟩ := textsAt_keep hks h0 0 (by omega)
  rw [Nat.add_zero] at hc0
  have hi0 : (0 : Int) < (L.length : Int) := by omega
  have hN0 : 0 < L.length := by omega
  have HC := hide (fun W (h : Below w.heap.size w W) => count_any T L[0] ⟨#[49]⟩ (-1) w0 W b tb htb htb9 hT (workS_below hW h) hv (h0.trans (h.mono h0.size)) (by have := hz _ (List.getElem_mem (show 0 < L.length by omega)); omega) (by decide) (.inr rfl))
  clear hT hW hv h0 hks hz
  go_enter Tryz.func37, Tryz.ntmps37
  go_wp2_with fail
  refine (HC.out w (Below.refl _ w)).mono ?_
  rintro e w1 ⟨rfl, s1, b1⟩
  have S1 := hide s1
  have B1 := hide b1
  clear b1 s1
  go_wp2
  go_ret2
  exact ⟨rfl, S1.out, B1.out⟩
theorem doINCRBY_any (T : List EntD) (nm : ByteArray) (L : List ByteArray) (ao : Option Addr) (cap : Nat) (w0 w : World) (b : Nat) (tb : TypeId) (htb : (tb == 40) = false) (htb9 : (tb == 9) = false) (hT : TabR T) (hW : WorkS tb w w0.heap.size b T) (hv : RVars w0) (h0 : Below w0.heap.size w0 w) (hks : TextsAt w0 ao L) (hz : ∀ x ∈ L, x.size ≤ 1000000) (hl : 2 ≤ L.length)  (n0 : (nm.toList == [71, 69, 84]) = false) (n1 : (nm.toList == [83, 69, 84]) = false) (n2 : (nm.toList == [83, 69, 84, 78, 88]) = false) (n3 : (nm.toList == [71, 69, 84, 83, 69, 84]) = false) (n4 : (nm.toList == [65, 80, 80, 69, 78, 68]) = false) (n5 : (nm.toList == [83, 84, 82, 76, 69, 78]) = false) (n6 : (nm.toList == [73, 78, 67, 82]) = false) (n7 : (nm.toList == [68, 69, 67, 82]) = false) (n8 : (nm.toList == [73, 78, 67, 82, 66, 89]) = true) :
    Calls Tryz.prog 37 #[.pointer (some ⟨b, 0, none⟩), .string nm, .slice ao L.length cap] w (DoP tb w0.heap.size b w (countF T L[0] L[1] 1).1 (countF T L[0] L[1] 1).2.1 (countF T L[0] L[1] 1).2.2) := by
  obtain ⟨b0, off, rfl, hbw, hc0⟩ := textsAt_keep hks h0 0 (by omega)
  obtain ⟨b1, off1, e1, -, hc1⟩ := textsAt_keep hks h0 1 (by omega)
  cases e1
  have hi0 : (0 : Int) < (L.length : Int) := by omega
  rw [Nat.add_zero] at hc0
  have hi1 : (1 : Int) < (L.length : Int) := by omega
  have hN0 : 0 < L.length := by omega
  have hN1 : 1 < L.length := by omega
  have HC := hide (fun W (h : Below w.heap.size w W) => count_any T L[0] L[1] 1 w0 W b tb htb htb9 hT (workS_below hW h) hv (h0.trans (h.mono h0.size)) (by have := hz _ (List.getElem_mem (show 0 < L.length by omega)); omega) (by have := hz _ (List.getElem_mem (show 1 < L.length by omega)); omega) (.inl rfl))
  clear hT hW hv h0 hks hz
  go_enter Tryz.func37, Tryz.ntmps37
  go_upto_region 19 with fail
  go_region_law (go_simp; go_at_call 75; go_loud (refine (HC.out _ (Below.refl _ w).drew).mono ?_; rintro e w1 ⟨rfl, s1, b1⟩; have S1 := hide s1; have B1 := hide ((Below.refl _ w).drew.trans b1); clear s1 b1))
  all_goals go_wp2
  all_goals go_ret2
  all_goals exact ⟨rfl, S1.out, B1.out⟩
theorem doDECRBY_any (T : List EntD) (nm : ByteArray) (L : List ByteArray) (ao : Option Addr) (cap : Nat) (w0 w : World) (b : Nat) (tb : TypeId) (htb : (tb == 40) = false) (htb9 : (tb == 9) = false) (hT : TabR T) (hW : WorkS tb w w0.heap.size b T) (hv : RVars w0) (h0 : Below w0.heap.size w0 w) (hks : TextsAt w0 ao L) (hz : ∀ x ∈ L, x.size ≤ 1000000) (hl : 2 ≤ L.length)  (n0 : (nm.toList == [71, 69, 84]) = false) (n1 : (nm.toList == [83, 69, 84]) = false) (n2 : (nm.toList == [83, 69, 84, 78, 88]) = false) (n3 : (nm.toList == [71, 69, 84, 83, 69, 84]) = false) (n4 : (nm.toList == [65, 80, 80, 69, 78, 68]) = false) (n5 : (nm.toList == [83, 84, 82, 76, 69, 78]) = false) (n6 : (nm.toList == [73, 78, 67, 82]) = false) (n7 : (nm.toList == [68, 69, 67, 82]) = false) (n8 : (nm.toList == [73, 78, 67, 82, 66, 89]) = false) (n9 : (nm.toList == [68, 69, 67, 82, 66, 89]) = true) :
    Calls Tryz.prog 37 #[.pointer (some ⟨b, 0, none⟩), .string nm, .slice ao L.length cap] w (DoP tb w0.heap.size b w (countF T L[0] L[1] (-1)).1 (countF T L[0] L[1] (-1)).2.1 (countF T L[0] L[1] (-1)).2.2) := by
  obtain ⟨b0, off, rfl, hbw, hc0⟩ := textsAt_keep hks h0 0 (by omega)
  obtain ⟨b1, off1, e1, -, hc1⟩ := textsAt_keep hks h0 1 (by omega)
  cases e1
  have hi0 : (0 : Int) < (L.length : Int) := by omega
  rw [Nat.add_zero] at hc0
  have hi1 : (1 : Int) < (L.length : Int) := by omega
  have hN0 : 0 < L.length := by omega
  have hN1 : 1 < L.length := by omega
  have HC := hide (fun W (h : Below w.heap.size w W) => count_any T L[0] L[1] (-1) w0 W b tb htb htb9 hT (workS_below hW h) hv (h0.trans (h.mono h0.size)) (by have := hz _ (List.getElem_mem (show 0 < L.length by omega)); omega) (by have := hz _ (List.getElem_mem (show 1 < L.length by omega)); omega) (.inr rfl))
  clear hT hW hv h0 hks hz
  go_enter Tryz.func37, Tryz.ntmps37
  go_upto_region 21 with fail
  go_region_law (go_simp; go_at_call 75; go_loud (refine (HC.out _ (Below.refl _ w).drew).mono ?_; rintro e w1 ⟨rfl, s1, b1⟩; have S1 := hide s1; have B1 := hide ((Below.refl _ w).drew.trans b1); clear s1 b1))
  all_goals go_wp2
  all_goals go_ret2
  all_goals exact ⟨rfl, S1.out, B1.out⟩
def cmdsL : List ByteArray := [⟨#[80, 73, 78, 71]⟩, ⟨#[69, 67, 72, 79]⟩, ⟨#[71, 69, 84]⟩, ⟨#[83, 69, 84]⟩, ⟨#[83, 69, 84, 78, 88]⟩, ⟨#[71, 69, 84, 83, 69, 84]⟩, ⟨#[65, 80, 80, 69, 78, 68]⟩, ⟨#[83, 84, 82, 76, 69, 78]⟩, ⟨#[73, 78, 67, 82]⟩, ⟨#[68, 69, 67, 82]⟩, ⟨#[73, 78, 67, 82, 66, 89]⟩, ⟨#[68, 69, 67, 82, 66, 89]⟩, ⟨#[77, 71, 69, 84]⟩, ⟨#[77, 83, 69, 84]⟩, ⟨#[68, 69, 76]⟩, ⟨#[69, 88, 73, 83, 84, 83]⟩, ⟨#[84, 89, 80, 69]⟩, ⟨#[69, 88, 80, 73, 82, 69]⟩, ⟨#[84, 84, 76]⟩, ⟨#[80, 69, 82, 83, 73, 83, 84]⟩, ⟨#[75, 69, 89, 83]⟩, ⟨#[68, 66, 83, 73, 90, 69]⟩, ⟨#[70, 76, 85, 83, 72, 65, 76, 76]⟩, ⟨#[76, 80, 85, 83, 72]⟩, ⟨#[82, 80, 85, 83, 72]⟩, ⟨#[76, 80, 79, 80]⟩, ⟨#[82, 80, 79, 80]⟩, ⟨#[76, 76, 69, 78]⟩, ⟨#[76, 82, 65, 78, 71, 69]⟩, ⟨#[76, 73, 78, 68, 69, 88]⟩, ⟨#[72, 83, 69, 84]⟩, ⟨#[72, 71, 69, 84]⟩, ⟨#[72, 68, 69, 76]⟩, ⟨#[72, 76, 69, 78]⟩, ⟨#[72, 71, 69, 84, 65, 76, 76]⟩, ⟨#[72, 75, 69, 89, 83]⟩, ⟨#[83, 65, 68, 68]⟩, ⟨#[83, 82, 69, 77]⟩, ⟨#[83, 73, 83, 77, 69, 77, 66, 69, 82]⟩, ⟨#[83, 67, 65, 82, 68]⟩, ⟨#[83, 77, 69, 77, 66, 69, 82, 83]⟩]
def upB (b : UInt8) : UInt8 := if 97 ≤ b.toNat ∧ b.toNat ≤ 122 then UInt8.ofNat (b.toNat - 32) else b
theorem upB_yes {b : UInt8} {c : Nat} (h : b.toNat = c) (h1 : 97 ≤ c) (h2 : c ≤ 122) : (upB b).toNat = c - 32 := by
  unfold upB
  rw [if_pos (by omega), h]
  simp
  omega
theorem upB_no {b : UInt8} (h : ¬ (97 ≤ b.toNat ∧ b.toNat ≤ 122)) : upB b = b := by
  unfold upB
  rw [if_neg h]
def upTo (l : List UInt8) (k : Nat) : List UInt8 := (l.take k).map upB ++ l.drop k
theorem upTo_zero (l : List UInt8) : upTo l 0 = l := by simp [upTo]
theorem upTo_all (l : List UInt8) : upTo l l.length = l.map upB := by simp [upTo]
theorem upTo_length (l : List UInt8) (k : Nat) : (upTo l k).length = l.length := by simp [upTo]; omega
theorem upTo_get (l : List UInt8) (k : Nat) (h : k < l.length) : (upTo l k)[k]'(by rw [upTo_length]; exact h) = l[k] := by
  simp [upTo, Nat.le_of_lt h]
theorem upTo_next (l : List UInt8) (k : Nat) (h : k < l.length) : (upTo l k).set k (upB l[k]) = upTo l (k + 1) := by
  apply List.ext_getElem?
  intro j
  simp only [upTo, List.getElem?_set, List.getElem?_append, List.length_append, List.length_map, List.length_take, List.length_drop, List.getElem?_map, List.getElem?_take, List.getElem?_drop]
  by_cases hj : k = j
  · subst hj
    simp [h, Nat.min_eq_left (Nat.le_of_lt h)]
    rw [if_pos (by omega), if_pos (by omega)]
  · rw [if_neg hj, Nat.min_eq_left (Nat.le_of_lt h), Nat.min_eq_left h]
    by_cases h1 : j < k
    · rw [if_pos h1, if_pos h1, if_pos (by omega), if_pos (by omega)]
    · rw [if_neg h1, if_neg (by omega), show k + (j - k) = k + 1 + (j - (k + 1)) by omega]
theorem upTo_same (l : List UInt8) (k : Nat) (h : k < l.length) (hb : ¬ (97 ≤ l[k].toNat ∧ l[k].toNat ≤ 122)) : upTo l k = upTo l (k + 1) := by
  rw [← upTo_next l k h, upB_no hb]
  have e := upTo_get l k h
  conv => rhs; rw [← e]
  simp
def BytesIs (w : World) (g : Nat) (L : List UInt8) : Prop := ∀ j (h : j < L.length), w.cell? ⟨g, j, none⟩ = some (.int .u8 (L[j].toNat : Int)) ∧ w.frozen? ⟨g, j, none⟩ = false
theorem bytesIs_made {P : Program} (w : World) (src dst e : TypeId) (s : ByteArray) (hs : P.underlying src = some .string) (hd : P.underlying dst = some (.slice e)) (he : P.underlying e = some (.int .u8)) :
    ∃ (W : World) (C : Nat), (convert src dst (.string s)).run P w = .ok (.slice (some ⟨w.heap.size, 0, none⟩) s.size C) W ∧ Below w.heap.size w W ∧ W.heap.size = w.heap.size + 1 ∧ BytesIs W w.heap.size s.data.toList := by
  refine ⟨_, _, Lib.run_convert_string_bytes w src dst e s hs hd he, ⟨rfl, rfl, rfl, by rw [Lib.bytesWorld_size]; omega, fun k hk => Lib.bytesWorld_at_old w e _ k hk⟩, Lib.bytesWorld_size _ _ _, ?_⟩
  intro j hj
  have hj' : j < s.size := by simpa using hj
  constructor
  · rw [Lib.bytesWorld_cell w e s j hj']
    simp
    rw [Array.getElem?_eq_getElem hj']
    rfl
  · unfold World.frozen?
    rw [Lib.bytesWorld_at_new]
    have : s.size ≤ (Lib.bytesCells w e s).size := by simp [Lib.bytesCells]
    simp
    omega
theorem bytesIs_back {P : Program} (W : World) (src dst e : TypeId) (g n C : Nat) (L : List UInt8) (hn : L.length = n) (hs : P.underlying src = some (.slice e)) (he : P.underlying e = some (.int .u8)) (hd : P.underlying dst = some .string) (h : BytesIs W g L) :
    (convert src dst (.slice (some ⟨g, 0, none⟩) n C)).run P W = .ok (.string ⟨L.toArray⟩) W := by
  subst hn
  refine run_convert_bytes_back (P := P) W src dst e ⟨g, 0, none⟩ C L hs he hd ?_
  intro j hj
  rw [show ((⟨g, 0, none⟩ : Addr).add j) = ⟨g, j, none⟩ by cases j <;> simp [Addr.add]]
  exact (h j hj).1
theorem bytesIs_put {W : World} {g : Nat} {L : List UInt8} (h : BytesIs W g L) (i : Nat) (hi : i < L.length) (c : UInt8) : BytesIs (W.setCell ⟨g, i, none⟩ (.int .u8 (c.toNat : Int))) g (L.set i c) := by
  intro j hj
  rw [List.length_set] at hj
  constructor
  · by_cases hij : i = j
    · subst hij
      rw [World.cell?_setCell_same (h := (h i hi).1)]
      simp
    · rw [World.cell?_setCell_other (h := show (⟨g, i, none⟩ : Addr) ≠ ⟨g, j, none⟩ by intro e; exact hij (by injection e)), (h j hj).1]
      simp [hij]
  · simpa [go_sem] using (h j hj).2
def b8 (b : UInt8) : Value := .int .u8 (b.toNat : Int)
def padN (s : ByteArray) : List UInt8 := s.data.toList.take 9 ++ List.replicate (9 - (s.data.toList.take 9).length) 0
theorem padN_length (s : ByteArray) : (padN s).length = 9 := by simp [padN]; omega
def nmC (s : ByteArray) : Array Value := ((padN s).map b8).toArray
theorem nmC_size (s : ByteArray) : (nmC s).size = 9 := by simp [nmC, padN_length]
theorem nmC_one (s : ByteArray) : (nmC s).all (·.oneCell') = true := by
  rw [Array.all_eq_true_iff_forall_mem]
  intro x hx
  simp only [nmC, List.mem_toArray, List.mem_map] at hx
  obtain ⟨b, _, rfl⟩ := hx
  rfl
theorem nmC_row (s : ByteArray) (n : Nat) (hn : Nat.min s.size 9 = n) :
    ((((s.data.toList.take n).map b8) ++ ((List.replicate 9 (Value.int .u8 0)).drop ((s.data.toList.take n).map b8).length))).toArray = nmC s := by
  have hl : s.data.toList.length = s.size := Array.length_toList
  have e : s.data.toList.take n = s.data.toList.take 9 := by
    subst hn
    rcases Nat.le_total s.size 9 with h | h
    · rw [show Nat.min s.size 9 = s.size from Nat.min_eq_left h, List.take_of_length_le (by omega), List.take_of_length_le (by omega)]
    · rw [show Nat.min s.size 9 = 9 from Nat.min_eq_right h]
  rw [e]
  unfold nmC padN
  rw [List.map_append, List.map_replicate, List.length_map, List.drop_replicate]
  rfl
def trimZ (l : List UInt8) : List UInt8 := (l.reverse.dropWhile (· == 0)).reverse
theorem trimZ_nil : trimZ [] = [] := rfl
theorem trimZ_zero (l : List UInt8) : trimZ (l ++ [0]) = trimZ l := by simp [trimZ]
theorem trimZ_keep (l : List UInt8) (b : UInt8) (h : b ≠ 0) : trimZ (l ++ [b]) = l ++ [b] := by simp [trimZ, h]
def nmT (s : ByteArray) : ByteArray := ⟨(trimZ (padN s)).toArray⟩
theorem cmds_told : ∀ t ∈ cmdsL, nmT t = t := by decide +kernel
theorem nmC_inj {s t : ByteArray} (h : nmC s = nmC t) : nmT s = nmT t := by
  unfold nmC at h
  have h1 := List.toArray_inj h
  have h2 : padN s = padN t := by
    have hb : ∀ (l m : List UInt8), l.map b8 = m.map b8 → l = m := by
      intro l
      induction l with
      | nil => intro m h; cases m with | nil => rfl | cons _ _ => simp at h
      | cons a l ih =>
        intro m h
        cases m with
        | nil => simp at h
        | cons c m =>
          simp only [List.map_cons, List.cons.injEq] at h
          obtain ⟨h1, h2⟩ := h
          simp only [b8, Value.int.injEq, true_and] at h1
          rw [ih m h2, UInt8.toNat_inj.1 (by omega : a.toNat = c.toNat)]
    exact hb _ _ h1
  unfold nmT
  rw [h2]
theorem nmC_eq {s t : ByteArray} (hs : nmT s = s) (ht : t ∈ cmdsL) : (nmC t = nmC s) ↔ t = s := by
  constructor
  · intro h
    have := nmC_inj h
    rwa [cmds_told t ht, hs] at this
  · rintro rfl
    rfl
theorem run_copy_str {P : Program} (w : World) (dT sT ty elem : TypeId) (g dLen dCap : Nat) (s : ByteArray) (cur : Array Value) (t : TypeId) (n : Nat) (hn : Nat.min s.size dLen = n)
    (hu : P.underlying dT = some (.slice elem)) (hsz : (P.info? elem).map (·.size) = some 1) (hg : w.heap[g]? = some (.cells cur t (0, 0))) (hfit : dLen ≤ cur.size) :
    (Builtin.copy_ #[dT, sT] ty #[.slice (some ⟨g, 0, none⟩) dLen dCap, .string s]).run P w = .ok (goInt n) (w.setRow g (((s.data.toList.take n).map b8) ++ cur.toList.drop ((s.data.toList.take n).map b8).length).toArray) := by
  have hl : s.data.toList.length = s.size := Array.length_toList
  have hle : n ≤ dLen := by subst hn; exact Nat.min_le_right _ _
  have hle2 : n ≤ s.size := by subst hn; exact Nat.min_le_left _ _
  have hst := run_storeCells_at P g 0 t ((s.data.toList.take n).map b8) 0 cur w hg (by simp; omega) (by intro v hv; simp only [List.mem_map] at hv; obtain ⟨b, _, rfl⟩ := hv; rfl)
  simp only [Nat.add_zero, List.take_zero, List.nil_append, Nat.zero_add] at hst
  cases hq : P.info? elem with
  | none => simp [hq] at hsz
  | some i =>
    have hmin : min s.size dLen = n := hn
    have hb : (fun b : UInt8 => Value.int .u8 (b.toNat : Int)) = b8 := rfl
    simp only [List.map_take] at hst ⊢
    have hrun := run_underlying hu w
    simp [Builtin.copy_, Sem.run_bind, hrun, Builtin.lenOf, Builtin.firstCells, sizeOf, typeInfo, hq, hmin, hb]
    simp at hst
    rw [hst]
    rfl
theorem Tryz.infoNm : (Tryz.prog.info? 125).map (·.size) = some 9 := by kernel_rfl
theorem Tryz.infoBy : (Tryz.prog.info? 5).map (·.size) = some 1 := by kernel_rfl
theorem setRow_new (w : World) (g : Nat) (old cs : Array Value) (t : TypeId) (hg : w.heap[g]? = some (.cells old t (0, 0))) : (w.setRow g cs).heap[g]? = some (.cells cs t (0, 0)) := setRow_heap w g old cs t (0, 0) hg
theorem nmOf_any (s : ByteArray) (w : World) : Calls Tryz.prog 132 #[.string s] w fun e w' => e = .returned (.agg (nmC s)) ∧ Below w.heap.size w w' := by
  obtain ⟨n, hn⟩ : ∃ n, Nat.min s.size 9 = n := ⟨_, rfl⟩
  have hrow := nmC_row s n hn
  obtain ⟨Z, hZ⟩ : ∃ Z : Obj, Z = .cells #[.int .u8 0, .int .u8 0, .int .u8 0, .int .u8 0, .int .u8 0, .int .u8 0, .int .u8 0, .int .u8 0, .int .u8 0] 125 := ⟨_, rfl⟩
  have hg0 : ((w.alloc Z).alloc Z).heap[w.heap.size]? = some Z := heap_alloc2_old w Z Z
  have hg1 : ((w.alloc Z).alloc Z).heap[w.heap.size + 1]? = some Z := heap_alloc2_new w Z Z
  have hB : Below w.heap.size w ((w.alloc Z).alloc Z) := ((Below.refl _ _).alloc (Nat.le_refl _) _).alloc (by show w.heap.size ≤ (w.heap.push _).size; simp) _
  obtain ⟨W, hW⟩ : ∃ W, W = (w.alloc Z).alloc Z := ⟨_, rfl⟩
  rw [← hW] at hg0 hg1 hB
  rw [hZ] at hg0 hg1
  have hcp := run_copy_str (P := Tryz.prog) W 22 9 3 5 (w.heap.size + 1) 9 9 s _ 125 n hn Tryz.underlying22 Tryz.infoBy hg1 (by decide)
  rw [show (#[Value.int .u8 0, .int .u8 0, .int .u8 0, .int .u8 0, .int .u8 0, .int .u8 0, .int .u8 0, .int .u8 0, .int .u8 0] : Array Value).toList = List.replicate 9 (Value.int .u8 0) from rfl, hrow] at hcp
  have hB1 := below_setRow hB (g := w.heap.size + 1) (by omega) (nmC s)
  have h0 := (setRow_other W (w.heap.size + 1) w.heap.size (nmC s) (by omega)).trans hg0
  have h1 := setRow_new W (w.heap.size + 1) _ (nmC s) _ hg1
  have hB2 := below_setRow hB1 (g := w.heap.size) (Nat.le_refl _) (nmC s)
  have h2 := setRow_new (W.setRow (w.heap.size + 1) (nmC s)) w.heap.size _ (nmC s) _ h0
  have hsz := nmC_size s
  have hone := nmC_one s
  have H := hide (And.intro h0 (And.intro h1 (And.intro h2 (And.intro hB2 (And.intro hsz hone)))))
  subst hZ hW
  clear hn hrow hg0 hg1 hB hB1 hB2 h0 h1 h2 hsz hone
  go_enter Tryz.func132, Tryz.ntmps132
  go_wp2_with (first | refine wpList_load_row rfl 125 _ rfl (w.heap.size + 1) rfl 125 _ (0, 0) _ H.out.2.1 Tryz.underlying125 rfl (Tryz.infoNm.trans (by rw [nmC_size])) ?_ | refine wpList_store_row rfl 125 _ _ rfl w.heap.size _ rfl rfl 125 _ H.out.1 (Tryz.infoNm.trans (by rw [nmC_size])) (by rw [nmC_size]; rfl) (nmC_one s) ?_)
  exact bodyPost_ret (v := .agg (nmC s)) (results_cell_row rfl _ _ w.heap.size 125 _ (0, 0) _ rfl H.out.2.2.1 Tryz.underlying125 rfl (Tryz.infoNm.trans (by rw [nmC_size]))) rfl ⟨rfl, H.out.2.2.2.1⟩
end Go.Proofs.YtifjneldjjmeaaaGreatDoor
