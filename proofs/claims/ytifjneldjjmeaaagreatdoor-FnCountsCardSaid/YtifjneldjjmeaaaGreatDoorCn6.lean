import Derived.Deep.LoopGhost
import Derived.WalkMore
import Derived.WalkSmall
import Derived.Shelf.Small.Utf8
import Derived.Shelf.Small.Strs
import Derived.Shelf.Strconv.Atoi
import Derived.Shelf.Strconv.Itoa0
import Derived.Shelf.Strconv.Itoa1
import Derived.Shelf.LaysM
import Derived.Shelf.Strconv.Itoa2
import Derived.Shelf.Strconv.Itoa3
import Derived.Shelf.Strconv.AtoiErrFast
import Derived.Shelf.Strconv.ParseIntEmpty
import Derived.Shelf.Strconv.AtoiFail
import Derived.Shelf.Strconv.Clone
import Derived.Shelf.Strconv.SyntaxError
import Derived.Shelf.LaysC
import Derived.Shelf.Strconv.ToError
import Derived.Shelf.Strconv.Lower
import Derived.Shelf.Strconv.ParseUint10
import Derived.Shelf.Strconv.ParseUint10Empty
import Derived.Shelf.Strconv.ParseUint10Any
import Derived.Shelf.Strconv.ParseInt10
import Derived.Shelf.Strconv.AtoiLong
import Derived.Shelf.Strconv.AtoiInnerAll
import Derived.Shelf.Strconv.RangeError
import Derived.Shelf.Strconv.ToErrorRange
import Derived.Shelf.Strconv.AtoiAll
import Derived.Shelf.Strconv.ErrVarAll
import Derived.Shelf.Strings.Search1
import Derived.Shelf.Strings.Runes
import Derived.Shelf.Strings.AsciiSet
import Derived.Shelf.Unicode.DecodeSlow
import Derived.Shelf.Unicode.DecodeAny
import Derived.Test.YtifjneldjjmeaaaGreatDoorProg
import Derived.Lib.ItoaMem
import Derived.Lib.ConvBytes
import Derived.Deep.AppendLies
import Derived.Lib.AppendStr
import Derived.Test.YtifjneldjjmeaaaGreatDoorCn5
import Derived.Test.YtifjneldjjmeaaaGreatDoorCn0
set_option maxRecDepth 100000
set_option maxHeartbeats 3200000
namespace Go.Proofs.YtifjneldjjmeaaaGreatDoor
open Go.RowKit
theorem box4_below {B g : Nat} {w W : World} (h : Below B w W) (hg : B ≤ g) (a b c d : Value) : Below B w ((((W.setCell ⟨g, 0, none⟩ a).setCell ⟨g, 1, none⟩ b).setCell ⟨g, 2, none⟩ c).setCell ⟨g, 3, none⟩ d) :=
  (((h.setCell (p := ⟨g, 0, none⟩) hg a).setCell (p := ⟨g, 1, none⟩) hg b).setCell (p := ⟨g, 2, none⟩) hg c).setCell (p := ⟨g, 3, none⟩) hg d
theorem box4_here {g : Nat} {W : World} {C : Array Value} {t : TypeId} (h : W.heap[g]? = some (.cells C t (0, 0))) (hC : C.size = 4) (a b c d : Value) : ((((W.setCell ⟨g, 0, none⟩ a).setCell ⟨g, 1, none⟩ b).setCell ⟨g, 2, none⟩ c).setCell ⟨g, 3, none⟩ d).heap[g]? = some (.cells #[a, b, c, d] t (0, 0)) := by
  match C, hC with
  | ⟨[x0, x1, x2, x3]⟩, _ =>
    exact (heap_setCell_same _ g _ _ t _ (heap_setCell_same _ g _ _ t _ (heap_setCell_same _ g _ _ t _ (heap_setCell_same W g _ _ t _ h)))).trans rfl
theorem box4_other (g b : Nat) (W : World) (h : b ≠ g) (a0 a1 c d : Value) : ((((W.setCell ⟨g, 0, none⟩ a0).setCell ⟨g, 1, none⟩ a1).setCell ⟨g, 2, none⟩ c).setCell ⟨g, 3, none⟩ d).heap[b]? = W.heap[b]? := by
  rw [Below.heap_setCell _ _ _ _ (by simpa using h), Below.heap_setCell _ _ _ _ (by simpa using h), Below.heap_setCell _ _ _ _ (by simpa using h), Below.heap_setCell _ _ _ _ (by simpa using h)]
theorem box4f {W : World} {g : Nat} {a b c d : Value} {t : TypeId} (h : W.heap[g]? = some (.cells #[a, b, c, d] t (0, 0))) : W.frozen? ⟨g, 0, none⟩ = false ∧ W.frozen? ⟨g, 1, none⟩ = false ∧ W.frozen? ⟨g, 2, none⟩ = false ∧ W.frozen? ⟨g, 3, none⟩ = false :=
  ⟨frozen_of_row W _ 0 _ _ h, frozen_of_row W _ 1 _ _ h, frozen_of_row W _ 2 _ _ h, frozen_of_row W _ 3 _ _ h⟩
def lookK (T : List EntD) (key : ByteArray) (kind : Int) : ValD × Bool × Option ByteArray :=
  match findE T key with
  | none => (⟨kind, 0, ⟨#[]⟩, []⟩, false, none)
  | some v => if v.kind = kind then (v, true, none) else (noVal, true, some wrongK)
def valC (v : ValD) (x : Value) : Value := .agg #[.int .i64 v.kind, .int .i64 v.til, .string v.text, x]
theorem find_any (T : List EntD) (key : ByteArray) (kind : Int) (w : World) (B b : Nat) (tb : TypeId) (hT : TabR T) (hW : WorkS tb w B b T) :
    Calls Tryz.prog 109 #[.pointer (some ⟨b, 0, none⟩), .string key, .int .i64 kind] w fun e w' => (∃ a c, e = .returned (.tuple #[valC (lookK T key kind).1 (.slice a (lookK T key kind).1.items.length c), .bool (lookK T key kind).2.1, errV (lookK T key kind).2.2]) ∧ RowText w' w.heap.size (.slice a (lookK T key kind).1.items.length c) (lookK T key kind).1.items) ∧ Below w.heap.size w w' := by
  obtain ⟨hBb, v, E, hbv, hbuild⟩ := hW
  obtain ⟨ao, cap, rfl⟩ := buildE_form hbuild
  obtain ⟨wA, hwA⟩ : ∃ wA, wA = w.alloc (.cells #[.int .i64 0, .int .i64 0, .string ⟨#[]⟩, .slice none 0 0] 38) := ⟨_, rfl⟩
  have BA : Hid (Below w.heap.size w wA) := by rw [hwA]; exact (Below.refl _ w).alloc (Nat.le_refl _) _
  have PA : Hid (wA.heap[w.heap.size]? = some (.cells #[.int .i64 0, .int .i64 0, .string ⟨#[]⟩, .slice none 0 0] 38 (0, 0))) := by rw [hwA]; exact heap_alloc_new _ _
  have hT20 := hT.1
  have HF := hide (implFind_any T key ao cap wA (by omega) (entriesAt_keep (rowEnt_rows (buildE_row hbuild)).2 BA.out) (tab_ents hT))
  have xb : wA.cell? ⟨b, 0, none⟩ = some (.slice ao T.length cap) := (box1w ((BA.out.block b (obj_lt hbv)).trans hbv)).1
  have HL : Hid (lookK T key kind = if findB T key = true then (if (findV T key).kind = kind then (findV T key, true, none) else (noVal, true, some wrongK)) else (⟨kind, 0, ⟨#[]⟩, []⟩, false, none)) := by
    show _ = _
    unfold lookK findB findV
    cases findE T key with
    | none => rfl
    | some v => rfl
  clear hbuild hbv hT
  generalize hr : lookK T key kind = r at HL ⊢
  clear hr
  generalize findV T key = V at HF HL
  generalize findB T key = fb at HF HL
  obtain ⟨k, u, t, ts⟩ := V
  simp only at HF HL
  go_enter Tryz.func109, Tryz.ntmps109
  go_upto_region 1 with fail
  rw [← hwA]
  clear hwA
  go_wp2_with fail
  refine HF.out.mono ?_
  rintro e w1 ⟨⟨a1, c1, rfl, r1⟩, b1⟩
  have R1 := hide r1
  have B1 := hide b1
  clear r1 b1 xb
  go_upto_region 2 with fail
  obtain ⟨wB, hwB⟩ : ∃ wB, wB = w1.alloc (.cells #[.int .i64 k, .int .i64 u, .string t, .slice a1 ts.length c1] 38) := ⟨_, rfl⟩
  rw [← hwB]
  have BB : Hid (Below w1.heap.size w1 wB) := by rw [hwB]; exact (Below.refl _ w1).alloc (Nat.le_refl _) _
  have PB : Hid (wB.heap[w1.heap.size]? = some (.cells #[.int .i64 k, .int .i64 u, .string t, .slice a1 ts.length c1] 38 (0, 0))) := by rw [hwB]; exact heap_alloc_new _ _
  clear hwB
  have B1B := hide (B1.out.trans (BB.out.mono B1.out.size))
  have hZ := (B1B.out.block _ (obj_lt PA.out)).trans PA.out
  obtain ⟨z0, z1, z2, z3⟩ := box4w hZ
  obtain ⟨f0, f1, f2, f3⟩ := box4f hZ
  obtain ⟨y0, y1, y2, y3⟩ := box4w PB.out
  have HZ := hide hZ
  have HB := hide (BA.out.trans (B1B.out.mono BA.out.size))
  have RB := hide (rowText_le (rowText_below R1.out BB.out) BA.out.size)
  clear hZ
  cases fb with
  | false =>
    have hr := HL.out
    rw [if_neg (by decide)] at hr
    subst hr
    obtain ⟨⟨r0, r1, r2, r3⟩⟩ : ∃ _ : _ ∧ _ ∧ _ ∧ _, True := ⟨box4w (box4_here HZ.out rfl (.int .i64 kind) (.int .i64 0) (.string ⟨#[]⟩) (.slice none 0 0)), trivial⟩
    have H6 := hide (box4_below HB.out (Nat.le_refl _) (.int .i64 kind) (.int .i64 0) (.string ⟨#[]⟩) (.slice none 0 0))
    go_wp2
    exact bodyPost_ret (v := .tuple #[valC ⟨kind, 0, ⟨#[]⟩, []⟩ (.slice none 0 0), .bool false, .nilIface]) (by simp [valC, results, Tryz.results109, go_sem, r0, r1, r2, r3]) rfl ⟨⟨none, 0, rfl, .inl ⟨rfl, rfl⟩⟩, H6.out⟩
  | true =>
    have hr := HL.out
    rw [if_pos rfl] at hr
    by_cases hk : k = kind
    · rw [if_pos hk] at hr
      subst hr
      subst hk
      have hkk : (k == k) = true := beq_self_eq_true _
      obtain ⟨⟨r0, r1, r2, r3⟩⟩ : ∃ _ : _ ∧ _ ∧ _ ∧ _, True := ⟨box4w (box4_here HZ.out rfl (.int .i64 k) (.int .i64 u) (.string t) (.slice a1 ts.length c1)), trivial⟩
      have H6 := hide (box4_below HB.out (Nat.le_refl _) (.int .i64 k) (.int .i64 u) (.string t) (.slice a1 ts.length c1))
      have R6 : Hid (RowText ((((wB.setCell ⟨w.heap.size, 0, none⟩ (.int .i64 k)).setCell ⟨w.heap.size, 1, none⟩ (.int .i64 u)).setCell ⟨w.heap.size, 2, none⟩ (.string t)).setCell ⟨w.heap.size, 3, none⟩ (.slice a1 ts.length c1)) w.heap.size (.slice a1 ts.length c1) ts) :=
        rowText_keep RB.out (fun g hg => box4_other _ _ _ (fun e => by
          obtain ⟨C, hC⟩ := text_block RB.out hg
          rw [e, HZ.out] at hC
          simp at hC) _ _ _ _)
      go_wp2
      exact bodyPost_ret (v := .tuple #[valC ⟨k, u, t, ts⟩ (.slice a1 ts.length c1), .bool true, .nilIface]) (by simp [valC, results, Tryz.results109, go_sem, r0, r1, r2, r3]) rfl ⟨⟨a1, c1, rfl, R6.out⟩, H6.out⟩
    · rw [if_neg hk] at hr
      subst hr
      have hkk : (k == kind) = false := by simp [hk]
      obtain ⟨⟨r0, r1, r2, r3⟩⟩ : ∃ _ : _ ∧ _ ∧ _ ∧ _, True := ⟨box4w (box4_here HZ.out rfl (.int .i64 0) (.int .i64 0) (.string ⟨#[]⟩) (.slice none 0 0)), trivial⟩
      have H6 := hide (box4_below HB.out (Nat.le_refl _) (.int .i64 0) (.int .i64 0) (.string ⟨#[]⟩) (.slice none 0 0))
      go_wp2
      exact bodyPost_ret (v := .tuple #[valC noVal (.slice none 0 0), .bool true, errV (some wrongK)]) (by simp [valC, noVal, errV, wrongK, results, Tryz.results109, go_sem, r0, r1, r2, r3]) rfl ⟨⟨none, 0, rfl, .inl ⟨rfl, rfl⟩⟩, H6.out⟩
theorem bt_ext {s t : ByteArray} (h : s.size = t.size) (hb : ∀ p, p < t.size → Wd.bt s p = Wd.bt t p) : s = t := by
  apply ByteArray.ext_getElem h
  intro p h1 h2
  have := hb p h2
  rw [← Wd.bt_eq s p h1, ← Wd.bt_eq t p h2] at this
  exact UInt8.toNat_inj.1 this
theorem bt_left {a b : ByteArray} {p : Nat} (h : p < a.size) : Wd.bt (a ++ b) p = Wd.bt a p := by
  rw [← Wd.bt_eq (a ++ b) p (by rw [ByteArray.size_append]; omega), ← Wd.bt_eq a p h, ByteArray.getElem_append_left h]
theorem bt_right {a b : ByteArray} {p : Nat} (h : p < b.size) : Wd.bt (a ++ b) (a.size + p) = Wd.bt b p := by
  rw [← Wd.bt_eq (a ++ b) (a.size + p) (by rw [ByteArray.size_append]; omega), ← Wd.bt_eq b p h, ByteArray.getElem_append_right (by omega)]
  congr 2
  omega
theorem bt_ex (s : ByteArray) (a b p : Nat) (h : p < b - a) (hb : b ≤ s.size) : Wd.bt (s.extract a b) p = Wd.bt s (a + p) := by
  have h1 : p < (s.extract a b).size := by rw [ByteArray.size_extract]; omega
  have h2 : a + p < s.size := by omega
  rw [← Wd.bt_eq _ _ h1, ← Wd.bt_eq _ _ h2, ByteArray.getElem_extract]
theorem figure_any (x : Int) (w : World) (h0 : 0 ≤ x) (h1 : x < 16) :
    Calls Tryz.prog 35 #[.int .i64 x] w fun e w' => e = .returned (.int .u8 (Wd.figI x)) ∧ w' = w := by
  by_cases h : x < 10
  · rw [Wd.figI_low x h]
    go_enter Tryz.func35, Tryz.ntmps35
    go_wp2
    go_ret
    exact ⟨rfl, rfl⟩
  · rw [Wd.figI_high x h]
    go_enter Tryz.func35, Tryz.ntmps35
    go_wp2
    go_ret
    refine ⟨?_, rfl⟩
    show Ending.returned (.int .u8 (97 + x - 10)) = _
    rw [show 97 + x - 10 = 87 + x from by omega]
theorem dec_zero (w : World) : Calls Tryz.prog 9 #[.int .i64 0] w fun e w' => e = .returned (.string ⟨(Wd.decS 0).toArray⟩) ∧ w' = w := by
  go_enter Tryz.func9, Tryz.ntmps9
  go_wp2
  go_ret
  exact ⟨rfl, rfl⟩
theorem conv_one (W : World) (d : Nat) (hd : d < 16) :
    (convert 22 9 (.slice (some ⟨W.heap.size, 0, none⟩) 1 1)).run Tryz.prog (W.alloc (.cells #[.int .u8 (Wd.figI (d : Int))] 5)) = .ok (.string ⟨#[Wd.figB d]⟩) (W.alloc (.cells #[.int .u8 (Wd.figI (d : Int))] 5)) := by
  refine run_convert_bytes_back (P := Tryz.prog) (W.alloc (.cells #[.int .u8 (Wd.figI (d : Int))] 5)) 22 9 5 ⟨W.heap.size, 0, none⟩ 1 [Wd.figB d] Tryz.underlying22 Tryz.underlying5 Tryz.underlying9 ?_
  intro j hj
  exact cells_new W #[.int .u8 (Wd.figI (d : Int))] 5 j _ (by
    have : j = 0 := by simpa using hj
    subst this
    simp [Wd.figB_val d hd])
theorem dec_pos (n : Nat) (w : World) (h0 : 0 < n) (h1 : n ≤ 9223372036854775807) :
    Calls Tryz.prog 9 #[.int .i64 n] w fun e w' => e = .returned (.string ⟨(Wd.decA 20 n []).toArray⟩) ∧ Below w.heap.size w w' := by
  have hz : ((n : Int) == 0) = false := by simp; omega
  have hneg : decide ((n : Int) < 0) = false := by simp
  go_enter Tryz.func9, Tryz.ntmps9
  go_wp2
  go_loopw [0, 4] (fun t v wr => ∃ (f m : Nat) (acc : List UInt8), t = .int .i64 m ∧ v = .string ⟨acc.toArray⟩ ∧ m < 10 ^ f ∧ m ≤ 9223372036854775807 ∧ acc.length + f = 20 ∧ Hid (Wd.decA f m acc = Wd.decA 20 n []) ∧ Below w.heap.size w wr) (fun t _ _ => (intOf t).toNat)
  case atStart => exact ⟨20, n, [], rfl, rfl, by omega, h1, rfl, rfl, Below.refl _ _⟩
  case round =>
    obtain ⟨f, m, acc, rfl, rfl, hm, hm2, hl, hacc, hb⟩ := hrel
    have hbs := hb.size
    by_cases hlt : 0 < m
    · obtain ⟨f, rfl⟩ : ∃ g, f = g + 1 := by
        cases f with
        | zero => simp at hm; omega
        | succ g => exact ⟨g, rfl⟩
      have hne : ((m : Int) != 0) = true := by simp; omega
      obtain ⟨d, hd, hd10, hdi⟩ : ∃ d : Nat, Hid (m % 10 = d) ∧ d < 10 ∧ (m : Int) % 10 = (d : Int) := ⟨_, rfl, by omega, by omega⟩
      have hfac := hide (Wd.decA_step f m acc (by omega))
      have hdiv : m / 10 < 10 ^ f := Nat.div_lt_of_lt_mul (by rw [Nat.mul_comm, ← Nat.pow_succ]; exact hm)
      have hcv := conv_one wr d (by omega)
      go_wp2_with (go_at_call 35; refine (figure_any _ _ (by omega) (by omega)).mono ?_; rintro e w1 ⟨rfl, rfl⟩)
      go_roundw
      case rel =>
        refine ⟨f, m / 10, Wd.figB d :: acc, by go_num, congrArg Value.string (cat_list [Wd.figB d] acc), hdiv, by omega, by simp; omega, ?_, hb.alloc hbs _⟩
        show _ = _
        rw [← hacc.out, hfac.out, hd.out]
      case measure => simp [intOf]; omega
    · have hm0 : m = 0 := by omega
      subst hm0
      have hfin := hide ((Wd.decA_zero f acc).symm.trans hacc.out)
      go_wp2
      go_ret
      rw [← hfin.out]
      exact ⟨rfl, hb⟩
theorem dec_neg (n : Nat) (w : World) (h0 : 0 < n) (h1 : n ≤ 9223372036854775808) :
    Calls Tryz.prog 9 #[.int .i64 (-(n : Int))] w fun e w' => e = .returned (.string ⟨(45 :: Wd.decA 20 n []).toArray⟩) ∧ Below w.heap.size w w' := by
  have hz : (-(n : Int) == 0) = false := by simp; omega
  have hneg : decide (-(n : Int) < 0) = true := by simp; omega
  have H1 := hide h1
  clear h1
  go_enter Tryz.func9, Tryz.ntmps9
  go_wp2
  go_loopw [0, 4] (fun t v wr => ∃ (f m : Nat) (acc : List UInt8), t = .int .i64 (-(m : Int)) ∧ v = .string ⟨acc.toArray⟩ ∧ m < 10 ^ f ∧ Hid (m ≤ 9223372036854775808) ∧ acc.length + f = 20 ∧ Hid (Wd.decA f m acc = Wd.decA 20 n []) ∧ Below w.heap.size w wr) (fun t _ _ => (- intOf t).toNat)
  case atStart => exact ⟨20, n, [], rfl, rfl, by have := H1.out; omega, H1, rfl, rfl, Below.refl _ _⟩
  case round =>
    obtain ⟨f, m, acc, rfl, rfl, hm, HM2, hl, hacc, hb⟩ := hrel
    have hbs := hb.size
    by_cases hlt : 0 < m
    · obtain ⟨f, rfl⟩ : ∃ g, f = g + 1 := by
        cases f with
        | zero => simp at hm; omega
        | succ g => exact ⟨g, rfl⟩
      have hne : (-(m : Int) != 0) = true := by simp; omega
      obtain ⟨d, hd, hd10, hdi⟩ : ∃ d : Nat, Hid (m % 10 = d) ∧ d < 10 ∧ (-(m : Int)).tmod 10 = -(d : Int) := ⟨_, rfl, by omega, by rw [Int.neg_tmod, Int.tmod_eq_emod_of_nonneg (by omega)]; omega⟩
      obtain ⟨q, hq, hqi⟩ : ∃ q : Nat, Hid (m / 10 = q) ∧ (-(m : Int)).tdiv 10 = -(q : Int) := ⟨_, rfl, by rw [Int.neg_tdiv, Int.tdiv_eq_ediv_of_nonneg (by omega)]; omega⟩
      have hq2 : q ≤ 922337203685477580 := by have := HM2.out; have := hq.out; omega
      have hqm : q < m := by have := hq.out; omega
      have hfac := hide (Wd.decA_step f m acc (by omega))
      have hdiv : q < 10 ^ f := by rw [← hq.out]; exact Nat.div_lt_of_lt_mul (by rw [Nat.mul_comm, ← Nat.pow_succ]; exact hm)
      have hcv := conv_one wr d (by omega)
      by_cases hd0 : 0 < d
      · have hdn : decide (-(d : Int) < 0) = true := by simp; omega
        go_wp2_with (go_at_call 35; refine (figure_any _ _ (by omega) (by omega)).mono ?_; rintro e w1 ⟨rfl, rfl⟩)
        go_roundw
        case rel =>
          refine ⟨f, q, Wd.figB d :: acc, by go_num, congrArg Value.string (cat_list [Wd.figB d] acc), hdiv, by show q ≤ 9223372036854775808; omega, by simp; omega, ?_, hb.alloc hbs _⟩
          show _ = _
          rw [← hacc.out, hfac.out, hd.out, hq.out]
        case measure => simp [intOf]; omega
      · have hd1 : d = 0 := by omega
        subst hd1
        rw [show ((0 : Nat) : Int) = 0 from rfl] at hcv hdi
        go_wp2_with (go_at_call 35; refine (figure_any _ _ (by omega) (by omega)).mono ?_; rintro e w1 ⟨rfl, rfl⟩)
        go_roundw
        case rel =>
          refine ⟨f, q, Wd.figB 0 :: acc, by go_num, congrArg Value.string (cat_list [Wd.figB 0] acc), hdiv, by show q ≤ 9223372036854775808; omega, by simp; omega, ?_, hb.alloc hbs _⟩
          show _ = _
          rw [← hacc.out, hfac.out, hd.out, hq.out]
        case measure => simp [intOf]; omega
    · have hm0 : m = 0 := by omega
      subst hm0
      have hfin := hide ((Wd.decA_zero f acc).symm.trans hacc.out)
      go_wp2
      go_ret
      rw [← hfin.out]
      exact ⟨congrArg (fun x => Ending.returned (Value.string x)) (cat_list [45] acc), hb⟩
theorem decimal_any (n : Int) (w : World) (h0 : -9223372036854775808 ≤ n) (h1 : n ≤ 9223372036854775807) :
    Calls Tryz.prog 9 #[.int .i64 n] w fun e w' => e = .returned (.string ⟨(Wd.decS n).toArray⟩) ∧ Below w.heap.size w w' := by
  by_cases hz : n = 0
  · subst hz
    exact (dec_zero w).mono fun e w' ⟨he, hw⟩ => ⟨he, hw ▸ Below.refl _ _⟩
  · by_cases hn : n < 0
    · obtain ⟨m, hm⟩ := Int.eq_ofNat_of_zero_le (show 0 ≤ -n by omega)
      have e : n = -(m : Int) := by omega
      subst e
      have es : Wd.decS (-(m : Int)) = 45 :: Wd.decA 20 m [] := by unfold Wd.decS; rw [if_neg hz, if_pos hn, Int.natAbs_neg, Int.natAbs_natCast]
      rw [es]
      exact dec_neg m w (by omega) (by omega)
    · obtain ⟨m, rfl⟩ := Int.eq_ofNat_of_zero_le (show 0 ≤ n by omega)
      have es : Wd.decS (m : Int) = Wd.decA 20 m [] := by unfold Wd.decS; rw [if_neg hz, if_neg hn, Int.natAbs_natCast]
      rw [es]
      exact dec_pos m w (by omega) (by omega)
def Wd.good (s : ByteArray) : Prop := s.size ≠ 0 ∧ s.size ≤ 10 ∧ Wd.digs s s.size ∧ (s.size = 1 ∨ Wd.bt s 0 ≠ 48) ∧ Wd.numF s s.size ≤ 1000000000
theorem txt_eq {a b : ByteArray} (h : a = b) : (a.toList == b.toList) = true := by rw [h]; exact beq_self_eq_true _
theorem txt_ne {a b : ByteArray} (h : a ≠ b) : (a.toList == b.toList) = false := by
  rw [beq_eq_false_iff_ne, ByteArray.toList_eq, ByteArray.toList_eq]
  intro e
  exact h (ByteArray.ext (Array.toList_inj.1 e))
instance (s : ByteArray) : Decidable (Wd.good s) := by unfold Wd.good Wd.digs; infer_instance
def decV (l : ByteArray) : Option Nat := if Wd.good l then some (Wd.numF l l.size) else none
def valS (l : ByteArray) : Option Int :=
  match decV l with
  | some n => some (n : Int)
  | none => if 1 < l.size ∧ Wd.bt l 0 = 45 ∧ l ≠ ⟨#[45, 48]⟩ then (match decV (l.extract 1 l.size) with | some n => some (-(n : Int)) | none => none) else none
theorem decV_minus {l : ByteArray} (h : Wd.bt l 0 = 45) : decV l = none := by
  unfold decV
  rw [if_neg]
  intro hg
  have := (hg.2.2.1 0 (by have := hg.1; omega)).1
  omega
theorem decV_text {l : ByteArray} {n : Nat} (h : decV l = some n) : l = ⟨(Wd.decS (n : Int)).toArray⟩ ∧ n ≤ 1000000000 ∧ l.size ≤ 10 := by
  unfold decV at h
  split at h
  · rename_i hg
    simp at h
    subst h
    have e := (Wd.dec_canon l hg.2.2.1 hg.2.1).2 ⟨hg.1, hg.2.2.2.1⟩
    exact ⟨by rw [e], hg.2.2.2.2, hg.2.1⟩
  · cases h
theorem tail_text {l : ByteArray} {n : Nat} (hz : 1 < l.size) (h0 : Wd.bt l 0 = 45) (h : decV (l.extract 1 l.size) = some n) : l = ⟨(45 :: Wd.decS (n : Int)).toArray⟩ := by
  have e := (decV_text h).1
  have hs : (l.extract 1 l.size).size = l.size - 1 := by rw [ByteArray.size_extract]; omega
  have hc : (⟨(45 :: Wd.decS (n : Int)).toArray⟩ : ByteArray) = ⟨#[45]⟩ ++ l.extract 1 l.size := by rw [e]; exact (cat_list [45] _).symm
  rw [hc]
  have h1 : (⟨#[45]⟩ : ByteArray).size = 1 := rfl
  refine bt_ext (by rw [ByteArray.size_append]; omega) fun p hp => ?_
  rw [ByteArray.size_append] at hp
  by_cases hp0 : p = 0
  · subst hp0
    rw [bt_left (by decide), h0]
    rfl
  · obtain ⟨q, rfl⟩ : ∃ q, p = (⟨#[45]⟩ : ByteArray).size + q := ⟨p - 1, by omega⟩
    rw [bt_right (by omega), bt_ex l 1 l.size q (by omega) (by omega)]
    rfl
end Go.Proofs.YtifjneldjjmeaaaGreatDoor
namespace Go.Proofs
open Go.Shelf
def Tryz.laysM171_ren : Go.Shelf.Ren := ⟨fun | 171 => 142 | 243 => 152 | 246 => 163 | 283 => 174 | 284 => 175 | 285 => 176 | 286 => 177 | 129 => 184 | 317 => 183 | 318 => 185 | 319 => 186 | 320 => 187 | 337 => 195 | 338 => 196 | n => n, fun | 3 => 3 | 9 => 9 | 2 => 2 | 4 => 4 | 171 => 188 | 0 => 0 | 53 => 189 | 37 => 22 | 5 => 5 | 173 => 192 | 212 => 202 | 51 => 203 | 20 => 20 | 213 => 204 | 46 => 108 | 232 => 217 | 233 => 218 | n => n, fun | 17 => 4 | 18 => 7 | 19 => 8 | n => n⟩
theorem Tryz.laysM171 : Go.Proofs.LaysM.n171 Tryz.prog Tryz.laysM171_ren := {
  mixed := by kernel_rfl
  f129 := Tryz.func184.trans (congrArg some (by kernel_rfl))
  f171 := Tryz.func142.trans (congrArg some (by kernel_rfl))
  f243 := Tryz.func152.trans (congrArg some (by kernel_rfl))
  f246 := Tryz.func163.trans (congrArg some (by kernel_rfl))
  f283 := Tryz.func174.trans (congrArg some (by kernel_rfl))
  f284 := Tryz.func175.trans (congrArg some (by kernel_rfl))
  f285 := Tryz.func176.trans (congrArg some (by kernel_rfl))
  f286 := Tryz.func177.trans (congrArg some (by kernel_rfl))
  f317 := Tryz.func183.trans (congrArg some (by kernel_rfl))
  f318 := Tryz.func185.trans (congrArg some (by kernel_rfl))
  f319 := Tryz.func186.trans (congrArg some (by kernel_rfl))
  f320 := Tryz.func187.trans (congrArg some (by kernel_rfl))
  f337 := Tryz.func195.trans (congrArg some (by kernel_rfl))
  f338 := Tryz.func196.trans (congrArg some (by kernel_rfl))
  t0 := Tryz.underlying0
  a0 := Tryz.isAgg0
  z0 := Tryz.sizeOf0
  v0 := Tryz.zeroValue0
  t2 := Tryz.underlying2
  a2 := Tryz.isAgg2
  z2 := Tryz.sizeOf2
  v2 := Tryz.zeroValue2
  t3 := Tryz.underlying3
  a3 := Tryz.isAgg3
  z3 := Tryz.sizeOf3
  v3 := Tryz.zeroValue3
  t4 := Tryz.underlying4
  a4 := Tryz.isAgg4
  z4 := Tryz.sizeOf4
  v4 := Tryz.zeroValue4
  t5 := Tryz.underlying5
  a5 := Tryz.isAgg5
  z5 := Tryz.sizeOf5
  v5 := Tryz.zeroValue5
  t9 := Tryz.underlying9
  a9 := Tryz.isAgg9
  z9 := Tryz.sizeOf9
  v9 := Tryz.zeroValue9
  t20 := Tryz.underlying20
  a20 := Tryz.isAgg20
  z20 := Tryz.sizeOf20
  v20 := Tryz.zeroValue20
  t37 := Tryz.underlying22
  a37 := Tryz.isAgg22
  z37 := Tryz.sizeOf22
  v37 := Tryz.zeroValue22
  t46 := Tryz.underlying108
  a46 := Tryz.isAgg108
  z46 := Tryz.sizeOf108
  v46 := Tryz.zeroValue108
  t51 := Tryz.underlying203
  a51 := Tryz.isAgg203
  z51 := Tryz.sizeOf203
  v51 := Tryz.zeroValue203
  t53 := Tryz.underlying189
  a53 := Tryz.isAgg189
  z53 := Tryz.sizeOf189
  v53 := Tryz.zeroValue189
  t171 := Tryz.underlying188
  a171 := Tryz.isAgg188
  z171 := Tryz.sizeOf188
  v171 := Tryz.zeroValue188
  t173 := Tryz.underlying192
  a173 := Tryz.isAgg192
  z173 := Tryz.sizeOf192
  v173 := Tryz.zeroValue192
  t212 := Tryz.underlying202
  a212 := Tryz.isAgg202
  z212 := Tryz.sizeOf202
  v212 := Tryz.zeroValue202
  t213 := Tryz.underlying204
  a213 := Tryz.isAgg204
  z213 := Tryz.sizeOf204
  t232 := Tryz.underlying217
  a232 := Tryz.isAgg217
  z232 := Tryz.sizeOf217
  v232 := Tryz.zeroValue217
  t233 := Tryz.underlying218
  a233 := Tryz.isAgg218
  z233 := Tryz.sizeOf218
  v233 := Tryz.zeroValue218
  g17 := by kernel_rfl
  g18 := by kernel_rfl
  g19 := by kernel_rfl
  i0 := by kernel_rfl
  i2 := by kernel_rfl
  i3 := by kernel_rfl
  i4 := by kernel_rfl
  i5 := by kernel_rfl
  i9 := by kernel_rfl
  i20 := by kernel_rfl
  i37 := by kernel_rfl
  i46 := by kernel_rfl
  i51 := by kernel_rfl
  i53 := by kernel_rfl
  i171 := by kernel_rfl
  i173 := by kernel_rfl
  i212 := by kernel_rfl
  i232 := by kernel_rfl
  i233 := by kernel_rfl
  m17 := by kernel_rfl
  m18 := by kernel_rfl
  m19 := by kernel_rfl }
open Go.RowKit Go.Sort Go.Lib in
theorem Tryz.strconv_Itoa (n : Int) (h0 : -9223372036854775808 ≤ n) (h1 : n ≤ 9223372036854775807) (w : World) (htab : Lib.TabIs Tryz.prog w "internal/strconv.uint64pow10" .u64 Lib.pow10Tab) :
    Calls Tryz.prog 142 #[.int .i64 n] w fun e w' => e = .returned (.string ⟨(Lib.itoa n).toArray⟩) ∧ ∃ k os, w' = grow (w.drewN k) os := Any.strconv_Itoa Tryz.laysM171 n h0 h1 w htab
end Go.Proofs
namespace Go.Proofs.YtifjneldjjmeaaaGreatDoor
open Go.RowKit
theorem Wd.decA_app : ∀ f n acc, n < 10 ^ f → 0 < n → Wd.decA f n acc = Lib.decDigits n ++ acc
  | 0, n, acc, h, h0 => by simp at h; omega
  | f + 1, n, acc, h, h0 => by
    rw [Wd.decA_step f n acc (by omega)]
    have hfig : ∀ m, m < 10 → Wd.figB m = UInt8.ofNat (48 + m) := by
      intro m hm
      unfold Wd.figB
      rw [Wd.figI_low _ (by omega)]
      congr 1
    by_cases h10 : n < 10
    · rw [show n / 10 = 0 from by omega, Wd.decA_zero, Lib.decDigits_one h10, hfig _ (by omega), show n % 10 = n from by omega]
      rfl
    · rw [Wd.decA_app f (n / 10) _ (Nat.div_lt_of_lt_mul (by rw [Nat.mul_comm, ← Nat.pow_succ]; exact h)) (by omega), hfig _ (by omega)]
      conv => rhs; rw [Lib.decDigits, dif_neg h10]
      simp
theorem Wd.decS_itoa (n : Int) (h0 : -9223372036854775808 ≤ n) (h1 : n ≤ 9223372036854775807) : Lib.itoa n = Wd.decS n := by
  unfold Wd.decS
  by_cases hz : n = 0
  · subst hz
    rw [if_pos rfl]
    show Lib.itoa ((0 : Nat) : Int) = _
    rw [Lib.itoa_nonneg, Lib.decDigits_one (by omega)]
    rfl
  · rw [if_neg hz]
    by_cases hn : n < 0
    · rw [if_pos hn]
      obtain ⟨m, hm⟩ := Int.eq_ofNat_of_zero_le (show 0 ≤ -n by omega)
      have e : n = -(m : Int) := by omega
      subst e
      rw [Lib.itoa_neg m (by omega), Int.natAbs_neg, Int.natAbs_natCast, Wd.decA_app 20 m [] (by omega) (by omega), List.append_nil]
    · rw [if_neg hn]
      obtain ⟨m, rfl⟩ := Int.eq_ofNat_of_zero_le (show 0 ≤ n by omega)
      rw [Lib.itoa_nonneg, Int.natAbs_natCast, Wd.decA_app 20 m [] (by omega) (by omega), List.append_nil]
theorem implDec_any (n : Int) (w : World) (h0 : -9223372036854775808 ≤ n) (h1 : n ≤ 9223372036854775807) (htab : Lib.TabIs Tryz.prog w "internal/strconv.uint64pow10" .u64 Lib.pow10Tab) :
    Calls Tryz.prog 121 #[.int .i64 n] w fun e w' => e = .returned (.string ⟨(Wd.decS n).toArray⟩) ∧ Below w.heap.size w w' := by
  have H := hide htab
  clear htab
  go_enter Tryz.func121, Tryz.ntmps121
  go_wp2_with (go_at_call 142; refine (Tryz.strconv_Itoa n h0 h1 _ H.out).mono ?_; rintro e w' ⟨rfl, k, os, hw⟩)
  go_ret
  rw [← Wd.decS_itoa n h0 h1]
  exact ⟨rfl, ⟨rfl, rfl, rfl, by simp [Sort.grow], fun j hj => by simp [Sort.grow, Array.getElem?_append, hj]⟩⟩
theorem tab_later {w w' : World} (h : Below w.heap.size w w') (ht : Lib.TabIs Tryz.prog w "internal/strconv.uint64pow10" .u64 Lib.pow10Tab) : Lib.TabIs Tryz.prog w' "internal/strconv.uint64pow10" .u64 Lib.pow10Tab := by
  have hg : Tryz.prog.globalNamed "internal/strconv.uint64pow10" = some 4 := by kernel_rfl
  refine var?_below h hg ?_ ht
  rcases Nat.lt_or_ge 4 w.heap.size with h' | h'
  · exact h'
  · unfold Lib.TabIs World.var? at ht
    rw [hg] at ht
    simp [Array.getElem?_eq_none h'] at ht
def OwnsB (w : World) (B : Nat) (te : TypeId) (v : Value) (l : List UInt8) : Prop :=
  ∃ (g cap : Nat) (cur : Array Value) (fz : Nat × Nat), v = .slice (some ⟨g, 0, none⟩) l.length cap ∧ B ≤ g ∧ w.heap[g]? = some (.cells cur te fz) ∧ (fz = (0, 0) ∨ cur.size ≤ fz.1) ∧ l.length ≤ cap ∧ cap ≤ maxLen ∧ cur.size = cap ∧ cur.toList.take l.length = l.map bv
theorem ownsB_lt {w : World} {B : Nat} {te : TypeId} {v : Value} {l : List UInt8} (h : OwnsB w B te v l) : ∀ g, v.ownBlock = some g → B ≤ g ∧ g < w.heap.size := by
  obtain ⟨g, cap, cur, fz, rfl, hB, hC, _⟩ := h
  intro g' h
  obtain rfl : g = g' := by simpa [Value.ownBlock] using h
  exact ⟨hB, (Array.getElem?_eq_some_iff.1 hC).1⟩
theorem ownsB_cells {w : World} {B : Nat} {te : TypeId} {g n cap : Nat} {l : List UInt8} (h : OwnsB w B te (.slice (some ⟨g, 0, none⟩) n cap) l) : ∀ j u, (l.map bv)[j]? = some u → w.cell? ((⟨g, 0, none⟩ : Addr).add j) = some u := by
  obtain ⟨g', cap', cur, fz, e, _, hC, _, _, _, _, ht⟩ := h
  obtain ⟨rfl, -, -⟩ : g = g' ∧ n = l.length ∧ cap = cap' := by simpa using e
  intro j u hu
  have hadd : (⟨g, 0, none⟩ : Addr).add j = ⟨g, j, none⟩ := by cases j <;> simp [Addr.add]
  rw [hadd, cell_of_row w g j cur te fz hC]
  rw [← ht, List.getElem?_take] at hu
  split at hu
  · simpa using hu
  · cases hu
section
variable {P : Program}
theorem conv_made (w : World) (src dst e : TypeId) (s : ByteArray) (hs : P.underlying src = some .string) (hd : P.underlying dst = some (.slice e)) (he : P.underlying e = some (.int .u8)) (hz : s.size ≤ maxLen) :
    ∃ (W : World) (C : Nat), (convert src dst (.string s)).run P w = .ok (.slice (some ⟨w.heap.size, 0, none⟩) s.size C) W ∧ Below w.heap.size w W ∧ W.heap.size = w.heap.size + 1 ∧ OwnsB W w.heap.size e (.slice (some ⟨w.heap.size, 0, none⟩) s.size C) s.data.toList := by
  refine ⟨_, _, Lib.run_convert_string_bytes w src dst e s hs hd he, ⟨rfl, rfl, rfl, by rw [Lib.bytesWorld_size]; omega, fun k hk => Lib.bytesWorld_at_old w e _ k hk⟩, Lib.bytesWorld_size _ _ _, ?_⟩
  have hl : s.data.toList.length = s.size := Array.length_toList
  have hge := grownCap_ge w s.size 0 e
  have hsz : (Lib.bytesCells w e s).size = grownCap w s.size 0 e := by
    have h0 : s.data.size = s.size := rfl
    simp only [Lib.bytesCells, Array.size_append, Array.size_map, Array.size_replicate]
    omega
  refine ⟨w.heap.size, grownCap w s.size 0 e, Lib.bytesCells w e s, _, by rw [hl], Nat.le_refl _, Lib.bytesWorld_at_new w e s, .inr (Nat.le_refl _), by omega, grownCap_le_maxLen w _ _ e hz, hsz, ?_⟩
  rw [hl]
  have h0 : s.size = (s.data.map fun b => Value.int .u8 (b.toNat : Int)).toList.length := by simp
  simp only [Lib.bytesCells, Array.toList_append]
  conv => lhs; rw [h0]
  rw [List.take_left]
  simp [bv]
theorem store_behind (g o : Nat) (t : TypeId) (fz : Nat × Nat) : ∀ (vs : List Value) (i : Nat) (cur : Array Value) (w : World), w.heap[g]? = some (.cells cur t fz) → (fz = (0, 0) ∨ cur.size ≤ fz.1) → o + i + vs.length ≤ cur.size → (∀ v ∈ vs, v.oneCell' = true) →
    (storeCells ⟨g, o, none⟩ vs i).run P w = .ok () (w.setRow g (cur.toList.take (o + i) ++ vs ++ cur.toList.drop (o + i + vs.length)).toArray)
  | [], i, cur, w, hg, _, _, _ => by
    simp only [storeCells, List.append_nil, List.length_nil, Nat.add_zero, List.take_append_drop, Array.toArray_toList]
    rw [setRow_self w g cur t fz hg]
    rfl
  | v :: rest, i, cur, w, hg, hfz, hl, h1 => by
    have hlt : o + i < cur.size := by simp at hl; omega
    have ha : (⟨g, o, none⟩ : Addr).add i = ⟨g, o + i, none⟩ := by cases i <;> simp [Addr.add]
    have hf : w.frozen? ⟨g, o + i, none⟩ = false := by
      simp only [World.frozen?, hg]
      rcases hfz with rfl | hfz
      · simp
      · obtain ⟨lo, hi⟩ := fz
        have : ¬ lo ≤ o + i := by simp only at hfz; omega
        simp [this]
    have hc : w.cell? ⟨g, o + i, none⟩ = some cur[o + i] := by rw [cell_of_row w g _ cur t fz hg, Array.getElem?_eq_getElem hlt]
    have h2 : (store ((⟨g, o, none⟩ : Addr).add i) v).run P w = .ok () (w.setRow g (cur.setIfInBounds (o + i) v)) := by
      rw [ha, run_store P w _ v _ (h1 v (by simp)), hc]
      simp [hf, setCell_eq_setRow w g (o + i) cur t fz v hg]
    have h3 := store_behind g o t fz rest (i + 1) (cur.setIfInBounds (o + i) v) _ (setRow_heap w g cur (cur.setIfInBounds (o + i) v) t fz hg) (by simpa using hfz) (by simp at hl ⊢; omega) (fun x hx => h1 x (by simp [hx]))
    simp only [storeCells, Sem.run_bind, h2, Result.andThen_ok, h3, setRow_setRow]
    congr 3
    simpa [Array.toList_setIfInBounds, Nat.add_assoc] using list_seg_step cur.toList (o + i) v rest (by simp at hl ⊢; omega)
theorem conv_backB (w : World) (ts tx te : TypeId) (B : Nat) (v : Value) (l : List UInt8) (hts : P.underlying ts = some (.slice te)) (hte : P.underlying te = some (.int .u8)) (htx : P.underlying tx = some .string) (hown : OwnsB w B te v l) :
    (convert ts tx v).run P w = .ok (.string ⟨l.toArray⟩) w := by
  obtain ⟨g, cap, cur, fz, rfl, hB, hC, hfz, hnc, hcm, hcs, htk⟩ := hown
  refine run_convert_bytes_back w ts tx te ⟨g, 0, none⟩ cap l hts hte htx ?_
  intro j hj
  refine ownsB_cells ⟨g, cap, cur, fz, rfl, hB, hC, hfz, hnc, hcm, hcs, htk⟩ j _ ?_
  simp [bv, hj]
end
theorem append_madeS {P : Program} (w : World) (B : Nat) (t u ty e : TypeId) (ht : P.underlying t = some (.slice e)) (hu : P.underlying u = some .string) (hinfo : (P.info? e).map (fun i => (i.zero, i.size, i.bytes)) = some (some (.int .u8 0), 1, 1))
    (v : Value) (l : List UInt8) (s : ByteArray) (hown : OwnsB w B e v l) (hlen : l.length + s.size ≤ 70368744177664) (hbase : B ≤ w.heap.size) :
    ∃ v' w', (Builtin.append_ #[t, u] ty #[v, .string s]).run P w = .ok v' w' ∧ OwnsB w' B e v' (l ++ s.data.toList) ∧ w.grownBy w' v.ownBlock := by
  obtain ⟨i0, hi, hz0, hz1, hz2⟩ := info_parts hinfo
  obtain ⟨g, cap, cur, fz, rfl, hB, hC, hfz, hnc, hcm, hcs, htk⟩ := hown
  have hsl : (s.data.toList.map bv).length = s.size := by rw [List.length_map]; rfl
  have hsc : Lib.strCells s = s.data.toList.map bv := rfl
  have hmx : l.length + s.size ≤ maxLen := by unfold maxLen; omega
  by_cases hroom : l.length + s.size ≤ cap
  · have hf := Lib.run_firstCells_string (P := P) w 1 s
    have hst := store_behind (P := P) g l.length e fz (s.data.toList.map bv) 0 cur w hC hfz (by rw [hsl]; omega) (bv_one s.data.toList)
    rw [hsc] at hf
    simp only [Nat.add_zero] at hst
    obtain ⟨X, hX⟩ : ∃ X, X = (cur.toList.take l.length ++ s.data.toList.map bv ++ cur.toList.drop (l.length + (s.data.toList.map bv).length)).toArray := ⟨_, rfl⟩
    rw [← hX] at hst
    have hXs : X.size = cur.size := by rw [hX]; simp only [List.size_toArray, List.length_append, List.length_take, List.length_drop, Array.length_toList, hsl]; omega
    refine ⟨.slice (some ⟨g, 0, none⟩) (l.length + s.size) cap, w.setRow g X, ?_, ⟨g, cap, X, fz, by rw [List.length_append]; rfl, hB, setRow_heap w g cur X e fz hC, ?_, by rw [List.length_append]; exact hroom, hcm, ?_, ?_⟩, ⟨rfl, rfl, rfl, by simp, fun k _ hk => setRow_other w g k _ (fun e => hk (by simp [Value.ownBlock, e]))⟩⟩
    · simp [Builtin.append_, run_underlying ht, run_underlying hu, sizeOf, typeInfo, hi, hz1, Builtin.lenOf, hroom, hf, Addr.add_lit, hst]
    · rcases hfz with h | h
      · exact .inl h
      · exact .inr (by omega)
    · omega
    · rw [hX, htk, List.map_append, show (l ++ s.data.toList).length = (l.map bv ++ s.data.toList.map bv).length from by simp]
      exact List.take_left
  · have hr := Lib.run_append_grow_string (P := P) w t u ty e i0 (.int .u8 0) ht hu hi hz0 ⟨g, 0, none⟩ l.length cap (l.map bv) (by rw [hz1]; simp) (ownsB_cells ⟨g, cap, cur, fz, rfl, hB, hC, hfz, hnc, hcm, hcs, htk⟩) s (by omega) (by unfold maxLen at hmx; omega) (by rw [hz2]; exact growslice_fits (by omega) (by omega))
    have hge := grownCap_ge w (l.length + s.size) cap e
    rw [hsc] at hr
    refine ⟨_, _, hr, ⟨w.heap.size, _, _, (0, 0), by rw [List.length_append]; rfl, hbase, heap_alloc_new w.drew _, .inl rfl, by rw [List.length_append]; exact hge, grownCap_le_maxLen w _ _ e hmx, ?_, ?_⟩, ⟨rfl, rfl, rfl, by simp, fun k hk _ => Go.heap_alloc_old w.drew _ hk⟩⟩
    · have hz : (Value.int IntKind.u8 0).cells.size = 1 := rfl
      simp only [Array.size_append, List.size_toArray, size_zeroCells, hz, List.length_map, hsl]
      have e1 : s.data.toList.length = s.size := rfl
      omega
    · simp only [Array.toList_append]
      rw [List.map_append, show (l ++ s.data.toList).length = (l.map bv ++ s.data.toList.map bv).length from by simp]
      exact List.take_left
theorem app_textB {P : Program} {ops : Array Oper} {rest : List Oper} {o : Oper} {a : Act} {Q : Exit → Act → World → Prop} (w : World) (t u e : TypeId) (ht : P.underlying t = some (.slice e)) (hu : P.underlying u = some .string) (hinfo : (P.info? e).map (fun i => (i.zero, i.size, i.bytes)) = some (some (.int .u8 0), 1, 1))
    (B : Nat) (hgd : o.guard = none) (sl x : Operand) (ho : o.op = .call { callee := .builtin .append, args := #[sl, x], argTypes := #[t, u] }) (v : Value) (l : List UInt8) (s : ByteArray) (hs : a.eval sl = v) (hown : OwnsB w B e v l) (hx : a.eval x = .string s)
    (hlen : l.length + s.size ≤ 70368744177664) (hbase : B ≤ w.heap.size)
    (h : ∀ v' w', OwnsB w' B e v' (l ++ s.data.toList) → w.grownBy w' v.ownBlock → wpList P ops Q rest (a.put o.dst v') w') : wpList P ops Q (o :: rest) a w := by
  refine wpList_plain hgd fun K hK => ?_
  obtain ⟨v', w', hr, h2, h3⟩ := append_madeS (P := P) w B t u o.type e ht hu hinfo v l s hown hlen hbase
  unfold Oper.wp execOp
  simp only [ho, resolve, invoke, builtin, Sem.run_bind, Sem.run_pure, Result.andThen_ok, List.map_toArray, List.map_cons, List.map_nil, hs, hx, hr]
  exact hK _ _ (h v' w' h2 h3)
end Go.Proofs.YtifjneldjjmeaaaGreatDoor
