import Derived.Deep.LoopGhost
import Derived.WalkMore
import Derived.WalkSmall
import Derived.Shelf.Small.Utf8
import Derived.Shelf.Small.Strs
import Derived.Shelf.Strconv.Atoi
import Derived.Shelf.Strconv.Itoa0
import Derived.Shelf.Strconv.Itoa1
import Derived.Shelf.LaysM
import Derived.Shelf.Strconv.Itoa2
import Derived.Shelf.Strconv.Itoa3
import Derived.Shelf.Strconv.AtoiErrFast
import Derived.Shelf.Strconv.ParseIntEmpty
import Derived.Shelf.Strconv.AtoiFail
import Derived.Shelf.Strconv.Clone
import Derived.Shelf.Strconv.SyntaxError
import Derived.Shelf.LaysC
import Derived.Shelf.Strconv.ToError
import Derived.Shelf.Strconv.Lower
import Derived.Shelf.Strconv.ParseUint10
import Derived.Shelf.Strconv.ParseUint10Empty
import Derived.Shelf.Strconv.ParseUint10Any
import Derived.Shelf.Strconv.ParseInt10
import Derived.Shelf.Strconv.AtoiLong
import Derived.Shelf.Strconv.AtoiInnerAll
import Derived.Shelf.Strconv.RangeError
import Derived.Shelf.Strconv.ToErrorRange
import Derived.Shelf.Strconv.AtoiAll
import Derived.Shelf.Strconv.ErrVarAll
import Derived.Shelf.Strings.Search1
import Derived.Shelf.Strings.Runes
import Derived.Shelf.Strings.AsciiSet
import Derived.Shelf.Unicode.DecodeSlow
import Derived.Shelf.Unicode.DecodeAny
import Derived.Test.YtifjneldjjmeaaaGreatDoorProg
import Derived.Lib.ItoaMem
import Derived.Lib.ConvBytes
import Derived.Deep.AppendLies
import Derived.Lib.AppendStr
import Derived.Test.YtifjneldjjmeaaaGreatDoorTx11
import Derived.Test.YtifjneldjjmeaaaGreatDoorTx2
import Derived.Test.YtifjneldjjmeaaaGreatDoorTx0
import Derived.Test.YtifjneldjjmeaaaGreatDoorTx4
set_option maxRecDepth 100000
set_option maxHeartbeats 3200000
namespace Go.Proofs.YtifjneldjjmeaaaGreatDoor
open Go.RowKit
theorem box4_below {B g : Nat} {w W : World} (h : Below B w W) (hg : B ≤ g) (a b c d : Value) : Below B w ((((W.setCell ⟨g, 0, none⟩ a).setCell ⟨g, 1, none⟩ b).setCell ⟨g, 2, none⟩ c).setCell ⟨g, 3, none⟩ d) :=
  (((h.setCell (p := ⟨g, 0, none⟩) hg a).setCell (p := ⟨g, 1, none⟩) hg b).setCell (p := ⟨g, 2, none⟩) hg c).setCell (p := ⟨g, 3, none⟩) hg d
theorem box4_here {g : Nat} {W : World} {C : Array Value} {t : TypeId} (h : W.heap[g]? = some (.cells C t (0, 0))) (hC : C.size = 4) (a b c d : Value) : ((((W.setCell ⟨g, 0, none⟩ a).setCell ⟨g, 1, none⟩ b).setCell ⟨g, 2, none⟩ c).setCell ⟨g, 3, none⟩ d).heap[g]? = some (.cells #[a, b, c, d] t (0, 0)) := by
  match C, hC with
  | ⟨[x0, x1, x2, x3]⟩, _ =>
    exact (heap_setCell_same _ g _ _ t _ (heap_setCell_same _ g _ _ t _ (heap_setCell_same _ g _ _ t _ (heap_setCell_same W g _ _ t _ h)))).trans rfl
theorem box4_other (g b : Nat) (W : World) (h : b ≠ g) (a0 a1 c d : Value) : ((((W.setCell ⟨g, 0, none⟩ a0).setCell ⟨g, 1, none⟩ a1).setCell ⟨g, 2, none⟩ c).setCell ⟨g, 3, none⟩ d).heap[b]? = W.heap[b]? := by
  rw [Below.heap_setCell _ _ _ _ (by simpa using h), Below.heap_setCell _ _ _ _ (by simpa using h), Below.heap_setCell _ _ _ _ (by simpa using h), Below.heap_setCell _ _ _ _ (by simpa using h)]
theorem box4f {W : World} {g : Nat} {a b c d : Value} {t : TypeId} (h : W.heap[g]? = some (.cells #[a, b, c, d] t (0, 0))) : W.frozen? ⟨g, 0, none⟩ = false ∧ W.frozen? ⟨g, 1, none⟩ = false ∧ W.frozen? ⟨g, 2, none⟩ = false ∧ W.frozen? ⟨g, 3, none⟩ = false :=
  ⟨frozen_of_row W _ 0 _ _ h, frozen_of_row W _ 1 _ _ h, frozen_of_row W _ 2 _ _ h, frozen_of_row W _ 3 _ _ h⟩
def lookK (T : List EntD) (key : ByteArray) (kind : Int) : ValD × Bool × Option ByteArray :=
  match findE T key with
  | none => (⟨kind, 0, ⟨#[]⟩, []⟩, false, none)
  | some v => if v.kind = kind then (v, true, none) else (noVal, true, some wrongK)
def valC (v : ValD) (x : Value) : Value := .agg #[.int .i64 v.kind, .int .i64 v.til, .string v.text, x]
theorem find_any (T : List EntD) (key : ByteArray) (kind : Int) (w : World) (B b : Nat) (tb : TypeId) (hT : TabR T) (hW : WorkS tb w B b T) :
    Calls Tryz.prog 109 #[.pointer (some ⟨b, 0, none⟩), .string key, .int .i64 kind] w fun e w' => (∃ a c, e = .returned (.tuple #[valC (lookK T key kind).1 (.slice a (lookK T key kind).1.items.length c), .bool (lookK T key kind).2.1, errV (lookK T key kind).2.2]) ∧ RowText w' w.heap.size (.slice a (lookK T key kind).1.items.length c) (lookK T key kind).1.items) ∧ Below w.heap.size w w' := by
  obtain ⟨hBb, v, E, hbv, hbuild⟩ := hW
  obtain ⟨ao, cap, rfl⟩ := buildE_form hbuild
  obtain ⟨wA, hwA⟩ : ∃ wA, wA = w.alloc (.cells #[.int .i64 0, .int .i64 0, .string ⟨#[]⟩, .slice none 0 0] 38) := ⟨_, rfl⟩
  have BA : Hid (Below w.heap.size w wA) := by rw [hwA]; exact (Below.refl _ w).alloc (Nat.le_refl _) _
  have PA : Hid (wA.heap[w.heap.size]? = some (.cells #[.int .i64 0, .int .i64 0, .string ⟨#[]⟩, .slice none 0 0] 38 (0, 0))) := by rw [hwA]; exact heap_alloc_new _ _
  have hT20 := hT.1
  have HF := hide (implFind_any T key ao cap wA (by omega) (entriesAt_keep (rowEnt_rows (buildE_row hbuild)).2 BA.out) (tab_ents hT))
  have xb : wA.cell? ⟨b, 0, none⟩ = some (.slice ao T.length cap) := (box1w ((BA.out.block b (obj_lt hbv)).trans hbv)).1
  have HL : Hid (lookK T key kind = if findB T key = true then (if (findV T key).kind = kind then (findV T key, true, none) else (noVal, true, some wrongK)) else (⟨kind, 0, ⟨#[]⟩, []⟩, false, none)) := by
    show _ = _
    unfold lookK findB findV
    cases findE T key with
    | none => rfl
    | some v => rfl
  clear hbuild hbv hT
  generalize hr : lookK T key kind = r at HL ⊢
  clear hr
  generalize findV T key = V at HF HL
  generalize findB T key = fb at HF HL
  obtain ⟨k, u, t, ts⟩ := V
  simp only at HF HL
  go_enter Tryz.func109, Tryz.ntmps109
  go_upto_region 1 with fail
  rw [← hwA]
  clear hwA
  go_wp2_with fail
  refine HF.out.mono ?_
  rintro e w1 ⟨⟨a1, c1, rfl, r1⟩, b1⟩
  have R1 := hide r1
  have B1 := hide b1
  clear r1 b1 xb
  go_upto_region 2 with fail
  obtain ⟨wB, hwB⟩ : ∃ wB, wB = w1.alloc (.cells #[.int .i64 k, .int .i64 u, .string t, .slice a1 ts.length c1] 38) := ⟨_, rfl⟩
  rw [← hwB]
  have BB : Hid (Below w1.heap.size w1 wB) := by rw [hwB]; exact (Below.refl _ w1).alloc (Nat.le_refl _) _
  have PB : Hid (wB.heap[w1.heap.size]? = some (.cells #[.int .i64 k, .int .i64 u, .string t, .slice a1 ts.length c1] 38 (0, 0))) := by rw [hwB]; exact heap_alloc_new _ _
  clear hwB
  have B1B := hide (B1.out.trans (BB.out.mono B1.out.size))
  have hZ := (B1B.out.block _ (obj_lt PA.out)).trans PA.out
  obtain ⟨z0, z1, z2, z3⟩ := box4w hZ
  obtain ⟨f0, f1, f2, f3⟩ := box4f hZ
  obtain ⟨y0, y1, y2, y3⟩ := box4w PB.out
  have HZ := hide hZ
  have HB := hide (BA.out.trans (B1B.out.mono BA.out.size))
  have RB := hide (rowText_le (rowText_below R1.out BB.out) BA.out.size)
  clear hZ
  cases fb with
  | false =>
    have hr := HL.out
    rw [if_neg (by decide)] at hr
    subst hr
    obtain ⟨⟨r0, r1, r2, r3⟩⟩ : ∃ _ : _ ∧ _ ∧ _ ∧ _, True := ⟨box4w (box4_here HZ.out rfl (.int .i64 kind) (.int .i64 0) (.string ⟨#[]⟩) (.slice none 0 0)), trivial⟩
    have H6 := hide (box4_below HB.out (Nat.le_refl _) (.int .i64 kind) (.int .i64 0) (.string ⟨#[]⟩) (.slice none 0 0))
    go_wp2
    exact bodyPost_ret (v := .tuple #[valC ⟨kind, 0, ⟨#[]⟩, []⟩ (.slice none 0 0), .bool false, .nilIface]) (by simp [valC, results, Tryz.results109, go_sem, r0, r1, r2, r3]) rfl ⟨⟨none, 0, rfl, .inl ⟨rfl, rfl⟩⟩, H6.out⟩
  | true =>
    have hr := HL.out
    rw [if_pos rfl] at hr
    by_cases hk : k = kind
    · rw [if_pos hk] at hr
      subst hr
      subst hk
      have hkk : (k == k) = true := beq_self_eq_true _
      obtain ⟨⟨r0, r1, r2, r3⟩⟩ : ∃ _ : _ ∧ _ ∧ _ ∧ _, True := ⟨box4w (box4_here HZ.out rfl (.int .i64 k) (.int .i64 u) (.string t) (.slice a1 ts.length c1)), trivial⟩
      have H6 := hide (box4_below HB.out (Nat.le_refl _) (.int .i64 k) (.int .i64 u) (.string t) (.slice a1 ts.length c1))
      have R6 : Hid (RowText ((((wB.setCell ⟨w.heap.size, 0, none⟩ (.int .i64 k)).setCell ⟨w.heap.size, 1, none⟩ (.int .i64 u)).setCell ⟨w.heap.size, 2, none⟩ (.string t)).setCell ⟨w.heap.size, 3, none⟩ (.slice a1 ts.length c1)) w.heap.size (.slice a1 ts.length c1) ts) :=
        rowText_keep RB.out (fun g hg => box4_other _ _ _ (fun e => by
          obtain ⟨C, hC⟩ := text_block RB.out hg
          rw [e, HZ.out] at hC
          simp at hC) _ _ _ _)
      go_wp2
      exact bodyPost_ret (v := .tuple #[valC ⟨k, u, t, ts⟩ (.slice a1 ts.length c1), .bool true, .nilIface]) (by simp [valC, results, Tryz.results109, go_sem, r0, r1, r2, r3]) rfl ⟨⟨a1, c1, rfl, R6.out⟩, H6.out⟩
    · rw [if_neg hk] at hr
      subst hr
      have hkk : (k == kind) = false := by simp [hk]
      obtain ⟨⟨r0, r1, r2, r3⟩⟩ : ∃ _ : _ ∧ _ ∧ _ ∧ _, True := ⟨box4w (box4_here HZ.out rfl (.int .i64 0) (.int .i64 0) (.string ⟨#[]⟩) (.slice none 0 0)), trivial⟩
      have H6 := hide (box4_below HB.out (Nat.le_refl _) (.int .i64 0) (.int .i64 0) (.string ⟨#[]⟩) (.slice none 0 0))
      go_wp2
      exact bodyPost_ret (v := .tuple #[valC noVal (.slice none 0 0), .bool true, errV (some wrongK)]) (by simp [valC, noVal, errV, wrongK, results, Tryz.results109, go_sem, r0, r1, r2, r3]) rfl ⟨⟨none, 0, rfl, .inl ⟨rfl, rfl⟩⟩, H6.out⟩
def Wd.good (s : ByteArray) : Prop := s.size ≠ 0 ∧ s.size ≤ 10 ∧ Wd.digs s s.size ∧ (s.size = 1 ∨ Wd.bt s 0 ≠ 48) ∧ Wd.numF s s.size ≤ 1000000000
instance (s : ByteArray) : Decidable (Wd.good s) := by unfold Wd.good Wd.digs; infer_instance
end Go.Proofs.YtifjneldjjmeaaaGreatDoor
namespace Go.Proofs
open Go.Shelf
def Tryz.laysM171_ren : Go.Shelf.Ren := ⟨fun | 171 => 142 | 243 => 152 | 246 => 163 | 283 => 174 | 284 => 175 | 285 => 176 | 286 => 177 | 129 => 184 | 317 => 183 | 318 => 185 | 319 => 186 | 320 => 187 | 337 => 195 | 338 => 196 | n => n, fun | 3 => 3 | 9 => 9 | 2 => 2 | 4 => 4 | 171 => 188 | 0 => 0 | 53 => 189 | 37 => 22 | 5 => 5 | 173 => 192 | 212 => 202 | 51 => 203 | 20 => 20 | 213 => 204 | 46 => 108 | 232 => 217 | 233 => 218 | n => n, fun | 17 => 4 | 18 => 7 | 19 => 8 | n => n⟩
theorem Tryz.laysM171 : Go.Proofs.LaysM.n171 Tryz.prog Tryz.laysM171_ren := {
  mixed := by kernel_rfl
  f129 := Tryz.func184.trans (congrArg some (by kernel_rfl))
  f171 := Tryz.func142.trans (congrArg some (by kernel_rfl))
  f243 := Tryz.func152.trans (congrArg some (by kernel_rfl))
  f246 := Tryz.func163.trans (congrArg some (by kernel_rfl))
  f283 := Tryz.func174.trans (congrArg some (by kernel_rfl))
  f284 := Tryz.func175.trans (congrArg some (by kernel_rfl))
  f285 := Tryz.func176.trans (congrArg some (by kernel_rfl))
  f286 := Tryz.func177.trans (congrArg some (by kernel_rfl))
  f317 := Tryz.func183.trans (congrArg some (by kernel_rfl))
  f318 := Tryz.func185.trans (congrArg some (by kernel_rfl))
  f319 := Tryz.func186.trans (congrArg some (by kernel_rfl))
  f320 := Tryz.func187.trans (congrArg some (by kernel_rfl))
  f337 := Tryz.func195.trans (congrArg some (by kernel_rfl))
  f338 := Tryz.func196.trans (congrArg some (by kernel_rfl))
  t0 := Tryz.underlying0
  a0 := Tryz.isAgg0
  z0 := Tryz.sizeOf0
  v0 := Tryz.zeroValue0
  t2 := Tryz.underlying2
  a2 := Tryz.isAgg2
  z2 := Tryz.sizeOf2
  v2 := Tryz.zeroValue2
  t3 := Tryz.underlying3
  a3 := Tryz.isAgg3
  z3 := Tryz.sizeOf3
  v3 := Tryz.zeroValue3
  t4 := Tryz.underlying4
  a4 := Tryz.isAgg4
  z4 := Tryz.sizeOf4
  v4 := Tryz.zeroValue4
  t5 := Tryz.underlying5
  a5 := Tryz.isAgg5
  z5 := Tryz.sizeOf5
  v5 := Tryz.zeroValue5
  t9 := Tryz.underlying9
  a9 := Tryz.isAgg9
  z9 := Tryz.sizeOf9
  v9 := Tryz.zeroValue9
  t20 := Tryz.underlying20
  a20 := Tryz.isAgg20
  z20 := Tryz.sizeOf20
  v20 := Tryz.zeroValue20
  t37 := Tryz.underlying22
  a37 := Tryz.isAgg22
  z37 := Tryz.sizeOf22
  v37 := Tryz.zeroValue22
  t46 := Tryz.underlying108
  a46 := Tryz.isAgg108
  z46 := Tryz.sizeOf108
  v46 := Tryz.zeroValue108
  t51 := Tryz.underlying203
  a51 := Tryz.isAgg203
  z51 := Tryz.sizeOf203
  v51 := Tryz.zeroValue203
  t53 := Tryz.underlying189
  a53 := Tryz.isAgg189
  z53 := Tryz.sizeOf189
  v53 := Tryz.zeroValue189
  t171 := Tryz.underlying188
  a171 := Tryz.isAgg188
  z171 := Tryz.sizeOf188
  v171 := Tryz.zeroValue188
  t173 := Tryz.underlying192
  a173 := Tryz.isAgg192
  z173 := Tryz.sizeOf192
  v173 := Tryz.zeroValue192
  t212 := Tryz.underlying202
  a212 := Tryz.isAgg202
  z212 := Tryz.sizeOf202
  v212 := Tryz.zeroValue202
  t213 := Tryz.underlying204
  a213 := Tryz.isAgg204
  z213 := Tryz.sizeOf204
  t232 := Tryz.underlying217
  a232 := Tryz.isAgg217
  z232 := Tryz.sizeOf217
  v232 := Tryz.zeroValue217
  t233 := Tryz.underlying218
  a233 := Tryz.isAgg218
  z233 := Tryz.sizeOf218
  v233 := Tryz.zeroValue218
  g17 := by kernel_rfl
  g18 := by kernel_rfl
  g19 := by kernel_rfl
  i0 := by kernel_rfl
  i2 := by kernel_rfl
  i3 := by kernel_rfl
  i4 := by kernel_rfl
  i5 := by kernel_rfl
  i9 := by kernel_rfl
  i20 := by kernel_rfl
  i37 := by kernel_rfl
  i46 := by kernel_rfl
  i51 := by kernel_rfl
  i53 := by kernel_rfl
  i171 := by kernel_rfl
  i173 := by kernel_rfl
  i212 := by kernel_rfl
  i232 := by kernel_rfl
  i233 := by kernel_rfl
  m17 := by kernel_rfl
  m18 := by kernel_rfl
  m19 := by kernel_rfl }
open Go.RowKit Go.Sort Go.Lib in
theorem Tryz.strconv_Itoa (n : Int) (h0 : -9223372036854775808 ≤ n) (h1 : n ≤ 9223372036854775807) (w : World) (htab : Lib.TabIs Tryz.prog w "internal/strconv.uint64pow10" .u64 Lib.pow10Tab) :
    Calls Tryz.prog 142 #[.int .i64 n] w fun e w' => e = .returned (.string ⟨(Lib.itoa n).toArray⟩) ∧ ∃ k os, w' = grow (w.drewN k) os := Any.strconv_Itoa Tryz.laysM171 n h0 h1 w htab
end Go.Proofs
namespace Go.Proofs.YtifjneldjjmeaaaGreatDoor
open Go.RowKit
theorem Wd.decA_app : ∀ f n acc, n < 10 ^ f → 0 < n → Wd.decA f n acc = Lib.decDigits n ++ acc
  | 0, n, acc, h, h0 => by simp at h; omega
  | f + 1, n, acc, h, h0 => by
    rw [Wd.decA_step f n acc (by omega)]
    have hfig : ∀ m, m < 10 → Wd.figB m = UInt8.ofNat (48 + m) := by
      intro m hm
      unfold Wd.figB
      rw [Wd.figI_low _ (by omega)]
      congr 1
    by_cases h10 : n < 10
    · rw [show n / 10 = 0 from by omega, Wd.decA_zero, Lib.decDigits_one h10, hfig _ (by omega), show n % 10 = n from by omega]
      rfl
    · rw [Wd.decA_app f (n / 10) _ (Nat.div_lt_of_lt_mul (by rw [Nat.mul_comm, ← Nat.pow_succ]; exact h)) (by omega), hfig _ (by omega)]
      conv => rhs; rw [Lib.decDigits, dif_neg h10]
      simp
theorem Wd.decS_itoa (n : Int) (h0 : -9223372036854775808 ≤ n) (h1 : n ≤ 9223372036854775807) : Lib.itoa n = Wd.decS n := by
  unfold Wd.decS
  by_cases hz : n = 0
  · subst hz
    rw [if_pos rfl]
    show Lib.itoa ((0 : Nat) : Int) = _
    rw [Lib.itoa_nonneg, Lib.decDigits_one (by omega)]
    rfl
  · rw [if_neg hz]
    by_cases hn : n < 0
    · rw [if_pos hn]
      obtain ⟨m, hm⟩ := Int.eq_ofNat_of_zero_le (show 0 ≤ -n by omega)
      have e : n = -(m : Int) := by omega
      subst e
      rw [Lib.itoa_neg m (by omega), Int.natAbs_neg, Int.natAbs_natCast, Wd.decA_app 20 m [] (by omega) (by omega), List.append_nil]
    · rw [if_neg hn]
      obtain ⟨m, rfl⟩ := Int.eq_ofNat_of_zero_le (show 0 ≤ n by omega)
      rw [Lib.itoa_nonneg, Int.natAbs_natCast, Wd.decA_app 20 m [] (by omega) (by omega), List.append_nil]
theorem implDec_any (n : Int) (w : World) (h0 : -9223372036854775808 ≤ n) (h1 : n ≤ 9223372036854775807) (htab : Lib.TabIs Tryz.prog w "internal/strconv.uint64pow10" .u64 Lib.pow10Tab) :
    Calls Tryz.prog 121 #[.int .i64 n] w fun e w' => e = .returned (.string ⟨(Wd.decS n).toArray⟩) ∧ Below w.heap.size w w' := by
  have H := hide htab
  clear htab
  go_enter Tryz.func121, Tryz.ntmps121
  go_wp2_with (go_at_call 142; refine (Tryz.strconv_Itoa n h0 h1 _ H.out).mono ?_; rintro e w' ⟨rfl, k, os, hw⟩)
  go_ret
  rw [← Wd.decS_itoa n h0 h1]
  exact ⟨rfl, ⟨rfl, rfl, rfl, by simp [Sort.grow], fun j hj => by simp [Sort.grow, Array.getElem?_append, hj]⟩⟩
theorem tab_later {w w' : World} (h : Below w.heap.size w w') (ht : Lib.TabIs Tryz.prog w "internal/strconv.uint64pow10" .u64 Lib.pow10Tab) : Lib.TabIs Tryz.prog w' "internal/strconv.uint64pow10" .u64 Lib.pow10Tab := by
  have hg : Tryz.prog.globalNamed "internal/strconv.uint64pow10" = some 4 := by kernel_rfl
  refine var?_below h hg ?_ ht
  rcases Nat.lt_or_ge 4 w.heap.size with h' | h'
  · exact h'
  · unfold Lib.TabIs World.var? at ht
    rw [hg] at ht
    simp [Array.getElem?_eq_none h'] at ht
def OwnsB (w : World) (B : Nat) (te : TypeId) (v : Value) (l : List UInt8) : Prop :=
  ∃ (g cap : Nat) (cur : Array Value) (fz : Nat × Nat), v = .slice (some ⟨g, 0, none⟩) l.length cap ∧ B ≤ g ∧ w.heap[g]? = some (.cells cur te fz) ∧ (fz = (0, 0) ∨ cur.size ≤ fz.1) ∧ l.length ≤ cap ∧ cap ≤ maxLen ∧ cur.size = cap ∧ cur.toList.take l.length = l.map bv
theorem ownsB_lt {w : World} {B : Nat} {te : TypeId} {v : Value} {l : List UInt8} (h : OwnsB w B te v l) : ∀ g, v.ownBlock = some g → B ≤ g ∧ g < w.heap.size := by
  obtain ⟨g, cap, cur, fz, rfl, hB, hC, _⟩ := h
  intro g' h
  obtain rfl : g = g' := by simpa [Value.ownBlock] using h
  exact ⟨hB, (Array.getElem?_eq_some_iff.1 hC).1⟩
theorem ownsB_le {w : World} {B B' : Nat} {te : TypeId} {v : Value} {l : List UInt8} (h : OwnsB w B te v l) (hb : B' ≤ B) : OwnsB w B' te v l := by
  obtain ⟨g, cap, cur, fz, h1, hB, h2⟩ := h
  exact ⟨g, cap, cur, fz, h1, Nat.le_trans hb hB, h2⟩
theorem ownsB_keep {w w' : World} {B : Nat} {te : TypeId} {v : Value} {l : List UInt8} (h : OwnsB w B te v l) (hk : ∀ g, v.ownBlock = some g → w'.heap[g]? = w.heap[g]?) : OwnsB w' B te v l := by
  obtain ⟨g, cap, cur, fz, rfl, hB, hC, h2⟩ := h
  exact ⟨g, cap, cur, fz, rfl, hB, (hk g rfl).trans hC, h2⟩
theorem ownsB_below {w w' : World} {B : Nat} {te : TypeId} {v : Value} {l : List UInt8} (h : OwnsB w B te v l) (hb : Below w.heap.size w w') : OwnsB w' B te v l :=
  ownsB_keep h (fun g hg => hb.block g (ownsB_lt h g hg).2)
theorem ownsB_cells {w : World} {B : Nat} {te : TypeId} {g n cap : Nat} {l : List UInt8} (h : OwnsB w B te (.slice (some ⟨g, 0, none⟩) n cap) l) : ∀ j u, (l.map bv)[j]? = some u → w.cell? ((⟨g, 0, none⟩ : Addr).add j) = some u := by
  obtain ⟨g', cap', cur, fz, e, _, hC, _, _, _, _, ht⟩ := h
  obtain ⟨rfl, -, -⟩ : g = g' ∧ n = l.length ∧ cap = cap' := by simpa using e
  intro j u hu
  have hadd : (⟨g, 0, none⟩ : Addr).add j = ⟨g, j, none⟩ := by cases j <;> simp [Addr.add]
  rw [hadd, cell_of_row w g j cur te fz hC]
  rw [← ht, List.getElem?_take] at hu
  split at hu
  · simpa using hu
  · cases hu
section
variable {P : Program}
theorem conv_made (w : World) (src dst e : TypeId) (s : ByteArray) (hs : P.underlying src = some .string) (hd : P.underlying dst = some (.slice e)) (he : P.underlying e = some (.int .u8)) (hz : s.size ≤ maxLen) :
    ∃ (W : World) (C : Nat), (convert src dst (.string s)).run P w = .ok (.slice (some ⟨w.heap.size, 0, none⟩) s.size C) W ∧ Below w.heap.size w W ∧ W.heap.size = w.heap.size + 1 ∧ OwnsB W w.heap.size e (.slice (some ⟨w.heap.size, 0, none⟩) s.size C) s.data.toList := by
  refine ⟨_, _, Lib.run_convert_string_bytes w src dst e s hs hd he, ⟨rfl, rfl, rfl, by rw [Lib.bytesWorld_size]; omega, fun k hk => Lib.bytesWorld_at_old w e _ k hk⟩, Lib.bytesWorld_size _ _ _, ?_⟩
  have hl : s.data.toList.length = s.size := Array.length_toList
  have hge := grownCap_ge w s.size 0 e
  have hsz : (Lib.bytesCells w e s).size = grownCap w s.size 0 e := by
    have h0 : s.data.size = s.size := rfl
    simp only [Lib.bytesCells, Array.size_append, Array.size_map, Array.size_replicate]
    omega
  refine ⟨w.heap.size, grownCap w s.size 0 e, Lib.bytesCells w e s, _, by rw [hl], Nat.le_refl _, Lib.bytesWorld_at_new w e s, .inr (Nat.le_refl _), by omega, grownCap_le_maxLen w _ _ e hz, hsz, ?_⟩
  rw [hl]
  have h0 : s.size = (s.data.map fun b => Value.int .u8 (b.toNat : Int)).toList.length := by simp
  simp only [Lib.bytesCells, Array.toList_append]
  conv => lhs; rw [h0]
  rw [List.take_left]
  simp [bv]
theorem store_behind (g o : Nat) (t : TypeId) (fz : Nat × Nat) : ∀ (vs : List Value) (i : Nat) (cur : Array Value) (w : World), w.heap[g]? = some (.cells cur t fz) → (fz = (0, 0) ∨ cur.size ≤ fz.1) → o + i + vs.length ≤ cur.size → (∀ v ∈ vs, v.oneCell' = true) →
    (storeCells ⟨g, o, none⟩ vs i).run P w = .ok () (w.setRow g (cur.toList.take (o + i) ++ vs ++ cur.toList.drop (o + i + vs.length)).toArray)
  | [], i, cur, w, hg, _, _, _ => by
    simp only [storeCells, List.append_nil, List.length_nil, Nat.add_zero, List.take_append_drop, Array.toArray_toList]
    rw [setRow_self w g cur t fz hg]
    rfl
  | v :: rest, i, cur, w, hg, hfz, hl, h1 => by
    have hlt : o + i < cur.size := by simp at hl; omega
    have ha : (⟨g, o, none⟩ : Addr).add i = ⟨g, o + i, none⟩ := by cases i <;> simp [Addr.add]
    have hf : w.frozen? ⟨g, o + i, none⟩ = false := by
      simp only [World.frozen?, hg]
      rcases hfz with rfl | hfz
      · simp
      · obtain ⟨lo, hi⟩ := fz
        have : ¬ lo ≤ o + i := by simp only at hfz; omega
        simp [this]
    have hc : w.cell? ⟨g, o + i, none⟩ = some cur[o + i] := by rw [cell_of_row w g _ cur t fz hg, Array.getElem?_eq_getElem hlt]
    have h2 : (store ((⟨g, o, none⟩ : Addr).add i) v).run P w = .ok () (w.setRow g (cur.setIfInBounds (o + i) v)) := by
      rw [ha, run_store P w _ v _ (h1 v (by simp)), hc]
      simp [hf, setCell_eq_setRow w g (o + i) cur t fz v hg]
    have h3 := store_behind g o t fz rest (i + 1) (cur.setIfInBounds (o + i) v) _ (setRow_heap w g cur (cur.setIfInBounds (o + i) v) t fz hg) (by simpa using hfz) (by simp at hl ⊢; omega) (fun x hx => h1 x (by simp [hx]))
    simp only [storeCells, Sem.run_bind, h2, Result.andThen_ok, h3, setRow_setRow]
    congr 3
    simpa [Array.toList_setIfInBounds, Nat.add_assoc] using list_seg_step cur.toList (o + i) v rest (by simp at hl ⊢; omega)
theorem append_made (w : World) (B : Nat) (t ty e : TypeId) (ht : P.underlying t = some (.slice e)) (hinfo : (P.info? e).map (fun i => (i.zero, i.size, i.bytes)) = some (some (.int .u8 0), 1, 1))
    (v : Value) (l news : List UInt8) (hown : OwnsB w B e v l) (a : Addr) (c : Nat) (hnews : ∀ j u, (news.map bv)[j]? = some u → w.cell? (a.add j) = some u) (hlen : l.length + news.length ≤ 70368744177664) (hbase : B ≤ w.heap.size) :
    ∃ v' w', (Builtin.append_ #[t, t] ty #[v, .slice (some a) news.length c]).run P w = .ok v' w' ∧ OwnsB w' B e v' (l ++ news) ∧ w.grownBy w' v.ownBlock := by
  obtain ⟨i0, hi, hz0, hz1, hz2⟩ := info_parts hinfo
  obtain ⟨g, cap, cur, fz, rfl, hB, hC, hfz, hnc, hcm, hcs, htk⟩ := hown
  have hl1 : (news.map bv).length = news.length * i0.size := by rw [hz1]; simp
  have hmx : l.length + news.length ≤ maxLen := by unfold maxLen; omega
  by_cases hroom : l.length + news.length ≤ cap
  · have hf := run_firstCells_some (P := P) w i0.size news.length a news.length c (news.map bv) hl1 hnews
    have hst := store_behind (P := P) g l.length e fz (news.map bv) 0 cur w hC hfz (by simp; omega) (bv_one news)
    simp only [Nat.add_zero] at hst
    obtain ⟨X, hX⟩ : ∃ X, X = (cur.toList.take l.length ++ news.map bv ++ cur.toList.drop (l.length + (news.map bv).length)).toArray := ⟨_, rfl⟩
    rw [← hX] at hst
    have hXs : X.size = cur.size := by rw [hX]; simp; omega
    refine ⟨.slice (some ⟨g, 0, none⟩) (l.length + news.length) cap, w.setRow g X, ?_, ⟨g, cap, X, fz, by rw [List.length_append], hB, setRow_heap w g cur X e fz hC, ?_, by rw [List.length_append]; exact hroom, hcm, ?_, ?_⟩, ⟨rfl, rfl, rfl, by simp, fun k _ hk => setRow_other w g k _ (fun e => hk (by simp [Value.ownBlock, e]))⟩⟩
    · simp [Builtin.append_, run_underlying ht, sizeOf, typeInfo, hi, hz1, Builtin.lenOf, hroom, hz1 ▸ hf, Addr.add_lit, hst]
    · rcases hfz with h | h
      · exact .inl h
      · exact .inr (by omega)
    · omega
    · rw [hX, htk, List.map_append, show (l ++ news).length = (l.map bv ++ news.map bv).length from by simp]
      exact List.take_left
  · have hr := run_append_grow (P := P) w t ty e i0 (.int .u8 0) ht hi hz0 ⟨g, 0, none⟩ l.length cap (l.map bv) (by rw [hz1]; simp) (ownsB_cells ⟨g, cap, cur, fz, rfl, hB, hC, hfz, hnc, hcm, hcs, htk⟩) a news.length c (news.map bv) hl1 hnews (by omega) (by unfold maxLen at hmx; omega) (by rw [hz2]; exact growslice_fits (by omega) (by omega))
    have hge := grownCap_ge w (l.length + news.length) cap e
    refine ⟨_, _, hr, ⟨w.heap.size, _, _, (0, 0), by rw [List.length_append], hbase, heap_alloc_new w.drew _, .inl rfl, by rw [List.length_append]; exact hge, grownCap_le_maxLen w _ _ e hmx, ?_, ?_⟩, ⟨rfl, rfl, rfl, by simp, fun k hk _ => Go.heap_alloc_old w.drew _ hk⟩⟩
    · have hz : (Value.int IntKind.u8 0).cells.size = 1 := rfl
      simp only [Array.size_append, List.size_toArray, size_zeroCells, hz, List.length_map]
      omega
    · simp only [Array.toList_append]
      rw [List.map_append, show (l ++ news).length = (l.map bv ++ news.map bv).length from by simp]
      exact List.take_left
theorem conv_backB (w : World) (ts tx te : TypeId) (B : Nat) (v : Value) (l : List UInt8) (hts : P.underlying ts = some (.slice te)) (hte : P.underlying te = some (.int .u8)) (htx : P.underlying tx = some .string) (hown : OwnsB w B te v l) :
    (convert ts tx v).run P w = .ok (.string ⟨l.toArray⟩) w := by
  obtain ⟨g, cap, cur, fz, rfl, hB, hC, hfz, hnc, hcm, hcs, htk⟩ := hown
  refine run_convert_bytes_back w ts tx te ⟨g, 0, none⟩ cap l hts hte htx ?_
  intro j hj
  refine ownsB_cells ⟨g, cap, cur, fz, rfl, hB, hC, hfz, hnc, hcm, hcs, htk⟩ j _ ?_
  simp [bv, hj]
end
theorem append_madeS {P : Program} (w : World) (B : Nat) (t u ty e : TypeId) (ht : P.underlying t = some (.slice e)) (hu : P.underlying u = some .string) (hinfo : (P.info? e).map (fun i => (i.zero, i.size, i.bytes)) = some (some (.int .u8 0), 1, 1))
    (v : Value) (l : List UInt8) (s : ByteArray) (hown : OwnsB w B e v l) (hlen : l.length + s.size ≤ 70368744177664) (hbase : B ≤ w.heap.size) :
    ∃ v' w', (Builtin.append_ #[t, u] ty #[v, .string s]).run P w = .ok v' w' ∧ OwnsB w' B e v' (l ++ s.data.toList) ∧ w.grownBy w' v.ownBlock := by
  obtain ⟨i0, hi, hz0, hz1, hz2⟩ := info_parts hinfo
  obtain ⟨g, cap, cur, fz, rfl, hB, hC, hfz, hnc, hcm, hcs, htk⟩ := hown
  have hsl : (s.data.toList.map bv).length = s.size := by rw [List.length_map]; rfl
  have hsc : Lib.strCells s = s.data.toList.map bv := rfl
  have hmx : l.length + s.size ≤ maxLen := by unfold maxLen; omega
  by_cases hroom : l.length + s.size ≤ cap
  · have hf := Lib.run_firstCells_string (P := P) w 1 s
    have hst := store_behind (P := P) g l.length e fz (s.data.toList.map bv) 0 cur w hC hfz (by rw [hsl]; omega) (bv_one s.data.toList)
    rw [hsc] at hf
    simp only [Nat.add_zero] at hst
    obtain ⟨X, hX⟩ : ∃ X, X = (cur.toList.take l.length ++ s.data.toList.map bv ++ cur.toList.drop (l.length + (s.data.toList.map bv).length)).toArray := ⟨_, rfl⟩
    rw [← hX] at hst
    have hXs : X.size = cur.size := by rw [hX]; simp only [List.size_toArray, List.length_append, List.length_take, List.length_drop, Array.length_toList, hsl]; omega
    refine ⟨.slice (some ⟨g, 0, none⟩) (l.length + s.size) cap, w.setRow g X, ?_, ⟨g, cap, X, fz, by rw [List.length_append]; rfl, hB, setRow_heap w g cur X e fz hC, ?_, by rw [List.length_append]; exact hroom, hcm, ?_, ?_⟩, ⟨rfl, rfl, rfl, by simp, fun k _ hk => setRow_other w g k _ (fun e => hk (by simp [Value.ownBlock, e]))⟩⟩
    · simp [Builtin.append_, run_underlying ht, run_underlying hu, sizeOf, typeInfo, hi, hz1, Builtin.lenOf, hroom, hf, Addr.add_lit, hst]
    · rcases hfz with h | h
      · exact .inl h
      · exact .inr (by omega)
    · omega
    · rw [hX, htk, List.map_append, show (l ++ s.data.toList).length = (l.map bv ++ s.data.toList.map bv).length from by simp]
      exact List.take_left
  · have hr := Lib.run_append_grow_string (P := P) w t u ty e i0 (.int .u8 0) ht hu hi hz0 ⟨g, 0, none⟩ l.length cap (l.map bv) (by rw [hz1]; simp) (ownsB_cells ⟨g, cap, cur, fz, rfl, hB, hC, hfz, hnc, hcm, hcs, htk⟩) s (by omega) (by unfold maxLen at hmx; omega) (by rw [hz2]; exact growslice_fits (by omega) (by omega))
    have hge := grownCap_ge w (l.length + s.size) cap e
    rw [hsc] at hr
    refine ⟨_, _, hr, ⟨w.heap.size, _, _, (0, 0), by rw [List.length_append]; rfl, hbase, heap_alloc_new w.drew _, .inl rfl, by rw [List.length_append]; exact hge, grownCap_le_maxLen w _ _ e hmx, ?_, ?_⟩, ⟨rfl, rfl, rfl, by simp, fun k hk _ => Go.heap_alloc_old w.drew _ hk⟩⟩
    · have hz : (Value.int IntKind.u8 0).cells.size = 1 := rfl
      simp only [Array.size_append, List.size_toArray, size_zeroCells, hz, List.length_map, hsl]
      have e1 : s.data.toList.length = s.size := rfl
      omega
    · simp only [Array.toList_append]
      rw [List.map_append, show (l ++ s.data.toList).length = (l.map bv ++ s.data.toList.map bv).length from by simp]
      exact List.take_left
theorem app_textB {P : Program} {ops : Array Oper} {rest : List Oper} {o : Oper} {a : Act} {Q : Exit → Act → World → Prop} (w : World) (t u e : TypeId) (ht : P.underlying t = some (.slice e)) (hu : P.underlying u = some .string) (hinfo : (P.info? e).map (fun i => (i.zero, i.size, i.bytes)) = some (some (.int .u8 0), 1, 1))
    (B : Nat) (hgd : o.guard = none) (sl x : Operand) (ho : o.op = .call { callee := .builtin .append, args := #[sl, x], argTypes := #[t, u] }) (v : Value) (l : List UInt8) (s : ByteArray) (hs : a.eval sl = v) (hown : OwnsB w B e v l) (hx : a.eval x = .string s)
    (hlen : l.length + s.size ≤ 70368744177664) (hbase : B ≤ w.heap.size)
    (h : ∀ v' w', OwnsB w' B e v' (l ++ s.data.toList) → w.grownBy w' v.ownBlock → wpList P ops Q rest (a.put o.dst v') w') : wpList P ops Q (o :: rest) a w := by
  refine wpList_plain hgd fun K hK => ?_
  obtain ⟨v', w', hr, h2, h3⟩ := append_madeS (P := P) w B t u o.type e ht hu hinfo v l s hown hlen hbase
  unfold Oper.wp execOp
  simp only [ho, resolve, invoke, builtin, Sem.run_bind, Sem.run_pure, Result.andThen_ok, List.map_toArray, List.map_cons, List.map_nil, hs, hx, hr]
  exact hK _ _ (h v' w' h2 h3)
def catB : ByteArray → List ByteArray → ByteArray
  | s, [] => s
  | s, x :: r => catB (s ++ x) r
theorem catB_snoc : ∀ (ts : List ByteArray) (s x : ByteArray), catB s (ts ++ [x]) = catB s ts ++ x
  | [], _, _ => rfl
  | t :: r, s, x => catB_snoc r (s ++ t) x
theorem catB_size : ∀ (ts : List ByteArray) (s : ByteArray) (M : Nat), (∀ x ∈ ts, x.size ≤ M) → (catB s ts).size ≤ s.size + ts.length * M
  | [], s, M, _ => by simp [catB]
  | t :: r, s, M, h => by
    have h1 := catB_size r (s ++ t) M (fun x hx => h x (List.mem_cons_of_mem _ hx))
    have h2 := h t List.mem_cons_self
    rw [ByteArray.size_append] at h1
    rw [catB, List.length_cons, Nat.add_mul, Nat.one_mul]
    omega
theorem written_any (h : ByteArray) (ts : List ByteArray) (ao : Option Addr) (cap : Nat) (w : World) (hh : h.size ≤ 1048600) (hl : ts.length ≤ 1048576) (hts : TextsAt w ao ts) (hz : ∀ x ∈ ts, x.size ≤ 1048576) :
    Calls Tryz.prog 108 #[.string h, .slice ao ts.length cap] w fun e w' => e = .returned (.string (catB h ts)) ∧ Below w.heap.size w w' := by
  have HT := hide hts
  have HZ := hide hz
  clear hts hz
  obtain ⟨w1, C1, hcv, b1, hs1, ho1⟩ := conv_made (P := Tryz.prog) w 9 22 5 h Tryz.underlying9 Tryz.underlying22 Tryz.underlying5 (by unfold maxLen; omega)
  have B1 := hide b1
  have HO1 : Hid (OwnsB w1 w.heap.size 5 (.slice (some ⟨w.heap.size, 0, none⟩) h.size C1) (catB h (ts.take 0)).data.toList) := by
    show OwnsB _ _ _ _ _
    rw [List.take_zero, catB]
    exact ho1
  clear b1 hs1 ho1
  go_enter Tryz.func108, Tryz.ntmps108
  go_wp2_with fail
  go_loopw [5, 12] (fun vo ii wr => ∃ (k : Nat), ii = .int .i64 k ∧ k ≤ ts.length ∧ Hid (OwnsB wr w.heap.size 5 vo (catB h (ts.take k)).data.toList) ∧ Hid (Below w.heap.size w wr)) (fun _ ii _ => ts.length - (intOf ii).toNat)
  case atStart => exact ⟨0, rfl, Nat.zero_le _, HO1, B1⟩
  case round =>
    obtain ⟨k, rfl, hk, HO, HB⟩ := hrel
    have hws := HB.out.size
    by_cases hlt : k < ts.length
    · have hlt' : decide ((k : Int) < (ts.length : Int)) = true := by simp; omega
      have hi0 : (0 : Int) ≤ (k : Int) := by omega
      have hi1 : (k : Int) < (ts.length : Int) := by omega
      obtain ⟨b, off, rfl, hbw, hd0⟩ := textsAt_keep HT.out HB.out k hlt
      have hxz := HZ.out ts[k] (List.getElem_mem hlt)
      have htk := hide (List.take_succ_eq_append_getElem hlt)
      generalize ts[k] = T at hd0 hxz htk
      obtain ⟨LL, HLL⟩ : ∃ LL, Hid (LL = (catB h (ts.take k)).data.toList) := ⟨_, rfl⟩
      rw [← HLL.out] at HO
      have hLl : LL.length + T.size ≤ 70368744177664 := by
        have h1 := catB_size (ts.take k) h 1048576 (fun x hx => HZ.out x (List.mem_of_mem_take hx))
        have h3 : (ts.take k).length ≤ 1048576 := by rw [List.length_take]; omega
        have h4 : (ts.take k).length * 1048576 ≤ 1048576 * 1048576 := Nat.mul_le_mul_right _ h3
        have e1 : LL.length = (catB h (ts.take k)).size := by rw [HLL.out]; rfl
        omega
      go_wp2_with (at_builtin; refine app_textB _ 22 9 5 Tryz.underlying22 Tryz.underlying9 Tryz.info5 w.heap.size rfl _ _ rfl _ LL T rfl HO.out rfl hLl hws ?_; intro v7 w7 ho7 hg7; have HO7 := hide ho7; have HG7 := hide hg7; clear ho7 hg7)
      go_roundw
      case rel =>
        refine ⟨k + 1, by go_num, by omega, ?_, HB.out.grown HG7.out hws (fun g hg => (ownsB_lt HO.out g hg).1)⟩
        have e2 : (catB h (ts.take (k + 1))).data.toList = LL ++ T.data.toList := by
          rw [HLL.out, htk.out, catB_snoc]
          simp
        show OwnsB _ _ _ _ _
        rw [e2]
        exact HO7.out
      case measure => simp [intOf]; omega
    · have hlt' : decide ((k : Int) < (ts.length : Int)) = false := by simp; omega
      rw [show ts.take k = ts from List.take_of_length_le (by omega)] at HO
      obtain ⟨L, HL⟩ : ∃ L, Hid ((catB h ts).data.toList = L) := ⟨_, rfl⟩
      rw [HL.out] at HO
      have hcv := conv_backB (P := Tryz.prog) wr 22 9 5 _ u5 L Tryz.underlying22 Tryz.underlying5 Tryz.underlying9 HO.out
      have HR : Hid ((⟨L.toArray⟩ : ByteArray) = catB h ts) := by show _ = _; rw [← HL.out]
      clear HL
      obtain ⟨g, co, cur, fz, rfl, -, -, -, hLc, hcm, -, -⟩ := HO.out
      go_wp2
      go_ret
      rw [HR.out]
      exact ⟨rfl, HB.out⟩
theorem textsAt_two (w : World) (a b : ByteArray) : TextsAt (w.alloc (.cells #[.string a, .string b] 9)) (some ⟨w.heap.size, 0, none⟩) [a, b] := by
  refine textsAt_in (heap_alloc_new w _) ?_
  intro j hj _
  match j, hj with
  | 0, _ => rfl
  | 1, _ => rfl
def lineB (m s : ByteArray) : ByteArray := (m ++ s) ++ ⟨#[13, 10]⟩
theorem written_line (m s : ByteArray) (w : World) (hm : m.size ≤ 1048600) (hs : s.size ≤ 1048576) :
    Calls Tryz.prog 108 #[.string m, .slice (some ⟨w.heap.size, 0, none⟩) 2 2] (w.alloc (.cells #[.string s, .string ⟨#[13, 10]⟩] 9)) fun e w' => e = .returned (.string (lineB m s)) ∧ Below w.heap.size w w' := by
  refine (written_any m [s, ⟨#[13, 10]⟩] (some ⟨w.heap.size, 0, none⟩) 2 _ hm (by simp) (textsAt_two w s _) ?_).mono ?_
  · intro x hx
    rcases List.mem_cons.1 hx with rfl | hx
    · exact hs
    · obtain rfl : x = ⟨#[13, 10]⟩ := by simpa using hx
      decide
  · rintro e w' ⟨rfl, hb⟩
    exact ⟨rfl, ((Below.refl _ w).alloc (Nat.le_refl _) _).trans (hb.mono (by simp))⟩
theorem implSimple_any (s : ByteArray) (w : World) (hs : s.size ≤ 1048576) : Calls Tryz.prog 69 #[.string s] w fun e w' => e = .returned (.string (lineB ⟨#[43]⟩ s)) ∧ Below w.heap.size w w' := by
  have HW := hide (fun W => written_line ⟨#[43]⟩ s W (by decide) hs)
  generalize lineB ⟨#[43]⟩ s = R at HW
  go_enter Tryz.func69, Tryz.ntmps69
  go_wp2_with fail
  refine (HW.out _).mono ?_
  rintro e w1 ⟨rfl, b1⟩
  go_wp2
  go_ret
  exact ⟨rfl, b1⟩
theorem implFault_any (s : ByteArray) (w : World) (hs : s.size ≤ 1048576) : Calls Tryz.prog 67 #[.string s] w fun e w' => e = .returned (.string (lineB ⟨#[45]⟩ s)) ∧ Below w.heap.size w w' := by
  have HW := hide (fun W => written_line ⟨#[45]⟩ s W (by decide) hs)
  generalize lineB ⟨#[45]⟩ s = R at HW
  go_enter Tryz.func67, Tryz.ntmps67
  go_wp2_with fail
  refine (HW.out _).mono ?_
  rintro e w1 ⟨rfl, b1⟩
  go_wp2
  go_ret
  exact ⟨rfl, b1⟩
def numB (n : Int) : ByteArray := ⟨(Wd.decS n).toArray⟩
theorem numB_size (n : Int) (h0 : -9223372036854775808 ≤ n) (h1 : n ≤ 9223372036854775807) : (numB n).size ≤ 21 := by
  show (Wd.decS n).toArray.size ≤ 21
  rw [List.size_toArray]
  have h := Wd.decA_length 20 n.natAbs [] 20 (by omega)
  unfold Wd.decS
  split
  · decide
  · split
    · rw [List.length_cons]; simp at h; omega
    · simp at h; omega
def hdB (m : ByteArray) (n : Int) : ByteArray := (m ++ numB n) ++ ⟨#[13, 10]⟩
theorem hdB_size (m : ByteArray) (n : Int) (hm : m.size ≤ 1) (h0 : -9223372036854775808 ≤ n) (h1 : n ≤ 9223372036854775807) : (hdB m n).size ≤ 24 := by
  have := numB_size n h0 h1
  have h2 : (⟨#[13, 10]⟩ : ByteArray).size = 2 := rfl
  unfold hdB
  rw [ByteArray.size_append, ByteArray.size_append]
  omega
theorem headLineI_any (m : ByteArray) (n : Int) (w : World) (hm : m.size ≤ 1) (h0 : -9223372036854775808 ≤ n) (h1 : n ≤ 9223372036854775807) (htab : Lib.TabIs Tryz.prog w "internal/strconv.uint64pow10" .u64 Lib.pow10Tab) :
    Calls Tryz.prog 137 #[.string m, .int .i64 n] w fun e w' => e = .returned (.string (hdB m n)) ∧ Below w.heap.size w w' := by
  have HD := hide (implDec_any n w h0 h1 htab)
  have HE : Hid (hdB m n = (m ++ numB n) ++ ⟨#[13, 10]⟩) := rfl
  have hd := numB_size n h0 h1
  change Hid (Calls _ _ _ _ fun e w' => e = .returned (.string (numB n)) ∧ _) at HD
  generalize numB n = D at HD HE hd
  rw [HE.out]
  clear htab
  have hc2 : (⟨#[13, 10]⟩ : ByteArray).size = 2 := rfl
  go_enter Tryz.func137, Tryz.ntmps137
  go_wp2_with fail
  refine (HD.out).mono ?_
  rintro e w1 ⟨rfl, b1⟩
  have B1 := hide b1
  clear b1
  go_wp2
  go_ret
  exact ⟨rfl, B1.out⟩
end Go.Proofs.YtifjneldjjmeaaaGreatDoor
