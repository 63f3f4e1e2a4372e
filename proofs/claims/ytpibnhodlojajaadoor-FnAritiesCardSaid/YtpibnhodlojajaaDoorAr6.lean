import Derived.Shelf.Small.Utf8
import Derived.Shelf.Small.Strs
import Derived.Shelf.Strconv.Atoi
import Derived.Shelf.Strconv.Itoa0
import Derived.Shelf.Strconv.Itoa1
import Derived.Shelf.LaysM
import Derived.Shelf.Strconv.Itoa2
import Derived.Shelf.Strconv.Itoa3
import Derived.Shelf.Strconv.AtoiErrFast
import Derived.Shelf.Strconv.ParseIntEmpty
import Derived.Shelf.Strconv.AtoiFail
import Derived.Shelf.Strconv.Clone
import Derived.Shelf.Strconv.SyntaxError
import Derived.Shelf.LaysC
import Derived.Shelf.Strconv.ToError
import Derived.Shelf.Strconv.Lower
import Derived.Shelf.Strconv.ParseUint10
import Derived.Shelf.Strconv.ParseUint10Empty
import Derived.Shelf.Strconv.ParseUint10Any
import Derived.Shelf.Strconv.ParseInt10
import Derived.Shelf.Strconv.AtoiLong
import Derived.Shelf.Strconv.AtoiInnerAll
import Derived.Shelf.Strconv.RangeError
import Derived.Shelf.Strconv.ToErrorRange
import Derived.Shelf.Strconv.AtoiAll
import Derived.Shelf.Strconv.ErrVarAll
import Derived.Shelf.Strings.Search1
import Derived.Shelf.Unicode.Decode
import Derived.Shelf.Strings.Runes
import Derived.Shelf.Strings.AsciiSet
import Derived.Shelf.Unicode.DecodeSlow
import Derived.Shelf.Unicode.DecodeAny
import Derived.Shelf.Unicode.DecodeLast
import Derived.Test.YtpibnhodlojajaaDoorProg
import Derived.Lib.ItoaMem
import Derived.WalkSmall
import Derived.Lib.SmallJoins
import Derived.OpenShut
import Derived.BigQuiet
import Derived.Deep.RegionHeld3
import Derived.Lib.Strings
import Derived.Lib.Walk
import Derived.Lib.BufferWrite
import Derived.Lib.UnsafeStr
import Derived.Laws.MakeOwn
import Derived.Deep.RegionLaw
import Derived.Lib.AtoiTie
import Derived.Test.YtpibnhodlojajaaDoorAr0
import Derived.Test.YtpibnhodlojajaaDoorAr5
import Derived.Test.YtpibnhodlojajaaDoorAr2
set_option maxRecDepth 100000
set_option maxHeartbeats 1000000
namespace Go.Proofs
open Go.Shelf
def Tryd.laysM171_ren : Go.Shelf.Ren := ⟨fun | 171 => 45 | 243 => 55 | 246 => 62 | 283 => 68 | 284 => 69 | 285 => 70 | 286 => 71 | 129 => 78 | 317 => 77 | 318 => 79 | 319 => 80 | 320 => 81 | 337 => 83 | 338 => 84 | n => n, fun | 3 => 3 | 9 => 9 | 2 => 2 | 4 => 4 | 171 => 100 | 0 => 0 | 53 => 87 | 37 => 25 | 5 => 5 | 173 => 103 | 212 => 110 | 51 => 111 | 20 => 20 | 213 => 112 | 46 => 68 | 232 => 119 | 233 => 120 | n => n, fun | 17 => 2 | 18 => 6 | 19 => 7 | n => n⟩
theorem Tryd.laysM171 : Go.Proofs.LaysM.n171 Tryd.prog Tryd.laysM171_ren := {
  mixed := by kernel_rfl
  f129 := Tryd.func78.trans (congrArg some (by kernel_rfl))
  f171 := Tryd.func45.trans (congrArg some (by kernel_rfl))
  f243 := Tryd.func55.trans (congrArg some (by kernel_rfl))
  f246 := Tryd.func62.trans (congrArg some (by kernel_rfl))
  f283 := Tryd.func68.trans (congrArg some (by kernel_rfl))
  f284 := Tryd.func69.trans (congrArg some (by kernel_rfl))
  f285 := Tryd.func70.trans (congrArg some (by kernel_rfl))
  f286 := Tryd.func71.trans (congrArg some (by kernel_rfl))
  f317 := Tryd.func77.trans (congrArg some (by kernel_rfl))
  f318 := Tryd.func79.trans (congrArg some (by kernel_rfl))
  f319 := Tryd.func80.trans (congrArg some (by kernel_rfl))
  f320 := Tryd.func81.trans (congrArg some (by kernel_rfl))
  f337 := Tryd.func83.trans (congrArg some (by kernel_rfl))
  f338 := Tryd.func84.trans (congrArg some (by kernel_rfl))
  t0 := Tryd.underlying0
  a0 := Tryd.isAgg0
  z0 := Tryd.sizeOf0
  v0 := Tryd.zeroValue0
  t2 := Tryd.underlying2
  a2 := Tryd.isAgg2
  z2 := Tryd.sizeOf2
  v2 := Tryd.zeroValue2
  t3 := Tryd.underlying3
  a3 := Tryd.isAgg3
  z3 := Tryd.sizeOf3
  v3 := Tryd.zeroValue3
  t4 := Tryd.underlying4
  a4 := Tryd.isAgg4
  z4 := Tryd.sizeOf4
  v4 := Tryd.zeroValue4
  t5 := Tryd.underlying5
  a5 := Tryd.isAgg5
  z5 := Tryd.sizeOf5
  v5 := Tryd.zeroValue5
  t9 := Tryd.underlying9
  a9 := Tryd.isAgg9
  z9 := Tryd.sizeOf9
  v9 := Tryd.zeroValue9
  t20 := Tryd.underlying20
  a20 := Tryd.isAgg20
  z20 := Tryd.sizeOf20
  v20 := Tryd.zeroValue20
  t37 := Tryd.underlying25
  a37 := Tryd.isAgg25
  z37 := Tryd.sizeOf25
  v37 := Tryd.zeroValue25
  t46 := Tryd.underlying68
  a46 := Tryd.isAgg68
  z46 := Tryd.sizeOf68
  v46 := Tryd.zeroValue68
  t51 := Tryd.underlying111
  a51 := Tryd.isAgg111
  z51 := Tryd.sizeOf111
  v51 := Tryd.zeroValue111
  t53 := Tryd.underlying87
  a53 := Tryd.isAgg87
  z53 := Tryd.sizeOf87
  v53 := Tryd.zeroValue87
  t171 := Tryd.underlying100
  a171 := Tryd.isAgg100
  z171 := Tryd.sizeOf100
  v171 := Tryd.zeroValue100
  t173 := Tryd.underlying103
  a173 := Tryd.isAgg103
  z173 := Tryd.sizeOf103
  v173 := Tryd.zeroValue103
  t212 := Tryd.underlying110
  a212 := Tryd.isAgg110
  z212 := Tryd.sizeOf110
  v212 := Tryd.zeroValue110
  t213 := Tryd.underlying112
  a213 := Tryd.isAgg112
  z213 := Tryd.sizeOf112
  t232 := Tryd.underlying119
  a232 := Tryd.isAgg119
  z232 := Tryd.sizeOf119
  v232 := Tryd.zeroValue119
  t233 := Tryd.underlying120
  a233 := Tryd.isAgg120
  z233 := Tryd.sizeOf120
  v233 := Tryd.zeroValue120
  g17 := by kernel_rfl
  g18 := by kernel_rfl
  g19 := by kernel_rfl
  i0 := by kernel_rfl
  i2 := by kernel_rfl
  i3 := by kernel_rfl
  i4 := by kernel_rfl
  i5 := by kernel_rfl
  i9 := by kernel_rfl
  i20 := by kernel_rfl
  i37 := by kernel_rfl
  i46 := by kernel_rfl
  i51 := by kernel_rfl
  i53 := by kernel_rfl
  i171 := by kernel_rfl
  i173 := by kernel_rfl
  i212 := by kernel_rfl
  i232 := by kernel_rfl
  i233 := by kernel_rfl
  m17 := by kernel_rfl
  m18 := by kernel_rfl
  m19 := by kernel_rfl }
open Go.RowKit Go.Sort Go.Lib in
theorem Tryd.strconv_Itoa (n : Int) (h0 : -9223372036854775808 ≤ n) (h1 : n ≤ 9223372036854775807) (w : World) (htab : Lib.TabIs Tryd.prog w "internal/strconv.uint64pow10" .u64 Lib.pow10Tab) :
    Calls Tryd.prog 45 #[.int .i64 n] w fun e w' => e = .returned (.string ⟨(Lib.itoa n).toArray⟩) ∧ ∃ k os, w' = grow (w.drewN k) os := Any.strconv_Itoa Tryd.laysM171 n h0 h1 w htab
end Go.Proofs
namespace Go.Proofs.YtpibnhodlojajaaDoor
open Go.RowKit
theorem Wd.decA_app : ∀ f n acc, n < 10 ^ f → 0 < n → Wd.decA f n acc = Lib.decDigits n ++ acc
  | 0, n, acc, h, h0 => by simp at h; omega
  | f + 1, n, acc, h, h0 => by
    rw [Wd.decA_step f n acc (by omega)]
    have hfig : ∀ m, m < 10 → Wd.figB m = UInt8.ofNat (48 + m) := by
      intro m hm
      unfold Wd.figB
      rw [Wd.figI_low _ (by omega)]
      congr 1
    by_cases h10 : n < 10
    · rw [show n / 10 = 0 from by omega, Wd.decA_zero, Lib.decDigits_one h10, hfig _ (by omega), show n % 10 = n from by omega]
      rfl
    · rw [Wd.decA_app f (n / 10) _ (Nat.div_lt_of_lt_mul (by rw [Nat.mul_comm, ← Nat.pow_succ]; exact h)) (by omega), hfig _ (by omega)]
      conv => rhs; rw [Lib.decDigits, dif_neg h10]
      simp
theorem Wd.decS_itoa (n : Int) (h0 : -9223372036854775808 ≤ n) (h1 : n ≤ 9223372036854775807) : Lib.itoa n = Wd.decS n := by
  unfold Wd.decS
  by_cases hz : n = 0
  · subst hz
    rw [if_pos rfl]
    show Lib.itoa ((0 : Nat) : Int) = _
    rw [Lib.itoa_nonneg, Lib.decDigits_one (by omega)]
    rfl
  · rw [if_neg hz]
    by_cases hn : n < 0
    · rw [if_pos hn]
      obtain ⟨m, hm⟩ := Int.eq_ofNat_of_zero_le (show 0 ≤ -n by omega)
      have e : n = -(m : Int) := by omega
      subst e
      rw [Lib.itoa_neg m (by omega), Int.natAbs_neg, Int.natAbs_natCast, Wd.decA_app 20 m [] (by omega) (by omega), List.append_nil]
    · rw [if_neg hn]
      obtain ⟨m, rfl⟩ := Int.eq_ofNat_of_zero_le (show 0 ≤ n by omega)
      rw [Lib.itoa_nonneg, Int.natAbs_natCast, Wd.decA_app 20 m [] (by omega) (by omega), List.append_nil]
theorem implDec_any (n : Int) (w : World) (h0 : -9223372036854775808 ≤ n) (h1 : n ≤ 9223372036854775807) (htab : Lib.TabIs Tryd.prog w "internal/strconv.uint64pow10" .u64 Lib.pow10Tab) :
    Calls Tryd.prog 33 #[.int .i64 n] w fun e w' => e = .returned (.string ⟨(Wd.decS n).toArray⟩) ∧ Below w.heap.size w w' := by
  have H := hide htab
  clear htab
  go_enter Tryd.func33, Tryd.ntmps33
  go_wp2_with (go_at_call 45; refine (Tryd.strconv_Itoa n h0 h1 _ H.out).mono ?_; rintro e w' ⟨rfl, k, os, hw⟩)
  go_ret
  rw [← Wd.decS_itoa n h0 h1]
  exact ⟨rfl, ⟨rfl, rfl, rfl, by simp [Sort.grow], fun j hj => by simp [Sort.grow, Array.getElem?_append, hj]⟩⟩
theorem tab_later {w w' : World} (h : Below w.heap.size w w') (ht : Lib.TabIs Tryd.prog w "internal/strconv.uint64pow10" .u64 Lib.pow10Tab) : Lib.TabIs Tryd.prog w' "internal/strconv.uint64pow10" .u64 Lib.pow10Tab := by
  have hg : Tryd.prog.globalNamed "internal/strconv.uint64pow10" = some 2 := by kernel_rfl
  refine var?_below h hg ?_ ht
  rcases Nat.lt_or_ge 2 w.heap.size with h' | h'
  · exact h'
  · unfold Lib.TabIs World.var? at ht
    rw [hg] at ht
    simp [Array.getElem?_eq_none h'] at ht
def numB (n : Int) : ByteArray := ⟨(Wd.decS n).toArray⟩
theorem numB_size (n : Int) (h0 : -9223372036854775808 ≤ n) (h1 : n ≤ 9223372036854775807) : (numB n).size ≤ 21 := by
  show (Wd.decS n).toArray.size ≤ 21
  rw [List.size_toArray]
  have h := Wd.decA_length 20 n.natAbs [] 20 (by omega)
  unfold Wd.decS
  split
  · decide
  · split
    · rw [List.length_cons]; simp at h; omega
    · simp at h; omega
abbrev Pow10 (w : World) : Prop := Lib.TabIs Tryd.prog w "internal/strconv.uint64pow10" .u64 Lib.pow10Tab
end Go.Proofs.YtpibnhodlojajaaDoor
namespace Go.Proofs
open Go.Shelf
def Tryd.laysC172_ren : Go.Shelf.Ren := ⟨fun | 172 => 32 | 244 => 43 | 245 => 44 | 247 => 50 | 279 => 51 | 280 => 52 | 281 => 53 | 282 => 54 | 287 => 59 | 316 => 60 | 171 => 45 | 205 => 61 | 321 => 66 | 322 => 67 | 243 => 55 | 246 => 62 | 283 => 68 | 284 => 69 | 285 => 70 | 286 => 71 | 129 => 78 | 317 => 77 | 318 => 79 | 319 => 80 | 320 => 81 | 337 => 83 | 338 => 84 | n => n, fun | 9 => 9 | 3 => 3 | 75 => 56 | 76 => 57 | 4 => 4 | 5 => 5 | 167 => 77 | 37 => 25 | 0 => 0 | 85 => 78 | 2 => 2 | 168 => 80 | 53 => 87 | 175 => 88 | 46 => 68 | 210 => 91 | 127 => 96 | 145 => 99 | 143 => 97 | 21 => 21 | 171 => 100 | 173 => 103 | 212 => 110 | 51 => 111 | 20 => 20 | 213 => 112 | 232 => 119 | 233 => 120 | 80 => 50 | n => n, fun | 15 => 0 | 16 => 1 | 17 => 2 | 18 => 6 | 19 => 7 | n => n⟩
theorem Tryd.laysC172 : Go.Proofs.LaysC.n172 Tryd.prog Tryd.laysC172_ren := {
  mixed := by kernel_rfl
  f129 := Tryd.func78.trans (congrArg some (by kernel_rfl))
  f171 := Tryd.func45.trans (congrArg some (by kernel_rfl))
  f172 := Tryd.func32.trans (congrArg some (by kernel_rfl))
  f205 := Tryd.func61.trans (congrArg some (by kernel_rfl))
  f243 := Tryd.func55.trans (congrArg some (by kernel_rfl))
  f244 := Tryd.func43.trans (congrArg some (by kernel_rfl))
  f245 := Tryd.func44.trans (congrArg some (by kernel_rfl))
  f246 := Tryd.func62.trans (congrArg some (by kernel_rfl))
  f247 := Tryd.func50.trans (congrArg some (by kernel_rfl))
  f279 := Tryd.func51.trans (congrArg some (by kernel_rfl))
  f280 := Tryd.func52.trans (congrArg some (by kernel_rfl))
  f281 := Tryd.func53.trans (congrArg some (by kernel_rfl))
  f282 := Tryd.func54.trans (congrArg some (by kernel_rfl))
  f283 := Tryd.func68.trans (congrArg some (by kernel_rfl))
  f284 := Tryd.func69.trans (congrArg some (by kernel_rfl))
  f285 := Tryd.func70.trans (congrArg some (by kernel_rfl))
  f286 := Tryd.func71.trans (congrArg some (by kernel_rfl))
  f287 := Tryd.func59.trans (congrArg some (by kernel_rfl))
  f316 := Tryd.func60.trans (congrArg some (by kernel_rfl))
  f317 := Tryd.func77.trans (congrArg some (by kernel_rfl))
  f318 := Tryd.func79.trans (congrArg some (by kernel_rfl))
  f319 := Tryd.func80.trans (congrArg some (by kernel_rfl))
  f320 := Tryd.func81.trans (congrArg some (by kernel_rfl))
  f321 := Tryd.func66.trans (congrArg some (by kernel_rfl))
  f322 := Tryd.func67.trans (congrArg some (by kernel_rfl))
  f337 := Tryd.func83.trans (congrArg some (by kernel_rfl))
  f338 := Tryd.func84.trans (congrArg some (by kernel_rfl))
  t0 := Tryd.underlying0
  a0 := Tryd.isAgg0
  z0 := Tryd.sizeOf0
  v0 := Tryd.zeroValue0
  t2 := Tryd.underlying2
  a2 := Tryd.isAgg2
  z2 := Tryd.sizeOf2
  v2 := Tryd.zeroValue2
  t3 := Tryd.underlying3
  a3 := Tryd.isAgg3
  z3 := Tryd.sizeOf3
  v3 := Tryd.zeroValue3
  t4 := Tryd.underlying4
  a4 := Tryd.isAgg4
  z4 := Tryd.sizeOf4
  v4 := Tryd.zeroValue4
  t5 := Tryd.underlying5
  a5 := Tryd.isAgg5
  z5 := Tryd.sizeOf5
  v5 := Tryd.zeroValue5
  t9 := Tryd.underlying9
  a9 := Tryd.isAgg9
  z9 := Tryd.sizeOf9
  v9 := Tryd.zeroValue9
  t20 := Tryd.underlying20
  a20 := Tryd.isAgg20
  z20 := Tryd.sizeOf20
  v20 := Tryd.zeroValue20
  t21 := Tryd.underlying21
  a21 := Tryd.isAgg21
  z21 := Tryd.sizeOf21
  v21 := Tryd.zeroValue21
  t37 := Tryd.underlying25
  a37 := Tryd.isAgg25
  z37 := Tryd.sizeOf25
  v37 := Tryd.zeroValue25
  t46 := Tryd.underlying68
  a46 := Tryd.isAgg68
  z46 := Tryd.sizeOf68
  v46 := Tryd.zeroValue68
  t51 := Tryd.underlying111
  a51 := Tryd.isAgg111
  z51 := Tryd.sizeOf111
  v51 := Tryd.zeroValue111
  t53 := Tryd.underlying87
  a53 := Tryd.isAgg87
  z53 := Tryd.sizeOf87
  v53 := Tryd.zeroValue87
  t75 := Tryd.underlying56
  a75 := Tryd.isAgg56
  z75 := Tryd.sizeOf56
  v75 := Tryd.zeroValue56
  t76 := Tryd.underlying57
  a76 := Tryd.isAgg57
  z76 := Tryd.sizeOf57
  v76 := Tryd.zeroValue57
  t85 := Tryd.underlying78
  a85 := Tryd.isAgg78
  z85 := Tryd.sizeOf78
  v85 := Tryd.zeroValue78
  t127 := Tryd.underlying96
  a127 := Tryd.isAgg96
  z127 := Tryd.sizeOf96
  v127 := Tryd.zeroValue96
  t143 := Tryd.underlying97
  a143 := Tryd.isAgg97
  z143 := Tryd.sizeOf97
  v143 := Tryd.zeroValue97
  t145 := Tryd.underlying99
  a145 := Tryd.isAgg99
  z145 := Tryd.sizeOf99
  v145 := Tryd.zeroValue99
  t167 := Tryd.underlying77
  a167 := Tryd.isAgg77
  z167 := Tryd.sizeOf77
  v167 := Tryd.zeroValue77
  t168 := Tryd.underlying80
  a168 := Tryd.isAgg80
  z168 := Tryd.sizeOf80
  v168 := Tryd.zeroValue80
  t171 := Tryd.underlying100
  a171 := Tryd.isAgg100
  z171 := Tryd.sizeOf100
  v171 := Tryd.zeroValue100
  t173 := Tryd.underlying103
  a173 := Tryd.isAgg103
  z173 := Tryd.sizeOf103
  v173 := Tryd.zeroValue103
  t175 := Tryd.underlying88
  a175 := Tryd.isAgg88
  z175 := Tryd.sizeOf88
  v175 := Tryd.zeroValue88
  t210 := Tryd.underlying91
  a210 := Tryd.isAgg91
  z210 := Tryd.sizeOf91
  v210 := Tryd.zeroValue91
  t212 := Tryd.underlying110
  a212 := Tryd.isAgg110
  z212 := Tryd.sizeOf110
  v212 := Tryd.zeroValue110
  t213 := Tryd.underlying112
  a213 := Tryd.isAgg112
  z213 := Tryd.sizeOf112
  t232 := Tryd.underlying119
  a232 := Tryd.isAgg119
  z232 := Tryd.sizeOf119
  v232 := Tryd.zeroValue119
  t233 := Tryd.underlying120
  a233 := Tryd.isAgg120
  z233 := Tryd.sizeOf120
  v233 := Tryd.zeroValue120
  g15 := by kernel_rfl
  g16 := by kernel_rfl
  g17 := by kernel_rfl
  g18 := by kernel_rfl
  g19 := by kernel_rfl
  t80 := Tryd.underlying50
  a80 := Tryd.isAgg50
  z80 := Tryd.sizeOf50
  v80 := Tryd.zeroValue50
  i0 := by kernel_rfl
  i2 := by kernel_rfl
  i3 := by kernel_rfl
  i4 := by kernel_rfl
  i5 := by kernel_rfl
  i9 := by kernel_rfl
  i20 := by kernel_rfl
  i21 := by kernel_rfl
  i37 := by kernel_rfl
  i46 := by kernel_rfl
  i51 := by kernel_rfl
  i53 := by kernel_rfl
  i75 := by kernel_rfl
  i76 := by kernel_rfl
  i80 := by kernel_rfl
  i85 := by kernel_rfl
  i127 := by kernel_rfl
  i143 := by kernel_rfl
  i145 := by kernel_rfl
  i167 := by kernel_rfl
  i168 := by kernel_rfl
  i171 := by kernel_rfl
  i173 := by kernel_rfl
  i175 := by kernel_rfl
  i210 := by kernel_rfl
  i212 := by kernel_rfl
  i232 := by kernel_rfl
  i233 := by kernel_rfl
  m15 := by kernel_rfl
  m16 := by kernel_rfl
  m17 := by kernel_rfl
  m18 := by kernel_rfl
  m19 := by kernel_rfl
  c0 := by kernel_rfl
  c2 := by kernel_rfl
  c3 := by kernel_rfl
  c4 := by kernel_rfl
  c5 := by kernel_rfl
  c9 := by kernel_rfl
  c20 := by kernel_rfl
  c21 := by kernel_rfl
  c37 := by kernel_rfl
  c46 := by kernel_rfl
  c51 := by kernel_rfl
  c53 := by kernel_rfl
  c75 := by kernel_rfl
  c76 := by kernel_rfl
  c80 := by kernel_rfl
  c85 := by kernel_rfl
  c127 := by kernel_rfl
  c143 := by kernel_rfl
  c145 := by kernel_rfl
  c167 := by kernel_rfl
  c168 := by kernel_rfl
  c171 := by kernel_rfl
  c173 := by kernel_rfl
  c175 := by kernel_rfl
  c210 := by kernel_rfl
  c212 := by kernel_rfl
  c213 := by kernel_rfl
  c232 := by kernel_rfl
  c233 := by kernel_rfl }
open Go.RowKit in
theorem Tryd.strconv_Atoi_ok (s : ByteArray) (hmax : s.size ≤ 9223372036854775806) (v : Int) (h : Lib.atoiAll s.data.toList = .ok v) (w : World) :
    Calls Tryd.prog 32 #[.string s] w fun e w' => e = .returned (.tuple #[.int .i64 v, .nilIface]) ∧ (w' = w ∨ ∃ t, w' = Lib.bytesWorld w 5 t) := Any.strconv_Atoi_ok Tryd.laysC172 s hmax v h w
open Go.RowKit in
theorem Tryd.strconv_Atoi_syntax_var (s : ByteArray) (hlim : s.size ≤ 281474976710656) (h : Lib.atoiAll s.data.toList = .«syntax») (tp : TypeId) (p : Value) (w : World) (hvar : w.var? Tryd.prog "strconv.ErrSyntax" = some #[.iface tp p]) :
    Calls Tryd.prog 32 #[.string s] w fun e w' => ∃ N, e = .returned (.tuple #[.int .i64 0, .iface 80 (.pointer (some ⟨N, 0, none⟩))]) ∧ w.heap.size ≤ N ∧ w'.heap[N]? = some (.cells #[.string ⟨#[65, 116, 111, 105]⟩, .string s, .iface tp p] 91 (0, 0)) ∧ Below w.heap.size w w' := Any.strconv_Atoi_syntax_var Tryd.laysC172 s hlim h tp p w hvar
open Go.RowKit in
theorem Tryd.strconv_Atoi_range_var (s : ByteArray) (hlim : s.size ≤ 281474976710656) (h : Lib.atoiAll s.data.toList = .range) (tp : TypeId) (p : Value) (w : World) (hvar : w.var? Tryd.prog "strconv.ErrRange" = some #[.iface tp p]) :
    Calls Tryd.prog 32 #[.string s] w fun e w' => ∃ N, e = .returned (.tuple #[.int .i64 (Lib.atoiSat s.data.toList), .iface 80 (.pointer (some ⟨N, 0, none⟩))]) ∧ w.heap.size ≤ N ∧ w'.heap[N]? = some (.cells #[.string ⟨#[65, 116, 111, 105]⟩, .string s, .iface tp p] 91 (0, 0)) ∧ Below w.heap.size w w' := Any.strconv_Atoi_range_var Tryd.laysC172 s hlim h tp p w hvar
end Go.Proofs
namespace Go.Proofs.YtpibnhodlojajaaDoor
open Go.RowKit
theorem back_txt (x : ByteArray) : (⟨x.data.toList.toArray⟩ : ByteArray) = x := by cases x; simp
def MaxR (w : World) (m : Int) : Prop := w.cell? ⟨5, 0, none⟩ = some (.int .i64 m) ∧ 5 < w.heap.size
theorem maxR_of {w : World} {m : Int} (h : w.cell? ⟨5, 0, none⟩ = some (.int .i64 m)) : MaxR w m := by
  refine ⟨h, ?_⟩
  rcases Nat.lt_or_ge 5 w.heap.size with h' | h'
  · exact h'
  · simp [World.cell?, Array.getElem?_eq_none h'] at h
structure RVars (w : World) : Prop where
  pow : Pow10 w
  syn : ∃ tp p, w.var? Tryd.prog "strconv.ErrSyntax" = some #[.iface tp p]
  rng : ∃ tp p, w.var? Tryd.prog "strconv.ErrRange" = some #[.iface tp p]
  mx : ∃ m, MaxR w m
theorem var_later {w w' : World} {nm : String} {g : Nat} (hg : Tryd.prog.globalNamed nm = some g) (h : Below w.heap.size w w') {x : Value} (hv : w.var? Tryd.prog nm = some #[x]) : w'.var? Tryd.prog nm = some #[x] := by
  refine var?_below h hg ?_ hv
  rcases Nat.lt_or_ge g w.heap.size with h' | h'
  · exact h'
  · unfold World.var? at hv
    rw [hg] at hv
    simp [Array.getElem?_eq_none h'] at hv
theorem rvars_below {w w' : World} (h : RVars w) (hb : Below w.heap.size w w') : RVars w' := by
  refine ⟨tab_later hb h.pow, ?_, ?_, ?_⟩
  · obtain ⟨tp, p, hv⟩ := h.syn
    exact ⟨tp, p, var_later (g := 0) (by kernel_rfl) hb hv⟩
  · obtain ⟨tp, p, hv⟩ := h.rng
    exact ⟨tp, p, var_later (g := 1) (by kernel_rfl) hb hv⟩
  · obtain ⟨m, h1, h2⟩ := h.mx
    exact ⟨m, (hb.cell (p := ⟨5, 0, none⟩) h2).trans h1, Nat.lt_of_lt_of_le h2 hb.size⟩
def valI (l : ByteArray) : Option Int := match Lib.atoiAll l.data.toList with | .ok v => (if l = numB v then some v else none) | .syntax => none | .range => none
theorem whole_some (l : ByteArray) (v : Int) (w : World) (hz : l.size ≤ 1048576) (hl : valI l = some v) (hv : RVars w) :
    Calls Tryd.prog 18 #[.string l] w fun e w' => e = .returned (.tuple #[.int .i64 v, .bool true]) ∧ Below w.heap.size w w' := by
  unfold valI at hl
  cases ha : Lib.atoiAll l.data.toList with
  | «syntax» => rw [ha] at hl; cases hl
  | range => rw [ha] at hl; cases hl
  | ok u =>
    rw [ha] at hl
    simp only at hl
    split at hl
    · rename_i hlu
      obtain rfl : u = v := by simpa using hl
      have hb := Lib.atoiAll_bounds ha
      have HA := hide (fun W => Tryd.strconv_Atoi_ok l (by omega) u ha W)
      have HD : Hid (∀ W, Below w.heap.size w W → Calls Tryd.prog 33 #[.int .i64 u] W fun e w' => e = .returned (.string l) ∧ Below W.heap.size W w') := fun W hW => by rw [hlu]; exact implDec_any u W hb.1 hb.2 (tab_later hW hv.pow)
      have he : (l.toList == l.toList) = true := beq_self_eq_true _
      clear hl hlu ha hv hb
      go_enter Tryd.func18, Tryd.ntmps18
      go_wp2_with fail
      refine (HA.out _).mono ?_
      rintro e w1 ⟨rfl, hw1⟩
      have B1 : Hid (Below w.heap.size w w1) := by
        rcases hw1 with rfl | ⟨t, rfl⟩
        · exact Below.refl _ _
        · exact Lib.bytesWorld_below w 5 t
      clear hw1
      go_wp2_with fail
      refine (HD.out _ B1.out).mono ?_
      rintro e w2 ⟨rfl, b2⟩
      go_wp2
      go_ret2
      exact ⟨rfl, B1.out.trans (b2.mono B1.out.size)⟩
    · cases hl
theorem whole_none (l : ByteArray) (w : World) (hz : l.size ≤ 1048576) (hl : valI l = none) (hv : RVars w) :
    Calls Tryd.prog 18 #[.string l] w fun e w' => e = .returned (.tuple #[.int .i64 0, .bool false]) ∧ Below w.heap.size w w' := by
  unfold valI at hl
  cases ha : Lib.atoiAll l.data.toList with
  | «syntax» =>
    obtain ⟨tp, p, hs⟩ := hv.syn
    have HA := hide (Tryd.strconv_Atoi_syntax_var l (by omega) ha tp p w hs)
    clear hl ha hv hs
    go_enter Tryd.func18, Tryd.ntmps18
    go_wp2_with fail
    refine (HA.out).mono ?_
    rintro e w1 ⟨N, rfl, -, -, b1⟩
    go_wp2
    go_ret2
    exact ⟨rfl, b1⟩
  | range =>
    obtain ⟨tp, p, hs⟩ := hv.rng
    have HA := hide (Tryd.strconv_Atoi_range_var l (by omega) ha tp p w hs)
    clear hl ha hv hs
    go_enter Tryd.func18, Tryd.ntmps18
    go_wp2_with fail
    refine (HA.out).mono ?_
    rintro e w1 ⟨N, rfl, -, -, b1⟩
    go_wp2
    go_ret2
    exact ⟨rfl, b1⟩
  | ok u =>
    rw [ha] at hl
    simp only at hl
    split at hl
    · cases hl
    · rename_i hlu
      have hb := Lib.atoiAll_bounds ha
      have HA := hide (fun W => Tryd.strconv_Atoi_ok l (by omega) u ha W)
      have HD : Hid (∀ W, Below w.heap.size w W → Calls Tryd.prog 33 #[.int .i64 u] W fun e w' => e = .returned (.string (numB u)) ∧ Below W.heap.size W w') := fun W hW => implDec_any u W hb.1 hb.2 (tab_later hW hv.pow)
      have he : ((numB u).toList == l.toList) = false := txt_ne (fun h => hlu h.symm)
      generalize numB u = D at HD he
      clear hl hlu ha hv hb
      go_enter Tryd.func18, Tryd.ntmps18
      go_wp2_with fail
      refine (HA.out _).mono ?_
      rintro e w1 ⟨rfl, hw1⟩
      have B1 : Hid (Below w.heap.size w w1) := by
        rcases hw1 with rfl | ⟨t, rfl⟩
        · exact Below.refl _ _
        · exact Lib.bytesWorld_below w 5 t
      clear hw1
      go_wp2_with fail
      refine (HD.out _ B1.out).mono ?_
      rintro e w2 ⟨rfl, b2⟩
      go_wp2
      go_ret2
      exact ⟨rfl, B1.out.trans (b2.mono B1.out.size)⟩
theorem bt_list (L : List UInt8) (p : Nat) (h : p < L.length) : Wd.bt ⟨L.toArray⟩ p = L[p].toNat := by
  unfold Wd.bt
  rw [dif_pos (show p < (⟨L.toArray⟩ : ByteArray).size from h)]
  rfl
theorem numF_same (s t : ByteArray) : ∀ k, (∀ p, p < k → Wd.bt s p = Wd.bt t p) → Wd.numF s k = Wd.numF t k
  | 0, _ => rfl
  | k + 1, h => by rw [Wd.numF, Wd.numF, numF_same s t k (fun p hp => h p (by omega)), h k (by omega)]
theorem dec_facts : ∀ n, Wd.digs ⟨(Lib.decDigits n).toArray⟩ (Lib.decDigits n).length ∧ Wd.numF ⟨(Lib.decDigits n).toArray⟩ (Lib.decDigits n).length = n ∧ 0 < (Lib.decDigits n).length ∧ (0 < n → Wd.bt ⟨(Lib.decDigits n).toArray⟩ 0 ≠ 48) := by
  intro n
  induction n using Nat.strongRecOn with
  | _ n ih =>
    by_cases h : n < 10
    · rw [Lib.decDigits_one h]
      have hb : Wd.bt ⟨([UInt8.ofNat (48 + n)] : List UInt8).toArray⟩ 0 = 48 + n := by
        rw [bt_list _ 0 (by simp)]
        simp; omega
      refine ⟨?_, ?_, by simp, ?_⟩
      · intro p hp
        obtain rfl : p = 0 := by simpa using hp
        rw [hb]; omega
      · show Wd.numF _ 1 = n
        rw [Wd.numF, Wd.numF, hb]; omega
      · intro h0; rw [hb]; omega
    · obtain ⟨h1, h2, h3, h4⟩ := ih (n / 10) (by omega)
      have e : Lib.decDigits n = Lib.decDigits (n / 10) ++ [UInt8.ofNat (48 + n % 10)] := by
        conv => lhs; rw [Lib.decDigits, dif_neg h]
      rw [e]
      generalize Lib.decDigits (n / 10) = L at h1 h2 h3 h4
      have hsame : ∀ p, p < L.length → Wd.bt ⟨(L ++ [UInt8.ofNat (48 + n % 10)]).toArray⟩ p = Wd.bt ⟨L.toArray⟩ p := fun p hp => by
        rw [bt_list L p hp, bt_list _ p (by simp; omega)]
        simp [hp]
      have hlast : Wd.bt ⟨(L ++ [UInt8.ofNat (48 + n % 10)]).toArray⟩ L.length = 48 + n % 10 := by
        rw [bt_list _ _ (by simp)]
        simp; omega
      have hlen : (L ++ [UInt8.ofNat (48 + n % 10)]).length = L.length + 1 := by simp
      rw [hlen]
      refine ⟨?_, ?_, by omega, ?_⟩
      · intro p hp
        by_cases hpl : p < L.length
        · rw [hsame p hpl]; exact h1 p hpl
        · obtain rfl : p = L.length := by omega
          rw [hlast]; omega
      · rw [Wd.numF, numF_same _ ⟨L.toArray⟩ L.length hsame, h2, hlast]; omega
      · intro _; rw [hsame 0 h3]; exact h4 (by omega)
theorem dec_len : ∀ m n, n < 10 ^ (m + 1) → (Lib.decDigits n).length ≤ m + 1
  | 0, n, h => by rw [Lib.decDigits_one (by simpa using h)]; simp
  | m + 1, n, h => by
    by_cases h10 : n < 10
    · rw [Lib.decDigits_one h10]; simp
    · have := dec_len m (n / 10) (Nat.div_lt_of_lt_mul (by rw [Nat.mul_comm, ← Nat.pow_succ]; exact h))
      rw [Lib.decDigits, dif_neg h10]
      simp; omega
theorem decS_nat (n : Nat) : n ≤ 1000000000 → Wd.decS (n : Int) = Lib.decDigits n := by
  intro h
  rw [← Wd.decS_itoa (n : Int) (by omega) (by omega), Lib.itoa_nonneg]
theorem decFrom_app (b : List UInt8) : ∀ (a : List UInt8) (acc : Nat), Lib.decFrom acc (a ++ b) = match Lib.decFrom acc a with | some m => Lib.decFrom m b | none => none
  | [], acc => by simp [Lib.decFrom]
  | c :: a, acc => by
    simp only [List.cons_append, Lib.decFrom]
    cases Lib.digitVal c with
    | none => rfl
    | some d => exact decFrom_app b a _
theorem decFrom_digits : ∀ n, Lib.decFrom 0 (Lib.decDigits n) = some n := by
  intro n
  induction n using Nat.strongRecOn with
  | _ n ih =>
    have hd : ∀ m, m < 10 → Lib.digitVal (UInt8.ofNat (48 + m)) = some m := fun m hm => by
      unfold Lib.digitVal
      have : (UInt8.ofNat (48 + m)).toNat = 48 + m := by simp; omega
      rw [this, if_pos (by omega)]
      congr 1
      omega
    by_cases h : n < 10
    · rw [Lib.decDigits_one h]
      simp only [Lib.decFrom, hd n h]
      simp
    · have e : Lib.decDigits n = Lib.decDigits (n / 10) ++ [UInt8.ofNat (48 + n % 10)] := by
        conv => lhs; rw [Lib.decDigits, dif_neg h]
      rw [e, decFrom_app, ih (n / 10) (by omega)]
      simp only [Lib.decFrom, hd (n % 10) (by omega)]
      congr 1
      omega
theorem digits_ne (n : Nat) : Lib.decDigits n ≠ [] := fun e => by
  have := (dec_facts n).2.2.1
  rw [e] at this
  simp at this
theorem decNat_digits (n : Nat) : Lib.decNat (Lib.decDigits n) = some n := by
  unfold Lib.decNat
  rw [if_neg (by simpa using digits_ne n)]
  exact decFrom_digits n
theorem digits_head (n : Nat) : ∃ b r, Lib.decDigits n = b :: r ∧ 48 ≤ b.toNat ∧ b.toNat ≤ 57 := by
  cases h : Lib.decDigits n with
  | nil => exact absurd h (digits_ne n)
  | cons b r =>
    have hf := (dec_facts n).1 0 (dec_facts n).2.2.1
    rw [h, bt_list (b :: r) 0 (by simp)] at hf
    exact ⟨b, r, rfl, hf⟩
theorem atoi_itoa (v : Int) : Lib.atoi (Lib.itoa v) = some v := by
  by_cases h : v < 0
  · obtain ⟨m, hm⟩ := Int.eq_ofNat_of_zero_le (show 0 ≤ -v by omega)
    have e : Lib.itoa v = 45 :: Lib.decDigits m := by
      unfold Lib.itoa
      rw [if_pos h]
      congr 2
      omega
    rw [e]
    simp only [Lib.atoi, decNat_digits]
    simp
    omega
  · obtain ⟨m, rfl⟩ := Int.eq_ofNat_of_zero_le (show 0 ≤ v by omega)
    rw [Lib.itoa_nonneg]
    obtain ⟨b, r, hb, h1, h2⟩ := digits_head m
    have hd := decNat_digits m
    rw [hb] at hd ⊢
    have n45 : (b == 45) = false := by rw [beq_eq_false_iff_ne]; intro e; subst e; revert h1; decide
    have n43 : (b == 43) = false := by rw [beq_eq_false_iff_ne]; intro e; subst e; revert h1; decide
    simp only [Lib.atoi, n45, n43, hd]
    simp
theorem decS_itoa2 (v : Int) (h0 : -9223372036854775808 ≤ v) (h1 : v ≤ 9223372036854775807) : (numB v).data.toList = Lib.itoa v := (Wd.decS_itoa v h0 h1).symm
theorem itoa_len (v : Int) (h0 : -1000000000 ≤ v) (h1 : v ≤ 1000000000) : (Lib.itoa v).length ≤ 11 := by
  by_cases h : v < 0
  · have e : Lib.itoa v = 45 :: Lib.decDigits v.natAbs := by unfold Lib.itoa; rw [if_pos h]
    have := dec_len 9 v.natAbs (by omega)
    rw [e, List.length_cons]
    omega
  · have e : Lib.itoa v = Lib.decDigits v.toNat := by unfold Lib.itoa; rw [if_neg h]
    have := dec_len 9 v.toNat (by omega)
    rw [e]
    omega
theorem valI_num (v : Int) (h0 : -1000000000 ≤ v) (h1 : v ≤ 1000000000) : valI (numB v) = some v := by
  unfold valI
  rw [decS_itoa2 v (by omega) (by omega), Lib.atoiAll_short _ (by have := itoa_len v h0 h1; omega), atoi_itoa]
  simp only [Lib.NumEnd.ofOption]
  rfl
theorem valI_text {l : ByteArray} {v : Int} (h : valI l = some v) : l = numB v ∧ -9223372036854775808 ≤ v ∧ v ≤ 9223372036854775807 := by
  unfold valI at h
  split at h
  · rename_i u hu
    split at h
    · rename_i hl
      obtain rfl : u = v := by simpa using h
      exact ⟨hl, Lib.atoiAll_bounds hu⟩
    · cases h
  · cases h
  · cases h
theorem valS_text {l : ByteArray} {v : Int} (h : valS l = some v) : l = numB v ∧ -1000000000 ≤ v ∧ v ≤ 1000000000 := by
  unfold valS at h
  cases hd : decV l with
  | some n =>
    rw [hd] at h
    obtain rfl : (n : Int) = v := by simpa using h
    have := decV_text hd
    exact ⟨this.1, by omega, by omega⟩
  | none =>
    rw [hd] at h
    simp only at h
    split at h
    · rename_i hc
      split at h
      · rename_i n hn
        obtain rfl : -(n : Int) = v := by simpa using h
        have e := tail_text hc.1 hc.2.1 hn
        have hb := (decV_text hn).2.1
        have h0 : n ≠ 0 := fun e0 => by subst e0; exact hc.2.2 e
        refine ⟨?_, by omega, by omega⟩
        rw [e]
        have e1 : Wd.decS (n : Int) = Lib.decDigits n := decS_nat n hb
        have e2 : Wd.decS (-(n : Int)) = 45 :: Lib.decDigits n := by
          rw [← Wd.decS_itoa _ (by omega) (by omega)]
          unfold Lib.itoa
          rw [if_pos (by omega)]
          congr 2
          omega
        show _ = (⟨(Wd.decS (-(n : Int))).toArray⟩ : ByteArray)
        rw [e1, e2]
      · cases h
    · cases h
theorem decV_digits (m : Nat) (h : m ≤ 1000000000) : decV ⟨(Lib.decDigits m).toArray⟩ = some m := by
  obtain ⟨h1, h2, h3, h4⟩ := dec_facts m
  have hl := dec_len 9 m (by omega)
  have hs : (⟨(Lib.decDigits m).toArray⟩ : ByteArray).size = (Lib.decDigits m).length := rfl
  have hl0 : (Lib.decDigits m).length = 1 ∨ Wd.bt ⟨(Lib.decDigits m).toArray⟩ 0 ≠ 48 := by
    by_cases h0 : 0 < m
    · exact .inr (h4 h0)
    · left
      rw [Lib.decDigits_one (by omega)]
      rfl
  have hg : Wd.good ⟨(Lib.decDigits m).toArray⟩ := ⟨by rw [hs]; omega, by rw [hs]; omega, by rw [hs]; exact h1, by rw [hs]; exact hl0, by rw [hs, h2]; exact h⟩
  unfold decV
  rw [if_pos hg, hs, h2]
theorem valS_num (v : Int) (h0 : -1000000000 ≤ v) (h1 : v ≤ 1000000000) : valS (numB v) = some v := by
  obtain ⟨l, el0⟩ : ∃ l, l = numB v := ⟨_, rfl⟩
  rw [← el0]
  have hL := decS_itoa2 v (by omega) (by omega)
  by_cases h : v < 0
  · obtain ⟨m, hm⟩ := Int.eq_ofNat_of_zero_le (show 0 ≤ -v by omega)
    have e : Lib.itoa v = 45 :: Lib.decDigits m := by
      unfold Lib.itoa
      rw [if_pos h]
      congr 2
      omega
    have el : l = ⟨(45 :: Lib.decDigits m).toArray⟩ := by rw [el0, ← e, ← hL, back_txt]
    have hz : l.size = (Lib.decDigits m).length + 1 := by rw [el]; rfl
    have hb : ∀ p, p < (Lib.decDigits m).length → Wd.bt l (p + 1) = Wd.bt ⟨(Lib.decDigits m).toArray⟩ p := fun p hp => by
      rw [el, bt_list _ (p + 1) (by simp; omega), bt_list _ p hp]
      simp
    have ht : l.extract 1 l.size = ⟨(Lib.decDigits m).toArray⟩ := by
      refine bt_ext (by rw [ByteArray.size_extract, hz]; show _ = (Lib.decDigits m).length; omega) fun p hp => ?_
      have hp' : p < (Lib.decDigits m).length := hp
      rw [bt_ex l 1 l.size p (by omega) (Nat.le_refl _), Nat.add_comm, hb p hp']
    have h45 : Wd.bt l 0 = 45 := by rw [el, bt_list _ 0 (by simp)]; rfl
    have hne : l ≠ ⟨#[45, 48]⟩ := fun e0 => by
      have h1 : (45 :: Lib.decDigits m) = [45, 48] := by
        have h2 := congrArg (fun x : ByteArray => x.data.toList) (el.symm.trans e0)
        simpa using h2
      have h3 : Lib.decDigits m = [48] := by simpa using h1
      have h4 := decFrom_digits m
      rw [h3] at h4
      have : Lib.decFrom 0 [48] = some 0 := by decide
      rw [this] at h4
      have : m = 0 := by simpa using h4.symm
      omega
    have hp := (dec_facts m).2.2.1
    unfold valS
    rw [decV_minus h45]
    simp only
    rw [if_pos ⟨by omega, h45, hne⟩, ht, decV_digits m (by omega)]
    simp only
    congr 1
    omega
  · obtain ⟨m, rfl⟩ := Int.eq_ofNat_of_zero_le (show 0 ≤ v by omega)
    rw [Lib.itoa_nonneg] at hL
    have el : l = ⟨(Lib.decDigits m).toArray⟩ := by rw [el0, ← hL, back_txt]
    have hv : decV l = some m := by rw [el]; exact decV_digits m (by omega)
    unfold valS
    rw [hv]
theorem valI_range (l : ByteArray) : valS l = match valI l with | some v => if -1000000000 ≤ v ∧ v ≤ 1000000000 then some v else none | none => none := by
  cases hI : valI l with
  | some v =>
    simp only
    by_cases hr : -1000000000 ≤ v ∧ v ≤ 1000000000
    · rw [if_pos hr, (valI_text hI).1]
      exact valS_num v hr.1 hr.2
    · rw [if_neg hr]
      cases hS : valS l with
      | none => rfl
      | some u =>
        obtain ⟨hl, h0, h1⟩ := valS_text hS
        have := valI_num u h0 h1
        rw [← hl, hI] at this
        obtain rfl := Option.some.inj this
        exact absurd ⟨h0, h1⟩ hr
  | none =>
    simp only
    cases hS : valS l with
    | none => rfl
    | some v =>
      obtain ⟨hl, h0, h1⟩ := valS_text hS
      have := valI_num v h0 h1
      rw [← hl, hI] at this
      cases this
def riV : Option Int → Value
  | some v => .tuple #[.int .i64 v, .bool true]
  | none => .tuple #[.int .i64 0, .bool false]
def inLim (v : Int) : Bool := decide (-1000000000 ≤ v) && decide (v ≤ 1000000000)
theorem inLimits_any (v : Int) (w : World) : Calls Tryd.prog 19 #[.int .i64 v] w fun e w' => e = .returned (.bool (inLim v)) ∧ w' = w := by
  unfold inLim
  by_cases h1 : -1000000000 ≤ v
  · by_cases h2 : v ≤ 1000000000
    · have h1' : decide (-1000000000 ≤ v) = true := decide_eq_true h1
      have h2' : decide (v ≤ 1000000000) = true := decide_eq_true h2
      rw [h1', h2']
      go_enter Tryd.func19, Tryd.ntmps19
      go_wp2
      go_ret
      exact ⟨rfl, rfl⟩
    · have h1' : decide (-1000000000 ≤ v) = true := decide_eq_true h1
      have h2' : decide (v ≤ 1000000000) = false := decide_eq_false h2
      rw [h1', h2']
      go_enter Tryd.func19, Tryd.ntmps19
      go_wp2
      go_ret
      exact ⟨rfl, rfl⟩
  · have h1' : decide (-1000000000 ≤ v) = false := decide_eq_false h1
    rw [h1']
    go_enter Tryd.func19, Tryd.ntmps19
    go_wp2
    go_ret
    exact ⟨rfl, rfl⟩
theorem implReadInt_any (l : ByteArray) (w : World) (hz : l.size ≤ 1048576) (hv : RVars w) : Calls Tryd.prog 6 #[.string l] w fun e w' => e = .returned (riV (valS l)) ∧ Below w.heap.size w w' := by
  have HS := hide (valI_range l)
  obtain ⟨R, HR⟩ : ∃ R, Hid (valS l = R) := ⟨_, rfl⟩
  rw [HR.out] at HS ⊢
  cases hI : valI l with
  | none =>
    have HC := hide (whole_none l w hz hI hv)
    have HRR : Hid (R = none) := by show _ = _; rw [HS.out, hI]
    clear hI hv HS
    go_enter Tryd.func6, Tryd.ntmps6
    go_wp2_with fail
    refine HC.out.mono ?_
    rintro e w1 ⟨rfl, b1⟩
    go_wp2
    go_ret2
    exact ⟨by rw [HRR.out]; rfl, b1⟩
  | some v =>
    have HC := hide (whole_some l v w hz hI hv)
    have HRR : Hid (R = if -1000000000 ≤ v ∧ v ≤ 1000000000 then some v else none) := by show _ = _; rw [HS.out, hI]
    have HIN := hide (fun W => inLimits_any v W)
    have HRI : Hid (R = if inLim v = true then some v else none) := by
      show _ = _
      rw [HRR.out]
      unfold inLim
      simp
    clear hI hv HS HRR
    generalize inLim v = q at HIN HRI
    cases q with
    | true =>
      go_enter Tryd.func6, Tryd.ntmps6
      go_wp2_with fail
      refine HC.out.mono ?_
      rintro e w1 ⟨rfl, b1⟩
      go_wp2_with fail
      refine (HIN.out _).mono ?_
      rintro e w2 ⟨rfl, rfl⟩
      go_wp2
      go_ret2
      exact ⟨by rw [HRI.out]; rfl, b1⟩
    | false =>
      go_enter Tryd.func6, Tryd.ntmps6
      go_wp2_with fail
      refine HC.out.mono ?_
      rintro e w1 ⟨rfl, b1⟩
      go_wp2_with fail
      refine (HIN.out _).mono ?_
      rintro e w2 ⟨rfl, rfl⟩
      go_wp2
      go_ret2
      exact ⟨by rw [HRI.out]; rfl, b1⟩
theorem code_keep {w0 w : World} {ao : Option Addr} {len : Nat} (h : Code w0 ao len) (hb : Below w0.heap.size w0 w) : Code w ao len := by
  intro j hj
  obtain ⟨b, off, z, h1, h2, h3, h4⟩ := h j hj
  exact ⟨b, off, z, h1, Nat.lt_of_lt_of_le h2 hb.size, (hb.cell (p := ⟨b, off + j, none⟩) h2).trans h3, h4⟩
theorem big_any (w : World) (ao : Option Addr) (len cap : Nat) :
    Calls Tryd.prog 7 #[.slice ao len cap] w fun e w' => e = .returned (.bool (decide (1048576 < (len : Int)))) ∧ w' = w := by
  go_enter Tryd.func7, Tryd.ntmps7
  go_wp2
  go_ret
  exact ⟨rfl, rfl⟩
end Go.Proofs.YtpibnhodlojajaaDoor
