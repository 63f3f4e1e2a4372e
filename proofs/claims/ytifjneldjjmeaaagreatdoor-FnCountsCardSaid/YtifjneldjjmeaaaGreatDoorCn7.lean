import Derived.Lib.SmallJoins
import Derived.OpenShut
import Derived.Shelf.Small.Utf8
import Derived.Shelf.Small.Strs
import Derived.Shelf.Strconv.Atoi
import Derived.Shelf.Strconv.Itoa0
import Derived.Shelf.Strconv.Itoa1
import Derived.Shelf.LaysM
import Derived.Shelf.Strconv.Itoa2
import Derived.Shelf.Strconv.Itoa3
import Derived.Shelf.Strconv.AtoiErrFast
import Derived.Shelf.Strconv.ParseIntEmpty
import Derived.Shelf.Strconv.AtoiFail
import Derived.Shelf.Strconv.Clone
import Derived.Shelf.Strconv.SyntaxError
import Derived.Shelf.LaysC
import Derived.Shelf.Strconv.ToError
import Derived.Shelf.Strconv.Lower
import Derived.Shelf.Strconv.ParseUint10
import Derived.Shelf.Strconv.ParseUint10Empty
import Derived.Shelf.Strconv.ParseUint10Any
import Derived.Shelf.Strconv.ParseInt10
import Derived.Shelf.Strconv.AtoiLong
import Derived.Shelf.Strconv.AtoiInnerAll
import Derived.Shelf.Strconv.RangeError
import Derived.Shelf.Strconv.ToErrorRange
import Derived.Shelf.Strconv.AtoiAll
import Derived.Shelf.Strconv.ErrVarAll
import Derived.Shelf.Strings.Search1
import Derived.Shelf.Strings.Runes
import Derived.Shelf.Strings.AsciiSet
import Derived.Shelf.Unicode.DecodeSlow
import Derived.Shelf.Unicode.DecodeAny
import Derived.Test.YtifjneldjjmeaaaGreatDoorProg
import Derived.Test.YtifjneldjjmeaaaGreatDoorChecked
import Derived.BigQuiet
import Derived.Deep.RegionHeld3
import Derived.Deep.RegionLaw
import Derived.Lib.AtoiTie
import Derived.Test.YtifjneldjjmeaaaGreatDoorCn0
import Derived.Test.YtifjneldjjmeaaaGreatDoorCn6
import Derived.Test.YtifjneldjjmeaaaGreatDoorCn1
set_option maxRecDepth 100000
set_option maxHeartbeats 1600000
namespace Go.Proofs.YtifjneldjjmeaaaGreatDoor
open Go.RowKit
def catB : ByteArray → List ByteArray → ByteArray
  | s, [] => s
  | s, x :: r => catB (s ++ x) r
theorem catB_snoc : ∀ (ts : List ByteArray) (s x : ByteArray), catB s (ts ++ [x]) = catB s ts ++ x
  | [], _, _ => rfl
  | t :: r, s, x => catB_snoc r (s ++ t) x
theorem catB_size : ∀ (ts : List ByteArray) (s : ByteArray) (M : Nat), (∀ x ∈ ts, x.size ≤ M) → (catB s ts).size ≤ s.size + ts.length * M
  | [], s, M, _ => by simp [catB]
  | t :: r, s, M, h => by
    have h1 := catB_size r (s ++ t) M (fun x hx => h x (List.mem_cons_of_mem _ hx))
    have h2 := h t List.mem_cons_self
    rw [ByteArray.size_append] at h1
    rw [catB, List.length_cons, Nat.add_mul, Nat.one_mul]
    omega
theorem written_any (h : ByteArray) (ts : List ByteArray) (ao : Option Addr) (cap : Nat) (w : World) (hh : h.size ≤ 1048600) (hl : ts.length ≤ 1048576) (hts : TextsAt w ao ts) (hz : ∀ x ∈ ts, x.size ≤ 1048576) :
    Calls Tryz.prog 108 #[.string h, .slice ao ts.length cap] w fun e w' => e = .returned (.string (catB h ts)) ∧ Below w.heap.size w w' := by
  have HT := hide hts
  have HZ := hide hz
  clear hts hz
  obtain ⟨w1, C1, hcv, b1, hs1, ho1⟩ := conv_made (P := Tryz.prog) w 9 22 5 h Tryz.underlying9 Tryz.underlying22 Tryz.underlying5 (by unfold maxLen; omega)
  have B1 := hide b1
  have HO1 : Hid (OwnsB w1 w.heap.size 5 (.slice (some ⟨w.heap.size, 0, none⟩) h.size C1) (catB h (ts.take 0)).data.toList) := by
    show OwnsB _ _ _ _ _
    rw [List.take_zero, catB]
    exact ho1
  clear b1 hs1 ho1
  go_enter Tryz.func108, Tryz.ntmps108
  go_wp2_with fail
  go_loopw [5, 12] (fun vo ii wr => ∃ (k : Nat), ii = .int .i64 k ∧ k ≤ ts.length ∧ Hid (OwnsB wr w.heap.size 5 vo (catB h (ts.take k)).data.toList) ∧ Hid (Below w.heap.size w wr)) (fun _ ii _ => ts.length - (intOf ii).toNat)
  case atStart => exact ⟨0, rfl, Nat.zero_le _, HO1, B1⟩
  case round =>
    obtain ⟨k, rfl, hk, HO, HB⟩ := hrel
    have hws := HB.out.size
    by_cases hlt : k < ts.length
    · have hlt' : decide ((k : Int) < (ts.length : Int)) = true := by simp; omega
      have hi0 : (0 : Int) ≤ (k : Int) := by omega
      have hi1 : (k : Int) < (ts.length : Int) := by omega
      obtain ⟨b, off, rfl, hbw, hd0⟩ := textsAt_keep HT.out HB.out k hlt
      have hxz := HZ.out ts[k] (List.getElem_mem hlt)
      have htk := hide (List.take_succ_eq_append_getElem hlt)
      generalize ts[k] = T at hd0 hxz htk
      obtain ⟨LL, HLL⟩ : ∃ LL, Hid (LL = (catB h (ts.take k)).data.toList) := ⟨_, rfl⟩
      rw [← HLL.out] at HO
      have hLl : LL.length + T.size ≤ 70368744177664 := by
        have h1 := catB_size (ts.take k) h 1048576 (fun x hx => HZ.out x (List.mem_of_mem_take hx))
        have h3 : (ts.take k).length ≤ 1048576 := by rw [List.length_take]; omega
        have h4 : (ts.take k).length * 1048576 ≤ 1048576 * 1048576 := Nat.mul_le_mul_right _ h3
        have e1 : LL.length = (catB h (ts.take k)).size := by rw [HLL.out]; rfl
        omega
      go_wp2_with (at_builtin; refine app_textB _ 22 9 5 Tryz.underlying22 Tryz.underlying9 Tryz.info5 w.heap.size rfl _ _ rfl _ LL T rfl HO.out rfl hLl hws ?_; intro v7 w7 ho7 hg7; have HO7 := hide ho7; have HG7 := hide hg7; clear ho7 hg7)
      go_roundw
      case rel =>
        refine ⟨k + 1, by go_num, by omega, ?_, HB.out.grown HG7.out hws (fun g hg => (ownsB_lt HO.out g hg).1)⟩
        have e2 : (catB h (ts.take (k + 1))).data.toList = LL ++ T.data.toList := by
          rw [HLL.out, htk.out, catB_snoc]
          simp
        show OwnsB _ _ _ _ _
        rw [e2]
        exact HO7.out
      case measure => simp [intOf]; omega
    · have hlt' : decide ((k : Int) < (ts.length : Int)) = false := by simp; omega
      rw [show ts.take k = ts from List.take_of_length_le (by omega)] at HO
      obtain ⟨L, HL⟩ : ∃ L, Hid ((catB h ts).data.toList = L) := ⟨_, rfl⟩
      rw [HL.out] at HO
      have hcv := conv_backB (P := Tryz.prog) wr 22 9 5 _ u5 L Tryz.underlying22 Tryz.underlying5 Tryz.underlying9 HO.out
      have HR : Hid ((⟨L.toArray⟩ : ByteArray) = catB h ts) := by show _ = _; rw [← HL.out]
      clear HL
      obtain ⟨g, co, cur, fz, rfl, -, -, -, hLc, hcm, -, -⟩ := HO.out
      go_wp2
      go_ret
      rw [HR.out]
      exact ⟨rfl, HB.out⟩
theorem textsAt_two (w : World) (a b : ByteArray) : TextsAt (w.alloc (.cells #[.string a, .string b] 9)) (some ⟨w.heap.size, 0, none⟩) [a, b] := by
  refine textsAt_in (heap_alloc_new w _) ?_
  intro j hj _
  match j, hj with
  | 0, _ => rfl
  | 1, _ => rfl
def lineB (m s : ByteArray) : ByteArray := (m ++ s) ++ ⟨#[13, 10]⟩
theorem written_line (m s : ByteArray) (w : World) (hm : m.size ≤ 1048600) (hs : s.size ≤ 1048576) :
    Calls Tryz.prog 108 #[.string m, .slice (some ⟨w.heap.size, 0, none⟩) 2 2] (w.alloc (.cells #[.string s, .string ⟨#[13, 10]⟩] 9)) fun e w' => e = .returned (.string (lineB m s)) ∧ Below w.heap.size w w' := by
  refine (written_any m [s, ⟨#[13, 10]⟩] (some ⟨w.heap.size, 0, none⟩) 2 _ hm (by simp) (textsAt_two w s _) ?_).mono ?_
  · intro x hx
    rcases List.mem_cons.1 hx with rfl | hx
    · exact hs
    · obtain rfl : x = ⟨#[13, 10]⟩ := by simpa using hx
      decide
  · rintro e w' ⟨rfl, hb⟩
    exact ⟨rfl, ((Below.refl _ w).alloc (Nat.le_refl _) _).trans (hb.mono (by simp))⟩
theorem implFault_any (s : ByteArray) (w : World) (hs : s.size ≤ 1048576) : Calls Tryz.prog 67 #[.string s] w fun e w' => e = .returned (.string (lineB ⟨#[45]⟩ s)) ∧ Below w.heap.size w w' := by
  have HW := hide (fun W => written_line ⟨#[45]⟩ s W (by decide) hs)
  generalize lineB ⟨#[45]⟩ s = R at HW
  go_enter Tryz.func67, Tryz.ntmps67
  go_wp2_with fail
  refine (HW.out _).mono ?_
  rintro e w1 ⟨rfl, b1⟩
  go_wp2
  go_ret
  exact ⟨rfl, b1⟩
def numB (n : Int) : ByteArray := ⟨(Wd.decS n).toArray⟩
theorem numB_size (n : Int) (h0 : -9223372036854775808 ≤ n) (h1 : n ≤ 9223372036854775807) : (numB n).size ≤ 21 := by
  show (Wd.decS n).toArray.size ≤ 21
  rw [List.size_toArray]
  have h := Wd.decA_length 20 n.natAbs [] 20 (by omega)
  unfold Wd.decS
  split
  · decide
  · split
    · rw [List.length_cons]; simp at h; omega
    · simp at h; omega
def hdB (m : ByteArray) (n : Int) : ByteArray := (m ++ numB n) ++ ⟨#[13, 10]⟩
theorem headLineI_any (m : ByteArray) (n : Int) (w : World) (hm : m.size ≤ 1) (h0 : -9223372036854775808 ≤ n) (h1 : n ≤ 9223372036854775807) (htab : Lib.TabIs Tryz.prog w "internal/strconv.uint64pow10" .u64 Lib.pow10Tab) :
    Calls Tryz.prog 137 #[.string m, .int .i64 n] w fun e w' => e = .returned (.string (hdB m n)) ∧ Below w.heap.size w w' := by
  have HD := hide (implDec_any n w h0 h1 htab)
  have HE : Hid (hdB m n = (m ++ numB n) ++ ⟨#[13, 10]⟩) := rfl
  have hd := numB_size n h0 h1
  change Hid (Calls _ _ _ _ fun e w' => e = .returned (.string (numB n)) ∧ _) at HD
  generalize numB n = D at HD HE hd
  rw [HE.out]
  clear htab
  have hc2 : (⟨#[13, 10]⟩ : ByteArray).size = 2 := rfl
  go_enter Tryz.func137, Tryz.ntmps137
  go_wp2_with fail
  refine (HD.out).mono ?_
  rintro e w1 ⟨rfl, b1⟩
  have B1 := hide b1
  clear b1
  go_wp2
  go_ret
  exact ⟨rfl, B1.out⟩
abbrev Pow10 (w : World) : Prop := Lib.TabIs Tryz.prog w "internal/strconv.uint64pow10" .u64 Lib.pow10Tab
theorem implNumber_any (n : Int) (w : World) (h0 : -9223372036854775808 ≤ n) (h1 : n ≤ 9223372036854775807) (ht : Pow10 w) : Calls Tryz.prog 114 #[.int .i64 n] w fun e w' => e = .returned (.string (hdB ⟨#[58]⟩ n)) ∧ Below w.heap.size w w' := by
  have HH := hide (headLineI_any ⟨#[58]⟩ n w (by decide) h0 h1 ht)
  clear ht
  go_enter Tryz.func114, Tryz.ntmps114
  go_wp2_with fail
  refine (HH.out).mono ?_
  rintro e w1 ⟨rfl, b1⟩
  go_wp2
  go_ret
  exact ⟨rfl, b1⟩
theorem specNumber_any (n : Int) (w : World) (h0 : -9223372036854775808 ≤ n) (h1 : n ≤ 9223372036854775807) : Calls Tryz.prog 12 #[.int .i64 n] w fun e w' => e = .returned (.string (hdB ⟨#[58]⟩ n)) ∧ Below w.heap.size w w' := by
  have HD : Hid (∀ W, Calls Tryz.prog 9 #[.int .i64 n] W fun e w' => e = .returned (.string (numB n)) ∧ Below W.heap.size W w') := fun W => decimal_any n W h0 h1
  have hz := numB_size n h0 h1
  have HE : Hid (hdB ⟨#[58]⟩ n = (⟨#[58]⟩ ++ numB n) ++ ⟨#[13, 10]⟩) := rfl
  generalize numB n = D at HD hz HE
  have hc1 : (⟨#[58]⟩ : ByteArray).size = 1 := rfl
  have hc2 : (⟨#[13, 10]⟩ : ByteArray).size = 2 := rfl
  rw [HE.out]
  go_enter Tryz.func12, Tryz.ntmps12
  go_wp2_with fail
  refine (HD.out _).mono ?_
  rintro e w1 ⟨rfl, b1⟩
  go_wp2
  go_ret
  exact ⟨rfl, b1⟩
end Go.Proofs.YtifjneldjjmeaaaGreatDoor
namespace Go.Proofs
open Go.Shelf
def Tryz.laysC172_ren : Go.Shelf.Ren := ⟨fun | 172 => 151 | 244 => 161 | 245 => 162 | 247 => 169 | 279 => 170 | 280 => 171 | 281 => 172 | 282 => 173 | 287 => 181 | 316 => 158 | 171 => 142 | 205 => 182 | 321 => 193 | 322 => 194 | 243 => 152 | 246 => 163 | 283 => 174 | 284 => 175 | 285 => 176 | 286 => 177 | 129 => 184 | 317 => 183 | 318 => 185 | 319 => 186 | 320 => 187 | 337 => 195 | 338 => 196 | n => n, fun | 9 => 9 | 3 => 3 | 75 => 100 | 76 => 140 | 4 => 4 | 5 => 5 | 167 => 182 | 37 => 22 | 0 => 0 | 85 => 183 | 2 => 2 | 168 => 185 | 53 => 189 | 175 => 195 | 46 => 108 | 210 => 198 | 127 => 180 | 145 => 211 | 143 => 209 | 21 => 21 | 171 => 188 | 173 => 192 | 212 => 202 | 51 => 203 | 20 => 20 | 213 => 204 | 232 => 217 | 233 => 218 | 80 => 34 | n => n, fun | 15 => 2 | 16 => 3 | 17 => 4 | 18 => 7 | 19 => 8 | n => n⟩
theorem Tryz.laysC172 : Go.Proofs.LaysC.n172 Tryz.prog Tryz.laysC172_ren := {
  mixed := by kernel_rfl
  f129 := Tryz.func184.trans (congrArg some (by kernel_rfl))
  f171 := Tryz.func142.trans (congrArg some (by kernel_rfl))
  f172 := Tryz.func151.trans (congrArg some (by kernel_rfl))
  f205 := Tryz.func182.trans (congrArg some (by kernel_rfl))
  f243 := Tryz.func152.trans (congrArg some (by kernel_rfl))
  f244 := Tryz.func161.trans (congrArg some (by kernel_rfl))
  f245 := Tryz.func162.trans (congrArg some (by kernel_rfl))
  f246 := Tryz.func163.trans (congrArg some (by kernel_rfl))
  f247 := Tryz.func169.trans (congrArg some (by kernel_rfl))
  f279 := Tryz.func170.trans (congrArg some (by kernel_rfl))
  f280 := Tryz.func171.trans (congrArg some (by kernel_rfl))
  f281 := Tryz.func172.trans (congrArg some (by kernel_rfl))
  f282 := Tryz.func173.trans (congrArg some (by kernel_rfl))
  f283 := Tryz.func174.trans (congrArg some (by kernel_rfl))
  f284 := Tryz.func175.trans (congrArg some (by kernel_rfl))
  f285 := Tryz.func176.trans (congrArg some (by kernel_rfl))
  f286 := Tryz.func177.trans (congrArg some (by kernel_rfl))
  f287 := Tryz.func181.trans (congrArg some (by kernel_rfl))
  f316 := Tryz.func158.trans (congrArg some (by kernel_rfl))
  f317 := Tryz.func183.trans (congrArg some (by kernel_rfl))
  f318 := Tryz.func185.trans (congrArg some (by kernel_rfl))
  f319 := Tryz.func186.trans (congrArg some (by kernel_rfl))
  f320 := Tryz.func187.trans (congrArg some (by kernel_rfl))
  f321 := Tryz.func193.trans (congrArg some (by kernel_rfl))
  f322 := Tryz.func194.trans (congrArg some (by kernel_rfl))
  f337 := Tryz.func195.trans (congrArg some (by kernel_rfl))
  f338 := Tryz.func196.trans (congrArg some (by kernel_rfl))
  t0 := Tryz.underlying0
  a0 := Tryz.isAgg0
  z0 := Tryz.sizeOf0
  v0 := Tryz.zeroValue0
  t2 := Tryz.underlying2
  a2 := Tryz.isAgg2
  z2 := Tryz.sizeOf2
  v2 := Tryz.zeroValue2
  t3 := Tryz.underlying3
  a3 := Tryz.isAgg3
  z3 := Tryz.sizeOf3
  v3 := Tryz.zeroValue3
  t4 := Tryz.underlying4
  a4 := Tryz.isAgg4
  z4 := Tryz.sizeOf4
  v4 := Tryz.zeroValue4
  t5 := Tryz.underlying5
  a5 := Tryz.isAgg5
  z5 := Tryz.sizeOf5
  v5 := Tryz.zeroValue5
  t9 := Tryz.underlying9
  a9 := Tryz.isAgg9
  z9 := Tryz.sizeOf9
  v9 := Tryz.zeroValue9
  t20 := Tryz.underlying20
  a20 := Tryz.isAgg20
  z20 := Tryz.sizeOf20
  v20 := Tryz.zeroValue20
  t21 := Tryz.underlying21
  a21 := Tryz.isAgg21
  z21 := Tryz.sizeOf21
  v21 := Tryz.zeroValue21
  t37 := Tryz.underlying22
  a37 := Tryz.isAgg22
  z37 := Tryz.sizeOf22
  v37 := Tryz.zeroValue22
  t46 := Tryz.underlying108
  a46 := Tryz.isAgg108
  z46 := Tryz.sizeOf108
  v46 := Tryz.zeroValue108
  t51 := Tryz.underlying203
  a51 := Tryz.isAgg203
  z51 := Tryz.sizeOf203
  v51 := Tryz.zeroValue203
  t53 := Tryz.underlying189
  a53 := Tryz.isAgg189
  z53 := Tryz.sizeOf189
  v53 := Tryz.zeroValue189
  t75 := Tryz.underlying100
  a75 := Tryz.isAgg100
  z75 := Tryz.sizeOf100
  v75 := Tryz.zeroValue100
  t76 := Tryz.underlying140
  a76 := Tryz.isAgg140
  z76 := Tryz.sizeOf140
  v76 := Tryz.zeroValue140
  t85 := Tryz.underlying183
  a85 := Tryz.isAgg183
  z85 := Tryz.sizeOf183
  v85 := Tryz.zeroValue183
  t127 := Tryz.underlying180
  a127 := Tryz.isAgg180
  z127 := Tryz.sizeOf180
  v127 := Tryz.zeroValue180
  t143 := Tryz.underlying209
  a143 := Tryz.isAgg209
  z143 := Tryz.sizeOf209
  v143 := Tryz.zeroValue209
  t145 := Tryz.underlying211
  a145 := Tryz.isAgg211
  z145 := Tryz.sizeOf211
  v145 := Tryz.zeroValue211
  t167 := Tryz.underlying182
  a167 := Tryz.isAgg182
  z167 := Tryz.sizeOf182
  v167 := Tryz.zeroValue182
  t168 := Tryz.underlying185
  a168 := Tryz.isAgg185
  z168 := Tryz.sizeOf185
  v168 := Tryz.zeroValue185
  t171 := Tryz.underlying188
  a171 := Tryz.isAgg188
  z171 := Tryz.sizeOf188
  v171 := Tryz.zeroValue188
  t173 := Tryz.underlying192
  a173 := Tryz.isAgg192
  z173 := Tryz.sizeOf192
  v173 := Tryz.zeroValue192
  t175 := Tryz.underlying195
  a175 := Tryz.isAgg195
  z175 := Tryz.sizeOf195
  v175 := Tryz.zeroValue195
  t210 := Tryz.underlying198
  a210 := Tryz.isAgg198
  z210 := Tryz.sizeOf198
  v210 := Tryz.zeroValue198
  t212 := Tryz.underlying202
  a212 := Tryz.isAgg202
  z212 := Tryz.sizeOf202
  v212 := Tryz.zeroValue202
  t213 := Tryz.underlying204
  a213 := Tryz.isAgg204
  z213 := Tryz.sizeOf204
  t232 := Tryz.underlying217
  a232 := Tryz.isAgg217
  z232 := Tryz.sizeOf217
  v232 := Tryz.zeroValue217
  t233 := Tryz.underlying218
  a233 := Tryz.isAgg218
  z233 := Tryz.sizeOf218
  v233 := Tryz.zeroValue218
  g15 := by kernel_rfl
  g16 := by kernel_rfl
  g17 := by kernel_rfl
  g18 := by kernel_rfl
  g19 := by kernel_rfl
  t80 := Tryz.underlying34
  a80 := Tryz.isAgg34
  z80 := Tryz.sizeOf34
  v80 := Tryz.zeroValue34
  i0 := by kernel_rfl
  i2 := by kernel_rfl
  i3 := by kernel_rfl
  i4 := by kernel_rfl
  i5 := by kernel_rfl
  i9 := by kernel_rfl
  i20 := by kernel_rfl
  i21 := by kernel_rfl
  i37 := by kernel_rfl
  i46 := by kernel_rfl
  i51 := by kernel_rfl
  i53 := by kernel_rfl
  i75 := by kernel_rfl
  i76 := by kernel_rfl
  i80 := by kernel_rfl
  i85 := by kernel_rfl
  i127 := by kernel_rfl
  i143 := by kernel_rfl
  i145 := by kernel_rfl
  i167 := by kernel_rfl
  i168 := by kernel_rfl
  i171 := by kernel_rfl
  i173 := by kernel_rfl
  i175 := by kernel_rfl
  i210 := by kernel_rfl
  i212 := by kernel_rfl
  i232 := by kernel_rfl
  i233 := by kernel_rfl
  m15 := by kernel_rfl
  m16 := by kernel_rfl
  m17 := by kernel_rfl
  m18 := by kernel_rfl
  m19 := by kernel_rfl
  c0 := by kernel_rfl
  c2 := by kernel_rfl
  c3 := by kernel_rfl
  c4 := by kernel_rfl
  c5 := by kernel_rfl
  c9 := by kernel_rfl
  c20 := by kernel_rfl
  c21 := by kernel_rfl
  c37 := by kernel_rfl
  c46 := by kernel_rfl
  c51 := by kernel_rfl
  c53 := by kernel_rfl
  c75 := by kernel_rfl
  c76 := by kernel_rfl
  c80 := by kernel_rfl
  c85 := by kernel_rfl
  c127 := by kernel_rfl
  c143 := by kernel_rfl
  c145 := by kernel_rfl
  c167 := by kernel_rfl
  c168 := by kernel_rfl
  c171 := by kernel_rfl
  c173 := by kernel_rfl
  c175 := by kernel_rfl
  c210 := by kernel_rfl
  c212 := by kernel_rfl
  c213 := by kernel_rfl
  c232 := by kernel_rfl
  c233 := by kernel_rfl }
open Go.RowKit in
theorem Tryz.strconv_Atoi_ok (s : ByteArray) (hmax : s.size ≤ 9223372036854775806) (v : Int) (h : Lib.atoiAll s.data.toList = .ok v) (w : World) :
    Calls Tryz.prog 151 #[.string s] w fun e w' => e = .returned (.tuple #[.int .i64 v, .nilIface]) ∧ (w' = w ∨ ∃ t, w' = Lib.bytesWorld w 5 t) := Any.strconv_Atoi_ok Tryz.laysC172 s hmax v h w
open Go.RowKit in
theorem Tryz.strconv_Atoi_syntax_var (s : ByteArray) (hlim : s.size ≤ 281474976710656) (h : Lib.atoiAll s.data.toList = .«syntax») (tp : TypeId) (p : Value) (w : World) (hvar : w.var? Tryz.prog "strconv.ErrSyntax" = some #[.iface tp p]) :
    Calls Tryz.prog 151 #[.string s] w fun e w' => ∃ N, e = .returned (.tuple #[.int .i64 0, .iface 185 (.pointer (some ⟨N, 0, none⟩))]) ∧ w.heap.size ≤ N ∧ w'.heap[N]? = some (.cells #[.string ⟨#[65, 116, 111, 105]⟩, .string s, .iface tp p] 198 (0, 0)) ∧ Below w.heap.size w w' := Any.strconv_Atoi_syntax_var Tryz.laysC172 s hlim h tp p w hvar
open Go.RowKit in
theorem Tryz.strconv_Atoi_range_var (s : ByteArray) (hlim : s.size ≤ 281474976710656) (h : Lib.atoiAll s.data.toList = .range) (tp : TypeId) (p : Value) (w : World) (hvar : w.var? Tryz.prog "strconv.ErrRange" = some #[.iface tp p]) :
    Calls Tryz.prog 151 #[.string s] w fun e w' => ∃ N, e = .returned (.tuple #[.int .i64 (Lib.atoiSat s.data.toList), .iface 185 (.pointer (some ⟨N, 0, none⟩))]) ∧ w.heap.size ≤ N ∧ w'.heap[N]? = some (.cells #[.string ⟨#[65, 116, 111, 105]⟩, .string s, .iface tp p] 198 (0, 0)) ∧ Below w.heap.size w w' := Any.strconv_Atoi_range_var Tryz.laysC172 s hlim h tp p w hvar
end Go.Proofs
namespace Go.Proofs.YtifjneldjjmeaaaGreatDoor
open Go.RowKit
theorem back_txt (x : ByteArray) : (⟨x.data.toList.toArray⟩ : ByteArray) = x := by cases x; simp
def MaxR (w : World) (m : Int) : Prop := w.cell? ⟨1, 0, none⟩ = some (.int .i64 m) ∧ 1 < w.heap.size
theorem maxR_of {w : World} {m : Int} (h : w.cell? ⟨1, 0, none⟩ = some (.int .i64 m)) : MaxR w m := by
  refine ⟨h, ?_⟩
  rcases Nat.lt_or_ge 1 w.heap.size with h' | h'
  · exact h'
  · simp [World.cell?, Array.getElem?_eq_none h'] at h
structure RVars (w : World) : Prop where
  pow : Pow10 w
  syn : ∃ tp p, w.var? Tryz.prog "strconv.ErrSyntax" = some #[.iface tp p]
  rng : ∃ tp p, w.var? Tryz.prog "strconv.ErrRange" = some #[.iface tp p]
  mx : ∃ m, MaxR w m
theorem var_later {w w' : World} {nm : String} {g : Nat} (hg : Tryz.prog.globalNamed nm = some g) (h : Below w.heap.size w w') {x : Value} (hv : w.var? Tryz.prog nm = some #[x]) : w'.var? Tryz.prog nm = some #[x] := by
  refine var?_below h hg ?_ hv
  rcases Nat.lt_or_ge g w.heap.size with h' | h'
  · exact h'
  · unfold World.var? at hv
    rw [hg] at hv
    simp [Array.getElem?_eq_none h'] at hv
theorem rvars_below {w w' : World} (h : RVars w) (hb : Below w.heap.size w w') : RVars w' := by
  refine ⟨tab_later hb h.pow, ?_, ?_, ?_⟩
  · obtain ⟨tp, p, hv⟩ := h.syn
    exact ⟨tp, p, var_later (g := 2) (by kernel_rfl) hb hv⟩
  · obtain ⟨tp, p, hv⟩ := h.rng
    exact ⟨tp, p, var_later (g := 3) (by kernel_rfl) hb hv⟩
  · obtain ⟨m, h1, h2⟩ := h.mx
    exact ⟨m, (hb.cell (p := ⟨1, 0, none⟩) h2).trans h1, Nat.lt_of_lt_of_le h2 hb.size⟩
def valI (l : ByteArray) : Option Int := match Lib.atoiAll l.data.toList with | .ok v => (if l = numB v then some v else none) | .syntax => none | .range => none
theorem whole_some (l : ByteArray) (v : Int) (w : World) (hz : l.size ≤ 1048576) (hl : valI l = some v) (hv : RVars w) :
    Calls Tryz.prog 141 #[.string l] w fun e w' => e = .returned (.tuple #[.int .i64 v, .bool true]) ∧ Below w.heap.size w w' := by
  unfold valI at hl
  cases ha : Lib.atoiAll l.data.toList with
  | «syntax» => rw [ha] at hl; cases hl
  | range => rw [ha] at hl; cases hl
  | ok u =>
    rw [ha] at hl
    simp only at hl
    split at hl
    · rename_i hlu
      obtain rfl : u = v := by simpa using hl
      have hb := Lib.atoiAll_bounds ha
      have HA := hide (fun W => Tryz.strconv_Atoi_ok l (by omega) u ha W)
      have HD : Hid (∀ W, Below w.heap.size w W → Calls Tryz.prog 121 #[.int .i64 u] W fun e w' => e = .returned (.string l) ∧ Below W.heap.size W w') := fun W hW => by rw [hlu]; exact implDec_any u W hb.1 hb.2 (tab_later hW hv.pow)
      have he : (l.toList == l.toList) = true := beq_self_eq_true _
      clear hl hlu ha hv hb
      go_enter Tryz.func141, Tryz.ntmps141
      go_wp2_with fail
      refine (HA.out _).mono ?_
      rintro e w1 ⟨rfl, hw1⟩
      have B1 : Hid (Below w.heap.size w w1) := by
        rcases hw1 with rfl | ⟨t, rfl⟩
        · exact Below.refl _ _
        · exact Lib.bytesWorld_below w 5 t
      clear hw1
      go_wp2_with fail
      refine (HD.out _ B1.out).mono ?_
      rintro e w2 ⟨rfl, b2⟩
      go_wp2
      go_ret2
      exact ⟨rfl, B1.out.trans (b2.mono B1.out.size)⟩
    · cases hl
theorem whole_none (l : ByteArray) (w : World) (hz : l.size ≤ 1048576) (hl : valI l = none) (hv : RVars w) :
    Calls Tryz.prog 141 #[.string l] w fun e w' => e = .returned (.tuple #[.int .i64 0, .bool false]) ∧ Below w.heap.size w w' := by
  unfold valI at hl
  cases ha : Lib.atoiAll l.data.toList with
  | «syntax» =>
    obtain ⟨tp, p, hs⟩ := hv.syn
    have HA := hide (Tryz.strconv_Atoi_syntax_var l (by omega) ha tp p w hs)
    clear hl ha hv hs
    go_enter Tryz.func141, Tryz.ntmps141
    go_wp2_with fail
    refine (HA.out).mono ?_
    rintro e w1 ⟨N, rfl, -, -, b1⟩
    go_wp2
    go_ret2
    exact ⟨rfl, b1⟩
  | range =>
    obtain ⟨tp, p, hs⟩ := hv.rng
    have HA := hide (Tryz.strconv_Atoi_range_var l (by omega) ha tp p w hs)
    clear hl ha hv hs
    go_enter Tryz.func141, Tryz.ntmps141
    go_wp2_with fail
    refine (HA.out).mono ?_
    rintro e w1 ⟨N, rfl, -, -, b1⟩
    go_wp2
    go_ret2
    exact ⟨rfl, b1⟩
  | ok u =>
    rw [ha] at hl
    simp only at hl
    split at hl
    · cases hl
    · rename_i hlu
      have hb := Lib.atoiAll_bounds ha
      have HA := hide (fun W => Tryz.strconv_Atoi_ok l (by omega) u ha W)
      have HD : Hid (∀ W, Below w.heap.size w W → Calls Tryz.prog 121 #[.int .i64 u] W fun e w' => e = .returned (.string (numB u)) ∧ Below W.heap.size W w') := fun W hW => implDec_any u W hb.1 hb.2 (tab_later hW hv.pow)
      have he : ((numB u).toList == l.toList) = false := txt_ne (fun h => hlu h.symm)
      generalize numB u = D at HD he
      clear hl hlu ha hv hb
      go_enter Tryz.func141, Tryz.ntmps141
      go_wp2_with fail
      refine (HA.out _).mono ?_
      rintro e w1 ⟨rfl, hw1⟩
      have B1 : Hid (Below w.heap.size w w1) := by
        rcases hw1 with rfl | ⟨t, rfl⟩
        · exact Below.refl _ _
        · exact Lib.bytesWorld_below w 5 t
      clear hw1
      go_wp2_with fail
      refine (HD.out _ B1.out).mono ?_
      rintro e w2 ⟨rfl, b2⟩
      go_wp2
      go_ret2
      exact ⟨rfl, B1.out.trans (b2.mono B1.out.size)⟩
theorem bt_list (L : List UInt8) (p : Nat) (h : p < L.length) : Wd.bt ⟨L.toArray⟩ p = L[p].toNat := by
  unfold Wd.bt
  rw [dif_pos (show p < (⟨L.toArray⟩ : ByteArray).size from h)]
  rfl
theorem numF_same (s t : ByteArray) : ∀ k, (∀ p, p < k → Wd.bt s p = Wd.bt t p) → Wd.numF s k = Wd.numF t k
  | 0, _ => rfl
  | k + 1, h => by rw [Wd.numF, Wd.numF, numF_same s t k (fun p hp => h p (by omega)), h k (by omega)]
theorem dec_facts : ∀ n, Wd.digs ⟨(Lib.decDigits n).toArray⟩ (Lib.decDigits n).length ∧ Wd.numF ⟨(Lib.decDigits n).toArray⟩ (Lib.decDigits n).length = n ∧ 0 < (Lib.decDigits n).length ∧ (0 < n → Wd.bt ⟨(Lib.decDigits n).toArray⟩ 0 ≠ 48) := by
  intro n
  induction n using Nat.strongRecOn with
  | _ n ih =>
    by_cases h : n < 10
    · rw [Lib.decDigits_one h]
      have hb : Wd.bt ⟨([UInt8.ofNat (48 + n)] : List UInt8).toArray⟩ 0 = 48 + n := by
        rw [bt_list _ 0 (by simp)]
        simp; omega
      refine ⟨?_, ?_, by simp, ?_⟩
      · intro p hp
        obtain rfl : p = 0 := by simpa using hp
        rw [hb]; omega
      · show Wd.numF _ 1 = n
        rw [Wd.numF, Wd.numF, hb]; omega
      · intro h0; rw [hb]; omega
    · obtain ⟨h1, h2, h3, h4⟩ := ih (n / 10) (by omega)
      have e : Lib.decDigits n = Lib.decDigits (n / 10) ++ [UInt8.ofNat (48 + n % 10)] := by
        conv => lhs; rw [Lib.decDigits, dif_neg h]
      rw [e]
      generalize Lib.decDigits (n / 10) = L at h1 h2 h3 h4
      have hsame : ∀ p, p < L.length → Wd.bt ⟨(L ++ [UInt8.ofNat (48 + n % 10)]).toArray⟩ p = Wd.bt ⟨L.toArray⟩ p := fun p hp => by
        rw [bt_list L p hp, bt_list _ p (by simp; omega)]
        simp [hp]
      have hlast : Wd.bt ⟨(L ++ [UInt8.ofNat (48 + n % 10)]).toArray⟩ L.length = 48 + n % 10 := by
        rw [bt_list _ _ (by simp)]
        simp; omega
      have hlen : (L ++ [UInt8.ofNat (48 + n % 10)]).length = L.length + 1 := by simp
      rw [hlen]
      refine ⟨?_, ?_, by omega, ?_⟩
      · intro p hp
        by_cases hpl : p < L.length
        · rw [hsame p hpl]; exact h1 p hpl
        · obtain rfl : p = L.length := by omega
          rw [hlast]; omega
      · rw [Wd.numF, numF_same _ ⟨L.toArray⟩ L.length hsame, h2, hlast]; omega
      · intro _; rw [hsame 0 h3]; exact h4 (by omega)
theorem dec_len : ∀ m n, n < 10 ^ (m + 1) → (Lib.decDigits n).length ≤ m + 1
  | 0, n, h => by rw [Lib.decDigits_one (by simpa using h)]; simp
  | m + 1, n, h => by
    by_cases h10 : n < 10
    · rw [Lib.decDigits_one h10]; simp
    · have := dec_len m (n / 10) (Nat.div_lt_of_lt_mul (by rw [Nat.mul_comm, ← Nat.pow_succ]; exact h))
      rw [Lib.decDigits, dif_neg h10]
      simp; omega
theorem decS_nat (n : Nat) : n ≤ 1000000000 → Wd.decS (n : Int) = Lib.decDigits n := by
  intro h
  rw [← Wd.decS_itoa (n : Int) (by omega) (by omega), Lib.itoa_nonneg]
theorem decFrom_app (b : List UInt8) : ∀ (a : List UInt8) (acc : Nat), Lib.decFrom acc (a ++ b) = match Lib.decFrom acc a with | some m => Lib.decFrom m b | none => none
  | [], acc => by simp [Lib.decFrom]
  | c :: a, acc => by
    simp only [List.cons_append, Lib.decFrom]
    cases Lib.digitVal c with
    | none => rfl
    | some d => exact decFrom_app b a _
theorem decFrom_digits : ∀ n, Lib.decFrom 0 (Lib.decDigits n) = some n := by
  intro n
  induction n using Nat.strongRecOn with
  | _ n ih =>
    have hd : ∀ m, m < 10 → Lib.digitVal (UInt8.ofNat (48 + m)) = some m := fun m hm => by
      unfold Lib.digitVal
      have : (UInt8.ofNat (48 + m)).toNat = 48 + m := by simp; omega
      rw [this, if_pos (by omega)]
      congr 1
      omega
    by_cases h : n < 10
    · rw [Lib.decDigits_one h]
      simp only [Lib.decFrom, hd n h]
      simp
    · have e : Lib.decDigits n = Lib.decDigits (n / 10) ++ [UInt8.ofNat (48 + n % 10)] := by
        conv => lhs; rw [Lib.decDigits, dif_neg h]
      rw [e, decFrom_app, ih (n / 10) (by omega)]
      simp only [Lib.decFrom, hd (n % 10) (by omega)]
      congr 1
      omega
theorem digits_ne (n : Nat) : Lib.decDigits n ≠ [] := fun e => by
  have := (dec_facts n).2.2.1
  rw [e] at this
  simp at this
theorem decNat_digits (n : Nat) : Lib.decNat (Lib.decDigits n) = some n := by
  unfold Lib.decNat
  rw [if_neg (by simpa using digits_ne n)]
  exact decFrom_digits n
theorem digits_head (n : Nat) : ∃ b r, Lib.decDigits n = b :: r ∧ 48 ≤ b.toNat ∧ b.toNat ≤ 57 := by
  cases h : Lib.decDigits n with
  | nil => exact absurd h (digits_ne n)
  | cons b r =>
    have hf := (dec_facts n).1 0 (dec_facts n).2.2.1
    rw [h, bt_list (b :: r) 0 (by simp)] at hf
    exact ⟨b, r, rfl, hf⟩
theorem atoi_itoa (v : Int) : Lib.atoi (Lib.itoa v) = some v := by
  by_cases h : v < 0
  · obtain ⟨m, hm⟩ := Int.eq_ofNat_of_zero_le (show 0 ≤ -v by omega)
    have e : Lib.itoa v = 45 :: Lib.decDigits m := by
      unfold Lib.itoa
      rw [if_pos h]
      congr 2
      omega
    rw [e]
    simp only [Lib.atoi, decNat_digits]
    simp
    omega
  · obtain ⟨m, rfl⟩ := Int.eq_ofNat_of_zero_le (show 0 ≤ v by omega)
    rw [Lib.itoa_nonneg]
    obtain ⟨b, r, hb, h1, h2⟩ := digits_head m
    have hd := decNat_digits m
    rw [hb] at hd ⊢
    have n45 : (b == 45) = false := by rw [beq_eq_false_iff_ne]; intro e; subst e; revert h1; decide
    have n43 : (b == 43) = false := by rw [beq_eq_false_iff_ne]; intro e; subst e; revert h1; decide
    simp only [Lib.atoi, n45, n43, hd]
    simp
theorem decS_itoa2 (v : Int) (h0 : -9223372036854775808 ≤ v) (h1 : v ≤ 9223372036854775807) : (numB v).data.toList = Lib.itoa v := (Wd.decS_itoa v h0 h1).symm
theorem itoa_len (v : Int) (h0 : -1000000000 ≤ v) (h1 : v ≤ 1000000000) : (Lib.itoa v).length ≤ 11 := by
  by_cases h : v < 0
  · have e : Lib.itoa v = 45 :: Lib.decDigits v.natAbs := by unfold Lib.itoa; rw [if_pos h]
    have := dec_len 9 v.natAbs (by omega)
    rw [e, List.length_cons]
    omega
  · have e : Lib.itoa v = Lib.decDigits v.toNat := by unfold Lib.itoa; rw [if_neg h]
    have := dec_len 9 v.toNat (by omega)
    rw [e]
    omega
theorem valI_num (v : Int) (h0 : -1000000000 ≤ v) (h1 : v ≤ 1000000000) : valI (numB v) = some v := by
  unfold valI
  rw [decS_itoa2 v (by omega) (by omega), Lib.atoiAll_short _ (by have := itoa_len v h0 h1; omega), atoi_itoa]
  simp only [Lib.NumEnd.ofOption]
  rfl
theorem valI_text {l : ByteArray} {v : Int} (h : valI l = some v) : l = numB v ∧ -9223372036854775808 ≤ v ∧ v ≤ 9223372036854775807 := by
  unfold valI at h
  split at h
  · rename_i u hu
    split at h
    · rename_i hl
      obtain rfl : u = v := by simpa using h
      exact ⟨hl, Lib.atoiAll_bounds hu⟩
    · cases h
  · cases h
  · cases h
theorem valS_text {l : ByteArray} {v : Int} (h : valS l = some v) : l = numB v ∧ -1000000000 ≤ v ∧ v ≤ 1000000000 := by
  unfold valS at h
  cases hd : decV l with
  | some n =>
    rw [hd] at h
    obtain rfl : (n : Int) = v := by simpa using h
    have := decV_text hd
    exact ⟨this.1, by omega, by omega⟩
  | none =>
    rw [hd] at h
    simp only at h
    split at h
    · rename_i hc
      split at h
      · rename_i n hn
        obtain rfl : -(n : Int) = v := by simpa using h
        have e := tail_text hc.1 hc.2.1 hn
        have hb := (decV_text hn).2.1
        have h0 : n ≠ 0 := fun e0 => by subst e0; exact hc.2.2 e
        refine ⟨?_, by omega, by omega⟩
        rw [e]
        have e1 : Wd.decS (n : Int) = Lib.decDigits n := decS_nat n hb
        have e2 : Wd.decS (-(n : Int)) = 45 :: Lib.decDigits n := by
          rw [← Wd.decS_itoa _ (by omega) (by omega)]
          unfold Lib.itoa
          rw [if_pos (by omega)]
          congr 2
          omega
        show _ = (⟨(Wd.decS (-(n : Int))).toArray⟩ : ByteArray)
        rw [e1, e2]
      · cases h
    · cases h
theorem decV_digits (m : Nat) (h : m ≤ 1000000000) : decV ⟨(Lib.decDigits m).toArray⟩ = some m := by
  obtain ⟨h1, h2, h3, h4⟩ := dec_facts m
  have hl := dec_len 9 m (by omega)
  have hs : (⟨(Lib.decDigits m).toArray⟩ : ByteArray).size = (Lib.decDigits m).length := rfl
  have hl0 : (Lib.decDigits m).length = 1 ∨ Wd.bt ⟨(Lib.decDigits m).toArray⟩ 0 ≠ 48 := by
    by_cases h0 : 0 < m
    · exact .inr (h4 h0)
    · left
      rw [Lib.decDigits_one (by omega)]
      rfl
  have hg : Wd.good ⟨(Lib.decDigits m).toArray⟩ := ⟨by rw [hs]; omega, by rw [hs]; omega, by rw [hs]; exact h1, by rw [hs]; exact hl0, by rw [hs, h2]; exact h⟩
  unfold decV
  rw [if_pos hg, hs, h2]
theorem valS_num (v : Int) (h0 : -1000000000 ≤ v) (h1 : v ≤ 1000000000) : valS (numB v) = some v := by
  obtain ⟨l, el0⟩ : ∃ l, l = numB v := ⟨_, rfl⟩
  rw [← el0]
  have hL := decS_itoa2 v (by omega) (by omega)
  by_cases h : v < 0
  · obtain ⟨m, hm⟩ := Int.eq_ofNat_of_zero_le (show 0 ≤ -v by omega)
    have e : Lib.itoa v = 45 :: Lib.decDigits m := by
      unfold Lib.itoa
      rw [if_pos h]
      congr 2
      omega
    have el : l = ⟨(45 :: Lib.decDigits m).toArray⟩ := by rw [el0, ← e, ← hL, back_txt]
    have hz : l.size = (Lib.decDigits m).length + 1 := by rw [el]; rfl
    have hb : ∀ p, p < (Lib.decDigits m).length → Wd.bt l (p + 1) = Wd.bt ⟨(Lib.decDigits m).toArray⟩ p := fun p hp => by
      rw [el, bt_list _ (p + 1) (by simp; omega), bt_list _ p hp]
      simp
    have ht : l.extract 1 l.size = ⟨(Lib.decDigits m).toArray⟩ := by
      refine bt_ext (by rw [ByteArray.size_extract, hz]; show _ = (Lib.decDigits m).length; omega) fun p hp => ?_
      have hp' : p < (Lib.decDigits m).length := hp
      rw [bt_ex l 1 l.size p (by omega) (Nat.le_refl _), Nat.add_comm, hb p hp']
    have h45 : Wd.bt l 0 = 45 := by rw [el, bt_list _ 0 (by simp)]; rfl
    have hne : l ≠ ⟨#[45, 48]⟩ := fun e0 => by
      have h1 : (45 :: Lib.decDigits m) = [45, 48] := by
        have h2 := congrArg (fun x : ByteArray => x.data.toList) (el.symm.trans e0)
        simpa using h2
      have h3 : Lib.decDigits m = [48] := by simpa using h1
      have h4 := decFrom_digits m
      rw [h3] at h4
      have : Lib.decFrom 0 [48] = some 0 := by decide
      rw [this] at h4
      have : m = 0 := by simpa using h4.symm
      omega
    have hp := (dec_facts m).2.2.1
    unfold valS
    rw [decV_minus h45]
    simp only
    rw [if_pos ⟨by omega, h45, hne⟩, ht, decV_digits m (by omega)]
    simp only
    congr 1
    omega
  · obtain ⟨m, rfl⟩ := Int.eq_ofNat_of_zero_le (show 0 ≤ v by omega)
    rw [Lib.itoa_nonneg] at hL
    have el : l = ⟨(Lib.decDigits m).toArray⟩ := by rw [el0, ← hL, back_txt]
    have hv : decV l = some m := by rw [el]; exact decV_digits m (by omega)
    unfold valS
    rw [hv]
theorem valI_range (l : ByteArray) : valS l = match valI l with | some v => if -1000000000 ≤ v ∧ v ≤ 1000000000 then some v else none | none => none := by
  cases hI : valI l with
  | some v =>
    simp only
    by_cases hr : -1000000000 ≤ v ∧ v ≤ 1000000000
    · rw [if_pos hr, (valI_text hI).1]
      exact valS_num v hr.1 hr.2
    · rw [if_neg hr]
      cases hS : valS l with
      | none => rfl
      | some u =>
        obtain ⟨hl, h0, h1⟩ := valS_text hS
        have := valI_num u h0 h1
        rw [← hl, hI] at this
        obtain rfl := Option.some.inj this
        exact absurd ⟨h0, h1⟩ hr
  | none =>
    simp only
    cases hS : valS l with
    | none => rfl
    | some v =>
      obtain ⟨hl, h0, h1⟩ := valS_text hS
      have := valI_num v h0 h1
      rw [← hl, hI] at this
      cases this
def riV : Option Int → Value
  | some v => .tuple #[.int .i64 v, .bool true]
  | none => .tuple #[.int .i64 0, .bool false]
def inLim (v : Int) : Bool := decide (-1000000000 ≤ v) && decide (v ≤ 1000000000)
theorem inLimits_any (v : Int) (w : World) : Calls Tryz.prog 120 #[.int .i64 v] w fun e w' => e = .returned (.bool (inLim v)) ∧ w' = w := by
  unfold inLim
  by_cases h1 : -1000000000 ≤ v
  · by_cases h2 : v ≤ 1000000000
    · have h1' : decide (-1000000000 ≤ v) = true := decide_eq_true h1
      have h2' : decide (v ≤ 1000000000) = true := decide_eq_true h2
      rw [h1', h2']
      go_enter Tryz.func120, Tryz.ntmps120
      go_wp2
      go_ret
      exact ⟨rfl, rfl⟩
    · have h1' : decide (-1000000000 ≤ v) = true := decide_eq_true h1
      have h2' : decide (v ≤ 1000000000) = false := decide_eq_false h2
      rw [h1', h2']
      go_enter Tryz.func120, Tryz.ntmps120
      go_wp2
      go_ret
      exact ⟨rfl, rfl⟩
  · have h1' : decide (-1000000000 ≤ v) = false := decide_eq_false h1
    rw [h1']
    go_enter Tryz.func120, Tryz.ntmps120
    go_wp2
    go_ret
    exact ⟨rfl, rfl⟩
theorem implReadInt_any (l : ByteArray) (w : World) (hz : l.size ≤ 1048576) (hv : RVars w) : Calls Tryz.prog 119 #[.string l] w fun e w' => e = .returned (riV (valS l)) ∧ Below w.heap.size w w' := by
  have HS := hide (valI_range l)
  obtain ⟨R, HR⟩ : ∃ R, Hid (valS l = R) := ⟨_, rfl⟩
  rw [HR.out] at HS ⊢
  cases hI : valI l with
  | none =>
    have HC := hide (whole_none l w hz hI hv)
    have HRR : Hid (R = none) := by show _ = _; rw [HS.out, hI]
    clear hI hv HS
    go_enter Tryz.func119, Tryz.ntmps119
    go_wp2_with fail
    refine HC.out.mono ?_
    rintro e w1 ⟨rfl, b1⟩
    go_wp2
    go_ret2
    exact ⟨by rw [HRR.out]; rfl, b1⟩
  | some v =>
    have HC := hide (whole_some l v w hz hI hv)
    have HRR : Hid (R = if -1000000000 ≤ v ∧ v ≤ 1000000000 then some v else none) := by show _ = _; rw [HS.out, hI]
    have HIN := hide (fun W => inLimits_any v W)
    have HRI : Hid (R = if inLim v = true then some v else none) := by
      show _ = _
      rw [HRR.out]
      unfold inLim
      simp
    clear hI hv HS HRR
    generalize inLim v = q at HIN HRI
    cases q with
    | true =>
      go_enter Tryz.func119, Tryz.ntmps119
      go_wp2_with fail
      refine HC.out.mono ?_
      rintro e w1 ⟨rfl, b1⟩
      go_wp2_with fail
      refine (HIN.out _).mono ?_
      rintro e w2 ⟨rfl, rfl⟩
      go_wp2
      go_ret2
      exact ⟨by rw [HRI.out]; rfl, b1⟩
    | false =>
      go_enter Tryz.func119, Tryz.ntmps119
      go_wp2_with fail
      refine HC.out.mono ?_
      rintro e w1 ⟨rfl, b1⟩
      go_wp2_with fail
      refine (HIN.out _).mono ?_
      rintro e w2 ⟨rfl, rfl⟩
      go_wp2
      go_ret2
      exact ⟨by rw [HRI.out]; rfl, b1⟩
theorem look_small {T : List EntD} (hT : TabR T) (k : ByteArray) (kind : Int) : EntS 1048576 ⟨⟨#[]⟩, (lookK T k kind).1⟩ := by
  unfold lookK
  cases h : findE T k with
  | none => exact ⟨Nat.zero_le 1048576, Nat.zero_le 1048576, Nat.zero_le 1048576, fun s hs => by cases hs⟩
  | some v =>
    by_cases hk : v.kind = kind
    · simp only [hk, if_pos]
      have := tab_ents hT _ ((findE_iff (tab_pw hT) k v).1 h)
      exact ⟨Nat.zero_le 1048576, this.2⟩
    · simp only [if_neg hk]
      exact ⟨Nat.zero_le 1048576, Nat.zero_le 1048576, Nat.zero_le 1048576, fun s hs => by cases hs⟩
def DoP (tb : TypeId) (B b : Nat) (w : World) (r : ByteArray) (er : Option ByteArray) (T2 : List EntD) (e : Ending) (w' : World) : Prop := e = .returned (.tuple #[.string r, errV er]) ∧ WorkS tb w' B b T2 ∧ Below B w w'
end Go.Proofs.YtifjneldjjmeaaaGreatDoor
