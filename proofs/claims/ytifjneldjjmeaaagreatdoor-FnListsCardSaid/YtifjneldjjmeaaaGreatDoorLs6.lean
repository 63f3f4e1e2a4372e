import Derived.Shelf.Small.Utf8
import Derived.Shelf.Small.Strs
import Derived.Shelf.Strconv.Atoi
import Derived.Shelf.Strconv.Itoa0
import Derived.Shelf.Strconv.Itoa1
import Derived.Shelf.LaysM
import Derived.Shelf.Strconv.Itoa2
import Derived.Shelf.Strconv.Itoa3
import Derived.Shelf.Strconv.AtoiErrFast
import Derived.Shelf.Strconv.ParseIntEmpty
import Derived.Shelf.Strconv.AtoiFail
import Derived.Shelf.Strconv.Clone
import Derived.Shelf.Strconv.SyntaxError
import Derived.Shelf.LaysC
import Derived.Shelf.Strconv.ToError
import Derived.Shelf.Strconv.Lower
import Derived.Shelf.Strconv.ParseUint10
import Derived.Shelf.Strconv.ParseUint10Empty
import Derived.Shelf.Strconv.ParseUint10Any
import Derived.Shelf.Strconv.ParseInt10
import Derived.Shelf.Strconv.AtoiLong
import Derived.Shelf.Strconv.AtoiInnerAll
import Derived.Shelf.Strconv.RangeError
import Derived.Shelf.Strconv.ToErrorRange
import Derived.Shelf.Strconv.AtoiAll
import Derived.Shelf.Strconv.ErrVarAll
import Derived.Shelf.Strings.Search1
import Derived.Shelf.Strings.Runes
import Derived.Shelf.Strings.AsciiSet
import Derived.Shelf.Unicode.DecodeSlow
import Derived.Shelf.Unicode.DecodeAny
import Derived.Test.YtifjneldjjmeaaaGreatDoorProg
import Derived.Lib.ItoaMem
import Derived.WalkSmall
import Derived.Lib.ConvBytes
import Derived.Deep.AppendLies
import Derived.Lib.AppendStr
import Derived.Lib.SmallJoins
import Derived.OpenShut
import Derived.Test.YtifjneldjjmeaaaGreatDoorChecked
import Derived.BigQuiet
import Derived.Deep.RegionHeld3
import Derived.Deep.RegionLaw
import Derived.Lib.AtoiTie
import Derived.Test.YtifjneldjjmeaaaGreatDoorLs0
import Derived.Test.YtifjneldjjmeaaaGreatDoorLs5
import Derived.Test.YtifjneldjjmeaaaGreatDoorLs1
set_option maxRecDepth 100000
set_option maxHeartbeats 1600000
namespace Go.Proofs
open Go.Shelf
def Tryz.laysM171_ren : Go.Shelf.Ren := ⟨fun | 171 => 142 | 243 => 152 | 246 => 163 | 283 => 174 | 284 => 175 | 285 => 176 | 286 => 177 | 129 => 184 | 317 => 183 | 318 => 185 | 319 => 186 | 320 => 187 | 337 => 195 | 338 => 196 | n => n, fun | 3 => 3 | 9 => 9 | 2 => 2 | 4 => 4 | 171 => 188 | 0 => 0 | 53 => 189 | 37 => 22 | 5 => 5 | 173 => 192 | 212 => 202 | 51 => 203 | 20 => 20 | 213 => 204 | 46 => 108 | 232 => 217 | 233 => 218 | n => n, fun | 17 => 4 | 18 => 7 | 19 => 8 | n => n⟩
theorem Tryz.laysM171 : Go.Proofs.LaysM.n171 Tryz.prog Tryz.laysM171_ren := {
  mixed := by kernel_rfl
  f129 := Tryz.func184.trans (congrArg some (by kernel_rfl))
  f171 := Tryz.func142.trans (congrArg some (by kernel_rfl))
  f243 := Tryz.func152.trans (congrArg some (by kernel_rfl))
  f246 := Tryz.func163.trans (congrArg some (by kernel_rfl))
  f283 := Tryz.func174.trans (congrArg some (by kernel_rfl))
  f284 := Tryz.func175.trans (congrArg some (by kernel_rfl))
  f285 := Tryz.func176.trans (congrArg some (by kernel_rfl))
  f286 := Tryz.func177.trans (congrArg some (by kernel_rfl))
  f317 := Tryz.func183.trans (congrArg some (by kernel_rfl))
  f318 := Tryz.func185.trans (congrArg some (by kernel_rfl))
  f319 := Tryz.func186.trans (congrArg some (by kernel_rfl))
  f320 := Tryz.func187.trans (congrArg some (by kernel_rfl))
  f337 := Tryz.func195.trans (congrArg some (by kernel_rfl))
  f338 := Tryz.func196.trans (congrArg some (by kernel_rfl))
  t0 := Tryz.underlying0
  a0 := Tryz.isAgg0
  z0 := Tryz.sizeOf0
  v0 := Tryz.zeroValue0
  t2 := Tryz.underlying2
  a2 := Tryz.isAgg2
  z2 := Tryz.sizeOf2
  v2 := Tryz.zeroValue2
  t3 := Tryz.underlying3
  a3 := Tryz.isAgg3
  z3 := Tryz.sizeOf3
  v3 := Tryz.zeroValue3
  t4 := Tryz.underlying4
  a4 := Tryz.isAgg4
  z4 := Tryz.sizeOf4
  v4 := Tryz.zeroValue4
  t5 := Tryz.underlying5
  a5 := Tryz.isAgg5
  z5 := Tryz.sizeOf5
  v5 := Tryz.zeroValue5
  t9 := Tryz.underlying9
  a9 := Tryz.isAgg9
  z9 := Tryz.sizeOf9
  v9 := Tryz.zeroValue9
  t20 := Tryz.underlying20
  a20 := Tryz.isAgg20
  z20 := Tryz.sizeOf20
  v20 := Tryz.zeroValue20
  t37 := Tryz.underlying22
  a37 := Tryz.isAgg22
  z37 := Tryz.sizeOf22
  v37 := Tryz.zeroValue22
  t46 := Tryz.underlying108
  a46 := Tryz.isAgg108
  z46 := Tryz.sizeOf108
  v46 := Tryz.zeroValue108
  t51 := Tryz.underlying203
  a51 := Tryz.isAgg203
  z51 := Tryz.sizeOf203
  v51 := Tryz.zeroValue203
  t53 := Tryz.underlying189
  a53 := Tryz.isAgg189
  z53 := Tryz.sizeOf189
  v53 := Tryz.zeroValue189
  t171 := Tryz.underlying188
  a171 := Tryz.isAgg188
  z171 := Tryz.sizeOf188
  v171 := Tryz.zeroValue188
  t173 := Tryz.underlying192
  a173 := Tryz.isAgg192
  z173 := Tryz.sizeOf192
  v173 := Tryz.zeroValue192
  t212 := Tryz.underlying202
  a212 := Tryz.isAgg202
  z212 := Tryz.sizeOf202
  v212 := Tryz.zeroValue202
  t213 := Tryz.underlying204
  a213 := Tryz.isAgg204
  z213 := Tryz.sizeOf204
  t232 := Tryz.underlying217
  a232 := Tryz.isAgg217
  z232 := Tryz.sizeOf217
  v232 := Tryz.zeroValue217
  t233 := Tryz.underlying218
  a233 := Tryz.isAgg218
  z233 := Tryz.sizeOf218
  v233 := Tryz.zeroValue218
  g17 := by kernel_rfl
  g18 := by kernel_rfl
  g19 := by kernel_rfl
  i0 := by kernel_rfl
  i2 := by kernel_rfl
  i3 := by kernel_rfl
  i4 := by kernel_rfl
  i5 := by kernel_rfl
  i9 := by kernel_rfl
  i20 := by kernel_rfl
  i37 := by kernel_rfl
  i46 := by kernel_rfl
  i51 := by kernel_rfl
  i53 := by kernel_rfl
  i171 := by kernel_rfl
  i173 := by kernel_rfl
  i212 := by kernel_rfl
  i232 := by kernel_rfl
  i233 := by kernel_rfl
  m17 := by kernel_rfl
  m18 := by kernel_rfl
  m19 := by kernel_rfl }
open Go.RowKit Go.Sort Go.Lib in
theorem Tryz.strconv_Itoa (n : Int) (h0 : -9223372036854775808 ≤ n) (h1 : n ≤ 9223372036854775807) (w : World) (htab : Lib.TabIs Tryz.prog w "internal/strconv.uint64pow10" .u64 Lib.pow10Tab) :
    Calls Tryz.prog 142 #[.int .i64 n] w fun e w' => e = .returned (.string ⟨(Lib.itoa n).toArray⟩) ∧ ∃ k os, w' = grow (w.drewN k) os := Any.strconv_Itoa Tryz.laysM171 n h0 h1 w htab
end Go.Proofs
namespace Go.Proofs.YtifjneldjjmeaaaGreatDoor
open Go.RowKit
theorem Wd.decA_app : ∀ f n acc, n < 10 ^ f → 0 < n → Wd.decA f n acc = Lib.decDigits n ++ acc
  | 0, n, acc, h, h0 => by simp at h; omega
  | f + 1, n, acc, h, h0 => by
    rw [Wd.decA_step f n acc (by omega)]
    have hfig : ∀ m, m < 10 → Wd.figB m = UInt8.ofNat (48 + m) := by
      intro m hm
      unfold Wd.figB
      rw [Wd.figI_low _ (by omega)]
      congr 1
    by_cases h10 : n < 10
    · rw [show n / 10 = 0 from by omega, Wd.decA_zero, Lib.decDigits_one h10, hfig _ (by omega), show n % 10 = n from by omega]
      rfl
    · rw [Wd.decA_app f (n / 10) _ (Nat.div_lt_of_lt_mul (by rw [Nat.mul_comm, ← Nat.pow_succ]; exact h)) (by omega), hfig _ (by omega)]
      conv => rhs; rw [Lib.decDigits, dif_neg h10]
      simp
theorem Wd.decS_itoa (n : Int) (h0 : -9223372036854775808 ≤ n) (h1 : n ≤ 9223372036854775807) : Lib.itoa n = Wd.decS n := by
  unfold Wd.decS
  by_cases hz : n = 0
  · subst hz
    rw [if_pos rfl]
    show Lib.itoa ((0 : Nat) : Int) = _
    rw [Lib.itoa_nonneg, Lib.decDigits_one (by omega)]
    rfl
  · rw [if_neg hz]
    by_cases hn : n < 0
    · rw [if_pos hn]
      obtain ⟨m, hm⟩ := Int.eq_ofNat_of_zero_le (show 0 ≤ -n by omega)
      have e : n = -(m : Int) := by omega
      subst e
      rw [Lib.itoa_neg m (by omega), Int.natAbs_neg, Int.natAbs_natCast, Wd.decA_app 20 m [] (by omega) (by omega), List.append_nil]
    · rw [if_neg hn]
      obtain ⟨m, rfl⟩ := Int.eq_ofNat_of_zero_le (show 0 ≤ n by omega)
      rw [Lib.itoa_nonneg, Int.natAbs_natCast, Wd.decA_app 20 m [] (by omega) (by omega), List.append_nil]
theorem implDec_any (n : Int) (w : World) (h0 : -9223372036854775808 ≤ n) (h1 : n ≤ 9223372036854775807) (htab : Lib.TabIs Tryz.prog w "internal/strconv.uint64pow10" .u64 Lib.pow10Tab) :
    Calls Tryz.prog 121 #[.int .i64 n] w fun e w' => e = .returned (.string ⟨(Wd.decS n).toArray⟩) ∧ Below w.heap.size w w' := by
  have H := hide htab
  clear htab
  go_enter Tryz.func121, Tryz.ntmps121
  go_wp2_with (go_at_call 142; refine (Tryz.strconv_Itoa n h0 h1 _ H.out).mono ?_; rintro e w' ⟨rfl, k, os, hw⟩)
  go_ret
  rw [← Wd.decS_itoa n h0 h1]
  exact ⟨rfl, ⟨rfl, rfl, rfl, by simp [Sort.grow], fun j hj => by simp [Sort.grow, Array.getElem?_append, hj]⟩⟩
theorem tab_later {w w' : World} (h : Below w.heap.size w w') (ht : Lib.TabIs Tryz.prog w "internal/strconv.uint64pow10" .u64 Lib.pow10Tab) : Lib.TabIs Tryz.prog w' "internal/strconv.uint64pow10" .u64 Lib.pow10Tab := by
  have hg : Tryz.prog.globalNamed "internal/strconv.uint64pow10" = some 4 := by kernel_rfl
  refine var?_below h hg ?_ ht
  rcases Nat.lt_or_ge 4 w.heap.size with h' | h'
  · exact h'
  · unfold Lib.TabIs World.var? at ht
    rw [hg] at ht
    simp [Array.getElem?_eq_none h'] at ht
def OwnsB (w : World) (B : Nat) (te : TypeId) (v : Value) (l : List UInt8) : Prop :=
  ∃ (g cap : Nat) (cur : Array Value) (fz : Nat × Nat), v = .slice (some ⟨g, 0, none⟩) l.length cap ∧ B ≤ g ∧ w.heap[g]? = some (.cells cur te fz) ∧ (fz = (0, 0) ∨ cur.size ≤ fz.1) ∧ l.length ≤ cap ∧ cap ≤ maxLen ∧ cur.size = cap ∧ cur.toList.take l.length = l.map bv
theorem ownsB_lt {w : World} {B : Nat} {te : TypeId} {v : Value} {l : List UInt8} (h : OwnsB w B te v l) : ∀ g, v.ownBlock = some g → B ≤ g ∧ g < w.heap.size := by
  obtain ⟨g, cap, cur, fz, rfl, hB, hC, _⟩ := h
  intro g' h
  obtain rfl : g = g' := by simpa [Value.ownBlock] using h
  exact ⟨hB, (Array.getElem?_eq_some_iff.1 hC).1⟩
theorem ownsB_cells {w : World} {B : Nat} {te : TypeId} {g n cap : Nat} {l : List UInt8} (h : OwnsB w B te (.slice (some ⟨g, 0, none⟩) n cap) l) : ∀ j u, (l.map bv)[j]? = some u → w.cell? ((⟨g, 0, none⟩ : Addr).add j) = some u := by
  obtain ⟨g', cap', cur, fz, e, _, hC, _, _, _, _, ht⟩ := h
  obtain ⟨rfl, -, -⟩ : g = g' ∧ n = l.length ∧ cap = cap' := by simpa using e
  intro j u hu
  have hadd : (⟨g, 0, none⟩ : Addr).add j = ⟨g, j, none⟩ := by cases j <;> simp [Addr.add]
  rw [hadd, cell_of_row w g j cur te fz hC]
  rw [← ht, List.getElem?_take] at hu
  split at hu
  · simpa using hu
  · cases hu
section
variable {P : Program}
theorem conv_made (w : World) (src dst e : TypeId) (s : ByteArray) (hs : P.underlying src = some .string) (hd : P.underlying dst = some (.slice e)) (he : P.underlying e = some (.int .u8)) (hz : s.size ≤ maxLen) :
    ∃ (W : World) (C : Nat), (convert src dst (.string s)).run P w = .ok (.slice (some ⟨w.heap.size, 0, none⟩) s.size C) W ∧ Below w.heap.size w W ∧ W.heap.size = w.heap.size + 1 ∧ OwnsB W w.heap.size e (.slice (some ⟨w.heap.size, 0, none⟩) s.size C) s.data.toList := by
  refine ⟨_, _, Lib.run_convert_string_bytes w src dst e s hs hd he, ⟨rfl, rfl, rfl, by rw [Lib.bytesWorld_size]; omega, fun k hk => Lib.bytesWorld_at_old w e _ k hk⟩, Lib.bytesWorld_size _ _ _, ?_⟩
  have hl : s.data.toList.length = s.size := Array.length_toList
  have hge := grownCap_ge w s.size 0 e
  have hsz : (Lib.bytesCells w e s).size = grownCap w s.size 0 e := by
    have h0 : s.data.size = s.size := rfl
    simp only [Lib.bytesCells, Array.size_append, Array.size_map, Array.size_replicate]
    omega
  refine ⟨w.heap.size, grownCap w s.size 0 e, Lib.bytesCells w e s, _, by rw [hl], Nat.le_refl _, Lib.bytesWorld_at_new w e s, .inr (Nat.le_refl _), by omega, grownCap_le_maxLen w _ _ e hz, hsz, ?_⟩
  rw [hl]
  have h0 : s.size = (s.data.map fun b => Value.int .u8 (b.toNat : Int)).toList.length := by simp
  simp only [Lib.bytesCells, Array.toList_append]
  conv => lhs; rw [h0]
  rw [List.take_left]
  simp [bv]
theorem store_behind (g o : Nat) (t : TypeId) (fz : Nat × Nat) : ∀ (vs : List Value) (i : Nat) (cur : Array Value) (w : World), w.heap[g]? = some (.cells cur t fz) → (fz = (0, 0) ∨ cur.size ≤ fz.1) → o + i + vs.length ≤ cur.size → (∀ v ∈ vs, v.oneCell' = true) →
    (storeCells ⟨g, o, none⟩ vs i).run P w = .ok () (w.setRow g (cur.toList.take (o + i) ++ vs ++ cur.toList.drop (o + i + vs.length)).toArray)
  | [], i, cur, w, hg, _, _, _ => by
    simp only [storeCells, List.append_nil, List.length_nil, Nat.add_zero, List.take_append_drop, Array.toArray_toList]
    rw [setRow_self w g cur t fz hg]
    rfl
  | v :: rest, i, cur, w, hg, hfz, hl, h1 => by
    have hlt : o + i < cur.size := by simp at hl; omega
    have ha : (⟨g, o, none⟩ : Addr).add i = ⟨g, o + i, none⟩ := by cases i <;> simp [Addr.add]
    have hf : w.frozen? ⟨g, o + i, none⟩ = false := by
      simp only [World.frozen?, hg]
      rcases hfz with rfl | hfz
      · simp
      · obtain ⟨lo, hi⟩ := fz
        have : ¬ lo ≤ o + i := by simp only at hfz; omega
        simp [this]
    have hc : w.cell? ⟨g, o + i, none⟩ = some cur[o + i] := by rw [cell_of_row w g _ cur t fz hg, Array.getElem?_eq_getElem hlt]
    have h2 : (store ((⟨g, o, none⟩ : Addr).add i) v).run P w = .ok () (w.setRow g (cur.setIfInBounds (o + i) v)) := by
      rw [ha, run_store P w _ v _ (h1 v (by simp)), hc]
      simp [hf, setCell_eq_setRow w g (o + i) cur t fz v hg]
    have h3 := store_behind g o t fz rest (i + 1) (cur.setIfInBounds (o + i) v) _ (setRow_heap w g cur (cur.setIfInBounds (o + i) v) t fz hg) (by simpa using hfz) (by simp at hl ⊢; omega) (fun x hx => h1 x (by simp [hx]))
    simp only [storeCells, Sem.run_bind, h2, Result.andThen_ok, h3, setRow_setRow]
    congr 3
    simpa [Array.toList_setIfInBounds, Nat.add_assoc] using list_seg_step cur.toList (o + i) v rest (by simp at hl ⊢; omega)
theorem conv_backB (w : World) (ts tx te : TypeId) (B : Nat) (v : Value) (l : List UInt8) (hts : P.underlying ts = some (.slice te)) (hte : P.underlying te = some (.int .u8)) (htx : P.underlying tx = some .string) (hown : OwnsB w B te v l) :
    (convert ts tx v).run P w = .ok (.string ⟨l.toArray⟩) w := by
  obtain ⟨g, cap, cur, fz, rfl, hB, hC, hfz, hnc, hcm, hcs, htk⟩ := hown
  refine run_convert_bytes_back w ts tx te ⟨g, 0, none⟩ cap l hts hte htx ?_
  intro j hj
  refine ownsB_cells ⟨g, cap, cur, fz, rfl, hB, hC, hfz, hnc, hcm, hcs, htk⟩ j _ ?_
  simp [bv, hj]
end
theorem append_madeS {P : Program} (w : World) (B : Nat) (t u ty e : TypeId) (ht : P.underlying t = some (.slice e)) (hu : P.underlying u = some .string) (hinfo : (P.info? e).map (fun i => (i.zero, i.size, i.bytes)) = some (some (.int .u8 0), 1, 1))
    (v : Value) (l : List UInt8) (s : ByteArray) (hown : OwnsB w B e v l) (hlen : l.length + s.size ≤ 70368744177664) (hbase : B ≤ w.heap.size) :
    ∃ v' w', (Builtin.append_ #[t, u] ty #[v, .string s]).run P w = .ok v' w' ∧ OwnsB w' B e v' (l ++ s.data.toList) ∧ w.grownBy w' v.ownBlock := by
  obtain ⟨i0, hi, hz0, hz1, hz2⟩ := info_parts hinfo
  obtain ⟨g, cap, cur, fz, rfl, hB, hC, hfz, hnc, hcm, hcs, htk⟩ := hown
  have hsl : (s.data.toList.map bv).length = s.size := by rw [List.length_map]; rfl
  have hsc : Lib.strCells s = s.data.toList.map bv := rfl
  have hmx : l.length + s.size ≤ maxLen := by unfold maxLen; omega
  by_cases hroom : l.length + s.size ≤ cap
  · have hf := Lib.run_firstCells_string (P := P) w 1 s
    have hst := store_behind (P := P) g l.length e fz (s.data.toList.map bv) 0 cur w hC hfz (by rw [hsl]; omega) (bv_one s.data.toList)
    rw [hsc] at hf
    simp only [Nat.add_zero] at hst
    obtain ⟨X, hX⟩ : ∃ X, X = (cur.toList.take l.length ++ s.data.toList.map bv ++ cur.toList.drop (l.length + (s.data.toList.map bv).length)).toArray := ⟨_, rfl⟩
    rw [← hX] at hst
    have hXs : X.size = cur.size := by rw [hX]; simp only [List.size_toArray, List.length_append, List.length_take, List.length_drop, Array.length_toList, hsl]; omega
    refine ⟨.slice (some ⟨g, 0, none⟩) (l.length + s.size) cap, w.setRow g X, ?_, ⟨g, cap, X, fz, by rw [List.length_append]; rfl, hB, setRow_heap w g cur X e fz hC, ?_, by rw [List.length_append]; exact hroom, hcm, ?_, ?_⟩, ⟨rfl, rfl, rfl, by simp, fun k _ hk => setRow_other w g k _ (fun e => hk (by simp [Value.ownBlock, e]))⟩⟩
    · simp [Builtin.append_, run_underlying ht, run_underlying hu, sizeOf, typeInfo, hi, hz1, Builtin.lenOf, hroom, hf, Addr.add_lit, hst]
    · rcases hfz with h | h
      · exact .inl h
      · exact .inr (by omega)
    · omega
    · rw [hX, htk, List.map_append, show (l ++ s.data.toList).length = (l.map bv ++ s.data.toList.map bv).length from by simp]
      exact List.take_left
  · have hr := Lib.run_append_grow_string (P := P) w t u ty e i0 (.int .u8 0) ht hu hi hz0 ⟨g, 0, none⟩ l.length cap (l.map bv) (by rw [hz1]; simp) (ownsB_cells ⟨g, cap, cur, fz, rfl, hB, hC, hfz, hnc, hcm, hcs, htk⟩) s (by omega) (by unfold maxLen at hmx; omega) (by rw [hz2]; exact growslice_fits (by omega) (by omega))
    have hge := grownCap_ge w (l.length + s.size) cap e
    rw [hsc] at hr
    refine ⟨_, _, hr, ⟨w.heap.size, _, _, (0, 0), by rw [List.length_append]; rfl, hbase, heap_alloc_new w.drew _, .inl rfl, by rw [List.length_append]; exact hge, grownCap_le_maxLen w _ _ e hmx, ?_, ?_⟩, ⟨rfl, rfl, rfl, by simp, fun k hk _ => Go.heap_alloc_old w.drew _ hk⟩⟩
    · have hz : (Value.int IntKind.u8 0).cells.size = 1 := rfl
      simp only [Array.size_append, List.size_toArray, size_zeroCells, hz, List.length_map, hsl]
      have e1 : s.data.toList.length = s.size := rfl
      omega
    · simp only [Array.toList_append]
      rw [List.map_append, show (l ++ s.data.toList).length = (l.map bv ++ s.data.toList.map bv).length from by simp]
      exact List.take_left
theorem app_textB {P : Program} {ops : Array Oper} {rest : List Oper} {o : Oper} {a : Act} {Q : Exit → Act → World → Prop} (w : World) (t u e : TypeId) (ht : P.underlying t = some (.slice e)) (hu : P.underlying u = some .string) (hinfo : (P.info? e).map (fun i => (i.zero, i.size, i.bytes)) = some (some (.int .u8 0), 1, 1))
    (B : Nat) (hgd : o.guard = none) (sl x : Operand) (ho : o.op = .call { callee := .builtin .append, args := #[sl, x], argTypes := #[t, u] }) (v : Value) (l : List UInt8) (s : ByteArray) (hs : a.eval sl = v) (hown : OwnsB w B e v l) (hx : a.eval x = .string s)
    (hlen : l.length + s.size ≤ 70368744177664) (hbase : B ≤ w.heap.size)
    (h : ∀ v' w', OwnsB w' B e v' (l ++ s.data.toList) → w.grownBy w' v.ownBlock → wpList P ops Q rest (a.put o.dst v') w') : wpList P ops Q (o :: rest) a w := by
  refine wpList_plain hgd fun K hK => ?_
  obtain ⟨v', w', hr, h2, h3⟩ := append_madeS (P := P) w B t u o.type e ht hu hinfo v l s hown hlen hbase
  unfold Oper.wp execOp
  simp only [ho, resolve, invoke, builtin, Sem.run_bind, Sem.run_pure, Result.andThen_ok, List.map_toArray, List.map_cons, List.map_nil, hs, hx, hr]
  exact hK _ _ (h v' w' h2 h3)
def catB : ByteArray → List ByteArray → ByteArray
  | s, [] => s
  | s, x :: r => catB (s ++ x) r
theorem catB_snoc : ∀ (ts : List ByteArray) (s x : ByteArray), catB s (ts ++ [x]) = catB s ts ++ x
  | [], _, _ => rfl
  | t :: r, s, x => catB_snoc r (s ++ t) x
theorem catB_size : ∀ (ts : List ByteArray) (s : ByteArray) (M : Nat), (∀ x ∈ ts, x.size ≤ M) → (catB s ts).size ≤ s.size + ts.length * M
  | [], s, M, _ => by simp [catB]
  | t :: r, s, M, h => by
    have h1 := catB_size r (s ++ t) M (fun x hx => h x (List.mem_cons_of_mem _ hx))
    have h2 := h t List.mem_cons_self
    rw [ByteArray.size_append] at h1
    rw [catB, List.length_cons, Nat.add_mul, Nat.one_mul]
    omega
theorem written_any (h : ByteArray) (ts : List ByteArray) (ao : Option Addr) (cap : Nat) (w : World) (hh : h.size ≤ 1048600) (hl : ts.length ≤ 1048576) (hts : TextsAt w ao ts) (hz : ∀ x ∈ ts, x.size ≤ 1048576) :
    Calls Tryz.prog 108 #[.string h, .slice ao ts.length cap] w fun e w' => e = .returned (.string (catB h ts)) ∧ Below w.heap.size w w' := by
  have HT := hide hts
  have HZ := hide hz
  clear hts hz
  obtain ⟨w1, C1, hcv, b1, hs1, ho1⟩ := conv_made (P := Tryz.prog) w 9 22 5 h Tryz.underlying9 Tryz.underlying22 Tryz.underlying5 (by unfold maxLen; omega)
  have B1 := hide b1
  have HO1 : Hid (OwnsB w1 w.heap.size 5 (.slice (some ⟨w.heap.size, 0, none⟩) h.size C1) (catB h (ts.take 0)).data.toList) := by
    show OwnsB _ _ _ _ _
    rw [List.take_zero, catB]
    exact ho1
  clear b1 hs1 ho1
  go_enter Tryz.func108, Tryz.ntmps108
  go_wp2_with fail
  go_loopw [5, 12] (fun vo ii wr => ∃ (k : Nat), ii = .int .i64 k ∧ k ≤ ts.length ∧ Hid (OwnsB wr w.heap.size 5 vo (catB h (ts.take k)).data.toList) ∧ Hid (Below w.heap.size w wr)) (fun _ ii _ => ts.length - (intOf ii).toNat)
  case atStart => exact ⟨0, rfl, Nat.zero_le _, HO1, B1⟩
  case round =>
    obtain ⟨k, rfl, hk, HO, HB⟩ := hrel
    have hws := HB.out.size
    by_cases hlt : k < ts.length
    · have hlt' : decide ((k : Int) < (ts.length : Int)) = true := by simp; omega
      have hi0 : (0 : Int) ≤ (k : Int) := by omega
      have hi1 : (k : Int) < (ts.length : Int) := by omega
      obtain ⟨b, off, rfl, hbw, hd0⟩ := textsAt_keep HT.out HB.out k hlt
      have hxz := HZ.out ts[k] (List.getElem_mem hlt)
      have htk := hide (List.take_succ_eq_append_getElem hlt)
      generalize ts[k] = T at hd0 hxz htk
      obtain ⟨LL, HLL⟩ : ∃ LL, Hid (LL = (catB h (ts.take k)).data.toList) := ⟨_, rfl⟩
      rw [← HLL.out] at HO
      have hLl : LL.length + T.size ≤ 70368744177664 := by
        have h1 := catB_size (ts.take k) h 1048576 (fun x hx => HZ.out x (List.mem_of_mem_take hx))
        have h3 : (ts.take k).length ≤ 1048576 := by rw [List.length_take]; omega
        have h4 : (ts.take k).length * 1048576 ≤ 1048576 * 1048576 := Nat.mul_le_mul_right _ h3
        have e1 : LL.length = (catB h (ts.take k)).size := by rw [HLL.out]; rfl
        omega
      go_wp2_with (at_builtin; refine app_textB _ 22 9 5 Tryz.underlying22 Tryz.underlying9 Tryz.info5 w.heap.size rfl _ _ rfl _ LL T rfl HO.out rfl hLl hws ?_; intro v7 w7 ho7 hg7; have HO7 := hide ho7; have HG7 := hide hg7; clear ho7 hg7)
      go_roundw
      case rel =>
        refine ⟨k + 1, by go_num, by omega, ?_, HB.out.grown HG7.out hws (fun g hg => (ownsB_lt HO.out g hg).1)⟩
        have e2 : (catB h (ts.take (k + 1))).data.toList = LL ++ T.data.toList := by
          rw [HLL.out, htk.out, catB_snoc]
          simp
        show OwnsB _ _ _ _ _
        rw [e2]
        exact HO7.out
      case measure => simp [intOf]; omega
    · have hlt' : decide ((k : Int) < (ts.length : Int)) = false := by simp; omega
      rw [show ts.take k = ts from List.take_of_length_le (by omega)] at HO
      obtain ⟨L, HL⟩ : ∃ L, Hid ((catB h ts).data.toList = L) := ⟨_, rfl⟩
      rw [HL.out] at HO
      have hcv := conv_backB (P := Tryz.prog) wr 22 9 5 _ u5 L Tryz.underlying22 Tryz.underlying5 Tryz.underlying9 HO.out
      have HR : Hid ((⟨L.toArray⟩ : ByteArray) = catB h ts) := by show _ = _; rw [← HL.out]
      clear HL
      obtain ⟨g, co, cur, fz, rfl, -, -, -, hLc, hcm, -, -⟩ := HO.out
      go_wp2
      go_ret
      rw [HR.out]
      exact ⟨rfl, HB.out⟩
theorem textsAt_two (w : World) (a b : ByteArray) : TextsAt (w.alloc (.cells #[.string a, .string b] 9)) (some ⟨w.heap.size, 0, none⟩) [a, b] := by
  refine textsAt_in (heap_alloc_new w _) ?_
  intro j hj _
  match j, hj with
  | 0, _ => rfl
  | 1, _ => rfl
def lineB (m s : ByteArray) : ByteArray := (m ++ s) ++ ⟨#[13, 10]⟩
theorem written_line (m s : ByteArray) (w : World) (hm : m.size ≤ 1048600) (hs : s.size ≤ 1048576) :
    Calls Tryz.prog 108 #[.string m, .slice (some ⟨w.heap.size, 0, none⟩) 2 2] (w.alloc (.cells #[.string s, .string ⟨#[13, 10]⟩] 9)) fun e w' => e = .returned (.string (lineB m s)) ∧ Below w.heap.size w w' := by
  refine (written_any m [s, ⟨#[13, 10]⟩] (some ⟨w.heap.size, 0, none⟩) 2 _ hm (by simp) (textsAt_two w s _) ?_).mono ?_
  · intro x hx
    rcases List.mem_cons.1 hx with rfl | hx
    · exact hs
    · obtain rfl : x = ⟨#[13, 10]⟩ := by simpa using hx
      decide
  · rintro e w' ⟨rfl, hb⟩
    exact ⟨rfl, ((Below.refl _ w).alloc (Nat.le_refl _) _).trans (hb.mono (by simp))⟩
theorem implFault_any (s : ByteArray) (w : World) (hs : s.size ≤ 1048576) : Calls Tryz.prog 67 #[.string s] w fun e w' => e = .returned (.string (lineB ⟨#[45]⟩ s)) ∧ Below w.heap.size w w' := by
  have HW := hide (fun W => written_line ⟨#[45]⟩ s W (by decide) hs)
  generalize lineB ⟨#[45]⟩ s = R at HW
  go_enter Tryz.func67, Tryz.ntmps67
  go_wp2_with fail
  refine (HW.out _).mono ?_
  rintro e w1 ⟨rfl, b1⟩
  go_wp2
  go_ret
  exact ⟨rfl, b1⟩
def numB (n : Int) : ByteArray := ⟨(Wd.decS n).toArray⟩
theorem numB_size (n : Int) (h0 : -9223372036854775808 ≤ n) (h1 : n ≤ 9223372036854775807) : (numB n).size ≤ 21 := by
  show (Wd.decS n).toArray.size ≤ 21
  rw [List.size_toArray]
  have h := Wd.decA_length 20 n.natAbs [] 20 (by omega)
  unfold Wd.decS
  split
  · decide
  · split
    · rw [List.length_cons]; simp at h; omega
    · simp at h; omega
def hdB (m : ByteArray) (n : Int) : ByteArray := (m ++ numB n) ++ ⟨#[13, 10]⟩
theorem hdB_size (m : ByteArray) (n : Int) (hm : m.size ≤ 1) (h0 : -9223372036854775808 ≤ n) (h1 : n ≤ 9223372036854775807) : (hdB m n).size ≤ 24 := by
  have := numB_size n h0 h1
  have h2 : (⟨#[13, 10]⟩ : ByteArray).size = 2 := rfl
  unfold hdB
  rw [ByteArray.size_append, ByteArray.size_append]
  omega
theorem headLineI_any (m : ByteArray) (n : Int) (w : World) (hm : m.size ≤ 1) (h0 : -9223372036854775808 ≤ n) (h1 : n ≤ 9223372036854775807) (htab : Lib.TabIs Tryz.prog w "internal/strconv.uint64pow10" .u64 Lib.pow10Tab) :
    Calls Tryz.prog 137 #[.string m, .int .i64 n] w fun e w' => e = .returned (.string (hdB m n)) ∧ Below w.heap.size w w' := by
  have HD := hide (implDec_any n w h0 h1 htab)
  have HE : Hid (hdB m n = (m ++ numB n) ++ ⟨#[13, 10]⟩) := rfl
  have hd := numB_size n h0 h1
  change Hid (Calls _ _ _ _ fun e w' => e = .returned (.string (numB n)) ∧ _) at HD
  generalize numB n = D at HD HE hd
  rw [HE.out]
  clear htab
  have hc2 : (⟨#[13, 10]⟩ : ByteArray).size = 2 := rfl
  go_enter Tryz.func137, Tryz.ntmps137
  go_wp2_with fail
  refine (HD.out).mono ?_
  rintro e w1 ⟨rfl, b1⟩
  have B1 := hide b1
  clear b1
  go_wp2
  go_ret
  exact ⟨rfl, B1.out⟩
abbrev Pow10 (w : World) : Prop := Lib.TabIs Tryz.prog w "internal/strconv.uint64pow10" .u64 Lib.pow10Tab
theorem implNumber_any (n : Int) (w : World) (h0 : -9223372036854775808 ≤ n) (h1 : n ≤ 9223372036854775807) (ht : Pow10 w) : Calls Tryz.prog 114 #[.int .i64 n] w fun e w' => e = .returned (.string (hdB ⟨#[58]⟩ n)) ∧ Below w.heap.size w w' := by
  have HH := hide (headLineI_any ⟨#[58]⟩ n w (by decide) h0 h1 ht)
  clear ht
  go_enter Tryz.func114, Tryz.ntmps114
  go_wp2_with fail
  refine (HH.out).mono ?_
  rintro e w1 ⟨rfl, b1⟩
  go_wp2
  go_ret
  exact ⟨rfl, b1⟩
theorem specNumber_any (n : Int) (w : World) (h0 : -9223372036854775808 ≤ n) (h1 : n ≤ 9223372036854775807) : Calls Tryz.prog 12 #[.int .i64 n] w fun e w' => e = .returned (.string (hdB ⟨#[58]⟩ n)) ∧ Below w.heap.size w w' := by
  have HD : Hid (∀ W, Calls Tryz.prog 9 #[.int .i64 n] W fun e w' => e = .returned (.string (numB n)) ∧ Below W.heap.size W w') := fun W => decimal_any n W h0 h1
  have hz := numB_size n h0 h1
  have HE : Hid (hdB ⟨#[58]⟩ n = (⟨#[58]⟩ ++ numB n) ++ ⟨#[13, 10]⟩) := rfl
  generalize numB n = D at HD hz HE
  have hc1 : (⟨#[58]⟩ : ByteArray).size = 1 := rfl
  have hc2 : (⟨#[13, 10]⟩ : ByteArray).size = 2 := rfl
  rw [HE.out]
  go_enter Tryz.func12, Tryz.ntmps12
  go_wp2_with fail
  refine (HD.out _).mono ?_
  rintro e w1 ⟨rfl, b1⟩
  go_wp2
  go_ret
  exact ⟨rfl, b1⟩
theorem implNil_any (w : World) (ht : Pow10 w) : Calls Tryz.prog 110 #[] w fun e w' => e = .returned (.string ⟨#[36, 45, 49, 13, 10]⟩) ∧ Below w.heap.size w w' := by
  have HH : Hid (Calls Tryz.prog 137 #[.string ⟨#[36]⟩, .int .i64 (-1)] w fun e w' => e = .returned (.string ⟨#[36, 45, 49, 13, 10]⟩) ∧ Below w.heap.size w w') := headLineI_any ⟨#[36]⟩ (-1) w (by decide) (by decide) (by decide) ht
  clear ht
  go_enter Tryz.func110, Tryz.ntmps110
  go_wp2_with fail
  refine (HH.out).mono ?_
  rintro e w1 ⟨rfl, b1⟩
  go_wp2
  go_ret
  exact ⟨rfl, b1⟩
def bulkB (s : ByteArray) : ByteArray := (hdB ⟨#[36]⟩ s.size ++ s) ++ ⟨#[13, 10]⟩
theorem implBulk_any (s : ByteArray) (w : World) (hs : s.size ≤ 1048576) (ht : Pow10 w) : Calls Tryz.prog 111 #[.string s] w fun e w' => e = .returned (.string (bulkB s)) ∧ Below w.heap.size w w' := by
  have HH := hide (headLineI_any ⟨#[36]⟩ s.size w (by decide) (by omega) (by omega) ht)
  have hz := hdB_size ⟨#[36]⟩ s.size (by decide) (by omega) (by omega)
  have HE : Hid (bulkB s = lineB (hdB ⟨#[36]⟩ s.size) s) := rfl
  generalize hdB ⟨#[36]⟩ (s.size : Int) = D at HH hz HE
  have HW := hide (fun W => written_line D s W (by omega) hs)
  rw [HE.out]
  generalize lineB D s = R at HW
  clear ht HE
  go_enter Tryz.func111, Tryz.ntmps111
  go_wp2_with fail
  refine (HH.out).mono ?_
  rintro e w1 ⟨rfl, b1⟩
  have B1 := hide b1
  clear b1
  go_wp2_with fail
  refine (HW.out _).mono ?_
  rintro e w2 ⟨rfl, b2⟩
  go_wp2
  go_ret
  exact ⟨rfl, B1.out.trans (b2.mono B1.out.size)⟩
theorem specBulk_any (s : ByteArray) (w : World) (hs : s.size ≤ 1048576) : Calls Tryz.prog 11 #[.string s] w fun e w' => e = .returned (.string (bulkB s)) ∧ Below w.heap.size w w' := by
  have HD : Hid (∀ W, Calls Tryz.prog 9 #[.int .i64 (s.size : Int)] W fun e w' => e = .returned (.string (numB s.size)) ∧ Below W.heap.size W w') := fun W => decimal_any s.size W (by omega) (by omega)
  have hz := numB_size s.size (by omega) (by omega)
  have HE : Hid (bulkB s = (((⟨#[36]⟩ ++ numB s.size) ++ ⟨#[13, 10]⟩) ++ s) ++ ⟨#[13, 10]⟩) := rfl
  generalize numB (s.size : Int) = D at HD hz HE
  have hc1 : (⟨#[36]⟩ : ByteArray).size = 1 := rfl
  have hc2 : (⟨#[13, 10]⟩ : ByteArray).size = 2 := rfl
  rw [HE.out]
  go_enter Tryz.func11, Tryz.ntmps11
  go_wp2_with fail
  refine (HD.out _).mono ?_
  rintro e w1 ⟨rfl, b1⟩
  go_wp2
  go_ret
  exact ⟨rfl, b1⟩
def MaxR (w : World) (m : Int) : Prop := w.cell? ⟨1, 0, none⟩ = some (.int .i64 m) ∧ 1 < w.heap.size
theorem maxR_of {w : World} {m : Int} (h : w.cell? ⟨1, 0, none⟩ = some (.int .i64 m)) : MaxR w m := by
  refine ⟨h, ?_⟩
  rcases Nat.lt_or_ge 1 w.heap.size with h' | h'
  · exact h'
  · simp [World.cell?, Array.getElem?_eq_none h'] at h
structure RVars (w : World) : Prop where
  pow : Pow10 w
  syn : ∃ tp p, w.var? Tryz.prog "strconv.ErrSyntax" = some #[.iface tp p]
  rng : ∃ tp p, w.var? Tryz.prog "strconv.ErrRange" = some #[.iface tp p]
  mx : ∃ m, MaxR w m
theorem var_later {w w' : World} {nm : String} {g : Nat} (hg : Tryz.prog.globalNamed nm = some g) (h : Below w.heap.size w w') {x : Value} (hv : w.var? Tryz.prog nm = some #[x]) : w'.var? Tryz.prog nm = some #[x] := by
  refine var?_below h hg ?_ hv
  rcases Nat.lt_or_ge g w.heap.size with h' | h'
  · exact h'
  · unfold World.var? at hv
    rw [hg] at hv
    simp [Array.getElem?_eq_none h'] at hv
theorem rvars_below {w w' : World} (h : RVars w) (hb : Below w.heap.size w w') : RVars w' := by
  refine ⟨tab_later hb h.pow, ?_, ?_, ?_⟩
  · obtain ⟨tp, p, hv⟩ := h.syn
    exact ⟨tp, p, var_later (g := 2) (by kernel_rfl) hb hv⟩
  · obtain ⟨tp, p, hv⟩ := h.rng
    exact ⟨tp, p, var_later (g := 3) (by kernel_rfl) hb hv⟩
  · obtain ⟨m, h1, h2⟩ := h.mx
    exact ⟨m, (hb.cell (p := ⟨1, 0, none⟩) h2).trans h1, Nat.lt_of_lt_of_le h2 hb.size⟩
def nilB : ByteArray := ⟨#[36, 45, 49, 13, 10]⟩
theorem look_small {T : List EntD} (hT : TabR T) (k : ByteArray) (kind : Int) : EntS 1048576 ⟨⟨#[]⟩, (lookK T k kind).1⟩ := by
  unfold lookK
  cases h : findE T k with
  | none => exact ⟨Nat.zero_le 1048576, Nat.zero_le 1048576, Nat.zero_le 1048576, fun s hs => by cases hs⟩
  | some v =>
    by_cases hk : v.kind = kind
    · simp only [hk, if_pos]
      have := tab_ents hT _ ((findE_iff (tab_pw hT) k v).1 h)
      exact ⟨Nat.zero_le 1048576, this.2⟩
    · simp only [if_neg hk]
      exact ⟨Nat.zero_le 1048576, Nat.zero_le 1048576, Nat.zero_le 1048576, fun s hs => by cases hs⟩
def DoP (tb : TypeId) (B b : Nat) (w : World) (r : ByteArray) (er : Option ByteArray) (T2 : List EntD) (e : Ending) (w' : World) : Prop := e = .returned (.tuple #[.string r, errV er]) ∧ WorkS tb w' B b T2 ∧ Below B w w'
def cmdsL : List ByteArray := [⟨#[80, 73, 78, 71]⟩, ⟨#[69, 67, 72, 79]⟩, ⟨#[71, 69, 84]⟩, ⟨#[83, 69, 84]⟩, ⟨#[83, 69, 84, 78, 88]⟩, ⟨#[71, 69, 84, 83, 69, 84]⟩, ⟨#[65, 80, 80, 69, 78, 68]⟩, ⟨#[83, 84, 82, 76, 69, 78]⟩, ⟨#[73, 78, 67, 82]⟩, ⟨#[68, 69, 67, 82]⟩, ⟨#[73, 78, 67, 82, 66, 89]⟩, ⟨#[68, 69, 67, 82, 66, 89]⟩, ⟨#[77, 71, 69, 84]⟩, ⟨#[77, 83, 69, 84]⟩, ⟨#[68, 69, 76]⟩, ⟨#[69, 88, 73, 83, 84, 83]⟩, ⟨#[84, 89, 80, 69]⟩, ⟨#[69, 88, 80, 73, 82, 69]⟩, ⟨#[84, 84, 76]⟩, ⟨#[80, 69, 82, 83, 73, 83, 84]⟩, ⟨#[75, 69, 89, 83]⟩, ⟨#[68, 66, 83, 73, 90, 69]⟩, ⟨#[70, 76, 85, 83, 72, 65, 76, 76]⟩, ⟨#[76, 80, 85, 83, 72]⟩, ⟨#[82, 80, 85, 83, 72]⟩, ⟨#[76, 80, 79, 80]⟩, ⟨#[82, 80, 79, 80]⟩, ⟨#[76, 76, 69, 78]⟩, ⟨#[76, 82, 65, 78, 71, 69]⟩, ⟨#[76, 73, 78, 68, 69, 88]⟩, ⟨#[72, 83, 69, 84]⟩, ⟨#[72, 71, 69, 84]⟩, ⟨#[72, 68, 69, 76]⟩, ⟨#[72, 76, 69, 78]⟩, ⟨#[72, 71, 69, 84, 65, 76, 76]⟩, ⟨#[72, 75, 69, 89, 83]⟩, ⟨#[83, 65, 68, 68]⟩, ⟨#[83, 82, 69, 77]⟩, ⟨#[83, 73, 83, 77, 69, 77, 66, 69, 82]⟩, ⟨#[83, 67, 65, 82, 68]⟩, ⟨#[83, 77, 69, 77, 66, 69, 82, 83]⟩]
def upB (b : UInt8) : UInt8 := if 97 ≤ b.toNat ∧ b.toNat ≤ 122 then UInt8.ofNat (b.toNat - 32) else b
theorem upB_yes {b : UInt8} {c : Nat} (h : b.toNat = c) (h1 : 97 ≤ c) (h2 : c ≤ 122) : (upB b).toNat = c - 32 := by
  unfold upB
  rw [if_pos (by omega), h]
  simp
  omega
theorem upB_no {b : UInt8} (h : ¬ (97 ≤ b.toNat ∧ b.toNat ≤ 122)) : upB b = b := by
  unfold upB
  rw [if_neg h]
def upTo (l : List UInt8) (k : Nat) : List UInt8 := (l.take k).map upB ++ l.drop k
theorem upTo_zero (l : List UInt8) : upTo l 0 = l := by simp [upTo]
theorem upTo_all (l : List UInt8) : upTo l l.length = l.map upB := by simp [upTo]
theorem upTo_length (l : List UInt8) (k : Nat) : (upTo l k).length = l.length := by simp [upTo]; omega
theorem upTo_get (l : List UInt8) (k : Nat) (h : k < l.length) : (upTo l k)[k]'(by rw [upTo_length]; exact h) = l[k] := by
  simp [upTo, Nat.le_of_lt h]
theorem upTo_next (l : List UInt8) (k : Nat) (h : k < l.length) : (upTo l k).set k (upB l[k]) = upTo l (k + 1) := by
  apply List.ext_getElem?
  intro j
  simp only [upTo, List.getElem?_set, List.getElem?_append, List.length_append, List.length_map, List.length_take, List.length_drop, List.getElem?_map, List.getElem?_take, List.getElem?_drop]
  by_cases hj : k = j
  · subst hj
    simp [h, Nat.min_eq_left (Nat.le_of_lt h)]
    rw [if_pos (by omega), if_pos (by omega)]
  · rw [if_neg hj, Nat.min_eq_left (Nat.le_of_lt h), Nat.min_eq_left h]
    by_cases h1 : j < k
    · rw [if_pos h1, if_pos h1, if_pos (by omega), if_pos (by omega)]
    · rw [if_neg h1, if_neg (by omega), show k + (j - k) = k + 1 + (j - (k + 1)) by omega]
theorem upTo_same (l : List UInt8) (k : Nat) (h : k < l.length) (hb : ¬ (97 ≤ l[k].toNat ∧ l[k].toNat ≤ 122)) : upTo l k = upTo l (k + 1) := by
  rw [← upTo_next l k h, upB_no hb]
  have e := upTo_get l k h
  conv => rhs; rw [← e]
  simp
def BytesIs (w : World) (g : Nat) (L : List UInt8) : Prop := ∀ j (h : j < L.length), w.cell? ⟨g, j, none⟩ = some (.int .u8 (L[j].toNat : Int)) ∧ w.frozen? ⟨g, j, none⟩ = false
theorem bytesIs_made {P : Program} (w : World) (src dst e : TypeId) (s : ByteArray) (hs : P.underlying src = some .string) (hd : P.underlying dst = some (.slice e)) (he : P.underlying e = some (.int .u8)) :
    ∃ (W : World) (C : Nat), (convert src dst (.string s)).run P w = .ok (.slice (some ⟨w.heap.size, 0, none⟩) s.size C) W ∧ Below w.heap.size w W ∧ W.heap.size = w.heap.size + 1 ∧ BytesIs W w.heap.size s.data.toList := by
  refine ⟨_, _, Lib.run_convert_string_bytes w src dst e s hs hd he, ⟨rfl, rfl, rfl, by rw [Lib.bytesWorld_size]; omega, fun k hk => Lib.bytesWorld_at_old w e _ k hk⟩, Lib.bytesWorld_size _ _ _, ?_⟩
  intro j hj
  have hj' : j < s.size := by simpa using hj
  constructor
  · rw [Lib.bytesWorld_cell w e s j hj']
    simp
    rw [Array.getElem?_eq_getElem hj']
    rfl
  · unfold World.frozen?
    rw [Lib.bytesWorld_at_new]
    have : s.size ≤ (Lib.bytesCells w e s).size := by simp [Lib.bytesCells]
    simp
    omega
theorem bytesIs_back {P : Program} (W : World) (src dst e : TypeId) (g n C : Nat) (L : List UInt8) (hn : L.length = n) (hs : P.underlying src = some (.slice e)) (he : P.underlying e = some (.int .u8)) (hd : P.underlying dst = some .string) (h : BytesIs W g L) :
    (convert src dst (.slice (some ⟨g, 0, none⟩) n C)).run P W = .ok (.string ⟨L.toArray⟩) W := by
  subst hn
  refine run_convert_bytes_back (P := P) W src dst e ⟨g, 0, none⟩ C L hs he hd ?_
  intro j hj
  rw [show ((⟨g, 0, none⟩ : Addr).add j) = ⟨g, j, none⟩ by cases j <;> simp [Addr.add]]
  exact (h j hj).1
theorem bytesIs_put {W : World} {g : Nat} {L : List UInt8} (h : BytesIs W g L) (i : Nat) (hi : i < L.length) (c : UInt8) : BytesIs (W.setCell ⟨g, i, none⟩ (.int .u8 (c.toNat : Int))) g (L.set i c) := by
  intro j hj
  rw [List.length_set] at hj
  constructor
  · by_cases hij : i = j
    · subst hij
      rw [World.cell?_setCell_same (h := (h i hi).1)]
      simp
    · rw [World.cell?_setCell_other (h := show (⟨g, i, none⟩ : Addr) ≠ ⟨g, j, none⟩ by intro e; exact hij (by injection e)), (h j hj).1]
      simp [hij]
  · simpa [go_sem] using (h j hj).2
end Go.Proofs.YtifjneldjjmeaaaGreatDoor
