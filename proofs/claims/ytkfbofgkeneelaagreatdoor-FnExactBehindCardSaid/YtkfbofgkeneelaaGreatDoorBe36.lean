import Derived.Shelf.SlIter.Nil
import Derived.Shelf.SortM.Plain
import Derived.Shelf.SortM.SortNone
import Derived.Ground.GgzProg
import Derived.Ground.SlgmProg
import Derived.Test.YtkfbofgkeneelaaGreatDoorProg
import Derived.Sort.KeysCollected
import Derived.Test.YtkfbofgkeneelaaGreatDoorBe35
set_option maxRecDepth 100000
set_option maxHeartbeats 1600000
namespace Go.Proofs.YtkfbofgkeneelaaGreatDoor
open Go.RowKit Go.Maps
theorem Tryz.keyT (s : ByteArray) (h : s.size ≤ maxLen) : keyOf Tryz.prog 9 (.string s) = some (kl s) := WideMaps.keyOf_string_mk Tryz.underlying9 h
theorem cells_grown {W w' : World} {mb b o : Nat} {v : Value} (hg : W.grownBy w' (some mb)) (h : W.cell? ⟨b, o, none⟩ = some v) (hb : b ≠ mb) : w'.cell? ⟨b, o, none⟩ = some v := by
  have hb2 := hg.block b (World.block_lt_of_cell? _ _ h) (by simpa using hb)
  have hc : w'.cell? ⟨b, o, none⟩ = W.cell? ⟨b, o, none⟩ := by unfold World.cell?; rw [hb2]
  exact hc.trans h
theorem changesAt_grown {w w' : World} {ao : Option Addr} {fs : List ChangeD} {mb : Nat} (h : ChangesAt w ao fs) (hg : w.grownBy w' (some mb)) (hne : ∀ b off, ao = some ⟨b, off, none⟩ → b ≠ mb) : ChangesAt w' ao fs := by
  intro j hj
  obtain ⟨b, off, h1, h2, h3, h4, h5⟩ := h j hj
  have hb := hg.block b h2 (by have := hne b off h1; simpa using this)
  have hc : ∀ o, w'.cell? ⟨b, o, none⟩ = w.cell? ⟨b, o, none⟩ := fun o => by unfold World.cell?; rw [hb]
  exact ⟨b, off, h1, Nat.lt_of_lt_of_le h2 hg.size, (hc _).trans h3, (hc _).trans h4, (hc _).trans h5⟩
theorem tell_any (gs : List SpotD) (mb n : Nat) (q seg pos : Int) (cs : List ChangeD) (ao : Option Addr) (cap : Nat) (w : World) (hm : DirM w mb n gs) (hn : n + cs.length ≤ 1000000) (hl : cs.length ≤ 1048576) (hcs : ChangesAt w ao cs) (hmc : 0 < cs.length → ∀ b off, ao = some ⟨b, off, none⟩ → b ≠ mb) (hsz : ∀ A ∈ cs, A.key.size ≤ 1048576) :
    Calls Tryz.prog 103 #[.map (some mb), .agg #[.int .i64 q, .slice ao cs.length cap], .int .i64 seg, .int .i64 pos] w fun e w' => e = .returned (.tuple #[]) ∧ DirM w' mb (n + cs.length) (chsIn seg pos q gs cs) ∧ w.grownBy w' (some mb) := by
  obtain ⟨wb, hwb⟩ : ∃ wb, wb = w.alloc (.cells #[.int .i64 q, .slice ao cs.length cap] 98) := ⟨_, rfl⟩
  have HB0 : Hid (Below w.heap.size w wb) := by rw [hwb]; exact (Below.refl _ w).alloc (Nat.le_refl _) _
  have HBX : Hid (wb.heap[w.heap.size]? = some (.cells #[.int .i64 q, .slice ao cs.length cap] 98 (0, 0))) := by rw [hwb]; exact heap_alloc_new w _
  have HM0 := hide (dirM_below hm HB0.out)
  have HC0 := hide (changesAt_keep hcs HB0.out)
  have hmlt := dirM_lt hm
  have HS := hide hsz
  have HMC := hide hmc
  clear hm hcs hsz hmc
  go_enter Tryz.func103, Tryz.ntmps103
  go_wp2_with fail
  rw [← hwb]
  clear hwb
  go_loopw [13] (fun ii wr => ∃ (k : Nat), ii = .int .i64 k ∧ k ≤ cs.length ∧ Hid (DirM wr mb (n + k) (chsIn seg pos q gs (cs.take k))) ∧ Hid (wb.grownBy wr (some mb))) (fun ii _ => cs.length - (intOf ii).toNat)
  case atStart => exact ⟨0, rfl, Nat.zero_le _, HM0, World.grownBy.refl _ _⟩
  case round =>
    obtain ⟨k, rfl, hk, HM, HG⟩ := hrel
    have hws := HG.out.size
    by_cases hlt : k < cs.length
    · have hlt' : decide ((k : Int) < (cs.length : Int)) = true := by simp; omega
      have hi0 : (0 : Int) ≤ (k : Int) := by omega
      have hi1 : (k : Int) < (cs.length : Int) := by omega
      obtain ⟨b, off, hab, hbw, hd0, hd1, hd2⟩ := changesAt_grown HC0.out HG.out (HMC.out (by omega)) k hlt
      subst hab
      have htk := hide (List.take_succ_eq_append_getElem hlt)
      have hks := HS.out cs[k] (List.getElem_mem hlt)
      generalize cs[k] = A at hd0 hd1 hd2 htk hks
      have HK := hide (Tryz.keyT A.key (by unfold maxLen; omega))
      obtain ⟨wr1, hwr1⟩ : ∃ x, x = wr.alloc (.cells #[.string A.key, .string A.value, .bool A.gone] 55) := ⟨_, rfl⟩
      have B1r : Hid (Below wr.heap.size wr wr1) := by rw [hwr1]; exact (Below.refl _ wr).alloc (Nat.le_refl _) _
      have hch1 : wr1.heap[wr.heap.size]? = some (.cells #[.string A.key, .string A.value, .bool A.gone] 55 (0, 0)) := by rw [hwr1]; exact heap_alloc_new wr _
      have hbx1 := (B1r.out.block w.heap.size (by have := heap_lt HBX.out; omega)).trans ((HG.out.block _ (heap_lt HBX.out) (by simp; omega)).trans HBX.out)
      have hf0 : wr1.cell? ⟨wr.heap.size, 0, none⟩ = some (.string A.key) := (cell_of_row wr1 _ 0 _ _ (0, 0) hch1).trans rfl
      have hf2 : wr1.cell? ⟨wr.heap.size, 2, none⟩ = some (.bool A.gone) := (cell_of_row wr1 _ 2 _ _ (0, 0) hch1).trans rfl
      have hf3 : wr1.cell? ⟨w.heap.size, 0, none⟩ = some (.int .i64 q) := (cell_of_row wr1 _ 0 _ _ (0, 0) hbx1).trans rfl
      have HM1 := hide (dirM_below HM.out B1r.out)
      have G1 : Hid (wb.grownBy wr1 (some mb)) := grownBy_trans HG.out (grownBy_below _ B1r.out)
      clear hch1 hbx1
      obtain ⟨D, hD1, hD2, hD3, hD4⟩ := HM1.out
      have H1 := hide hD1
      have H2 := hide hD2
      have H3 := hide hD3
      have H4 := hide hD4
      clear hD1 hD2 hD3 hD4
      cases hgo : A.gone with
      | true =>
        rw [hgo] at hf2 hwr1 hd2
        subst hwr1
        go_wp2_with (at_delete; refine wpList_delete_own _ rfl _ _ 167 9 rfl 43 (string_keyed Tryz.underlying9) Tryz.underlying167 spotElem mb (n + k) D rfl H1.out _ _ rfl HK.out ?_; intro w5 hown5 hturn5; have HN5 := hide (dirM_del ⟨A.key, seg, pos, q⟩ H2.out H3.out H4.out hown5); have HG5 := hide hturn5.grown; clear hown5 hturn5)
        go_roundw
        case rel => exact ⟨k + 1, by go_num, by omega, by show DirM _ _ _ _; rw [htk.out, chsIn_snoc, hgo]; exact dirM_mono HN5.out (by omega), grownBy_trans G1.out HG5.out⟩
        case measure => simp [intOf]; omega
      | false =>
        rw [hgo] at hf2 hwr1 hd2
        subst hwr1
        go_wp2_with (at_mapUpdate; refine wpList_mapUpdate_own _ rfl _ _ _ 167 rfl 9 43 (string_keyed Tryz.underlying9) Tryz.underlying167 spotElem mb (n + k) D rfl H1.out (by unfold maxLen; omega) _ _ _ rfl rfl HK.out (spotDat ⟨A.key, seg, pos, q⟩) [] rfl ?_; intro w5 hown5 hgrow5; have HN5 := hide (dirM_put (F := ⟨A.key, seg, pos, q⟩) H1.out.isMap H2.out H3.out H4.out hown5); have HG5 := hide hgrow5; clear hown5 hgrow5)
        go_roundw
        case rel => exact ⟨k + 1, by go_num, by omega, by show DirM _ _ _ _; rw [htk.out, chsIn_snoc, hgo]; exact HN5.out, grownBy_trans G1.out HG5.out⟩
        case measure => simp [intOf]; omega
    · have hlt' : decide ((k : Int) < (cs.length : Int)) = false := by simp; omega
      have hke : k = cs.length := by omega
      subst hke
      rw [List.take_length] at HM
      go_wp2
      refine bodyPost_end (results_none rfl _ _ _) rfl ?_
      exact ⟨rfl, HM.out, grownBy_trans (grownBy_below _ HB0.out) HG.out⟩
end Go.Proofs.YtkfbofgkeneelaaGreatDoor
namespace Go.Proofs
open Go.RowKit Go.Maps Go.Sort Go.Shelf
def Tryz.keys170_ren : Go.Shelf.Ren := ⟨fun | 7 => 170 | 10 => 220 | n => n, fun | 23 => 167 | 26 => 9 | 3 => 43 | 28 => 228 | 0 => 0 | 27 => 227 | 33 => 170 | 4 => 4 | n => n, fun | n => n⟩
theorem Tryz.keys170 : Go.Proofs.SlLaysZ.n7 Tryz.prog Tryz.keys170_ren := {
  mixed := by kernel_rfl
  f7 := ⟨Tryz.f170.name, by decide, Tryz.func170.trans (congrArg some (by kernel_rfl))⟩
  f10 := ⟨Tryz.f220.name, by decide, Tryz.func220.trans (congrArg some (by kernel_rfl))⟩
  t0 := Tryz.underlying0
  a0 := Tryz.isAgg0
  z0 := Tryz.sizeOf0
  v0 := Tryz.zeroValue0
  t4 := Tryz.underlying4
  a4 := Tryz.isAgg4
  z4 := Tryz.sizeOf4
  v4 := Tryz.zeroValue4
  t23 := Tryz.underlying167
  a23 := Tryz.isAgg167
  z23 := Tryz.sizeOf167
  v23 := Tryz.zeroValue167
  t26 := Tryz.underlying9
  a26 := Tryz.isAgg9
  z26 := Tryz.sizeOf9
  v26 := Tryz.zeroValue9
  t27 := Tryz.underlying227
  a27 := Tryz.isAgg227
  z27 := Tryz.sizeOf227
  v27 := Tryz.zeroValue227
  t28 := Tryz.underlying228
  a28 := Tryz.isAgg228
  z28 := Tryz.sizeOf228
  v28 := Tryz.zeroValue228
  t33 := Tryz.underlying170
  a33 := Tryz.isAgg170
  z33 := Tryz.sizeOf170
  v33 := Tryz.zeroValue170 }
def Tryz.sorted169_ren : Go.Shelf.Ren := ⟨fun | 6 => 169 | 8 => 218 | 9 => 219 | 11 => 247 | 13 => 249 | 12 => 248 | 23 => 273 | 24 => 274 | 14 => 264 | 15 => 265 | 16 => 266 | 17 => 267 | 18 => 268 | 19 => 269 | 20 => 270 | 21 => 271 | 22 => 272 | 25 => 281 | 26 => 282 | 27 => 283 | 28 => 284 | 29 => 285 | 30 => 241 | 31 => 291 | n => n, fun | 26 => 9 | 28 => 228 | 24 => 158 | 0 => 0 | 3 => 3 | 37 => 255 | 48 => 124 | 50 => 338 | 4 => 4 | 40 => 331 | 39 => 330 | 45 => 209 | 5 => 5 | 9 => 9 | 51 => 345 | 55 => 349 | 57 => 354 | 58 => 355 | 33 => 170 | n => n, fun | n => n⟩
theorem Tryz.sorted169 : Go.Proofs.SlLaysZ.n6 Tryz.prog Tryz.sorted169_ren := {
  mixed := by kernel_rfl
  f6 := ⟨Tryz.f169.name, by decide, Tryz.func169.trans (congrArg some (by kernel_rfl))⟩
  f8 := ⟨Tryz.f218.name, by decide, Tryz.func218.trans (congrArg some (by kernel_rfl))⟩
  f11 := ⟨Tryz.f247.name, by decide, Tryz.func247.trans (congrArg some (by kernel_rfl))⟩
  t0 := Tryz.underlying0
  a0 := Tryz.isAgg0
  z0 := Tryz.sizeOf0
  v0 := Tryz.zeroValue0
  t24 := Tryz.underlying158
  a24 := Tryz.isAgg158
  z24 := Tryz.sizeOf158
  v24 := Tryz.zeroValue158
  t26 := Tryz.underlying9
  a26 := Tryz.isAgg9
  z26 := Tryz.sizeOf9
  v26 := Tryz.zeroValue9
  t28 := Tryz.underlying228
  a28 := Tryz.isAgg228
  z28 := Tryz.sizeOf228
  v28 := Tryz.zeroValue228
  i26 := by kernel_rfl }
def Tryz.sort219_ren : Go.Shelf.Ren := ⟨fun | 6 => 219 | 8 => 249 | 9 => 248 | 19 => 273 | 20 => 274 | 21 => 264 | 22 => 265 | 23 => 266 | 24 => 267 | 25 => 268 | 26 => 269 | 27 => 270 | 28 => 271 | 29 => 272 | 36 => 281 | 31 => 282 | 32 => 283 | 37 => 284 | 38 => 285 | 39 => 241 | 41 => 291 | n => n, fun | 27 => 158 | 29 => 9 | 3 => 3 | 32 => 255 | 26 => 158 | 0 => 0 | 44 => 124 | 46 => 338 | 4 => 4 | 36 => 331 | 35 => 330 | 41 => 209 | 5 => 5 | 9 => 9 | 53 => 345 | 57 => 349 | 63 => 354 | 64 => 355 | n => n, fun | n => n⟩
theorem Tryz.sort219 : Go.Proofs.SlLaysM.n6 Tryz.prog Tryz.sort219_ren := {
  mixed := by kernel_rfl
  f6 := ⟨Tryz.f219.name, by decide, Tryz.func219.trans (congrArg some (by kernel_rfl))⟩
  f8 := Tryz.func249.trans (congrArg some (by kernel_rfl))
  f9 := ⟨Tryz.f248.name, by decide, Tryz.func248.trans (congrArg some (by kernel_rfl))⟩
  f19 := Tryz.func273.trans (congrArg some (by kernel_rfl))
  f20 := Tryz.func274.trans (congrArg some (by kernel_rfl))
  f21 := ⟨Tryz.f264.name, by decide, Tryz.func264.trans (congrArg some (by kernel_rfl))⟩
  f22 := ⟨Tryz.f265.name, by decide, Tryz.func265.trans (congrArg some (by kernel_rfl))⟩
  f23 := ⟨Tryz.f266.name, by decide, Tryz.func266.trans (congrArg some (by kernel_rfl))⟩
  f24 := ⟨Tryz.f267.name, by decide, Tryz.func267.trans (congrArg some (by kernel_rfl))⟩
  f25 := ⟨Tryz.f268.name, by decide, Tryz.func268.trans (congrArg some (by kernel_rfl))⟩
  f26 := ⟨Tryz.f269.name, by decide, Tryz.func269.trans (congrArg some (by kernel_rfl))⟩
  f27 := ⟨Tryz.f270.name, by decide, Tryz.func270.trans (congrArg some (by kernel_rfl))⟩
  f28 := ⟨Tryz.f271.name, by decide, Tryz.func271.trans (congrArg some (by kernel_rfl))⟩
  f29 := ⟨Tryz.f272.name, by decide, Tryz.func272.trans (congrArg some (by kernel_rfl))⟩
  f31 := Tryz.func282.trans (congrArg some (by kernel_rfl))
  f32 := Tryz.func283.trans (congrArg some (by kernel_rfl))
  f36 := ⟨Tryz.f281.name, by decide, Tryz.func281.trans (congrArg some (by kernel_rfl))⟩
  f37 := ⟨Tryz.f284.name, by decide, Tryz.func284.trans (congrArg some (by kernel_rfl))⟩
  f38 := ⟨Tryz.f285.name, by decide, Tryz.func285.trans (congrArg some (by kernel_rfl))⟩
  f39 := ⟨Tryz.f241.name, by decide, Tryz.func241.trans (congrArg some (by kernel_rfl))⟩
  f41 := ⟨Tryz.f291.name, by decide, Tryz.func291.trans (congrArg some (by kernel_rfl))⟩
  t0 := Tryz.underlying0
  a0 := Tryz.isAgg0
  z0 := Tryz.sizeOf0
  v0 := Tryz.zeroValue0
  t3 := Tryz.underlying3
  a3 := Tryz.isAgg3
  z3 := Tryz.sizeOf3
  v3 := Tryz.zeroValue3
  t4 := Tryz.underlying4
  a4 := Tryz.isAgg4
  z4 := Tryz.sizeOf4
  v4 := Tryz.zeroValue4
  t5 := Tryz.underlying5
  a5 := Tryz.isAgg5
  z5 := Tryz.sizeOf5
  v5 := Tryz.zeroValue5
  t9 := Tryz.underlying9
  a9 := Tryz.isAgg9
  z9 := Tryz.sizeOf9
  v9 := Tryz.zeroValue9
  t26 := Tryz.underlying158
  a26 := Tryz.isAgg158
  z26 := Tryz.sizeOf158
  v26 := Tryz.zeroValue158
  t27 := Tryz.underlying158
  a27 := Tryz.isAgg158
  z27 := Tryz.sizeOf158
  v27 := Tryz.zeroValue158
  t29 := Tryz.underlying9
  a29 := Tryz.isAgg9
  z29 := Tryz.sizeOf9
  v29 := Tryz.zeroValue9
  t32 := Tryz.underlying255
  a32 := Tryz.isAgg255
  z32 := Tryz.sizeOf255
  v32 := Tryz.zeroValue255
  t35 := Tryz.underlying330
  a35 := Tryz.isAgg330
  z35 := Tryz.sizeOf330
  v35 := Tryz.zeroValue330
  t36 := Tryz.underlying331
  a36 := Tryz.isAgg331
  z36 := Tryz.sizeOf331
  v36 := Tryz.zeroValue331
  t41 := Tryz.underlying209
  a41 := Tryz.isAgg209
  z41 := Tryz.sizeOf209
  v41 := Tryz.zeroValue209
  t44 := Tryz.underlying124
  a44 := Tryz.isAgg124
  z44 := Tryz.sizeOf124
  v44 := Tryz.zeroValue124
  t46 := Tryz.underlying338
  a46 := Tryz.isAgg338
  z46 := Tryz.sizeOf338
  v46 := Tryz.zeroValue338
  t53 := Tryz.underlying345
  a53 := Tryz.isAgg345
  z53 := Tryz.sizeOf345
  v53 := Tryz.zeroValue345
  t57 := Tryz.underlying349
  a57 := Tryz.isAgg349
  z57 := Tryz.sizeOf349
  v57 := Tryz.zeroValue349
  t63 := Tryz.underlying354
  a63 := Tryz.isAgg354
  z63 := Tryz.sizeOf354
  v63 := Tryz.zeroValue354
  t64 := Tryz.underlying355
  a64 := Tryz.isAgg355
  z64 := Tryz.sizeOf355
  v64 := Tryz.zeroValue355 }
def Tryz.keys205_ren : Go.Shelf.Ren := ⟨fun | 7 => 205 | 10 => 243 | n => n, fun | 23 => 198 | 26 => 9 | 3 => 268 | 28 => 228 | 0 => 0 | 27 => 227 | 33 => 170 | 4 => 4 | n => n, fun | n => n⟩
theorem Tryz.keys205 : Go.Proofs.SlLaysZ.n7 Tryz.prog Tryz.keys205_ren := {
  mixed := by kernel_rfl
  f7 := ⟨Tryz.f205.name, by decide, Tryz.func205.trans (congrArg some (by kernel_rfl))⟩
  f10 := ⟨Tryz.f243.name, by decide, Tryz.func243.trans (congrArg some (by kernel_rfl))⟩
  t0 := Tryz.underlying0
  a0 := Tryz.isAgg0
  z0 := Tryz.sizeOf0
  v0 := Tryz.zeroValue0
  t4 := Tryz.underlying4
  a4 := Tryz.isAgg4
  z4 := Tryz.sizeOf4
  v4 := Tryz.zeroValue4
  t23 := Tryz.underlying198
  a23 := Tryz.isAgg198
  z23 := Tryz.sizeOf198
  v23 := Tryz.zeroValue198
  t26 := Tryz.underlying9
  a26 := Tryz.isAgg9
  z26 := Tryz.sizeOf9
  v26 := Tryz.zeroValue9
  t27 := Tryz.underlying227
  a27 := Tryz.isAgg227
  z27 := Tryz.sizeOf227
  v27 := Tryz.zeroValue227
  t28 := Tryz.underlying228
  a28 := Tryz.isAgg228
  z28 := Tryz.sizeOf228
  v28 := Tryz.zeroValue228
  t33 := Tryz.underlying170
  a33 := Tryz.isAgg170
  z33 := Tryz.sizeOf170
  v33 := Tryz.zeroValue170 }
theorem Tryz.sorts169 (m : Nat) : AnyZ.SortsIn Tryz.prog Tryz.sorted169_ren Fence.wide m :=
  ⟨fun blk off cap ss W hH hblk hsz => callsIn_wide.2 (AnyM.slices_Sort_string Tryz.sort219 blk off cap ss W hH hblk hsz),
   fun p cap W => callsIn_wide.2 (AnyM.slices_Sort_string_none Tryz.sort219 p cap W)⟩
theorem Tryz.maps_Keys_170 (mb : Option Nat) (W : World) : CallsIn Fence.wide 5 Tryz.prog 170 #[.map mb] W fun e w' => e = .returned (.func (.func 220) #[] #[.pointer (some ⟨W.heap.size, 0, none⟩)]) ∧ w' = W.alloc (.cells #[.map mb] 167) :=
  AnyZ.keys_in Tryz.keys170 Fence.wide 5 trivial rfl mb W
theorem Tryz.slices_Sorted_keys_169_170 {H : Type} (b nn : Nat) (D0 : DataW H) (R : Value → Option (DataW H × List MemPlace)) (w : World) (hown : w.ownsMap Tryz.prog 9 R b nn D0) (hmax : Maps.size D0 ≤ maxLen) (hbytes : Maps.size D0 * 16 ≤ 140737488355328) :
    CallsIn Fence.wide 5 Tryz.prog 169 #[.func (.func 220) #[] #[.pointer (some ⟨w.heap.size, 0, none⟩)]] (w.alloc (.cells #[.map (some b)] 167)) fun e w' => ∃ (v : Value) (ss : List (List UInt8)), e = .returned v ∧ ss.Perm (strKeys D0) ∧
      w'.ownsRow (w.alloc (.cells #[.map (some b)] 167)).heap.size 9 1 v ss.length ((ss.mergeSort (fun x y => decide (x ≤ y))).map encStr) ∧ (v = .slice none 0 0 ↔ ss = []) ∧ Below (w.alloc (.cells #[.map (some b)] 167)).heap.size (w.alloc (.cells #[.map (some b)] 167)) w' := by
  have hbl := hown.lt
  have hseq : SeqGives Fence.wide 2 Tryz.prog 220 #[.pointer (some ⟨w.heap.size, 0, none⟩)] encStr (fun ss => ss.Perm (strKeys D0)) (Maps.size D0) (w.alloc (.cells #[.map (some b)] 167)) :=
    AnyZ.keys_gives (ρ := Tryz.keys170_ren) { Tryz.keys170 with } Fence.wide _ trivial rfl (by omega) w.heap.size b nn D0 _ (by simp) (by simp) (by
      obtain ⟨es, clock, hb, Ft, hs, hD⟩ := hown
      exact ⟨es, clock, (Below.heap_alloc _ _ b hbl).trans hb, Ft, hs, hD⟩)
  exact AnyZ.sorted_in Tryz.sorted169 Fence.wide 5 trivial trivial trivial trivial rfl (by omega) (Tryz.sorts169 _) (enters_of Tryz.func219 (by kernel_rfl) rfl) 220 #[.pointer (some ⟨w.heap.size, 0, none⟩)] trivial (enters_of Tryz.func220 (by kernel_rfl) rfl) _ _ hmax hbytes _ hseq
theorem Tryz.maps_Keys_205 (mb : Option Nat) (W : World) : CallsIn Fence.wide 5 Tryz.prog 205 #[.map mb] W fun e w' => e = .returned (.func (.func 243) #[] #[.pointer (some ⟨W.heap.size, 0, none⟩)]) ∧ w' = W.alloc (.cells #[.map mb] 198) :=
  AnyZ.keys_in Tryz.keys205 Fence.wide 5 trivial rfl mb W
theorem Tryz.slices_Sorted_keys_169_205 {H : Type} (b nn : Nat) (D0 : DataW H) (R : Value → Option (DataW H × List MemPlace)) (w : World) (hown : w.ownsMap Tryz.prog 9 R b nn D0) (hmax : Maps.size D0 ≤ maxLen) (hbytes : Maps.size D0 * 16 ≤ 140737488355328) :
    CallsIn Fence.wide 5 Tryz.prog 169 #[.func (.func 243) #[] #[.pointer (some ⟨w.heap.size, 0, none⟩)]] (w.alloc (.cells #[.map (some b)] 198)) fun e w' => ∃ (v : Value) (ss : List (List UInt8)), e = .returned v ∧ ss.Perm (strKeys D0) ∧
      w'.ownsRow (w.alloc (.cells #[.map (some b)] 198)).heap.size 9 1 v ss.length ((ss.mergeSort (fun x y => decide (x ≤ y))).map encStr) ∧ (v = .slice none 0 0 ↔ ss = []) ∧ Below (w.alloc (.cells #[.map (some b)] 198)).heap.size (w.alloc (.cells #[.map (some b)] 198)) w' := by
  have hbl := hown.lt
  have hseq : SeqGives Fence.wide 2 Tryz.prog 243 #[.pointer (some ⟨w.heap.size, 0, none⟩)] encStr (fun ss => ss.Perm (strKeys D0)) (Maps.size D0) (w.alloc (.cells #[.map (some b)] 198)) :=
    AnyZ.keys_gives (ρ := Tryz.keys205_ren) { Tryz.keys205 with } Fence.wide _ trivial rfl (by omega) w.heap.size b nn D0 _ (by simp) (by simp) (by
      obtain ⟨es, clock, hb, Ft, hs, hD⟩ := hown
      exact ⟨es, clock, (Below.heap_alloc _ _ b hbl).trans hb, Ft, hs, hD⟩)
  exact AnyZ.sorted_in Tryz.sorted169 Fence.wide 5 trivial trivial trivial trivial rfl (by omega) (Tryz.sorts169 _) (enters_of Tryz.func219 (by kernel_rfl) rfl) 243 #[.pointer (some ⟨w.heap.size, 0, none⟩)] trivial (enters_of Tryz.func243 (by kernel_rfl) rfl) _ _ hmax hbytes _ hseq
end Go.Proofs
namespace Go.Proofs.YtkfbofgkeneelaaGreatDoor
open Go.RowKit Go.Maps
theorem keys_sorted {w : World} {mb n : Nat} {gs : List SpotD} {D : DataW Unit} (h1 : w.ownsMap Tryz.prog 9 spotElem mb n D) (h2 : ∀ s, has D (kl s) = true ↔ ∃ F ∈ gs, F.key = s) (hs : srtS gs) {ss : List (List UInt8)} (hp : ss.Perm (strKeys D)) : ss.mergeSort (fun x y => decide (x ≤ y)) = gs.map (fun F => F.key.data.toList) := by
  have hlt : (gs.map (fun F => F.key.data.toList)).Pairwise (fun a b => Op.bytesLess a b = true) := by
    refine List.pairwise_map.2 (hs.imp fun {a b} h => ?_)
    rw [Lib.toList_data, Lib.toList_data] at h
    exact h
  have hnd : (gs.map (fun F => F.key.data.toList)).Nodup := hlt.imp fun {a b} h e => by rw [e, less_irrefl] at h; cases h
  have hm : ∀ x, x ∈ gs.map (fun F => F.key.data.toList) ↔ has D (.string x) = true := by
    intro x
    have h3 := h2 ⟨x.toArray⟩
    have e : kl ⟨x.toArray⟩ = .string x := by simp [kl]
    rw [e] at h3
    rw [h3, List.mem_map]
    constructor
    · rintro ⟨F, hF, rfl⟩
      exact ⟨F, hF, by cases F.key; simp⟩
    · rintro ⟨F, hF, e2⟩
      exact ⟨F, hF, by rw [e2]⟩
  have hc : Collected D (fun _ => false) (gs.map (fun F => F.key.data.toList)) := ⟨hnd, fun x => by rw [hm x]; simp⟩
  have hp2 := hc.perm h1 (string_keyed Tryz.underlying9) Tryz.underlying9 (fun _ => rfl)
  have h1 := mergeSort_of_perm (hp.trans hp2.symm)
  refine h1.trans ?_
  have tr : ∀ a b c : List UInt8, leB a b = true → leB b c = true → leB a c = true := fun a b c h1 h2 => by simp only [leB, decide_eq_true_eq] at *; exact List.le_trans h1 h2
  have tot : ∀ a b : List UInt8, (leB a b || leB b a) = true := fun a b => by simp only [leB, Bool.or_eq_true, decide_eq_true_eq]; exact List.le_total a b
  refine List.Perm.eq_of_pairwise (le := fun a b => leB a b = true) (fun a b _ _ h1 h2 => ?_) (List.pairwise_mergeSort tr tot _) ?_ (List.mergeSort_perm _ leB)
  · simp only [leB, decide_eq_true_eq] at h1 h2
    exact List.le_antisymm h1 h2
  · refine hlt.imp fun {a b} h => ?_
    rw [bytesLess_eq, decide_eq_true_eq] at h
    simp only [leB, decide_eq_true_eq]
    exact List.le_of_lt h
theorem dirKeys_any (mb : Option Nat) (W : World) : Calls Tryz.prog 170 #[.map mb] W fun e w' => e = .returned (.func (.func 220) #[] #[.pointer (some ⟨W.heap.size, 0, none⟩)]) ∧ w' = W.alloc (.cells #[.map mb] 167) :=
  (callsIn_wide (n := 5)).1 (Tryz.maps_Keys_170 mb W)
theorem dirSorted_any {mb n : Nat} {gs : List SpotD} (w : World) (h : DirM w mb n gs) (hn : n ≤ 1000000) :
    Calls Tryz.prog 169 #[.func (.func 220) #[] #[.pointer (some ⟨w.heap.size, 0, none⟩)]] (w.alloc (.cells #[.map (some mb)] 167)) fun e w' => (∃ v : Value, e = .returned v ∧ w'.ownsRow (w.heap.size + 1) 9 1 v gs.length (gs.map (fun F => .string F.key))) ∧ Below w.heap.size w w' := by
  obtain ⟨D, h1, h2, h3, h4⟩ := h
  have hsz := h1.size_le
  refine ((callsIn_wide (n := 5)).1 (Tryz.slices_Sorted_keys_169_170 mb n D spotElem w h1 (by unfold maxLen; omega) (by omega))).mono ?_
  rintro e w' ⟨v, ss, rfl, hp, hrow, _, hb⟩
  refine ⟨⟨v, rfl, ?_⟩, ((Below.refl _ w).alloc (Nat.le_refl _) _).trans (hb.mono (by simp))⟩
  have hnn := keys_sorted h1 h2 h4 hp
  rw [hnn] at hrow
  have hle : ss.length = gs.length := by
    have := congrArg List.length hnn
    rw [List.length_mergeSort, List.length_map] at this
    exact this
  rw [hle, List.map_map] at hrow
  have e1 : (w.alloc (.cells #[.map (some mb)] 167)).heap.size = w.heap.size + 1 := by simp
  rw [e1] at hrow
  have e2 : (encStr ∘ fun F : SpotD => F.key.data.toList) = fun F : SpotD => Value.string F.key := by
    funext F
    simp [encStr]
  rw [e2] at hrow
  exact hrow
theorem Tryz.zeroSpot (w : World) : (zeroValue 43).run Tryz.prog w = .ok (.agg #[.string ⟨#[]⟩, .int .i64 0, .int .i64 0, .int .i64 0]) w := by
  have hz : Tryz.t43.zero = some (.agg #[.string ⟨#[]⟩, .int .i64 0, .int .i64 0, .int .i64 0]) := by kernel_rfl
  simp [zeroValue, go_sem, hz]
theorem rowStr_at {w : World} {B n cap : Nat} {ao : Option Addr} {gs : List SpotD} (h : w.ownsRow B 9 1 (.slice ao n cap) gs.length (gs.map (fun F => .string F.key))) (j : Nat) (hj : j < gs.length) : ∃ g, ao = some ⟨g, 0, none⟩ ∧ g < w.heap.size ∧ w.cell? ⟨g, j, none⟩ = some (.string gs[j].key) := by
  rcases h.2 with ⟨_, hn⟩ | ⟨g, cap', cur, hv, hB, hC, hle, _, hs, ht⟩
  · omega
  · cases hv
    refine ⟨g, rfl, (Array.getElem?_eq_some_iff.1 hC).1, ?_⟩
    exact (cell_of_row w g j _ _ (0, 0) hC).trans (take_getSpot ht (by omega) (by simp [hj]))
theorem inOrder_any (gs : List SpotD) (mb n B : Nat) (w : World) (hm : DirM w mb n gs) (hn : n ≤ 1000000) (hk : ∀ A ∈ gs, A.key.size ≤ 1048576) (hgl : gs.length ≤ 1000000) (hB : B ≤ w.heap.size) :
    Calls Tryz.prog 104 #[.map (some mb)] w fun e w' => (∃ v, e = .returned v ∧ RowSpot w' B v gs) ∧ Below w.heap.size w w' := by
  have HM := hide hm
  have HK := hide hk
  clear hm hk
  go_enter Tryz.func104, Tryz.ntmps104
  go_wp2_with fail
  refine (dirKeys_any _ _).mono ?_
  rintro e w1 ⟨rfl, rfl⟩
  go_wp2_with fail
  refine (dirSorted_any _ HM.out hn).mono ?_
  rintro e w2 ⟨⟨v2, rfl, hrow⟩, b2⟩
  obtain ⟨a2, c2, rfl⟩ := slice_form hrow
  have HR2 := hide hrow
  have B2 := hide b2
  clear hrow b2
  have HM2 := hide (dirM_below HM.out B2.out)
  have hw2 : w.heap.size ≤ w2.heap.size := B2.out.size
  go_wp2_with fail
  go_loopw [3, 10] (fun vo ii wr => ∃ (k : Nat), ii = .int .i64 k ∧ k ≤ gs.length ∧ Hid (wr.ownsRow w2.heap.size 43 4 vo (gs.take k).length (cellsSpot (gs.take k))) ∧ Hid (Below w2.heap.size w2 wr)) (fun _ ii _ => gs.length - (intOf ii).toNat)
  case atStart => exact ⟨0, rfl, Nat.zero_le _, World.ownsRow_nil _ _ _ _, Below.refl _ _⟩
  case round =>
    obtain ⟨k, rfl, hk, HO, HB⟩ := hrel
    have hws := HB.out.size
    by_cases hlt : k < gs.length
    · have hlt' : decide ((k : Int) < (gs.length : Int)) = true := by simp; omega
      have hi0 : (0 : Int) ≤ (k : Int) := by omega
      have hi1 : (k : Int) < (gs.length : Int) := by omega
      obtain ⟨g, hg, hgw, hc0⟩ := rowStr_at HR2.out k hlt
      subst hg
      have hd0 := (HB.out.cell (p := ⟨g, k, none⟩) hgw).trans hc0
      clear hc0
      obtain ⟨D, hD1, hD2, hD3, hD4⟩ := dirM_below HM2.out HB.out
      have hks := HK.out gs[k] (List.getElem_mem hlt)
      obtain ⟨v, ps, hrun, hv⟩ := hD1.lookup (string_keyed Tryz.underlying9) Tryz.underlying167 (Tryz.zeroSpot _) (spotElem_mk ⟨⟨#[]⟩, 0, 0, 0⟩) (Tryz.keyT gs[k].key (by unfold maxLen; omega))
      rw [hD3 gs[k] (List.getElem_mem hlt)] at hv
      obtain rfl := spotElem_inv hv
      have htk := hide (List.take_succ_eq_append_getElem hlt)
      clear hv hD1 hD2 hD3 hD4
      generalize gs[k] = F at hd0 hks hrun htk
      have hln : (gs.take k).length ≤ gs.length := by rw [List.length_take]; omega
      obtain ⟨L, HL⟩ : ∃ L, Hid (gs.take k = L) := ⟨_, hide rfl⟩
      rw [HL.out] at HO htk hln
      go_wp2_with (at_builtin; refine app_spot _ w2.heap.size (by rfl) _ _ (by rfl) _ L F (by rfl) (HO.out.alloc _) wr.heap.size (by rfl) (heap_alloc_new wr _) (by omega) (by simp; omega) ?_; intro g5 cap5 w5 ho5 hb5 hg5 hgl5; have HO5 := hide ho5; have HB5 := hide hb5; clear ho5 hb5 hg5 hgl5)
      go_roundw
      case rel => exact ⟨k + 1, by go_num, by omega, by show World.ownsRow _ _ _ _ _ _ _; rw [htk.out]; exact HO5.out, (HB.out.alloc (by omega) _).trans HB5.out⟩
      case measure => simp [intOf]; omega
    · have hlt' : decide ((k : Int) < (gs.length : Int)) = false := by simp; omega
      have hke : k = gs.length := by omega
      subst hke
      rw [List.take_length] at HO
      go_wp2
      go_ret
      exact ⟨⟨_, rfl, rowSpot_le (rowSpot_own HO.out) (by omega)⟩, B2.out.trans (HB.out.mono hw2)⟩
end Go.Proofs.YtkfbofgkeneelaaGreatDoor
