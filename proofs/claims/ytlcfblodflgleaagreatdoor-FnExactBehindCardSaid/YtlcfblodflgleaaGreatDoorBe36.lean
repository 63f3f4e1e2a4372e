import Derived.Shelf.SlIter.Nil
import Derived.Shelf.SortM.Plain
import Derived.Shelf.SortM.SortNone
import Derived.Ground.GgzProg
import Derived.Ground.SlgmProg
import Derived.Test.YtlcfblodflgleaaGreatDoorProg
import Derived.Sort.KeysCollected
import Derived.Test.YtlcfblodflgleaaGreatDoorBe35
set_option maxRecDepth 100000
set_option maxHeartbeats 1600000
namespace Go.Proofs.YtlcfblodflgleaaGreatDoor
open Go.RowKit Go.Maps
theorem Tryz.keyT (s : ByteArray) (h : s.size ≤ maxLen) : keyOf Tryz.prog 9 (.string s) = some (kl s) := WideMaps.keyOf_string_mk Tryz.underlying9 h
theorem cells_grown {W w' : World} {mb b o : Nat} {v : Value} (hg : W.grownBy w' (some mb)) (h : W.cell? ⟨b, o, none⟩ = some v) (hb : b ≠ mb) : w'.cell? ⟨b, o, none⟩ = some v := by
  have hb2 := hg.block b (World.block_lt_of_cell? _ _ h) (by simpa using hb)
  have hc : w'.cell? ⟨b, o, none⟩ = W.cell? ⟨b, o, none⟩ := by unfold World.cell?; rw [hb2]
  exact hc.trans h
theorem changesAt_grown {w w' : World} {ao : Option Addr} {fs : List ChangeD} {mb : Nat} (h : ChangesAt w ao fs) (hg : w.grownBy w' (some mb)) (hne : ∀ b off, ao = some ⟨b, off, none⟩ → b ≠ mb) : ChangesAt w' ao fs := by
  intro j hj
  obtain ⟨b, off, h1, h2, h3, h4, h5⟩ := h j hj
  have hb := hg.block b h2 (by have := hne b off h1; simpa using this)
  have hc : ∀ o, w'.cell? ⟨b, o, none⟩ = w.cell? ⟨b, o, none⟩ := fun o => by unfold World.cell?; rw [hb]
  exact ⟨b, off, h1, Nat.lt_of_lt_of_le h2 hg.size, (hc _).trans h3, (hc _).trans h4, (hc _).trans h5⟩
theorem tell_any (gs : List SpotD) (mb n : Nat) (q seg pos : Int) (cs : List ChangeD) (ao : Option Addr) (cap : Nat) (w : World) (hm : DirM w mb n gs) (hn : n + cs.length ≤ 1000000) (hl : cs.length ≤ 1048576) (hcs : ChangesAt w ao cs) (hmc : 0 < cs.length → ∀ b off, ao = some ⟨b, off, none⟩ → b ≠ mb) (hsz : ∀ A ∈ cs, A.key.size ≤ 1048576) :
    Calls Tryz.prog 138 #[.map (some mb), .agg #[.int .i64 q, .slice ao cs.length cap], .int .i64 seg, .int .i64 pos] w fun e w' => e = .returned (.tuple #[]) ∧ DirM w' mb (n + cs.length) (chsIn seg pos q gs cs) ∧ w.grownBy w' (some mb) := by
  obtain ⟨wb, hwb⟩ : ∃ wb, wb = w.alloc (.cells #[.int .i64 q, .slice ao cs.length cap] 101) := ⟨_, rfl⟩
  have HB0 : Hid (Below w.heap.size w wb) := by rw [hwb]; exact (Below.refl _ w).alloc (Nat.le_refl _) _
  have HBX : Hid (wb.heap[w.heap.size]? = some (.cells #[.int .i64 q, .slice ao cs.length cap] 101 (0, 0))) := by rw [hwb]; exact heap_alloc_new w _
  have HM0 := hide (dirM_below hm HB0.out)
  have HC0 := hide (changesAt_keep hcs HB0.out)
  have hmlt := dirM_lt hm
  have HS := hide hsz
  have HMC := hide hmc
  clear hm hcs hsz hmc
  go_enter Tryz.func138, Tryz.ntmps138
  go_wp2_with fail
  rw [← hwb]
  clear hwb
  go_loopw [13] (fun ii wr => ∃ (k : Nat), ii = .int .i64 k ∧ k ≤ cs.length ∧ Hid (DirM wr mb (n + k) (chsIn seg pos q gs (cs.take k))) ∧ Hid (wb.grownBy wr (some mb))) (fun ii _ => cs.length - (intOf ii).toNat)
  case atStart => exact ⟨0, rfl, Nat.zero_le _, HM0, World.grownBy.refl _ _⟩
  case round =>
    obtain ⟨k, rfl, hk, HM, HG⟩ := hrel
    have hws := HG.out.size
    by_cases hlt : k < cs.length
    · have hlt' : decide ((k : Int) < (cs.length : Int)) = true := by simp; omega
      have hi0 : (0 : Int) ≤ (k : Int) := by omega
      have hi1 : (k : Int) < (cs.length : Int) := by omega
      obtain ⟨b, off, hab, hbw, hd0, hd1, hd2⟩ := changesAt_grown HC0.out HG.out (HMC.out (by omega)) k hlt
      subst hab
      have htk := hide (List.take_succ_eq_append_getElem hlt)
      have hks := HS.out cs[k] (List.getElem_mem hlt)
      generalize cs[k] = A at hd0 hd1 hd2 htk hks
      have HK := hide (Tryz.keyT A.key (by unfold maxLen; omega))
      obtain ⟨wr1, hwr1⟩ : ∃ x, x = wr.alloc (.cells #[.string A.key, .string A.value, .bool A.gone] 160) := ⟨_, rfl⟩
      have B1r : Hid (Below wr.heap.size wr wr1) := by rw [hwr1]; exact (Below.refl _ wr).alloc (Nat.le_refl _) _
      have hch1 : wr1.heap[wr.heap.size]? = some (.cells #[.string A.key, .string A.value, .bool A.gone] 160 (0, 0)) := by rw [hwr1]; exact heap_alloc_new wr _
      have hbx1 := (B1r.out.block w.heap.size (by have := heap_lt HBX.out; omega)).trans ((HG.out.block _ (heap_lt HBX.out) (by simp; omega)).trans HBX.out)
      have hf0 : wr1.cell? ⟨wr.heap.size, 0, none⟩ = some (.string A.key) := (cell_of_row wr1 _ 0 _ _ (0, 0) hch1).trans rfl
      have hf2 : wr1.cell? ⟨wr.heap.size, 2, none⟩ = some (.bool A.gone) := (cell_of_row wr1 _ 2 _ _ (0, 0) hch1).trans rfl
      have hf3 : wr1.cell? ⟨w.heap.size, 0, none⟩ = some (.int .i64 q) := (cell_of_row wr1 _ 0 _ _ (0, 0) hbx1).trans rfl
      have HM1 := hide (dirM_below HM.out B1r.out)
      have G1 : Hid (wb.grownBy wr1 (some mb)) := grownBy_trans HG.out (grownBy_below _ B1r.out)
      clear hch1 hbx1
      obtain ⟨D, hD1, hD2, hD3, hD4⟩ := HM1.out
      have H1 := hide hD1
      have H2 := hide hD2
      have H3 := hide hD3
      have H4 := hide hD4
      clear hD1 hD2 hD3 hD4
      cases hgo : A.gone with
      | true =>
        rw [hgo] at hf2 hwr1 hd2
        subst hwr1
        go_wp2_with (at_delete; refine wpList_delete_own _ rfl _ _ 211 9 rfl 120 (string_keyed Tryz.underlying9) Tryz.underlying211 spotElem mb (n + k) D rfl H1.out _ _ rfl HK.out ?_; intro w5 hown5 hturn5; have HN5 := hide (dirM_del ⟨A.key, seg, pos, q⟩ H2.out H3.out H4.out hown5); have HG5 := hide hturn5.grown; clear hown5 hturn5)
        go_roundw
        case rel => exact ⟨k + 1, by go_num, by omega, by show DirM _ _ _ _; rw [htk.out, chsIn_snoc, hgo]; exact dirM_mono HN5.out (by omega), grownBy_trans G1.out HG5.out⟩
        case measure => simp [intOf]; omega
      | false =>
        rw [hgo] at hf2 hwr1 hd2
        subst hwr1
        go_wp2_with (at_mapUpdate; refine wpList_mapUpdate_own _ rfl _ _ _ 211 rfl 9 120 (string_keyed Tryz.underlying9) Tryz.underlying211 spotElem mb (n + k) D rfl H1.out (by unfold maxLen; omega) _ _ _ rfl rfl HK.out (spotDat ⟨A.key, seg, pos, q⟩) [] rfl ?_; intro w5 hown5 hgrow5; have HN5 := hide (dirM_put (F := ⟨A.key, seg, pos, q⟩) H1.out.isMap H2.out H3.out H4.out hown5); have HG5 := hide hgrow5; clear hown5 hgrow5)
        go_roundw
        case rel => exact ⟨k + 1, by go_num, by omega, by show DirM _ _ _ _; rw [htk.out, chsIn_snoc, hgo]; exact HN5.out, grownBy_trans G1.out HG5.out⟩
        case measure => simp [intOf]; omega
    · have hlt' : decide ((k : Int) < (cs.length : Int)) = false := by simp; omega
      have hke : k = cs.length := by omega
      subst hke
      rw [List.take_length] at HM
      go_wp2
      refine bodyPost_end (results_none rfl _ _ _) rfl ?_
      exact ⟨rfl, HM.out, grownBy_trans (grownBy_below _ HB0.out) HG.out⟩
end Go.Proofs.YtlcfblodflgleaaGreatDoor
namespace Go.Proofs
open Go.RowKit Go.Maps Go.Sort Go.Shelf
def Tryz.keys119_ren : Go.Shelf.Ren := ⟨fun | 7 => 119 | 10 => 157 | n => n, fun | 23 => 137 | 26 => 9 | 3 => 178 | 28 => 186 | 0 => 0 | 27 => 185 | 33 => 106 | 4 => 4 | n => n, fun | n => n⟩
theorem Tryz.keys119 : Go.Proofs.SlLaysZ.n7 Tryz.prog Tryz.keys119_ren := {
  mixed := by kernel_rfl
  f7 := ⟨Tryz.f119.name, by decide, Tryz.func119.trans (congrArg some (by kernel_rfl))⟩
  f10 := ⟨Tryz.f157.name, by decide, Tryz.func157.trans (congrArg some (by kernel_rfl))⟩
  t0 := Tryz.underlying0
  a0 := Tryz.isAgg0
  z0 := Tryz.sizeOf0
  v0 := Tryz.zeroValue0
  t4 := Tryz.underlying4
  a4 := Tryz.isAgg4
  z4 := Tryz.sizeOf4
  v4 := Tryz.zeroValue4
  t23 := Tryz.underlying137
  a23 := Tryz.isAgg137
  z23 := Tryz.sizeOf137
  v23 := Tryz.zeroValue137
  t26 := Tryz.underlying9
  a26 := Tryz.isAgg9
  z26 := Tryz.sizeOf9
  v26 := Tryz.zeroValue9
  t27 := Tryz.underlying185
  a27 := Tryz.isAgg185
  z27 := Tryz.sizeOf185
  v27 := Tryz.zeroValue185
  t28 := Tryz.underlying186
  a28 := Tryz.isAgg186
  z28 := Tryz.sizeOf186
  v28 := Tryz.zeroValue186
  t33 := Tryz.underlying106
  a33 := Tryz.isAgg106
  z33 := Tryz.sizeOf106
  v33 := Tryz.zeroValue106 }
def Tryz.sorted118_ren : Go.Shelf.Ren := ⟨fun | 6 => 118 | 8 => 155 | 9 => 156 | 11 => 179 | 13 => 181 | 12 => 180 | 23 => 201 | 24 => 202 | 14 => 192 | 15 => 193 | 16 => 194 | 17 => 195 | 18 => 196 | 19 => 197 | 20 => 198 | 21 => 199 | 22 => 200 | 25 => 210 | 26 => 211 | 27 => 212 | 28 => 213 | 29 => 214 | 30 => 207 | 31 => 220 | n => n, fun | 26 => 9 | 28 => 186 | 24 => 151 | 0 => 0 | 3 => 3 | 37 => 200 | 48 => 126 | 50 => 259 | 4 => 4 | 40 => 252 | 39 => 251 | 45 => 154 | 5 => 5 | 9 => 9 | 51 => 266 | 55 => 270 | 57 => 281 | 58 => 282 | 33 => 106 | n => n, fun | n => n⟩
theorem Tryz.sorted118 : Go.Proofs.SlLaysZ.n6 Tryz.prog Tryz.sorted118_ren := {
  mixed := by kernel_rfl
  f6 := ⟨Tryz.f118.name, by decide, Tryz.func118.trans (congrArg some (by kernel_rfl))⟩
  f8 := ⟨Tryz.f155.name, by decide, Tryz.func155.trans (congrArg some (by kernel_rfl))⟩
  f11 := ⟨Tryz.f179.name, by decide, Tryz.func179.trans (congrArg some (by kernel_rfl))⟩
  t0 := Tryz.underlying0
  a0 := Tryz.isAgg0
  z0 := Tryz.sizeOf0
  v0 := Tryz.zeroValue0
  t24 := Tryz.underlying151
  a24 := Tryz.isAgg151
  z24 := Tryz.sizeOf151
  v24 := Tryz.zeroValue151
  t26 := Tryz.underlying9
  a26 := Tryz.isAgg9
  z26 := Tryz.sizeOf9
  v26 := Tryz.zeroValue9
  t28 := Tryz.underlying186
  a28 := Tryz.isAgg186
  z28 := Tryz.sizeOf186
  v28 := Tryz.zeroValue186
  i26 := by kernel_rfl }
def Tryz.sort156_ren : Go.Shelf.Ren := ⟨fun | 6 => 156 | 8 => 181 | 9 => 180 | 19 => 201 | 20 => 202 | 21 => 192 | 22 => 193 | 23 => 194 | 24 => 195 | 25 => 196 | 26 => 197 | 27 => 198 | 28 => 199 | 29 => 200 | 36 => 210 | 31 => 211 | 32 => 212 | 37 => 213 | 38 => 214 | 39 => 207 | 41 => 220 | n => n, fun | 27 => 151 | 29 => 9 | 3 => 3 | 32 => 200 | 26 => 151 | 0 => 0 | 44 => 126 | 46 => 259 | 4 => 4 | 36 => 252 | 35 => 251 | 41 => 154 | 5 => 5 | 9 => 9 | 53 => 266 | 57 => 270 | 63 => 281 | 64 => 282 | n => n, fun | n => n⟩
theorem Tryz.sort156 : Go.Proofs.SlLaysM.n6 Tryz.prog Tryz.sort156_ren := {
  mixed := by kernel_rfl
  f6 := ⟨Tryz.f156.name, by decide, Tryz.func156.trans (congrArg some (by kernel_rfl))⟩
  f8 := Tryz.func181.trans (congrArg some (by kernel_rfl))
  f9 := ⟨Tryz.f180.name, by decide, Tryz.func180.trans (congrArg some (by kernel_rfl))⟩
  f19 := Tryz.func201.trans (congrArg some (by kernel_rfl))
  f20 := Tryz.func202.trans (congrArg some (by kernel_rfl))
  f21 := ⟨Tryz.f192.name, by decide, Tryz.func192.trans (congrArg some (by kernel_rfl))⟩
  f22 := ⟨Tryz.f193.name, by decide, Tryz.func193.trans (congrArg some (by kernel_rfl))⟩
  f23 := ⟨Tryz.f194.name, by decide, Tryz.func194.trans (congrArg some (by kernel_rfl))⟩
  f24 := ⟨Tryz.f195.name, by decide, Tryz.func195.trans (congrArg some (by kernel_rfl))⟩
  f25 := ⟨Tryz.f196.name, by decide, Tryz.func196.trans (congrArg some (by kernel_rfl))⟩
  f26 := ⟨Tryz.f197.name, by decide, Tryz.func197.trans (congrArg some (by kernel_rfl))⟩
  f27 := ⟨Tryz.f198.name, by decide, Tryz.func198.trans (congrArg some (by kernel_rfl))⟩
  f28 := ⟨Tryz.f199.name, by decide, Tryz.func199.trans (congrArg some (by kernel_rfl))⟩
  f29 := ⟨Tryz.f200.name, by decide, Tryz.func200.trans (congrArg some (by kernel_rfl))⟩
  f31 := Tryz.func211.trans (congrArg some (by kernel_rfl))
  f32 := Tryz.func212.trans (congrArg some (by kernel_rfl))
  f36 := ⟨Tryz.f210.name, by decide, Tryz.func210.trans (congrArg some (by kernel_rfl))⟩
  f37 := ⟨Tryz.f213.name, by decide, Tryz.func213.trans (congrArg some (by kernel_rfl))⟩
  f38 := ⟨Tryz.f214.name, by decide, Tryz.func214.trans (congrArg some (by kernel_rfl))⟩
  f39 := ⟨Tryz.f207.name, by decide, Tryz.func207.trans (congrArg some (by kernel_rfl))⟩
  f41 := ⟨Tryz.f220.name, by decide, Tryz.func220.trans (congrArg some (by kernel_rfl))⟩
  t0 := Tryz.underlying0
  a0 := Tryz.isAgg0
  z0 := Tryz.sizeOf0
  v0 := Tryz.zeroValue0
  t3 := Tryz.underlying3
  a3 := Tryz.isAgg3
  z3 := Tryz.sizeOf3
  v3 := Tryz.zeroValue3
  t4 := Tryz.underlying4
  a4 := Tryz.isAgg4
  z4 := Tryz.sizeOf4
  v4 := Tryz.zeroValue4
  t5 := Tryz.underlying5
  a5 := Tryz.isAgg5
  z5 := Tryz.sizeOf5
  v5 := Tryz.zeroValue5
  t9 := Tryz.underlying9
  a9 := Tryz.isAgg9
  z9 := Tryz.sizeOf9
  v9 := Tryz.zeroValue9
  t26 := Tryz.underlying151
  a26 := Tryz.isAgg151
  z26 := Tryz.sizeOf151
  v26 := Tryz.zeroValue151
  t27 := Tryz.underlying151
  a27 := Tryz.isAgg151
  z27 := Tryz.sizeOf151
  v27 := Tryz.zeroValue151
  t29 := Tryz.underlying9
  a29 := Tryz.isAgg9
  z29 := Tryz.sizeOf9
  v29 := Tryz.zeroValue9
  t32 := Tryz.underlying200
  a32 := Tryz.isAgg200
  z32 := Tryz.sizeOf200
  v32 := Tryz.zeroValue200
  t35 := Tryz.underlying251
  a35 := Tryz.isAgg251
  z35 := Tryz.sizeOf251
  v35 := Tryz.zeroValue251
  t36 := Tryz.underlying252
  a36 := Tryz.isAgg252
  z36 := Tryz.sizeOf252
  v36 := Tryz.zeroValue252
  t41 := Tryz.underlying154
  a41 := Tryz.isAgg154
  z41 := Tryz.sizeOf154
  v41 := Tryz.zeroValue154
  t44 := Tryz.underlying126
  a44 := Tryz.isAgg126
  z44 := Tryz.sizeOf126
  v44 := Tryz.zeroValue126
  t46 := Tryz.underlying259
  a46 := Tryz.isAgg259
  z46 := Tryz.sizeOf259
  v46 := Tryz.zeroValue259
  t53 := Tryz.underlying266
  a53 := Tryz.isAgg266
  z53 := Tryz.sizeOf266
  v53 := Tryz.zeroValue266
  t57 := Tryz.underlying270
  a57 := Tryz.isAgg270
  z57 := Tryz.sizeOf270
  v57 := Tryz.zeroValue270
  t63 := Tryz.underlying281
  a63 := Tryz.isAgg281
  z63 := Tryz.sizeOf281
  v63 := Tryz.zeroValue281
  t64 := Tryz.underlying282
  a64 := Tryz.isAgg282
  z64 := Tryz.sizeOf282
  v64 := Tryz.zeroValue282 }
def Tryz.keys163_ren : Go.Shelf.Ren := ⟨fun | 7 => 163 | 10 => 184 | n => n, fun | 23 => 211 | 26 => 9 | 3 => 120 | 28 => 186 | 0 => 0 | 27 => 185 | 33 => 106 | 4 => 4 | n => n, fun | n => n⟩
theorem Tryz.keys163 : Go.Proofs.SlLaysZ.n7 Tryz.prog Tryz.keys163_ren := {
  mixed := by kernel_rfl
  f7 := ⟨Tryz.f163.name, by decide, Tryz.func163.trans (congrArg some (by kernel_rfl))⟩
  f10 := ⟨Tryz.f184.name, by decide, Tryz.func184.trans (congrArg some (by kernel_rfl))⟩
  t0 := Tryz.underlying0
  a0 := Tryz.isAgg0
  z0 := Tryz.sizeOf0
  v0 := Tryz.zeroValue0
  t4 := Tryz.underlying4
  a4 := Tryz.isAgg4
  z4 := Tryz.sizeOf4
  v4 := Tryz.zeroValue4
  t23 := Tryz.underlying211
  a23 := Tryz.isAgg211
  z23 := Tryz.sizeOf211
  v23 := Tryz.zeroValue211
  t26 := Tryz.underlying9
  a26 := Tryz.isAgg9
  z26 := Tryz.sizeOf9
  v26 := Tryz.zeroValue9
  t27 := Tryz.underlying185
  a27 := Tryz.isAgg185
  z27 := Tryz.sizeOf185
  v27 := Tryz.zeroValue185
  t28 := Tryz.underlying186
  a28 := Tryz.isAgg186
  z28 := Tryz.sizeOf186
  v28 := Tryz.zeroValue186
  t33 := Tryz.underlying106
  a33 := Tryz.isAgg106
  z33 := Tryz.sizeOf106
  v33 := Tryz.zeroValue106 }
theorem Tryz.sorts118 (m : Nat) : AnyZ.SortsIn Tryz.prog Tryz.sorted118_ren Fence.wide m :=
  ⟨fun blk off cap ss W hH hblk hsz => callsIn_wide.2 (AnyM.slices_Sort_string Tryz.sort156 blk off cap ss W hH hblk hsz),
   fun p cap W => callsIn_wide.2 (AnyM.slices_Sort_string_none Tryz.sort156 p cap W)⟩
theorem Tryz.maps_Keys_119 (mb : Option Nat) (W : World) : CallsIn Fence.wide 5 Tryz.prog 119 #[.map mb] W fun e w' => e = .returned (.func (.func 157) #[] #[.pointer (some ⟨W.heap.size, 0, none⟩)]) ∧ w' = W.alloc (.cells #[.map mb] 137) :=
  AnyZ.keys_in Tryz.keys119 Fence.wide 5 trivial rfl mb W
theorem Tryz.slices_Sorted_keys_118_119 {H : Type} (b nn : Nat) (D0 : DataW H) (R : Value → Option (DataW H × List MemPlace)) (w : World) (hown : w.ownsMap Tryz.prog 9 R b nn D0) (hmax : Maps.size D0 ≤ maxLen) (hbytes : Maps.size D0 * 16 ≤ 140737488355328) :
    CallsIn Fence.wide 5 Tryz.prog 118 #[.func (.func 157) #[] #[.pointer (some ⟨w.heap.size, 0, none⟩)]] (w.alloc (.cells #[.map (some b)] 137)) fun e w' => ∃ (v : Value) (ss : List (List UInt8)), e = .returned v ∧ ss.Perm (strKeys D0) ∧
      w'.ownsRow (w.alloc (.cells #[.map (some b)] 137)).heap.size 9 1 v ss.length ((ss.mergeSort (fun x y => decide (x ≤ y))).map encStr) ∧ (v = .slice none 0 0 ↔ ss = []) ∧ Below (w.alloc (.cells #[.map (some b)] 137)).heap.size (w.alloc (.cells #[.map (some b)] 137)) w' := by
  have hbl := hown.lt
  have hseq : SeqGives Fence.wide 2 Tryz.prog 157 #[.pointer (some ⟨w.heap.size, 0, none⟩)] encStr (fun ss => ss.Perm (strKeys D0)) (Maps.size D0) (w.alloc (.cells #[.map (some b)] 137)) :=
    AnyZ.keys_gives (ρ := Tryz.keys119_ren) { Tryz.keys119 with } Fence.wide _ trivial rfl (by omega) w.heap.size b nn D0 _ (by simp) (by simp) (by
      obtain ⟨es, clock, hb, Ft, hs, hD⟩ := hown
      exact ⟨es, clock, (Below.heap_alloc _ _ b hbl).trans hb, Ft, hs, hD⟩)
  exact AnyZ.sorted_in Tryz.sorted118 Fence.wide 5 trivial trivial trivial trivial rfl (by omega) (Tryz.sorts118 _) (enters_of Tryz.func156 (by kernel_rfl) rfl) 157 #[.pointer (some ⟨w.heap.size, 0, none⟩)] trivial (enters_of Tryz.func157 (by kernel_rfl) rfl) _ _ hmax hbytes _ hseq
theorem Tryz.maps_Keys_163 (mb : Option Nat) (W : World) : CallsIn Fence.wide 5 Tryz.prog 163 #[.map mb] W fun e w' => e = .returned (.func (.func 184) #[] #[.pointer (some ⟨W.heap.size, 0, none⟩)]) ∧ w' = W.alloc (.cells #[.map mb] 211) :=
  AnyZ.keys_in Tryz.keys163 Fence.wide 5 trivial rfl mb W
theorem Tryz.slices_Sorted_keys_118_163 {H : Type} (b nn : Nat) (D0 : DataW H) (R : Value → Option (DataW H × List MemPlace)) (w : World) (hown : w.ownsMap Tryz.prog 9 R b nn D0) (hmax : Maps.size D0 ≤ maxLen) (hbytes : Maps.size D0 * 16 ≤ 140737488355328) :
    CallsIn Fence.wide 5 Tryz.prog 118 #[.func (.func 184) #[] #[.pointer (some ⟨w.heap.size, 0, none⟩)]] (w.alloc (.cells #[.map (some b)] 211)) fun e w' => ∃ (v : Value) (ss : List (List UInt8)), e = .returned v ∧ ss.Perm (strKeys D0) ∧
      w'.ownsRow (w.alloc (.cells #[.map (some b)] 211)).heap.size 9 1 v ss.length ((ss.mergeSort (fun x y => decide (x ≤ y))).map encStr) ∧ (v = .slice none 0 0 ↔ ss = []) ∧ Below (w.alloc (.cells #[.map (some b)] 211)).heap.size (w.alloc (.cells #[.map (some b)] 211)) w' := by
  have hbl := hown.lt
  have hseq : SeqGives Fence.wide 2 Tryz.prog 184 #[.pointer (some ⟨w.heap.size, 0, none⟩)] encStr (fun ss => ss.Perm (strKeys D0)) (Maps.size D0) (w.alloc (.cells #[.map (some b)] 211)) :=
    AnyZ.keys_gives (ρ := Tryz.keys163_ren) { Tryz.keys163 with } Fence.wide _ trivial rfl (by omega) w.heap.size b nn D0 _ (by simp) (by simp) (by
      obtain ⟨es, clock, hb, Ft, hs, hD⟩ := hown
      exact ⟨es, clock, (Below.heap_alloc _ _ b hbl).trans hb, Ft, hs, hD⟩)
  exact AnyZ.sorted_in Tryz.sorted118 Fence.wide 5 trivial trivial trivial trivial rfl (by omega) (Tryz.sorts118 _) (enters_of Tryz.func156 (by kernel_rfl) rfl) 184 #[.pointer (some ⟨w.heap.size, 0, none⟩)] trivial (enters_of Tryz.func184 (by kernel_rfl) rfl) _ _ hmax hbytes _ hseq
end Go.Proofs
namespace Go.Proofs.YtlcfblodflgleaaGreatDoor
open Go.RowKit Go.Maps
theorem keys_sorted {w : World} {mb n : Nat} {gs : List SpotD} {D : DataW Unit} (h1 : w.ownsMap Tryz.prog 9 spotElem mb n D) (h2 : ∀ s, has D (kl s) = true ↔ ∃ F ∈ gs, F.key = s) (hs : srtS gs) {ss : List (List UInt8)} (hp : ss.Perm (strKeys D)) : ss.mergeSort (fun x y => decide (x ≤ y)) = gs.map (fun F => F.key.data.toList) := by
  have hlt : (gs.map (fun F => F.key.data.toList)).Pairwise (fun a b => Op.bytesLess a b = true) := by
    refine List.pairwise_map.2 (hs.imp fun {a b} h => ?_)
    rw [Lib.toList_data, Lib.toList_data] at h
    exact h
  have hnd : (gs.map (fun F => F.key.data.toList)).Nodup := hlt.imp fun {a b} h e => by rw [e, less_irrefl] at h; cases h
  have hm : ∀ x, x ∈ gs.map (fun F => F.key.data.toList) ↔ has D (.string x) = true := by
    intro x
    have h3 := h2 ⟨x.toArray⟩
    have e : kl ⟨x.toArray⟩ = .string x := by simp [kl]
    rw [e] at h3
    rw [h3, List.mem_map]
    constructor
    · rintro ⟨F, hF, rfl⟩
      exact ⟨F, hF, by cases F.key; simp⟩
    · rintro ⟨F, hF, e2⟩
      exact ⟨F, hF, by rw [e2]⟩
  have hc : Collected D (fun _ => false) (gs.map (fun F => F.key.data.toList)) := ⟨hnd, fun x => by rw [hm x]; simp⟩
  have hp2 := hc.perm h1 (string_keyed Tryz.underlying9) Tryz.underlying9 (fun _ => rfl)
  have h1 := mergeSort_of_perm (hp.trans hp2.symm)
  refine h1.trans ?_
  have tr : ∀ a b c : List UInt8, leB a b = true → leB b c = true → leB a c = true := fun a b c h1 h2 => by simp only [leB, decide_eq_true_eq] at *; exact List.le_trans h1 h2
  have tot : ∀ a b : List UInt8, (leB a b || leB b a) = true := fun a b => by simp only [leB, Bool.or_eq_true, decide_eq_true_eq]; exact List.le_total a b
  refine List.Perm.eq_of_pairwise (le := fun a b => leB a b = true) (fun a b _ _ h1 h2 => ?_) (List.pairwise_mergeSort tr tot _) ?_ (List.mergeSort_perm _ leB)
  · simp only [leB, decide_eq_true_eq] at h1 h2
    exact List.le_antisymm h1 h2
  · refine hlt.imp fun {a b} h => ?_
    rw [bytesLess_eq, decide_eq_true_eq] at h
    simp only [leB, decide_eq_true_eq]
    exact List.le_of_lt h
theorem dirKeys_any (mb : Option Nat) (W : World) : Calls Tryz.prog 163 #[.map mb] W fun e w' => e = .returned (.func (.func 184) #[] #[.pointer (some ⟨W.heap.size, 0, none⟩)]) ∧ w' = W.alloc (.cells #[.map mb] 211) :=
  (callsIn_wide (n := 5)).1 (Tryz.maps_Keys_163 mb W)
theorem dirSorted_any {mb n : Nat} {gs : List SpotD} (w : World) (h : DirM w mb n gs) (hn : n ≤ 1000000) :
    Calls Tryz.prog 118 #[.func (.func 184) #[] #[.pointer (some ⟨w.heap.size, 0, none⟩)]] (w.alloc (.cells #[.map (some mb)] 211)) fun e w' => (∃ v : Value, e = .returned v ∧ w'.ownsRow (w.heap.size + 1) 9 1 v gs.length (gs.map (fun F => .string F.key))) ∧ Below w.heap.size w w' := by
  obtain ⟨D, h1, h2, h3, h4⟩ := h
  have hsz := h1.size_le
  refine ((callsIn_wide (n := 5)).1 (Tryz.slices_Sorted_keys_118_163 mb n D spotElem w h1 (by unfold maxLen; omega) (by omega))).mono ?_
  rintro e w' ⟨v, ss, rfl, hp, hrow, _, hb⟩
  refine ⟨⟨v, rfl, ?_⟩, ((Below.refl _ w).alloc (Nat.le_refl _) _).trans (hb.mono (by simp))⟩
  have hnn := keys_sorted h1 h2 h4 hp
  rw [hnn] at hrow
  have hle : ss.length = gs.length := by
    have := congrArg List.length hnn
    rw [List.length_mergeSort, List.length_map] at this
    exact this
  rw [hle, List.map_map] at hrow
  have e1 : (w.alloc (.cells #[.map (some mb)] 211)).heap.size = w.heap.size + 1 := by simp
  rw [e1] at hrow
  have e2 : (encStr ∘ fun F : SpotD => F.key.data.toList) = fun F : SpotD => Value.string F.key := by
    funext F
    simp [encStr]
  rw [e2] at hrow
  exact hrow
theorem Tryz.zeroSpot (w : World) : (zeroValue 120).run Tryz.prog w = .ok (.agg #[.string ⟨#[]⟩, .int .i64 0, .int .i64 0, .int .i64 0]) w := by
  have hz : Tryz.t120.zero = some (.agg #[.string ⟨#[]⟩, .int .i64 0, .int .i64 0, .int .i64 0]) := by kernel_rfl
  simp [zeroValue, go_sem, hz]
theorem rowStr_at {w : World} {B n cap : Nat} {ao : Option Addr} {gs : List SpotD} (h : w.ownsRow B 9 1 (.slice ao n cap) gs.length (gs.map (fun F => .string F.key))) (j : Nat) (hj : j < gs.length) : ∃ g, ao = some ⟨g, 0, none⟩ ∧ g < w.heap.size ∧ w.cell? ⟨g, j, none⟩ = some (.string gs[j].key) := by
  rcases h.2 with ⟨_, hn⟩ | ⟨g, cap', cur, hv, hB, hC, hle, _, hs, ht⟩
  · omega
  · cases hv
    refine ⟨g, rfl, (Array.getElem?_eq_some_iff.1 hC).1, ?_⟩
    exact (cell_of_row w g j _ _ (0, 0) hC).trans (take_getSpot ht (by omega) (by simp [hj]))
theorem inOrder_any (gs : List SpotD) (mb n B : Nat) (w : World) (hm : DirM w mb n gs) (hn : n ≤ 1000000) (hk : ∀ A ∈ gs, A.key.size ≤ 1048576) (hgl : gs.length ≤ 1000000) (hB : B ≤ w.heap.size) :
    Calls Tryz.prog 139 #[.map (some mb)] w fun e w' => (∃ v, e = .returned v ∧ RowSpot w' B v gs) ∧ Below w.heap.size w w' := by
  have HM := hide hm
  have HK := hide hk
  clear hm hk
  go_enter Tryz.func139, Tryz.ntmps139
  go_wp2_with fail
  refine (dirKeys_any _ _).mono ?_
  rintro e w1 ⟨rfl, rfl⟩
  go_wp2_with fail
  refine (dirSorted_any _ HM.out hn).mono ?_
  rintro e w2 ⟨⟨v2, rfl, hrow⟩, b2⟩
  obtain ⟨a2, c2, rfl⟩ := slice_form hrow
  have HR2 := hide hrow
  have B2 := hide b2
  clear hrow b2
  have HM2 := hide (dirM_below HM.out B2.out)
  have hw2 : w.heap.size ≤ w2.heap.size := B2.out.size
  go_wp2_with fail
  go_loopw [3, 10] (fun vo ii wr => ∃ (k : Nat), ii = .int .i64 k ∧ k ≤ gs.length ∧ Hid (wr.ownsRow w2.heap.size 120 4 vo (gs.take k).length (cellsSpot (gs.take k))) ∧ Hid (Below w2.heap.size w2 wr)) (fun _ ii _ => gs.length - (intOf ii).toNat)
  case atStart => exact ⟨0, rfl, Nat.zero_le _, World.ownsRow_nil _ _ _ _, Below.refl _ _⟩
  case round =>
    obtain ⟨k, rfl, hk, HO, HB⟩ := hrel
    have hws := HB.out.size
    by_cases hlt : k < gs.length
    · have hlt' : decide ((k : Int) < (gs.length : Int)) = true := by simp; omega
      have hi0 : (0 : Int) ≤ (k : Int) := by omega
      have hi1 : (k : Int) < (gs.length : Int) := by omega
      obtain ⟨g, hg, hgw, hc0⟩ := rowStr_at HR2.out k hlt
      subst hg
      have hd0 := (HB.out.cell (p := ⟨g, k, none⟩) hgw).trans hc0
      clear hc0
      obtain ⟨D, hD1, hD2, hD3, hD4⟩ := dirM_below HM2.out HB.out
      have hks := HK.out gs[k] (List.getElem_mem hlt)
      obtain ⟨v, ps, hrun, hv⟩ := hD1.lookup (string_keyed Tryz.underlying9) Tryz.underlying211 (Tryz.zeroSpot _) (spotElem_mk ⟨⟨#[]⟩, 0, 0, 0⟩) (Tryz.keyT gs[k].key (by unfold maxLen; omega))
      rw [hD3 gs[k] (List.getElem_mem hlt)] at hv
      obtain rfl := spotElem_inv hv
      have htk := hide (List.take_succ_eq_append_getElem hlt)
      clear hv hD1 hD2 hD3 hD4
      generalize gs[k] = F at hd0 hks hrun htk
      have hln : (gs.take k).length ≤ gs.length := by rw [List.length_take]; omega
      obtain ⟨L, HL⟩ : ∃ L, Hid (gs.take k = L) := ⟨_, hide rfl⟩
      rw [HL.out] at HO htk hln
      go_wp2_with (at_builtin; refine app_spot _ w2.heap.size (by rfl) _ _ (by rfl) _ L F (by rfl) (HO.out.alloc _) wr.heap.size (by rfl) (heap_alloc_new wr _) (by omega) (by simp; omega) ?_; intro g5 cap5 w5 ho5 hb5 hg5 hgl5; have HO5 := hide ho5; have HB5 := hide hb5; clear ho5 hb5 hg5 hgl5)
      go_roundw
      case rel => exact ⟨k + 1, by go_num, by omega, by show World.ownsRow _ _ _ _ _ _ _; rw [htk.out]; exact HO5.out, (HB.out.alloc (by omega) _).trans HB5.out⟩
      case measure => simp [intOf]; omega
    · have hlt' : decide ((k : Int) < (gs.length : Int)) = false := by simp; omega
      have hke : k = gs.length := by omega
      subst hke
      rw [List.take_length] at HO
      go_wp2
      go_ret
      exact ⟨⟨_, rfl, rowSpot_le (rowSpot_own HO.out) (by omega)⟩, B2.out.trans (HB.out.mono hw2)⟩
end Go.Proofs.YtlcfblodflgleaaGreatDoor
