import Derived.Shelf.SlIter.Nil
import Derived.Shelf.SortM.Plain
import Derived.Shelf.SortM.SortNone
import Derived.Ground.GgzProg
import Derived.Ground.SlgmProg
import Derived.Test.YtmmchemgegmhhaaGreatDoorProg
import Derived.Test.YtmmchemgegmhhaaGreatDoorFo9
set_option maxRecDepth 100000
set_option maxHeartbeats 1600000
namespace Go.Proofs.YtmmchemgegmhhaaGreatDoor
open Go.RowKit Go.Maps
def srtS (fs : List SpotD) : Prop := fs.Pairwise (fun a b => Op.bytesLess a.key.toList b.key.toList = true)
theorem set_mem {gs : List SpotD} {F G : SpotD} {gone : Bool} : G ∈ setD gs F gone ↔ (gone = false ∧ G = F) ∨ (G ∈ gs ∧ G.key ≠ F.key) := by
  unfold setD
  rw [List.mem_append, List.mem_append, List.mem_filter, List.mem_filter]
  constructor
  · rintro ((⟨h1, h2⟩ | h) | ⟨h1, h2⟩)
    · refine .inr ⟨h1, fun e => ?_⟩
      rw [spLt, e, less_irrefl] at h2
      cases h2
    · cases gone with
      | true => simp at h
      | false => exact .inl ⟨rfl, by simpa using h⟩
    · refine .inr ⟨h1, fun e => ?_⟩
      rw [spGt, e] at h2
      simp at h2
  · rintro (⟨rfl, rfl⟩ | ⟨h1, h2⟩)
    · exact .inl (.inr (by simp))
    · cases hl : Op.bytesLess G.key.toList F.key.toList
      · refine .inr ⟨h1, ?_⟩
        rw [spGt, hl, toList_ne.2 h2]
        rfl
      · exact .inl (.inl ⟨h1, hl⟩)
theorem spGt_less {k : ByteArray} {A : SpotD} (h : spGt k A = true) : Op.bytesLess k.toList A.key.toList = true := by
  unfold spGt at h
  simp only [Bool.and_eq_true, Bool.not_eq_true', beq_eq_false_iff_ne] at h
  exact less_total h.1 h.2
theorem srtS_set {gs : List SpotD} (F : SpotD) (gone : Bool) (h : srtS gs) : srtS (setD gs F gone) := by
  unfold setD srtS
  rw [List.pairwise_append, List.pairwise_append]
  refine ⟨⟨h.filter _, by cases gone <;> simp, fun a ha b hb => ?_⟩, h.filter _, fun a ha b hb => ?_⟩
  · cases gone with
    | true => simp at hb
    | false =>
      obtain rfl : b = F := by simpa using hb
      exact (List.mem_filter.1 ha).2
  · have hb2 := spGt_less (List.mem_filter.1 hb).2
    rcases List.mem_append.1 ha with ha | ha
    · exact less_trans (List.mem_filter.1 ha).2 hb2
    · cases gone with
      | true => simp at ha
      | false =>
        obtain rfl : a = F := by simpa using ha
        exact hb2
theorem srtS_chs (seg pos q : Int) : ∀ (l : List ChangeD) (dir : List SpotD), srtS dir → srtS (chsIn seg pos q dir l)
  | [], _, h => h
  | _ :: r, _, h => srtS_chs seg pos q r _ (srtS_set _ _ h)
def spotDat (A : SpotD) : DataW Unit := .agg [.lit (.string A.key.data.toList), .lit (.int .i64 A.seg), .lit (.int .i64 A.pos), .lit (.int .i64 A.seq)]
def spotElem : Value → Option (DataW Unit × List MemPlace)
  | .agg cs => match cs.toList with
    | [.string k, .int .i64 a, .int .i64 b, .int .i64 c] => some (.agg [.lit (.string k.data.toList), .lit (.int .i64 a), .lit (.int .i64 b), .lit (.int .i64 c)], [])
    | _ => none
  | _ => none
theorem spotElem_mk (A : SpotD) : spotElem (.agg #[.string A.key, .int .i64 A.seg, .int .i64 A.pos, .int .i64 A.seq]) = some (spotDat A, []) := rfl
theorem spotElem_inv {v : Value} {A : SpotD} {ps : List MemPlace} (h : spotElem v = some (spotDat A, ps)) : v = .agg #[.string A.key, .int .i64 A.seg, .int .i64 A.pos, .int .i64 A.seq] := by
  unfold spotElem at h
  split at h
  · rename_i cs
    split at h
    · rename_i k a b c e
      have hcs : cs = #[.string k, .int .i64 a, .int .i64 b, .int .i64 c] := by
        apply Array.ext'
        exact e
      simp only [spotDat, Option.some.injEq, Prod.mk.injEq, DataW.agg.injEq, List.cons.injEq, DataW.lit.injEq, Lit.string.injEq, Lit.int.injEq, true_and, and_true] at h
      obtain ⟨⟨h1, h2, h3, h4⟩, _⟩ := h
      have hk : k = A.key := by
        cases k with | mk d1 => cases hk2 : A.key with | mk d2 =>
          rw [hk2] at h1
          simp at h1
          rw [h1]
      rw [hcs, hk, h2, h3, h4]
    · cases h
  · cases h
def DirM (w : World) (mb n : Nat) (gs : List SpotD) : Prop :=
  ∃ D : DataW Unit, w.ownsMap Tryz.prog 9 spotElem mb n D ∧ (∀ s, has D (kl s) = true ↔ ∃ F ∈ gs, F.key = s) ∧ (∀ F ∈ gs, ∀ z, D.atKey (kl F.key) z = spotDat F) ∧ srtS gs
theorem dirM_new (w : World) : DirM (w.alloc (.map #[] 0)) w.heap.size 0 [] :=
  ⟨.map [], World.ownsMap_made w Tryz.prog 9 spotElem, fun s => by simp [has], fun F hF => absurd hF List.not_mem_nil, List.Pairwise.nil⟩
theorem dirM_keep {w w' : World} {mb n : Nat} {gs : List SpotD} {r : Option Nat} (h : DirM w mb n gs) (hg : w.grownBy w' r) (hr : r ≠ some mb) : DirM w' mb n gs := by
  obtain ⟨D, h1, h2⟩ := h
  exact ⟨D, h1.kept hg (fun e => hr e.symm), h2⟩
theorem dirM_below {w w' : World} {mb n : Nat} {gs : List SpotD} (h : DirM w mb n gs) (hb : Below w.heap.size w w') : DirM w' mb n gs := dirM_keep h (grownBy_below none hb) (by simp)
theorem dirM_lt {w : World} {mb n : Nat} {gs : List SpotD} (h : DirM w mb n gs) : mb < w.heap.size := by
  obtain ⟨D, h1, -⟩ := h
  exact h1.lt
theorem dirM_mono {w : World} {mb n n' : Nat} {gs : List SpotD} (h : DirM w mb n gs) (hn : n ≤ n') : DirM w mb n' gs := by
  obtain ⟨D, h1, h2⟩ := h
  exact ⟨D, h1.mono hn, h2⟩
theorem dirM_put {w' : World} {mb n : Nat} {gs : List SpotD} {D : DataW Unit} {F : SpotD} (hm : IsMap D) (h3 : ∀ s, has D (kl s) = true ↔ ∃ F ∈ gs, F.key = s) (h4 : ∀ F ∈ gs, ∀ z, D.atKey (kl F.key) z = spotDat F) (h5 : srtS gs)
    (hw : w'.ownsMap Tryz.prog 9 spotElem mb n (D.put (kl F.key) (spotDat F))) : DirM w' mb n (setD gs F false) := by
  refine ⟨_, hw, fun s => ?_, fun G hG z => ?_, srtS_set _ _ h5⟩
  · by_cases e : s = F.key
    · subst e
      rw [has_put_same hm (kl_key _)]
      simp only [true_iff]
      exact ⟨F, set_mem.2 (.inl ⟨rfl, rfl⟩), rfl⟩
    · rw [has_put_other (kl_ne e), h3 s]
      constructor
      · rintro ⟨G, hG, rfl⟩
        exact ⟨G, set_mem.2 (.inr ⟨hG, e⟩), rfl⟩
      · rintro ⟨G, hG, rfl⟩
        rcases set_mem.1 hG with ⟨-, rfl⟩ | ⟨hG, _⟩
        · exact absurd rfl e
        · exact ⟨G, hG, rfl⟩
  · rcases set_mem.1 hG with ⟨-, rfl⟩ | ⟨hG, e⟩
    · rw [atKey_put_same hm (kl_key _)]
    · rw [atKey_put_other (kl_ne e)]
      exact h4 G hG z
theorem dirM_del {w' : World} {mb n : Nat} {gs : List SpotD} {D : DataW Unit} (F : SpotD) (h3 : ∀ s, has D (kl s) = true ↔ ∃ F ∈ gs, F.key = s) (h4 : ∀ F ∈ gs, ∀ z, D.atKey (kl F.key) z = spotDat F) (h5 : srtS gs)
    (hw : w'.ownsMap Tryz.prog 9 spotElem mb n (D.del (kl F.key))) : DirM w' mb n (setD gs F true) := by
  refine ⟨_, hw, fun s => ?_, fun G hG z => ?_, srtS_set _ _ h5⟩
  · by_cases e : s = F.key
    · subst e
      rw [has_del_same]
      simp only [Bool.false_eq_true, false_iff]
      rintro ⟨G, hG, e⟩
      rcases set_mem.1 hG with ⟨h, -⟩ | ⟨-, h⟩
      · cases h
      · exact h e
    · rw [has_del_other (kl_ne e), h3 s]
      constructor
      · rintro ⟨G, hG, rfl⟩
        exact ⟨G, set_mem.2 (.inr ⟨hG, e⟩), rfl⟩
      · rintro ⟨G, hG, rfl⟩
        rcases set_mem.1 hG with ⟨h, -⟩ | ⟨hG, _⟩
        · cases h
        · exact ⟨G, hG, rfl⟩
  · rcases set_mem.1 hG with ⟨h, -⟩ | ⟨hG, e⟩
    · cases h
    · rw [atKey_del_other (kl_ne e)]
      exact h4 G hG z
theorem Tryz.keyT (s : ByteArray) (h : s.size ≤ maxLen) : keyOf Tryz.prog 9 (.string s) = some (kl s) := WideMaps.keyOf_string_mk Tryz.underlying9 h
theorem cells_grown {W w' : World} {mb b o : Nat} {v : Value} (hg : W.grownBy w' (some mb)) (h : W.cell? ⟨b, o, none⟩ = some v) (hb : b ≠ mb) : w'.cell? ⟨b, o, none⟩ = some v := by
  have hb2 := hg.block b (World.block_lt_of_cell? _ _ h) (by simpa using hb)
  have hc : w'.cell? ⟨b, o, none⟩ = W.cell? ⟨b, o, none⟩ := by unfold World.cell?; rw [hb2]
  exact hc.trans h
theorem changesAt_grown {w w' : World} {ao : Option Addr} {fs : List ChangeD} {mb : Nat} (h : ChangesAt w ao fs) (hg : w.grownBy w' (some mb)) (hne : ∀ b off, ao = some ⟨b, off, none⟩ → b ≠ mb) : ChangesAt w' ao fs := by
  intro j hj
  obtain ⟨b, off, h1, h2, h3, h4, h5⟩ := h j hj
  have hb := hg.block b h2 (by have := hne b off h1; simpa using this)
  have hc : ∀ o, w'.cell? ⟨b, o, none⟩ = w.cell? ⟨b, o, none⟩ := fun o => by unfold World.cell?; rw [hb]
  exact ⟨b, off, h1, Nat.lt_of_lt_of_le h2 hg.size, (hc _).trans h3, (hc _).trans h4, (hc _).trans h5⟩
theorem tell_any (gs : List SpotD) (mb n : Nat) (q seg pos : Int) (cs : List ChangeD) (ao : Option Addr) (cap : Nat) (w : World) (hm : DirM w mb n gs) (hn : n + cs.length ≤ 1000000) (hl : cs.length ≤ 1048576) (hcs : ChangesAt w ao cs) (hmc : 0 < cs.length → ∀ b off, ao = some ⟨b, off, none⟩ → b ≠ mb) (hsz : ∀ A ∈ cs, A.key.size ≤ 1048576) :
    Calls Tryz.prog 173 #[.map (some mb), .agg #[.int .i64 q, .slice ao cs.length cap], .int .i64 seg, .int .i64 pos] w fun e w' => e = .returned (.tuple #[]) ∧ DirM w' mb (n + cs.length) (chsIn seg pos q gs cs) ∧ w.grownBy w' (some mb) := by
  obtain ⟨wb, hwb⟩ : ∃ wb, wb = w.alloc (.cells #[.int .i64 q, .slice ao cs.length cap] 96) := ⟨_, rfl⟩
  have HB0 : Hid (Below w.heap.size w wb) := by rw [hwb]; exact (Below.refl _ w).alloc (Nat.le_refl _) _
  have HBX : Hid (wb.heap[w.heap.size]? = some (.cells #[.int .i64 q, .slice ao cs.length cap] 96 (0, 0))) := by rw [hwb]; exact heap_alloc_new w _
  have HM0 := hide (dirM_below hm HB0.out)
  have HC0 := hide (changesAt_keep hcs HB0.out)
  have hmlt := dirM_lt hm
  have HS := hide hsz
  have HMC := hide hmc
  clear hm hcs hsz hmc
  go_enter Tryz.func173, Tryz.ntmps173
  go_wp2_with fail
  rw [← hwb]
  clear hwb
  go_loopw [13] (fun ii wr => ∃ (k : Nat), ii = .int .i64 k ∧ k ≤ cs.length ∧ Hid (DirM wr mb (n + k) (chsIn seg pos q gs (cs.take k))) ∧ Hid (wb.grownBy wr (some mb))) (fun ii _ => cs.length - (intOf ii).toNat)
  case atStart => exact ⟨0, rfl, Nat.zero_le _, HM0, World.grownBy.refl _ _⟩
  case round =>
    obtain ⟨k, rfl, hk, HM, HG⟩ := hrel
    have hws := HG.out.size
    by_cases hlt : k < cs.length
    · have hlt' : decide ((k : Int) < (cs.length : Int)) = true := by simp; omega
      have hi0 : (0 : Int) ≤ (k : Int) := by omega
      have hi1 : (k : Int) < (cs.length : Int) := by omega
      obtain ⟨b, off, hab, hbw, hd0, hd1, hd2⟩ := changesAt_grown HC0.out HG.out (HMC.out (by omega)) k hlt
      subst hab
      have htk := hide (List.take_succ_eq_append_getElem hlt)
      have hks := HS.out cs[k] (List.getElem_mem hlt)
      generalize cs[k] = A at hd0 hd1 hd2 htk hks
      have HK := hide (Tryz.keyT A.key (by unfold maxLen; omega))
      obtain ⟨wr1, hwr1⟩ : ∃ x, x = wr.alloc (.cells #[.string A.key, .string A.value, .bool A.gone] 144) := ⟨_, rfl⟩
      have B1r : Hid (Below wr.heap.size wr wr1) := by rw [hwr1]; exact (Below.refl _ wr).alloc (Nat.le_refl _) _
      have hch1 : wr1.heap[wr.heap.size]? = some (.cells #[.string A.key, .string A.value, .bool A.gone] 144 (0, 0)) := by rw [hwr1]; exact heap_alloc_new wr _
      have hbx1 := (B1r.out.block w.heap.size (by have := heap_lt HBX.out; omega)).trans ((HG.out.block _ (heap_lt HBX.out) (by simp; omega)).trans HBX.out)
      have hf0 : wr1.cell? ⟨wr.heap.size, 0, none⟩ = some (.string A.key) := (cell_of_row wr1 _ 0 _ _ (0, 0) hch1).trans rfl
      have hf2 : wr1.cell? ⟨wr.heap.size, 2, none⟩ = some (.bool A.gone) := (cell_of_row wr1 _ 2 _ _ (0, 0) hch1).trans rfl
      have hf3 : wr1.cell? ⟨w.heap.size, 0, none⟩ = some (.int .i64 q) := (cell_of_row wr1 _ 0 _ _ (0, 0) hbx1).trans rfl
      have HM1 := hide (dirM_below HM.out B1r.out)
      have G1 : Hid (wb.grownBy wr1 (some mb)) := grownBy_trans HG.out (grownBy_below _ B1r.out)
      clear hch1 hbx1
      obtain ⟨D, hD1, hD2, hD3, hD4⟩ := HM1.out
      have H1 := hide hD1
      have H2 := hide hD2
      have H3 := hide hD3
      have H4 := hide hD4
      clear hD1 hD2 hD3 hD4
      cases hgo : A.gone with
      | true =>
        rw [hgo] at hf2 hwr1 hd2
        subst hwr1
        go_wp2_with (at_delete; refine wpList_delete_own _ rfl _ _ 231 9 rfl 89 (string_keyed Tryz.underlying9) Tryz.underlying231 spotElem mb (n + k) D rfl H1.out _ _ rfl HK.out ?_; intro w5 hown5 hturn5; have HN5 := hide (dirM_del ⟨A.key, seg, pos, q⟩ H2.out H3.out H4.out hown5); have HG5 := hide hturn5.grown; clear hown5 hturn5)
        go_roundw
        case rel => exact ⟨k + 1, by go_num, by omega, by show DirM _ _ _ _; rw [htk.out, chsIn_snoc, hgo]; exact dirM_mono HN5.out (by omega), grownBy_trans G1.out HG5.out⟩
        case measure => simp [intOf]; omega
      | false =>
        rw [hgo] at hf2 hwr1 hd2
        subst hwr1
        go_wp2_with (at_mapUpdate; refine wpList_mapUpdate_own _ rfl _ _ _ 231 rfl 9 89 (string_keyed Tryz.underlying9) Tryz.underlying231 spotElem mb (n + k) D rfl H1.out (by unfold maxLen; omega) _ _ _ rfl rfl HK.out (spotDat ⟨A.key, seg, pos, q⟩) [] rfl ?_; intro w5 hown5 hgrow5; have HN5 := hide (dirM_put (F := ⟨A.key, seg, pos, q⟩) H1.out.isMap H2.out H3.out H4.out hown5); have HG5 := hide hgrow5; clear hown5 hgrow5)
        go_roundw
        case rel => exact ⟨k + 1, by go_num, by omega, by show DirM _ _ _ _; rw [htk.out, chsIn_snoc, hgo]; exact HN5.out, grownBy_trans G1.out HG5.out⟩
        case measure => simp [intOf]; omega
    · have hlt' : decide ((k : Int) < (cs.length : Int)) = false := by simp; omega
      have hke : k = cs.length := by omega
      subst hke
      rw [List.take_length] at HM
      go_wp2
      refine bodyPost_end (results_none rfl _ _ _) rfl ?_
      exact ⟨rfl, HM.out, grownBy_trans (grownBy_below _ HB0.out) HG.out⟩
end Go.Proofs.YtmmchemgegmhhaaGreatDoor
namespace Go.Proofs
open Go.RowKit Go.Maps Go.Sort Go.Shelf
def Tryz.keys194_ren : Go.Shelf.Ren := ⟨fun | 7 => 194 | 10 => 216 | n => n, fun | 23 => 218 | 26 => 9 | 3 => 247 | 28 => 253 | 0 => 0 | 27 => 252 | 33 => 198 | 4 => 4 | n => n, fun | n => n⟩
theorem Tryz.keys194 : Go.Proofs.SlLaysZ.n7 Tryz.prog Tryz.keys194_ren := {
  mixed := by kernel_rfl
  f7 := ⟨Tryz.f194.name, by decide, Tryz.func194.trans (congrArg some (by kernel_rfl))⟩
  f10 := ⟨Tryz.f216.name, by decide, Tryz.func216.trans (congrArg some (by kernel_rfl))⟩
  t0 := Tryz.underlying0
  a0 := Tryz.isAgg0
  z0 := Tryz.sizeOf0
  v0 := Tryz.zeroValue0
  t4 := Tryz.underlying4
  a4 := Tryz.isAgg4
  z4 := Tryz.sizeOf4
  v4 := Tryz.zeroValue4
  t23 := Tryz.underlying218
  a23 := Tryz.isAgg218
  z23 := Tryz.sizeOf218
  v23 := Tryz.zeroValue218
  t26 := Tryz.underlying9
  a26 := Tryz.isAgg9
  z26 := Tryz.sizeOf9
  v26 := Tryz.zeroValue9
  t27 := Tryz.underlying252
  a27 := Tryz.isAgg252
  z27 := Tryz.sizeOf252
  v27 := Tryz.zeroValue252
  t28 := Tryz.underlying253
  a28 := Tryz.isAgg253
  z28 := Tryz.sizeOf253
  v28 := Tryz.zeroValue253
  t33 := Tryz.underlying198
  a33 := Tryz.isAgg198
  z33 := Tryz.sizeOf198
  v33 := Tryz.zeroValue198 }
def Tryz.sorted193_ren : Go.Shelf.Ren := ⟨fun | 6 => 193 | 8 => 214 | 9 => 215 | 11 => 226 | 13 => 228 | 12 => 227 | 23 => 248 | 24 => 249 | 14 => 239 | 15 => 240 | 16 => 241 | 17 => 242 | 18 => 243 | 19 => 244 | 20 => 245 | 21 => 246 | 22 => 247 | 25 => 257 | 26 => 258 | 27 => 259 | 28 => 260 | 29 => 261 | 30 => 185 | 31 => 266 | n => n, fun | 26 => 9 | 28 => 253 | 24 => 156 | 0 => 0 | 3 => 3 | 37 => 180 | 48 => 133 | 50 => 280 | 4 => 4 | 40 => 295 | 39 => 294 | 45 => 165 | 5 => 5 | 9 => 9 | 51 => 305 | 55 => 309 | 57 => 311 | 58 => 312 | 33 => 198 | n => n, fun | n => n⟩
theorem Tryz.sorted193 : Go.Proofs.SlLaysZ.n6 Tryz.prog Tryz.sorted193_ren := {
  mixed := by kernel_rfl
  f6 := ⟨Tryz.f193.name, by decide, Tryz.func193.trans (congrArg some (by kernel_rfl))⟩
  f8 := ⟨Tryz.f214.name, by decide, Tryz.func214.trans (congrArg some (by kernel_rfl))⟩
  f11 := ⟨Tryz.f226.name, by decide, Tryz.func226.trans (congrArg some (by kernel_rfl))⟩
  t0 := Tryz.underlying0
  a0 := Tryz.isAgg0
  z0 := Tryz.sizeOf0
  v0 := Tryz.zeroValue0
  t24 := Tryz.underlying156
  a24 := Tryz.isAgg156
  z24 := Tryz.sizeOf156
  v24 := Tryz.zeroValue156
  t26 := Tryz.underlying9
  a26 := Tryz.isAgg9
  z26 := Tryz.sizeOf9
  v26 := Tryz.zeroValue9
  t28 := Tryz.underlying253
  a28 := Tryz.isAgg253
  z28 := Tryz.sizeOf253
  v28 := Tryz.zeroValue253
  i26 := by kernel_rfl }
def Tryz.sort215_ren : Go.Shelf.Ren := ⟨fun | 6 => 215 | 8 => 228 | 9 => 227 | 19 => 248 | 20 => 249 | 21 => 239 | 22 => 240 | 23 => 241 | 24 => 242 | 25 => 243 | 26 => 244 | 27 => 245 | 28 => 246 | 29 => 247 | 36 => 257 | 31 => 258 | 32 => 259 | 37 => 260 | 38 => 261 | 39 => 185 | 41 => 266 | n => n, fun | 27 => 156 | 29 => 9 | 3 => 3 | 32 => 180 | 26 => 156 | 0 => 0 | 44 => 133 | 46 => 280 | 4 => 4 | 36 => 295 | 35 => 294 | 41 => 165 | 5 => 5 | 9 => 9 | 53 => 305 | 57 => 309 | 63 => 311 | 64 => 312 | n => n, fun | n => n⟩
theorem Tryz.sort215 : Go.Proofs.SlLaysM.n6 Tryz.prog Tryz.sort215_ren := {
  mixed := by kernel_rfl
  f6 := ⟨Tryz.f215.name, by decide, Tryz.func215.trans (congrArg some (by kernel_rfl))⟩
  f8 := Tryz.func228.trans (congrArg some (by kernel_rfl))
  f9 := ⟨Tryz.f227.name, by decide, Tryz.func227.trans (congrArg some (by kernel_rfl))⟩
  f19 := Tryz.func248.trans (congrArg some (by kernel_rfl))
  f20 := Tryz.func249.trans (congrArg some (by kernel_rfl))
  f21 := ⟨Tryz.f239.name, by decide, Tryz.func239.trans (congrArg some (by kernel_rfl))⟩
  f22 := ⟨Tryz.f240.name, by decide, Tryz.func240.trans (congrArg some (by kernel_rfl))⟩
  f23 := ⟨Tryz.f241.name, by decide, Tryz.func241.trans (congrArg some (by kernel_rfl))⟩
  f24 := ⟨Tryz.f242.name, by decide, Tryz.func242.trans (congrArg some (by kernel_rfl))⟩
  f25 := ⟨Tryz.f243.name, by decide, Tryz.func243.trans (congrArg some (by kernel_rfl))⟩
  f26 := ⟨Tryz.f244.name, by decide, Tryz.func244.trans (congrArg some (by kernel_rfl))⟩
  f27 := ⟨Tryz.f245.name, by decide, Tryz.func245.trans (congrArg some (by kernel_rfl))⟩
  f28 := ⟨Tryz.f246.name, by decide, Tryz.func246.trans (congrArg some (by kernel_rfl))⟩
  f29 := ⟨Tryz.f247.name, by decide, Tryz.func247.trans (congrArg some (by kernel_rfl))⟩
  f31 := Tryz.func258.trans (congrArg some (by kernel_rfl))
  f32 := Tryz.func259.trans (congrArg some (by kernel_rfl))
  f36 := ⟨Tryz.f257.name, by decide, Tryz.func257.trans (congrArg some (by kernel_rfl))⟩
  f37 := ⟨Tryz.f260.name, by decide, Tryz.func260.trans (congrArg some (by kernel_rfl))⟩
  f38 := ⟨Tryz.f261.name, by decide, Tryz.func261.trans (congrArg some (by kernel_rfl))⟩
  f39 := ⟨Tryz.f185.name, by decide, Tryz.func185.trans (congrArg some (by kernel_rfl))⟩
  f41 := ⟨Tryz.f266.name, by decide, Tryz.func266.trans (congrArg some (by kernel_rfl))⟩
  t0 := Tryz.underlying0
  a0 := Tryz.isAgg0
  z0 := Tryz.sizeOf0
  v0 := Tryz.zeroValue0
  t3 := Tryz.underlying3
  a3 := Tryz.isAgg3
  z3 := Tryz.sizeOf3
  v3 := Tryz.zeroValue3
  t4 := Tryz.underlying4
  a4 := Tryz.isAgg4
  z4 := Tryz.sizeOf4
  v4 := Tryz.zeroValue4
  t5 := Tryz.underlying5
  a5 := Tryz.isAgg5
  z5 := Tryz.sizeOf5
  v5 := Tryz.zeroValue5
  t9 := Tryz.underlying9
  a9 := Tryz.isAgg9
  z9 := Tryz.sizeOf9
  v9 := Tryz.zeroValue9
  t26 := Tryz.underlying156
  a26 := Tryz.isAgg156
  z26 := Tryz.sizeOf156
  v26 := Tryz.zeroValue156
  t27 := Tryz.underlying156
  a27 := Tryz.isAgg156
  z27 := Tryz.sizeOf156
  v27 := Tryz.zeroValue156
  t29 := Tryz.underlying9
  a29 := Tryz.isAgg9
  z29 := Tryz.sizeOf9
  v29 := Tryz.zeroValue9
  t32 := Tryz.underlying180
  a32 := Tryz.isAgg180
  z32 := Tryz.sizeOf180
  v32 := Tryz.zeroValue180
  t35 := Tryz.underlying294
  a35 := Tryz.isAgg294
  z35 := Tryz.sizeOf294
  v35 := Tryz.zeroValue294
  t36 := Tryz.underlying295
  a36 := Tryz.isAgg295
  z36 := Tryz.sizeOf295
  v36 := Tryz.zeroValue295
  t41 := Tryz.underlying165
  a41 := Tryz.isAgg165
  z41 := Tryz.sizeOf165
  v41 := Tryz.zeroValue165
  t44 := Tryz.underlying133
  a44 := Tryz.isAgg133
  z44 := Tryz.sizeOf133
  v44 := Tryz.zeroValue133
  t46 := Tryz.underlying280
  a46 := Tryz.isAgg280
  z46 := Tryz.sizeOf280
  v46 := Tryz.zeroValue280
  t53 := Tryz.underlying305
  a53 := Tryz.isAgg305
  z53 := Tryz.sizeOf305
  v53 := Tryz.zeroValue305
  t57 := Tryz.underlying309
  a57 := Tryz.isAgg309
  z57 := Tryz.sizeOf309
  v57 := Tryz.zeroValue309
  t63 := Tryz.underlying311
  a63 := Tryz.isAgg311
  z63 := Tryz.sizeOf311
  v63 := Tryz.zeroValue311
  t64 := Tryz.underlying312
  a64 := Tryz.isAgg312
  z64 := Tryz.sizeOf312
  v64 := Tryz.zeroValue312 }
def Tryz.keys201_ren : Go.Shelf.Ren := ⟨fun | 7 => 201 | 10 => 220 | n => n, fun | 23 => 231 | 26 => 9 | 3 => 89 | 28 => 253 | 0 => 0 | 27 => 252 | 33 => 198 | 4 => 4 | n => n, fun | n => n⟩
theorem Tryz.keys201 : Go.Proofs.SlLaysZ.n7 Tryz.prog Tryz.keys201_ren := {
  mixed := by kernel_rfl
  f7 := ⟨Tryz.f201.name, by decide, Tryz.func201.trans (congrArg some (by kernel_rfl))⟩
  f10 := ⟨Tryz.f220.name, by decide, Tryz.func220.trans (congrArg some (by kernel_rfl))⟩
  t0 := Tryz.underlying0
  a0 := Tryz.isAgg0
  z0 := Tryz.sizeOf0
  v0 := Tryz.zeroValue0
  t4 := Tryz.underlying4
  a4 := Tryz.isAgg4
  z4 := Tryz.sizeOf4
  v4 := Tryz.zeroValue4
  t23 := Tryz.underlying231
  a23 := Tryz.isAgg231
  z23 := Tryz.sizeOf231
  v23 := Tryz.zeroValue231
  t26 := Tryz.underlying9
  a26 := Tryz.isAgg9
  z26 := Tryz.sizeOf9
  v26 := Tryz.zeroValue9
  t27 := Tryz.underlying252
  a27 := Tryz.isAgg252
  z27 := Tryz.sizeOf252
  v27 := Tryz.zeroValue252
  t28 := Tryz.underlying253
  a28 := Tryz.isAgg253
  z28 := Tryz.sizeOf253
  v28 := Tryz.zeroValue253
  t33 := Tryz.underlying198
  a33 := Tryz.isAgg198
  z33 := Tryz.sizeOf198
  v33 := Tryz.zeroValue198 }
theorem Tryz.sorts193 (m : Nat) : AnyZ.SortsIn Tryz.prog Tryz.sorted193_ren Fence.wide m :=
  ⟨fun blk off cap ss W hH hblk hsz => callsIn_wide.2 (AnyM.slices_Sort_string Tryz.sort215 blk off cap ss W hH hblk hsz),
   fun p cap W => callsIn_wide.2 (AnyM.slices_Sort_string_none Tryz.sort215 p cap W)⟩
theorem Tryz.maps_Keys_194 (mb : Option Nat) (W : World) : CallsIn Fence.wide 5 Tryz.prog 194 #[.map mb] W fun e w' => e = .returned (.func (.func 216) #[] #[.pointer (some ⟨W.heap.size, 0, none⟩)]) ∧ w' = W.alloc (.cells #[.map mb] 218) :=
  AnyZ.keys_in Tryz.keys194 Fence.wide 5 trivial rfl mb W
theorem Tryz.slices_Sorted_keys_193_194 {H : Type} (b nn : Nat) (D0 : DataW H) (R : Value → Option (DataW H × List MemPlace)) (w : World) (hown : w.ownsMap Tryz.prog 9 R b nn D0) (hmax : Maps.size D0 ≤ maxLen) (hbytes : Maps.size D0 * 16 ≤ 140737488355328) :
    CallsIn Fence.wide 5 Tryz.prog 193 #[.func (.func 216) #[] #[.pointer (some ⟨w.heap.size, 0, none⟩)]] (w.alloc (.cells #[.map (some b)] 218)) fun e w' => ∃ (v : Value) (ss : List (List UInt8)), e = .returned v ∧ ss.Perm (strKeys D0) ∧
      w'.ownsRow (w.alloc (.cells #[.map (some b)] 218)).heap.size 9 1 v ss.length ((ss.mergeSort (fun x y => decide (x ≤ y))).map encStr) ∧ (v = .slice none 0 0 ↔ ss = []) ∧ Below (w.alloc (.cells #[.map (some b)] 218)).heap.size (w.alloc (.cells #[.map (some b)] 218)) w' := by
  have hbl := hown.lt
  have hseq : SeqGives Fence.wide 2 Tryz.prog 216 #[.pointer (some ⟨w.heap.size, 0, none⟩)] encStr (fun ss => ss.Perm (strKeys D0)) (Maps.size D0) (w.alloc (.cells #[.map (some b)] 218)) :=
    AnyZ.keys_gives (ρ := Tryz.keys194_ren) { Tryz.keys194 with } Fence.wide _ trivial rfl (by omega) w.heap.size b nn D0 _ (by simp) (by simp) (by
      obtain ⟨es, clock, hb, Ft, hs, hD⟩ := hown
      exact ⟨es, clock, (Below.heap_alloc _ _ b hbl).trans hb, Ft, hs, hD⟩)
  exact AnyZ.sorted_in Tryz.sorted193 Fence.wide 5 trivial trivial trivial trivial rfl (by omega) (Tryz.sorts193 _) (enters_of Tryz.func215 (by kernel_rfl) rfl) 216 #[.pointer (some ⟨w.heap.size, 0, none⟩)] trivial (enters_of Tryz.func216 (by kernel_rfl) rfl) _ _ hmax hbytes _ hseq
theorem Tryz.maps_Keys_201 (mb : Option Nat) (W : World) : CallsIn Fence.wide 5 Tryz.prog 201 #[.map mb] W fun e w' => e = .returned (.func (.func 220) #[] #[.pointer (some ⟨W.heap.size, 0, none⟩)]) ∧ w' = W.alloc (.cells #[.map mb] 231) :=
  AnyZ.keys_in Tryz.keys201 Fence.wide 5 trivial rfl mb W
theorem Tryz.slices_Sorted_keys_193_201 {H : Type} (b nn : Nat) (D0 : DataW H) (R : Value → Option (DataW H × List MemPlace)) (w : World) (hown : w.ownsMap Tryz.prog 9 R b nn D0) (hmax : Maps.size D0 ≤ maxLen) (hbytes : Maps.size D0 * 16 ≤ 140737488355328) :
    CallsIn Fence.wide 5 Tryz.prog 193 #[.func (.func 220) #[] #[.pointer (some ⟨w.heap.size, 0, none⟩)]] (w.alloc (.cells #[.map (some b)] 231)) fun e w' => ∃ (v : Value) (ss : List (List UInt8)), e = .returned v ∧ ss.Perm (strKeys D0) ∧
      w'.ownsRow (w.alloc (.cells #[.map (some b)] 231)).heap.size 9 1 v ss.length ((ss.mergeSort (fun x y => decide (x ≤ y))).map encStr) ∧ (v = .slice none 0 0 ↔ ss = []) ∧ Below (w.alloc (.cells #[.map (some b)] 231)).heap.size (w.alloc (.cells #[.map (some b)] 231)) w' := by
  have hbl := hown.lt
  have hseq : SeqGives Fence.wide 2 Tryz.prog 220 #[.pointer (some ⟨w.heap.size, 0, none⟩)] encStr (fun ss => ss.Perm (strKeys D0)) (Maps.size D0) (w.alloc (.cells #[.map (some b)] 231)) :=
    AnyZ.keys_gives (ρ := Tryz.keys201_ren) { Tryz.keys201 with } Fence.wide _ trivial rfl (by omega) w.heap.size b nn D0 _ (by simp) (by simp) (by
      obtain ⟨es, clock, hb, Ft, hs, hD⟩ := hown
      exact ⟨es, clock, (Below.heap_alloc _ _ b hbl).trans hb, Ft, hs, hD⟩)
  exact AnyZ.sorted_in Tryz.sorted193 Fence.wide 5 trivial trivial trivial trivial rfl (by omega) (Tryz.sorts193 _) (enters_of Tryz.func215 (by kernel_rfl) rfl) 220 #[.pointer (some ⟨w.heap.size, 0, none⟩)] trivial (enters_of Tryz.func220 (by kernel_rfl) rfl) _ _ hmax hbytes _ hseq
end Go.Proofs
