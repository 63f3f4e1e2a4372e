import Derived.Shelf.SlIter.Nil
import Derived.Shelf.SortM.Plain
import Derived.Shelf.SortM.SortNone
import Derived.Ground.GgzProg
import Derived.Ground.SlgmProg
import Derived.Test.YthpolfmbcipjaaaGreatDoorProg
import Derived.Test.YthpolfmbcipjaaaGreatDoorCo27
set_option maxRecDepth 100000
set_option maxHeartbeats 1600000
namespace Go.Proofs.YthpolfmbcipjaaaGreatDoor
open Go.RowKit Go.Maps
def srtS (fs : List SpotD) : Prop := fs.Pairwise (fun a b => Op.bytesLess a.key.toList b.key.toList = true)
theorem set_mem {gs : List SpotD} {F G : SpotD} {gone : Bool} : G ∈ setD gs F gone ↔ (gone = false ∧ G = F) ∨ (G ∈ gs ∧ G.key ≠ F.key) := by
  unfold setD
  rw [List.mem_append, List.mem_append, List.mem_filter, List.mem_filter]
  constructor
  · rintro ((⟨h1, h2⟩ | h) | ⟨h1, h2⟩)
    · refine .inr ⟨h1, fun e => ?_⟩
      rw [spLt, e, less_irrefl] at h2
      cases h2
    · cases gone with
      | true => simp at h
      | false => exact .inl ⟨rfl, by simpa using h⟩
    · refine .inr ⟨h1, fun e => ?_⟩
      rw [spGt, e] at h2
      simp at h2
  · rintro (⟨rfl, rfl⟩ | ⟨h1, h2⟩)
    · exact .inl (.inr (by simp))
    · cases hl : Op.bytesLess G.key.toList F.key.toList
      · refine .inr ⟨h1, ?_⟩
        rw [spGt, hl, toList_ne.2 h2]
        rfl
      · exact .inl (.inl ⟨h1, hl⟩)
theorem spGt_less {k : ByteArray} {A : SpotD} (h : spGt k A = true) : Op.bytesLess k.toList A.key.toList = true := by
  unfold spGt at h
  simp only [Bool.and_eq_true, Bool.not_eq_true', beq_eq_false_iff_ne] at h
  exact less_total h.1 h.2
theorem srtS_set {gs : List SpotD} (F : SpotD) (gone : Bool) (h : srtS gs) : srtS (setD gs F gone) := by
  unfold setD srtS
  rw [List.pairwise_append, List.pairwise_append]
  refine ⟨⟨h.filter _, by cases gone <;> simp, fun a ha b hb => ?_⟩, h.filter _, fun a ha b hb => ?_⟩
  · cases gone with
    | true => simp at hb
    | false =>
      obtain rfl : b = F := by simpa using hb
      exact (List.mem_filter.1 ha).2
  · have hb2 := spGt_less (List.mem_filter.1 hb).2
    rcases List.mem_append.1 ha with ha | ha
    · exact less_trans (List.mem_filter.1 ha).2 hb2
    · cases gone with
      | true => simp at ha
      | false =>
        obtain rfl : a = F := by simpa using ha
        exact hb2
def spotDat (A : SpotD) : DataW Unit := .agg [.lit (.string A.key.data.toList), .lit (.int .i64 A.seg), .lit (.int .i64 A.pos), .lit (.int .i64 A.seq)]
def spotElem : Value → Option (DataW Unit × List MemPlace)
  | .agg cs => match cs.toList with
    | [.string k, .int .i64 a, .int .i64 b, .int .i64 c] => some (.agg [.lit (.string k.data.toList), .lit (.int .i64 a), .lit (.int .i64 b), .lit (.int .i64 c)], [])
    | _ => none
  | _ => none
theorem spotElem_mk (A : SpotD) : spotElem (.agg #[.string A.key, .int .i64 A.seg, .int .i64 A.pos, .int .i64 A.seq]) = some (spotDat A, []) := rfl
theorem spotElem_inv {v : Value} {A : SpotD} {ps : List MemPlace} (h : spotElem v = some (spotDat A, ps)) : v = .agg #[.string A.key, .int .i64 A.seg, .int .i64 A.pos, .int .i64 A.seq] := by
  unfold spotElem at h
  split at h
  · rename_i cs
    split at h
    · rename_i k a b c e
      have hcs : cs = #[.string k, .int .i64 a, .int .i64 b, .int .i64 c] := by
        apply Array.ext'
        exact e
      simp only [spotDat, Option.some.injEq, Prod.mk.injEq, DataW.agg.injEq, List.cons.injEq, DataW.lit.injEq, Lit.string.injEq, Lit.int.injEq, true_and, and_true] at h
      obtain ⟨⟨h1, h2, h3, h4⟩, _⟩ := h
      have hk : k = A.key := by
        cases k with | mk d1 => cases hk2 : A.key with | mk d2 =>
          rw [hk2] at h1
          simp at h1
          rw [h1]
      rw [hcs, hk, h2, h3, h4]
    · cases h
  · cases h
def DirM (w : World) (mb n : Nat) (gs : List SpotD) : Prop :=
  ∃ D : DataW Unit, w.ownsMap Tryz.prog 9 spotElem mb n D ∧ (∀ s, has D (kl s) = true ↔ ∃ F ∈ gs, F.key = s) ∧ (∀ F ∈ gs, ∀ z, D.atKey (kl F.key) z = spotDat F) ∧ srtS gs
theorem dirM_new (w : World) : DirM (w.alloc (.map #[] 0)) w.heap.size 0 [] :=
  ⟨.map [], World.ownsMap_made w Tryz.prog 9 spotElem, fun s => by simp [has], fun F hF => absurd hF List.not_mem_nil, List.Pairwise.nil⟩
theorem dirM_keep {w w' : World} {mb n : Nat} {gs : List SpotD} {r : Option Nat} (h : DirM w mb n gs) (hg : w.grownBy w' r) (hr : r ≠ some mb) : DirM w' mb n gs := by
  obtain ⟨D, h1, h2⟩ := h
  exact ⟨D, h1.kept hg (fun e => hr e.symm), h2⟩
theorem dirM_below {w w' : World} {mb n : Nat} {gs : List SpotD} (h : DirM w mb n gs) (hb : Below w.heap.size w w') : DirM w' mb n gs := dirM_keep h (grownBy_below none hb) (by simp)
theorem dirM_lt {w : World} {mb n : Nat} {gs : List SpotD} (h : DirM w mb n gs) : mb < w.heap.size := by
  obtain ⟨D, h1, -⟩ := h
  exact h1.lt
theorem dirM_mono {w : World} {mb n n' : Nat} {gs : List SpotD} (h : DirM w mb n gs) (hn : n ≤ n') : DirM w mb n' gs := by
  obtain ⟨D, h1, h2⟩ := h
  exact ⟨D, h1.mono hn, h2⟩
theorem dirM_put {w' : World} {mb n : Nat} {gs : List SpotD} {D : DataW Unit} {F : SpotD} (hm : IsMap D) (h3 : ∀ s, has D (kl s) = true ↔ ∃ F ∈ gs, F.key = s) (h4 : ∀ F ∈ gs, ∀ z, D.atKey (kl F.key) z = spotDat F) (h5 : srtS gs)
    (hw : w'.ownsMap Tryz.prog 9 spotElem mb n (D.put (kl F.key) (spotDat F))) : DirM w' mb n (setD gs F false) := by
  refine ⟨_, hw, fun s => ?_, fun G hG z => ?_, srtS_set _ _ h5⟩
  · by_cases e : s = F.key
    · subst e
      rw [has_put_same hm (kl_key _)]
      simp only [true_iff]
      exact ⟨F, set_mem.2 (.inl ⟨rfl, rfl⟩), rfl⟩
    · rw [has_put_other (kl_ne e), h3 s]
      constructor
      · rintro ⟨G, hG, rfl⟩
        exact ⟨G, set_mem.2 (.inr ⟨hG, e⟩), rfl⟩
      · rintro ⟨G, hG, rfl⟩
        rcases set_mem.1 hG with ⟨-, rfl⟩ | ⟨hG, _⟩
        · exact absurd rfl e
        · exact ⟨G, hG, rfl⟩
  · rcases set_mem.1 hG with ⟨-, rfl⟩ | ⟨hG, e⟩
    · rw [atKey_put_same hm (kl_key _)]
    · rw [atKey_put_other (kl_ne e)]
      exact h4 G hG z
theorem dirM_del {w' : World} {mb n : Nat} {gs : List SpotD} {D : DataW Unit} (F : SpotD) (h3 : ∀ s, has D (kl s) = true ↔ ∃ F ∈ gs, F.key = s) (h4 : ∀ F ∈ gs, ∀ z, D.atKey (kl F.key) z = spotDat F) (h5 : srtS gs)
    (hw : w'.ownsMap Tryz.prog 9 spotElem mb n (D.del (kl F.key))) : DirM w' mb n (setD gs F true) := by
  refine ⟨_, hw, fun s => ?_, fun G hG z => ?_, srtS_set _ _ h5⟩
  · by_cases e : s = F.key
    · subst e
      rw [has_del_same]
      simp only [Bool.false_eq_true, false_iff]
      rintro ⟨G, hG, e⟩
      rcases set_mem.1 hG with ⟨h, -⟩ | ⟨-, h⟩
      · cases h
      · exact h e
    · rw [has_del_other (kl_ne e), h3 s]
      constructor
      · rintro ⟨G, hG, rfl⟩
        exact ⟨G, set_mem.2 (.inr ⟨hG, e⟩), rfl⟩
      · rintro ⟨G, hG, rfl⟩
        rcases set_mem.1 hG with ⟨h, -⟩ | ⟨hG, _⟩
        · cases h
        · exact ⟨G, hG, rfl⟩
  · rcases set_mem.1 hG with ⟨h, -⟩ | ⟨hG, e⟩
    · cases h
    · rw [atKey_del_other (kl_ne e)]
      exact h4 G hG z
end Go.Proofs.YthpolfmbcipjaaaGreatDoor
namespace Go.Proofs.YthpolfmbcipjaaaGreatDoor
open Go.RowKit Go.Maps
theorem Tryz.keyT (s : ByteArray) (h : s.size ≤ maxLen) : keyOf Tryz.prog 9 (.string s) = some (kl s) := WideMaps.keyOf_string_mk Tryz.underlying9 h
theorem cells_grown {W w' : World} {mb b o : Nat} {v : Value} (hg : W.grownBy w' (some mb)) (h : W.cell? ⟨b, o, none⟩ = some v) (hb : b ≠ mb) : w'.cell? ⟨b, o, none⟩ = some v := by
  have hb2 := hg.block b (World.block_lt_of_cell? _ _ h) (by simpa using hb)
  have hc : w'.cell? ⟨b, o, none⟩ = W.cell? ⟨b, o, none⟩ := by unfold World.cell?; rw [hb2]
  exact hc.trans h
theorem changesAt_grown {w w' : World} {ao : Option Addr} {fs : List ChangeD} {mb : Nat} (h : ChangesAt w ao fs) (hg : w.grownBy w' (some mb)) (hne : ∀ b off, ao = some ⟨b, off, none⟩ → b ≠ mb) : ChangesAt w' ao fs := by
  intro j hj
  obtain ⟨b, off, h1, h2, h3, h4, h5⟩ := h j hj
  have hb := hg.block b h2 (by have := hne b off h1; simpa using this)
  have hc : ∀ o, w'.cell? ⟨b, o, none⟩ = w.cell? ⟨b, o, none⟩ := fun o => by unfold World.cell?; rw [hb]
  exact ⟨b, off, h1, Nat.lt_of_lt_of_le h2 hg.size, (hc _).trans h3, (hc _).trans h4, (hc _).trans h5⟩
theorem tell_any (gs : List SpotD) (mb n : Nat) (q seg pos : Int) (cs : List ChangeD) (ao : Option Addr) (cap : Nat) (w : World) (hm : DirM w mb n gs) (hn : n + cs.length ≤ 1000000) (hl : cs.length ≤ 1048576) (hcs : ChangesAt w ao cs) (hmc : 0 < cs.length → ∀ b off, ao = some ⟨b, off, none⟩ → b ≠ mb) (hsz : ∀ A ∈ cs, A.key.size ≤ 1048576) :
    Calls Tryz.prog 131 #[.map (some mb), .agg #[.int .i64 q, .slice ao cs.length cap], .int .i64 seg, .int .i64 pos] w fun e w' => e = .returned (.tuple #[]) ∧ DirM w' mb (n + cs.length) (chsIn seg pos q gs cs) ∧ w.grownBy w' (some mb) := by
  obtain ⟨wb, hwb⟩ : ∃ wb, wb = w.alloc (.cells #[.int .i64 q, .slice ao cs.length cap] 88) := ⟨_, rfl⟩
  have HB0 : Hid (Below w.heap.size w wb) := by rw [hwb]; exact (Below.refl _ w).alloc (Nat.le_refl _) _
  have HBX : Hid (wb.heap[w.heap.size]? = some (.cells #[.int .i64 q, .slice ao cs.length cap] 88 (0, 0))) := by rw [hwb]; exact heap_alloc_new w _
  have HM0 := hide (dirM_below hm HB0.out)
  have HC0 := hide (changesAt_keep hcs HB0.out)
  have hmlt := dirM_lt hm
  have HS := hide hsz
  have HMC := hide hmc
  clear hm hcs hsz hmc
  go_enter Tryz.func131, Tryz.ntmps131
  go_wp2_with fail
  rw [← hwb]
  clear hwb
  go_loopw [13] (fun ii wr => ∃ (k : Nat), ii = .int .i64 k ∧ k ≤ cs.length ∧ Hid (DirM wr mb (n + k) (chsIn seg pos q gs (cs.take k))) ∧ Hid (wb.grownBy wr (some mb))) (fun ii _ => cs.length - (intOf ii).toNat)
  case atStart => exact ⟨0, rfl, Nat.zero_le _, HM0, World.grownBy.refl _ _⟩
  case round =>
    obtain ⟨k, rfl, hk, HM, HG⟩ := hrel
    have hws := HG.out.size
    by_cases hlt : k < cs.length
    · have hlt' : decide ((k : Int) < (cs.length : Int)) = true := by simp; omega
      have hi0 : (0 : Int) ≤ (k : Int) := by omega
      have hi1 : (k : Int) < (cs.length : Int) := by omega
      obtain ⟨b, off, hab, hbw, hd0, hd1, hd2⟩ := changesAt_grown HC0.out HG.out (HMC.out (by omega)) k hlt
      subst hab
      have htk := hide (List.take_succ_eq_append_getElem hlt)
      have hks := HS.out cs[k] (List.getElem_mem hlt)
      generalize cs[k] = A at hd0 hd1 hd2 htk hks
      have HK := hide (Tryz.keyT A.key (by unfold maxLen; omega))
      obtain ⟨wr1, hwr1⟩ : ∃ x, x = wr.alloc (.cells #[.string A.key, .string A.value, .bool A.gone] 57) := ⟨_, rfl⟩
      have B1r : Hid (Below wr.heap.size wr wr1) := by rw [hwr1]; exact (Below.refl _ wr).alloc (Nat.le_refl _) _
      have hch1 : wr1.heap[wr.heap.size]? = some (.cells #[.string A.key, .string A.value, .bool A.gone] 57 (0, 0)) := by rw [hwr1]; exact heap_alloc_new wr _
      have hbx1 := (B1r.out.block w.heap.size (by have := heap_lt HBX.out; omega)).trans ((HG.out.block _ (heap_lt HBX.out) (by simp; omega)).trans HBX.out)
      have hf0 : wr1.cell? ⟨wr.heap.size, 0, none⟩ = some (.string A.key) := (cell_of_row wr1 _ 0 _ _ (0, 0) hch1).trans rfl
      have hf2 : wr1.cell? ⟨wr.heap.size, 2, none⟩ = some (.bool A.gone) := (cell_of_row wr1 _ 2 _ _ (0, 0) hch1).trans rfl
      have hf3 : wr1.cell? ⟨w.heap.size, 0, none⟩ = some (.int .i64 q) := (cell_of_row wr1 _ 0 _ _ (0, 0) hbx1).trans rfl
      have HM1 := hide (dirM_below HM.out B1r.out)
      have G1 : Hid (wb.grownBy wr1 (some mb)) := grownBy_trans HG.out (grownBy_below _ B1r.out)
      clear hch1 hbx1
      obtain ⟨D, hD1, hD2, hD3, hD4⟩ := HM1.out
      have H1 := hide hD1
      have H2 := hide hD2
      have H3 := hide hD3
      have H4 := hide hD4
      clear hD1 hD2 hD3 hD4
      cases hgo : A.gone with
      | true =>
        rw [hgo] at hf2 hwr1 hd2
        subst hwr1
        go_wp2_with (at_delete; refine wpList_delete_own _ rfl _ _ 201 9 rfl 55 (string_keyed Tryz.underlying9) Tryz.underlying201 spotElem mb (n + k) D rfl H1.out _ _ rfl HK.out ?_; intro w5 hown5 hturn5; have HN5 := hide (dirM_del ⟨A.key, seg, pos, q⟩ H2.out H3.out H4.out hown5); have HG5 := hide hturn5.grown; clear hown5 hturn5)
        go_roundw
        case rel => exact ⟨k + 1, by go_num, by omega, by show DirM _ _ _ _; rw [htk.out, chsIn_snoc, hgo]; exact dirM_mono HN5.out (by omega), grownBy_trans G1.out HG5.out⟩
        case measure => simp [intOf]; omega
      | false =>
        rw [hgo] at hf2 hwr1 hd2
        subst hwr1
        go_wp2_with (at_mapUpdate; refine wpList_mapUpdate_own _ rfl _ _ _ 201 rfl 9 55 (string_keyed Tryz.underlying9) Tryz.underlying201 spotElem mb (n + k) D rfl H1.out (by unfold maxLen; omega) _ _ _ rfl rfl HK.out (spotDat ⟨A.key, seg, pos, q⟩) [] rfl ?_; intro w5 hown5 hgrow5; have HN5 := hide (dirM_put (F := ⟨A.key, seg, pos, q⟩) H1.out.isMap H2.out H3.out H4.out hown5); have HG5 := hide hgrow5; clear hown5 hgrow5)
        go_roundw
        case rel => exact ⟨k + 1, by go_num, by omega, by show DirM _ _ _ _; rw [htk.out, chsIn_snoc, hgo]; exact HN5.out, grownBy_trans G1.out HG5.out⟩
        case measure => simp [intOf]; omega
    · have hlt' : decide ((k : Int) < (cs.length : Int)) = false := by simp; omega
      have hke : k = cs.length := by omega
      subst hke
      rw [List.take_length] at HM
      go_wp2
      refine bodyPost_end (results_none rfl _ _ _) rfl ?_
      exact ⟨rfl, HM.out, grownBy_trans (grownBy_below _ HB0.out) HG.out⟩
end Go.Proofs.YthpolfmbcipjaaaGreatDoor
namespace Go.Proofs
open Go.RowKit Go.Maps Go.Sort Go.Shelf
def Tryz.keys116_ren : Go.Shelf.Ren := ⟨fun | 7 => 116 | 10 => 155 | n => n, fun | 23 => 138 | 26 => 9 | 3 => 173 | 28 => 181 | 0 => 0 | 27 => 180 | 33 => 124 | 4 => 4 | n => n, fun | n => n⟩
theorem Tryz.keys116 : Go.Proofs.SlLaysZ.n7 Tryz.prog Tryz.keys116_ren := {
  mixed := by kernel_rfl
  f7 := ⟨Tryz.f116.name, by decide, Tryz.func116.trans (congrArg some (by kernel_rfl))⟩
  f10 := ⟨Tryz.f155.name, by decide, Tryz.func155.trans (congrArg some (by kernel_rfl))⟩
  t0 := Tryz.underlying0
  a0 := Tryz.isAgg0
  z0 := Tryz.sizeOf0
  v0 := Tryz.zeroValue0
  t4 := Tryz.underlying4
  a4 := Tryz.isAgg4
  z4 := Tryz.sizeOf4
  v4 := Tryz.zeroValue4
  t23 := Tryz.underlying138
  a23 := Tryz.isAgg138
  z23 := Tryz.sizeOf138
  v23 := Tryz.zeroValue138
  t26 := Tryz.underlying9
  a26 := Tryz.isAgg9
  z26 := Tryz.sizeOf9
  v26 := Tryz.zeroValue9
  t27 := Tryz.underlying180
  a27 := Tryz.isAgg180
  z27 := Tryz.sizeOf180
  v27 := Tryz.zeroValue180
  t28 := Tryz.underlying181
  a28 := Tryz.isAgg181
  z28 := Tryz.sizeOf181
  v28 := Tryz.zeroValue181
  t33 := Tryz.underlying124
  a33 := Tryz.isAgg124
  z33 := Tryz.sizeOf124
  v33 := Tryz.zeroValue124 }
def Tryz.sorted115_ren : Go.Shelf.Ren := ⟨fun | 6 => 115 | 8 => 153 | 9 => 154 | 11 => 179 | 13 => 181 | 12 => 180 | 23 => 204 | 24 => 205 | 14 => 195 | 15 => 196 | 16 => 197 | 17 => 198 | 18 => 199 | 19 => 200 | 20 => 201 | 21 => 202 | 22 => 203 | 25 => 215 | 26 => 216 | 27 => 217 | 28 => 218 | 29 => 219 | 30 => 212 | 31 => 224 | n => n, fun | 26 => 9 | 28 => 181 | 24 => 147 | 0 => 0 | 3 => 3 | 37 => 214 | 48 => 97 | 50 => 261 | 4 => 4 | 40 => 254 | 39 => 253 | 45 => 163 | 5 => 5 | 9 => 9 | 51 => 271 | 55 => 275 | 57 => 280 | 58 => 281 | 33 => 124 | n => n, fun | n => n⟩
theorem Tryz.sorted115 : Go.Proofs.SlLaysZ.n6 Tryz.prog Tryz.sorted115_ren := {
  mixed := by kernel_rfl
  f6 := ⟨Tryz.f115.name, by decide, Tryz.func115.trans (congrArg some (by kernel_rfl))⟩
  f8 := ⟨Tryz.f153.name, by decide, Tryz.func153.trans (congrArg some (by kernel_rfl))⟩
  f11 := ⟨Tryz.f179.name, by decide, Tryz.func179.trans (congrArg some (by kernel_rfl))⟩
  t0 := Tryz.underlying0
  a0 := Tryz.isAgg0
  z0 := Tryz.sizeOf0
  v0 := Tryz.zeroValue0
  t24 := Tryz.underlying147
  a24 := Tryz.isAgg147
  z24 := Tryz.sizeOf147
  v24 := Tryz.zeroValue147
  t26 := Tryz.underlying9
  a26 := Tryz.isAgg9
  z26 := Tryz.sizeOf9
  v26 := Tryz.zeroValue9
  t28 := Tryz.underlying181
  a28 := Tryz.isAgg181
  z28 := Tryz.sizeOf181
  v28 := Tryz.zeroValue181
  i26 := by kernel_rfl }
def Tryz.sort154_ren : Go.Shelf.Ren := ⟨fun | 6 => 154 | 8 => 181 | 9 => 180 | 19 => 204 | 20 => 205 | 21 => 195 | 22 => 196 | 23 => 197 | 24 => 198 | 25 => 199 | 26 => 200 | 27 => 201 | 28 => 202 | 29 => 203 | 36 => 215 | 31 => 216 | 32 => 217 | 37 => 218 | 38 => 219 | 39 => 212 | 41 => 224 | n => n, fun | 27 => 147 | 29 => 9 | 3 => 3 | 32 => 214 | 26 => 147 | 0 => 0 | 44 => 97 | 46 => 261 | 4 => 4 | 36 => 254 | 35 => 253 | 41 => 163 | 5 => 5 | 9 => 9 | 53 => 271 | 57 => 275 | 63 => 280 | 64 => 281 | n => n, fun | n => n⟩
theorem Tryz.sort154 : Go.Proofs.SlLaysM.n6 Tryz.prog Tryz.sort154_ren := {
  mixed := by kernel_rfl
  f6 := ⟨Tryz.f154.name, by decide, Tryz.func154.trans (congrArg some (by kernel_rfl))⟩
  f8 := Tryz.func181.trans (congrArg some (by kernel_rfl))
  f9 := ⟨Tryz.f180.name, by decide, Tryz.func180.trans (congrArg some (by kernel_rfl))⟩
  f19 := Tryz.func204.trans (congrArg some (by kernel_rfl))
  f20 := Tryz.func205.trans (congrArg some (by kernel_rfl))
  f21 := ⟨Tryz.f195.name, by decide, Tryz.func195.trans (congrArg some (by kernel_rfl))⟩
  f22 := ⟨Tryz.f196.name, by decide, Tryz.func196.trans (congrArg some (by kernel_rfl))⟩
  f23 := ⟨Tryz.f197.name, by decide, Tryz.func197.trans (congrArg some (by kernel_rfl))⟩
  f24 := ⟨Tryz.f198.name, by decide, Tryz.func198.trans (congrArg some (by kernel_rfl))⟩
  f25 := ⟨Tryz.f199.name, by decide, Tryz.func199.trans (congrArg some (by kernel_rfl))⟩
  f26 := ⟨Tryz.f200.name, by decide, Tryz.func200.trans (congrArg some (by kernel_rfl))⟩
  f27 := ⟨Tryz.f201.name, by decide, Tryz.func201.trans (congrArg some (by kernel_rfl))⟩
  f28 := ⟨Tryz.f202.name, by decide, Tryz.func202.trans (congrArg some (by kernel_rfl))⟩
  f29 := ⟨Tryz.f203.name, by decide, Tryz.func203.trans (congrArg some (by kernel_rfl))⟩
  f31 := Tryz.func216.trans (congrArg some (by kernel_rfl))
  f32 := Tryz.func217.trans (congrArg some (by kernel_rfl))
  f36 := ⟨Tryz.f215.name, by decide, Tryz.func215.trans (congrArg some (by kernel_rfl))⟩
  f37 := ⟨Tryz.f218.name, by decide, Tryz.func218.trans (congrArg some (by kernel_rfl))⟩
  f38 := ⟨Tryz.f219.name, by decide, Tryz.func219.trans (congrArg some (by kernel_rfl))⟩
  f39 := ⟨Tryz.f212.name, by decide, Tryz.func212.trans (congrArg some (by kernel_rfl))⟩
  f41 := ⟨Tryz.f224.name, by decide, Tryz.func224.trans (congrArg some (by kernel_rfl))⟩
  t0 := Tryz.underlying0
  a0 := Tryz.isAgg0
  z0 := Tryz.sizeOf0
  v0 := Tryz.zeroValue0
  t3 := Tryz.underlying3
  a3 := Tryz.isAgg3
  z3 := Tryz.sizeOf3
  v3 := Tryz.zeroValue3
  t4 := Tryz.underlying4
  a4 := Tryz.isAgg4
  z4 := Tryz.sizeOf4
  v4 := Tryz.zeroValue4
  t5 := Tryz.underlying5
  a5 := Tryz.isAgg5
  z5 := Tryz.sizeOf5
  v5 := Tryz.zeroValue5
  t9 := Tryz.underlying9
  a9 := Tryz.isAgg9
  z9 := Tryz.sizeOf9
  v9 := Tryz.zeroValue9
  t26 := Tryz.underlying147
  a26 := Tryz.isAgg147
  z26 := Tryz.sizeOf147
  v26 := Tryz.zeroValue147
  t27 := Tryz.underlying147
  a27 := Tryz.isAgg147
  z27 := Tryz.sizeOf147
  v27 := Tryz.zeroValue147
  t29 := Tryz.underlying9
  a29 := Tryz.isAgg9
  z29 := Tryz.sizeOf9
  v29 := Tryz.zeroValue9
  t32 := Tryz.underlying214
  a32 := Tryz.isAgg214
  z32 := Tryz.sizeOf214
  v32 := Tryz.zeroValue214
  t35 := Tryz.underlying253
  a35 := Tryz.isAgg253
  z35 := Tryz.sizeOf253
  v35 := Tryz.zeroValue253
  t36 := Tryz.underlying254
  a36 := Tryz.isAgg254
  z36 := Tryz.sizeOf254
  v36 := Tryz.zeroValue254
  t41 := Tryz.underlying163
  a41 := Tryz.isAgg163
  z41 := Tryz.sizeOf163
  v41 := Tryz.zeroValue163
  t44 := Tryz.underlying97
  a44 := Tryz.isAgg97
  z44 := Tryz.sizeOf97
  v44 := Tryz.zeroValue97
  t46 := Tryz.underlying261
  a46 := Tryz.isAgg261
  z46 := Tryz.sizeOf261
  v46 := Tryz.zeroValue261
  t53 := Tryz.underlying271
  a53 := Tryz.isAgg271
  z53 := Tryz.sizeOf271
  v53 := Tryz.zeroValue271
  t57 := Tryz.underlying275
  a57 := Tryz.isAgg275
  z57 := Tryz.sizeOf275
  v57 := Tryz.zeroValue275
  t63 := Tryz.underlying280
  a63 := Tryz.isAgg280
  z63 := Tryz.sizeOf280
  v63 := Tryz.zeroValue280
  t64 := Tryz.underlying281
  a64 := Tryz.isAgg281
  z64 := Tryz.sizeOf281
  v64 := Tryz.zeroValue281 }
def Tryz.keys161_ren : Go.Shelf.Ren := ⟨fun | 7 => 161 | 10 => 184 | n => n, fun | 23 => 201 | 26 => 9 | 3 => 55 | 28 => 181 | 0 => 0 | 27 => 180 | 33 => 124 | 4 => 4 | n => n, fun | n => n⟩
theorem Tryz.keys161 : Go.Proofs.SlLaysZ.n7 Tryz.prog Tryz.keys161_ren := {
  mixed := by kernel_rfl
  f7 := ⟨Tryz.f161.name, by decide, Tryz.func161.trans (congrArg some (by kernel_rfl))⟩
  f10 := ⟨Tryz.f184.name, by decide, Tryz.func184.trans (congrArg some (by kernel_rfl))⟩
  t0 := Tryz.underlying0
  a0 := Tryz.isAgg0
  z0 := Tryz.sizeOf0
  v0 := Tryz.zeroValue0
  t4 := Tryz.underlying4
  a4 := Tryz.isAgg4
  z4 := Tryz.sizeOf4
  v4 := Tryz.zeroValue4
  t23 := Tryz.underlying201
  a23 := Tryz.isAgg201
  z23 := Tryz.sizeOf201
  v23 := Tryz.zeroValue201
  t26 := Tryz.underlying9
  a26 := Tryz.isAgg9
  z26 := Tryz.sizeOf9
  v26 := Tryz.zeroValue9
  t27 := Tryz.underlying180
  a27 := Tryz.isAgg180
  z27 := Tryz.sizeOf180
  v27 := Tryz.zeroValue180
  t28 := Tryz.underlying181
  a28 := Tryz.isAgg181
  z28 := Tryz.sizeOf181
  v28 := Tryz.zeroValue181
  t33 := Tryz.underlying124
  a33 := Tryz.isAgg124
  z33 := Tryz.sizeOf124
  v33 := Tryz.zeroValue124 }
theorem Tryz.sorts115 (m : Nat) : AnyZ.SortsIn Tryz.prog Tryz.sorted115_ren Fence.wide m :=
  ⟨fun blk off cap ss W hH hblk hsz => callsIn_wide.2 (AnyM.slices_Sort_string Tryz.sort154 blk off cap ss W hH hblk hsz),
   fun p cap W => callsIn_wide.2 (AnyM.slices_Sort_string_none Tryz.sort154 p cap W)⟩
theorem Tryz.maps_Keys_116 (mb : Option Nat) (W : World) : CallsIn Fence.wide 5 Tryz.prog 116 #[.map mb] W fun e w' => e = .returned (.func (.func 155) #[] #[.pointer (some ⟨W.heap.size, 0, none⟩)]) ∧ w' = W.alloc (.cells #[.map mb] 138) :=
  AnyZ.keys_in Tryz.keys116 Fence.wide 5 trivial rfl mb W
theorem Tryz.slices_Sorted_keys_115_116 {H : Type} (b nn : Nat) (D0 : DataW H) (R : Value → Option (DataW H × List MemPlace)) (w : World) (hown : w.ownsMap Tryz.prog 9 R b nn D0) (hmax : Maps.size D0 ≤ maxLen) (hbytes : Maps.size D0 * 16 ≤ 140737488355328) :
    CallsIn Fence.wide 5 Tryz.prog 115 #[.func (.func 155) #[] #[.pointer (some ⟨w.heap.size, 0, none⟩)]] (w.alloc (.cells #[.map (some b)] 138)) fun e w' => ∃ (v : Value) (ss : List (List UInt8)), e = .returned v ∧ ss.Perm (strKeys D0) ∧
      w'.ownsRow (w.alloc (.cells #[.map (some b)] 138)).heap.size 9 1 v ss.length ((ss.mergeSort (fun x y => decide (x ≤ y))).map encStr) ∧ (v = .slice none 0 0 ↔ ss = []) ∧ Below (w.alloc (.cells #[.map (some b)] 138)).heap.size (w.alloc (.cells #[.map (some b)] 138)) w' := by
  have hbl := hown.lt
  have hseq : SeqGives Fence.wide 2 Tryz.prog 155 #[.pointer (some ⟨w.heap.size, 0, none⟩)] encStr (fun ss => ss.Perm (strKeys D0)) (Maps.size D0) (w.alloc (.cells #[.map (some b)] 138)) :=
    AnyZ.keys_gives (ρ := Tryz.keys116_ren) { Tryz.keys116 with } Fence.wide _ trivial rfl (by omega) w.heap.size b nn D0 _ (by simp) (by simp) (by
      obtain ⟨es, clock, hb, Ft, hs, hD⟩ := hown
      exact ⟨es, clock, (Below.heap_alloc _ _ b hbl).trans hb, Ft, hs, hD⟩)
  exact AnyZ.sorted_in Tryz.sorted115 Fence.wide 5 trivial trivial trivial trivial rfl (by omega) (Tryz.sorts115 _) (enters_of Tryz.func154 (by kernel_rfl) rfl) 155 #[.pointer (some ⟨w.heap.size, 0, none⟩)] trivial (enters_of Tryz.func155 (by kernel_rfl) rfl) _ _ hmax hbytes _ hseq
theorem Tryz.maps_Keys_161 (mb : Option Nat) (W : World) : CallsIn Fence.wide 5 Tryz.prog 161 #[.map mb] W fun e w' => e = .returned (.func (.func 184) #[] #[.pointer (some ⟨W.heap.size, 0, none⟩)]) ∧ w' = W.alloc (.cells #[.map mb] 201) :=
  AnyZ.keys_in Tryz.keys161 Fence.wide 5 trivial rfl mb W
theorem Tryz.slices_Sorted_keys_115_161 {H : Type} (b nn : Nat) (D0 : DataW H) (R : Value → Option (DataW H × List MemPlace)) (w : World) (hown : w.ownsMap Tryz.prog 9 R b nn D0) (hmax : Maps.size D0 ≤ maxLen) (hbytes : Maps.size D0 * 16 ≤ 140737488355328) :
    CallsIn Fence.wide 5 Tryz.prog 115 #[.func (.func 184) #[] #[.pointer (some ⟨w.heap.size, 0, none⟩)]] (w.alloc (.cells #[.map (some b)] 201)) fun e w' => ∃ (v : Value) (ss : List (List UInt8)), e = .returned v ∧ ss.Perm (strKeys D0) ∧
      w'.ownsRow (w.alloc (.cells #[.map (some b)] 201)).heap.size 9 1 v ss.length ((ss.mergeSort (fun x y => decide (x ≤ y))).map encStr) ∧ (v = .slice none 0 0 ↔ ss = []) ∧ Below (w.alloc (.cells #[.map (some b)] 201)).heap.size (w.alloc (.cells #[.map (some b)] 201)) w' := by
  have hbl := hown.lt
  have hseq : SeqGives Fence.wide 2 Tryz.prog 184 #[.pointer (some ⟨w.heap.size, 0, none⟩)] encStr (fun ss => ss.Perm (strKeys D0)) (Maps.size D0) (w.alloc (.cells #[.map (some b)] 201)) :=
    AnyZ.keys_gives (ρ := Tryz.keys161_ren) { Tryz.keys161 with } Fence.wide _ trivial rfl (by omega) w.heap.size b nn D0 _ (by simp) (by simp) (by
      obtain ⟨es, clock, hb, Ft, hs, hD⟩ := hown
      exact ⟨es, clock, (Below.heap_alloc _ _ b hbl).trans hb, Ft, hs, hD⟩)
  exact AnyZ.sorted_in Tryz.sorted115 Fence.wide 5 trivial trivial trivial trivial rfl (by omega) (Tryz.sorts115 _) (enters_of Tryz.func154 (by kernel_rfl) rfl) 184 #[.pointer (some ⟨w.heap.size, 0, none⟩)] trivial (enters_of Tryz.func184 (by kernel_rfl) rfl) _ _ hmax hbytes _ hseq
end Go.Proofs
