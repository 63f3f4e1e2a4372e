import Derived.Sort.OwnSorted
import Derived.Laws.CopyOwn
import Derived.Test.YtifjneldjjmeaaaGreatDoorLs9
import Derived.Test.YtifjneldjjmeaaaGreatDoorLs1
import Derived.Test.YtifjneldjjmeaaaGreatDoorLs8
set_option maxRecDepth 100000
set_option maxHeartbeats 3200000
namespace Go.Proofs.YtifjneldjjmeaaaGreatDoor
open Go.RowKit
theorem encL (ts : List ByteArray) : ts.map Value.string = (ts.map (·.data.toList)).map encStr := by
  rw [List.map_map]
  apply List.map_congr_left
  intro x _
  cases x
  simp [encStr]
theorem textsAt_cells {w : World} {ad : Addr} {ts : List ByteArray} (h : TextsAt w (some ad) ts) : ∀ j v, (ts.map Value.string)[j]? = some v → w.cell? (ad.add j) = some v := by
  intro j v hj
  rw [List.getElem?_map] at hj
  obtain ⟨t, ht, rfl⟩ := Option.map_eq_some_iff.1 hj
  obtain ⟨hjl, rfl⟩ := List.getElem?_eq_some_iff.1 ht
  obtain ⟨b, off, e, -, hc⟩ := h j hjl
  cases e
  rcases Nat.eq_zero_or_pos j with rfl | h0
  · simpa [Addr.add] using hc
  · simpa [Addr.add, Nat.ne_of_gt h0] using hc
theorem textsAt_some {w : World} {a : Option Addr} {ts : List ByteArray} (h : TextsAt w a ts) (h0 : 0 < ts.length) : ∃ b off, a = some ⟨b, off, none⟩ ∧ b < w.heap.size := by
  obtain ⟨b, off, e, hb, -⟩ := h 0 h0
  exact ⟨b, off, e, hb⟩
theorem string_one (ts : List ByteArray) : ∀ v ∈ ts.map Value.string, v.oneCell' = true := by
  intro v hv
  obtain ⟨t, -, rfl⟩ := List.mem_map.1 hv
  rfl
theorem rowTextC_block {w : World} {B g : Nat} {ts : List ByteArray} (hB : B ≤ g) (h : w.heap[g]? = some (.cells (ts.map Value.string).toArray 9 (0, 0))) : RowTextC w B (.slice (some ⟨g, 0, none⟩) ts.length ts.length) ts :=
  ⟨.inr ⟨g, ts.length, _, rfl, hB, h, by simp, fun j hj _ => by simp [hj]⟩, _, _, rfl, Nat.le_refl _⟩
def BoxL (w : World) (b : Nat) (v x : Value) : Prop := w.heap[b]? = some (.cells #[v, x] 69 (0, 0))
theorem boxL_cells {w : World} {b : Nat} {v x : Value} (h : BoxL w b v x) : w.cell? ⟨b, 1, none⟩ = some x ∧ w.frozen? ⟨b, 1, none⟩ = false :=
  ⟨(cell_of_row w _ 1 _ _ (0, 0) h).trans rfl, frozen_of_row w _ 1 _ _ h⟩
theorem boxL_set {w : World} {b : Nat} {v x : Value} (h : BoxL w b v x) (y : Value) : BoxL (w.setCell ⟨b, 1, none⟩ y) b v y := (heap_setCell_same w b 1 _ _ _ h).trans rfl
theorem boxL_below {w w' : World} {b : Nat} {v x : Value} (h : BoxL w b v x) (hb : Below w.heap.size w w') : BoxL w' b v x := (hb.block b (obj_lt h)).trans h
def PutL (w : World) (b : Nat) (v : Value) (L : List ByteArray) (e : Ending) (w' : World) : Prop :=
  e = .returned (.tuple #[]) ∧ ∃ a c, BoxL w' b v (.slice a L.length c) ∧ RowTextC w' w.heap.size (.slice a L.length c) L ∧ w.grownBy w' (some b)
def TakL (w : World) (B b : Nat) (v : Value) (g : Nat) (x : ByteArray) (L : List ByteArray) (e : Ending) (w' : World) : Prop :=
  e = .returned (.string x) ∧ ∃ c, BoxL w' b v (.slice (some ⟨g, 0, none⟩) L.length c) ∧ RowTextC w' B (.slice (some ⟨g, 0, none⟩) L.length c) L ∧ (∀ k, k < w.heap.size → k ≠ b → k ≠ g → w'.heap[k]? = w.heap[k]?) ∧ Below (min b g) w w'
open Go.Sort in
theorem reverse_any (w : World) (g n N : Nat) (cur : List Value) (M : List ByteArray) (hg : w.heap[g]? = some (.cells cur.toArray 9 (0, 0))) (hn : n = M.length) (hc : cur.take M.length = M.map Value.string) (hN : M.length ≤ cur.length) (hM : M.length ≤ 1048576) :
    Calls Tryz.prog 123 #[.slice (some ⟨g, 0, none⟩) n N] w fun e w' => e = .returned (.tuple #[]) ∧ (∃ cur2 : List Value, w'.heap[g]? = some (.cells cur2.toArray 9 (0, 0)) ∧ cur2.length = cur.length ∧ cur2.take M.length = M.reverse.map Value.string) ∧ w.grownBy w' (some g) := by
  have hH : Holds encStr w g 0 (M.map (·.data.toList)).toArray := holds_of_block hg (by
    rw [List.length_map, ← encL]
    simpa using hc)
  have h := Tryz.slices_Reverse_string g 0 N (M.map (·.data.toList)) w hH (by rw [List.length_map]; omega)
  rw [List.length_map, ← hn] at h
  refine h.mono ?_
  rintro e w' ⟨rfl, q, rfl⟩
  have hrev : (M.map (·.data.toList)).reverse = M.reverse.map (·.data.toList) := by rw [List.map_reverse]
  have hh := heap_sorted (n := q) (os := #[]) (M.map (·.data.toList)).reverse.toArray hg
  have hgr := grownBy_sorted (w := w) (g := g) (n := q) (os := #[]) (M.map (·.data.toList)).reverse.toArray
  rw [grow_empty] at hh hgr
  refine ⟨rfl, ⟨(putCells encStr 0 (M.map (·.data.toList)).reverse.toArray cur.toArray).toList, by simpa using hh, by simp [putCells], ?_⟩, hgr⟩
  have ht := take_putCells cur.toArray (M.map (·.data.toList)).reverse (by simp; omega)
  rw [List.length_reverse, List.length_map] at ht
  rw [ht, hrev, ← encL]
theorem copy_texts {dT sT ty : TypeId} (hu : Tryz.prog.underlying dT = some (.slice 9)) (W : World) (g off dLen dCap sLen sCap : Nat) (dp sp : Option Addr) (cur : List Value) (cs : List ByteArray) (hg : W.heap[g]? = some (.cells cur.toArray 9 (0, 0))) (hn : cs.length = Nat.min sLen dLen)
    (hp : 0 < cs.length → dp = some ⟨g, off, none⟩ ∧ ∃ ad, sp = some ad ∧ ∀ j v, (cs.map Value.string)[j]? = some v → W.cell? (ad.add j) = some v) (hfit : off + cs.length ≤ cur.length) :
    (Builtin.copy_ #[dT, sT] ty #[.slice dp dLen dCap, .slice sp sLen sCap]).run Tryz.prog W = .ok (goInt cs.length) (W.setRow g (splice cur off (cs.map Value.string)).toArray) := by
  obtain ⟨i0, hi, -, hz1, -⟩ := info_parts Tryz.infoText
  have hsz : (Tryz.prog.info? 9).map (·.size) = some 1 := by rw [hi]; exact congrArg some hz1
  by_cases h0 : cs.length = 0
  · obtain rfl : cs = [] := List.eq_nil_of_length_eq_zero h0
    have h := run_copy_none (P := Tryz.prog) W dT sT ty 9 dp sp dLen dCap sLen sCap hu hsz (by simpa using hn.symm)
    have e : splice cur off (([] : List ByteArray).map Value.string) = cur := by simp [splice]
    rw [h, e, setRow_self W g _ _ _ hg]
    rfl
  · obtain ⟨rfl, ad, rfl, hsrc⟩ := hp (by omega)
    have h := run_copy_row (P := Tryz.prog) W dT sT ty 9 g off dLen dCap ad sLen sCap cur.toArray 9 (cs.map Value.string) hu hsz hg (by rw [List.length_map]; exact hn) hsrc (by simpa using hfit) (string_one cs)
    rw [h, List.length_map]
    simp [splice]
theorem setRow_here {w : World} {g : Nat} {cur cur2 : List Value} (h : w.heap[g]? = some (.cells cur.toArray 9 (0, 0))) : (w.setRow g cur2.toArray).heap[g]? = some (.cells cur2.toArray 9 (0, 0)) := setRow_heap w g _ _ _ _ h
theorem splice_take (C : List Value) (m : Nat) (X : List Value) (hm : m ≤ C.length) : (splice C m X).take (m + X.length) = C.take m ++ X := by
  unfold splice
  rw [← List.append_assoc, List.take_append_of_le_length (by simp; omega), List.take_of_length_le (by simp; omega)]
theorem putAhead_any (w : World) (b : Nat) (v : Value) (L M : List ByteArray) (a0 am : Option Addr) (c0 cm : Nat) (hb : BoxL w b v (.slice a0 L.length c0)) (hL : TextsAt w a0 L) (hM : TextsAt w am M) (hM0 : 0 < M.length) (hl : L.length ≤ 1000) (hm : M.length ≤ 1000000) :
    Calls Tryz.prog 80 #[.pointer (some ⟨b, 1, none⟩), .slice am M.length cm] w (PutL w b v (M.reverse ++ L)) := by
  obtain ⟨bm, om, rfl, hbm⟩ := textsAt_some hM hM0
  have HB := hide hb
  have HL := hide hL
  have HM := hide hM
  obtain ⟨N, HN⟩ : ∃ N : Nat, Hid (N = M.length + L.length) := ⟨_, hide rfl⟩
  have HNi : Hid ((N : Int) = (M.length : Int) + (L.length : Int)) := by have := HN.out; show _ = _; omega
  have hNM : M.length ≤ N := by have := HN.out; omega
  have hNz : N ≤ 1001000 := by have := HN.out; omega
  obtain ⟨i0, hi, hz0, hz1, hz2⟩ := info_parts Tryz.infoText
  obtain ⟨Mk, hMk⟩ : ∃ Mk, Mk = madeCells (Value.string ⟨#[]⟩).cells (((N : Nat) : Int).toNat * i0.size) := ⟨_, rfl⟩
  have hmk : ∀ W : World, (Instr.makeSlice 25 (.int .i64 ((M.length : Int) + (L.length : Int))) (.int .i64 ((M.length : Int) + (L.length : Int)))).run Tryz.prog W = .ok (.slice (some ⟨W.heap.size, 0, none⟩) N N) (W.alloc (.cells Mk 9)) := fun W => by
    rw [← HNi.out]
    have h := run_make (P := Tryz.prog) W 25 9 i0 (.string ⟨#[]⟩) Tryz.underlying25 hi hz0 .i64 .i64 (N : Int) (N : Int) (by omega) (by omega) (by rw [hz2]; omega) (by omega)
    rw [← hMk] at h
    simpa using h
  have hMs : Mk.size = N := by rw [hMk, size_madeCells, hz1]; simp
  clear hMk hb hL hM hi hz0 hz1 hz2
  obtain ⟨x1, -⟩ := boxL_cells HB.out
  obtain ⟨wA, hwA⟩ : ∃ wA, wA = w.alloc (.cells Mk 9) := ⟨_, rfl⟩
  have BA : Hid (Below w.heap.size w wA) := by rw [hwA]; exact (Below.refl _ w).alloc (Nat.le_refl _) _
  have PA : Hid (wA.heap[w.heap.size]? = some (.cells Mk.toList.toArray 9 (0, 0))) := by rw [hwA]; exact heap_alloc_new _ _
  have HQ1 := hide (fun ty dc => copy_texts (ty := ty) Tryz.underlying25 (sT := 25) wA w.heap.size 0 N dc M.length cm (some ⟨w.heap.size, 0, none⟩) (some ⟨bm, om, none⟩) Mk.toList M PA.out (Nat.min_eq_left hNM).symm (fun _ => ⟨rfl, _, rfl, textsAt_cells (textsAt_keep HM.out BA.out)⟩) (by simp; omega))
  obtain ⟨cur1, hcur1⟩ : ∃ cur1, splice Mk.toList 0 (M.map Value.string) = cur1 := ⟨_, rfl⟩
  have HC1 : Hid (cur1.take M.length = M.map Value.string) := by
    show _ = _
    rw [← hcur1]
    have := splice_take Mk.toList 0 (M.map Value.string) (Nat.zero_le _)
    simpa using this
  have hl1 : cur1.length = N := by
    rw [← hcur1, length_splice _ _ _ (by simp; omega)]
    simpa using hMs
  rw [hcur1] at HQ1
  obtain ⟨w1, hw1⟩ : ∃ w1, w1 = wA.setRow w.heap.size cur1.toArray := ⟨_, rfl⟩
  rw [← hw1] at HQ1
  have HG1 : Hid (w1.heap[w.heap.size]? = some (.cells cur1.toArray 9 (0, 0))) := by rw [hw1]; exact setRow_here PA.out
  have H1 : Hid (Below w.heap.size w w1) := by rw [hw1]; exact below_setRow BA.out (Nat.le_refl _) _
  have hs1 := H1.out.size
  clear hw1 hcur1
  have HR := hide (reverse_any w1 w.heap.size M.length N cur1 M HG1.out rfl HC1.out (by omega) (by omega))
  have hMN : (M.length : Int) ≤ (N : Int) := by omega
  have hM0' : (0 : Int) ≤ (M.length : Int) := by omega
  go_enter Tryz.func80, Tryz.ntmps80
  go_upto_region 1 with fail
  rw [← hwA]
  clear hwA x1 hmk
  have hq1 := HQ1.out
  go_upto_region 2 with (simp only [hq1])
  clear hq1 HQ1 PA BA
  go_wp2_with fail
  refine HR.out.mono ?_
  rintro e w2 ⟨rfl, ⟨cur2, hg2, hl2, hc2⟩, hgr2⟩
  have HG2 := hide hg2
  have HC2 := hide hc2
  have H2 := hide (H1.out.grown hgr2 hs1 (fun k hk => by cases hk; exact Nat.le_refl _))
  clear hg2 hc2 hgr2 HR HG1 HC1
  have hbw : b < w.heap.size := obj_lt HB.out
  obtain ⟨x2, -⟩ := boxL_cells (boxL_below HB.out H2.out)
  obtain ⟨cur3, hcur3⟩ : ∃ cur3, splice cur2 M.length (L.map Value.string) = cur3 := ⟨_, rfl⟩
  have HC3 : Hid (cur3 = (M.reverse ++ L).map Value.string) := by
    have h1 := splice_take cur2 M.length (L.map Value.string) (by omega)
    have h2 := length_splice cur2 M.length (L.map Value.string) (by rw [List.length_map, hl2]; have := HN.out; omega)
    have h3 := HN.out
    show _ = _
    rw [← hcur3, List.map_append, ← HC2.out, ← h1, List.take_of_length_le]
    rw [h2, hl2, List.length_map]
    omega
  have hbg : b ≠ w.heap.size := Nat.ne_of_lt hbw
  have HQ3 := hide (fun (W : World) (hW : W.heap = w2.heap) ty dp dLen dc (hn : L.length = Nat.min L.length dLen) (hp : 0 < L.length → dp = some ⟨w.heap.size, M.length, none⟩) => copy_texts (ty := ty) Tryz.underlying25 (sT := 67) W w.heap.size M.length dLen dc L.length c0 dp a0 cur2 L (by rw [hW]; exact HG2.out) hn (fun h => ⟨hp h, by
    obtain ⟨bl, ol, rfl, hbl⟩ := textsAt_some HL.out h
    refine ⟨_, rfl, fun j u hj => ?_⟩
    have hc := textsAt_cells (textsAt_keep HL.out H2.out) j u hj
    simpa only [World.cell?, hW] using hc⟩) (by have := HN.out; omega))
  rw [hcur3] at HQ3
  have hBX : ∀ W : World, W.heap = w2.heap → BoxL (W.setRow w.heap.size cur3.toArray) b v (.slice a0 L.length c0) := fun W hW => (setRow_other W _ _ _ hbg).trans (by rw [hW]; exact boxL_below HB.out H2.out)
  have HFIN : Hid (∀ W : World, W.heap = w2.heap → Below w.heap.size w W → PutL w b v (M.reverse ++ L) (.returned (.tuple #[])) ((W.setRow w.heap.size cur3.toArray).setCell ⟨b, 1, none⟩ (.slice (some ⟨w.heap.size, 0, none⟩) N N))) := fun W hW hWb => by
    have hlen : (M.reverse ++ L).length = N := by have := HN.out; simp; omega
    have hg3 : ((W.setRow w.heap.size cur3.toArray).setCell ⟨b, 1, none⟩ (.slice (some ⟨w.heap.size, 0, none⟩) N N)).heap[w.heap.size]? = some (.cells ((M.reverse ++ L).map Value.string).toArray 9 (0, 0)) := by
      rw [Below.heap_setCell _ _ _ _ (fun e => hbg e.symm), ← HC3.out]
      exact setRow_here (by rw [hW]; exact HG2.out)
    refine ⟨rfl, some ⟨w.heap.size, 0, none⟩, N, ?_, ?_, ?_⟩
    · rw [hlen]
      exact boxL_set (hBX W hW) _
    · have h := rowTextC_block (Nat.le_refl w.heap.size) hg3
      rw [hlen] at h ⊢
      exact h
    · exact (grownBy_below (some b) (below_setRow hWb (Nat.le_refl _) cur3.toArray)).trans (grownBy_store (World.grownBy.refl _ (some b)) 1 _)
  clear hcur3
  rcases Nat.eq_zero_or_pos L.length with hL0 | hL0
  · have hNe : M.length = N := by have := HN.out; omega
    have HQ4 := hide (fun (W : World) (hW : W.heap = w2.heap) ty dc => HQ3.out W hW ty (some ⟨w.heap.size, 0, none⟩) 0 dc (by rw [hL0]; rfl) (fun h => absurd h (by omega)))
    rw [hL0] at HQ4
    go_upto_region 3 with fail
    go_region_law (go_loud (refine step_copyR (by rfl) _ _ 25 67 rfl (.slice (some ⟨w.heap.size, 0, none⟩) 0 0) (.slice a0 0 c0) (by rfl) (by rfl) (HQ4.out _ (by rfl) _ _) ?_))
    all_goals
      have hFIN := HFIN.out w2.drew rfl H2.out.drew
      obtain ⟨x3, f3⟩ := boxL_cells (hBX w2.drew rfl)
      have hFINN := hide hFIN
      clear hFIN
      go_wp2
      go_end0
      exact hFINN.out
  · have hNe : ¬ (N = M.length) := by have := HN.out; omega
    go_upto_region 3 with fail
    have HQ4 := hide (fun (W : World) (hW : W.heap = w2.heap) ty dc => HQ3.out W hW ty (some ⟨w.heap.size, M.length, none⟩) (N - M.length) dc (Nat.min_eq_left (by have := HN.out; omega)).symm (fun _ => rfl))
    go_region_law (go_loud (refine step_copyR (by rfl) _ _ 25 67 rfl (.slice (some ⟨w.heap.size, M.length, none⟩) (N - M.length) (N - M.length)) (.slice a0 L.length c0) (by rfl) (by rfl) (HQ4.out _ (by rfl) _ _) ?_))
    all_goals
      have hFIN := HFIN.out w2.drew rfl H2.out.drew
      obtain ⟨x3, f3⟩ := boxL_cells (hBX w2.drew rfl)
      have hFINN := hide hFIN
      clear hFIN
      go_wp2
      go_end0
      exact hFINN.out
theorem putBehind_any (w : World) (b : Nat) (v : Value) (L M : List ByteArray) (a0 am : Option Addr) (c0 cm : Nat) (hb : BoxL w b v (.slice a0 L.length c0)) (hL : TextsAt w a0 L) (hM : TextsAt w am M) (hM0 : 0 < M.length) (hl : L.length ≤ 1000) (hm : M.length ≤ 1000000) :
    Calls Tryz.prog 81 #[.pointer (some ⟨b, 1, none⟩), .slice am M.length cm] w (PutL w b v (L ++ M)) := by
  obtain ⟨bm, om, rfl, hbm⟩ := textsAt_some hM hM0
  have HB := hide hb
  have HL := hide hL
  have HM := hide hM
  obtain ⟨N, HN⟩ : ∃ N : Nat, Hid (N = L.length + M.length) := ⟨_, hide rfl⟩
  have HNi : Hid ((N : Int) = (L.length : Int) + (M.length : Int)) := by have := HN.out; show _ = _; omega
  have hNM : L.length ≤ N := by have := HN.out; omega
  have hNz : N ≤ 1001000 := by have := HN.out; omega
  obtain ⟨i0, hi, hz0, hz1, hz2⟩ := info_parts Tryz.infoText
  obtain ⟨Mk, hMk⟩ : ∃ Mk, Mk = madeCells (Value.string ⟨#[]⟩).cells (((N : Nat) : Int).toNat * i0.size) := ⟨_, rfl⟩
  have hmk : ∀ W : World, (Instr.makeSlice 25 (.int .i64 ((L.length : Int) + (M.length : Int))) (.int .i64 ((L.length : Int) + (M.length : Int)))).run Tryz.prog W = .ok (.slice (some ⟨W.heap.size, 0, none⟩) N N) (W.alloc (.cells Mk 9)) := fun W => by
    rw [← HNi.out]
    have h := run_make (P := Tryz.prog) W 25 9 i0 (.string ⟨#[]⟩) Tryz.underlying25 hi hz0 .i64 .i64 (N : Int) (N : Int) (by omega) (by omega) (by rw [hz2]; omega) (by omega)
    rw [← hMk] at h
    simpa using h
  have hMs : Mk.size = N := by rw [hMk, size_madeCells, hz1]; simp
  clear hMk hb hL hM hi hz0 hz1 hz2
  obtain ⟨x1, -⟩ := boxL_cells HB.out
  obtain ⟨wA, hwA⟩ : ∃ wA, wA = w.alloc (.cells Mk 9) := ⟨_, rfl⟩
  have BA : Hid (Below w.heap.size w wA) := by rw [hwA]; exact (Below.refl _ w).alloc (Nat.le_refl _) _
  have PA : Hid (wA.heap[w.heap.size]? = some (.cells Mk.toList.toArray 9 (0, 0))) := by rw [hwA]; exact heap_alloc_new _ _
  have HQ1 := hide (fun ty dc => copy_texts (ty := ty) Tryz.underlying25 (sT := 67) wA w.heap.size 0 N dc L.length c0 (some ⟨w.heap.size, 0, none⟩) a0 Mk.toList L PA.out (Nat.min_eq_left hNM).symm (fun h => ⟨rfl, by
    obtain ⟨bl, ol, rfl, hbl⟩ := textsAt_some HL.out h
    exact ⟨_, rfl, textsAt_cells (textsAt_keep HL.out BA.out)⟩⟩) (by simp; omega))
  obtain ⟨cur1, hcur1⟩ : ∃ cur1, splice Mk.toList 0 (L.map Value.string) = cur1 := ⟨_, rfl⟩
  have HC1 : Hid (cur1.take L.length = L.map Value.string) := by
    show _ = _
    rw [← hcur1]
    have := splice_take Mk.toList 0 (L.map Value.string) (Nat.zero_le _)
    simpa using this
  have hl1 : cur1.length = N := by
    rw [← hcur1, length_splice _ _ _ (by simp; omega)]
    simpa using hMs
  rw [hcur1] at HQ1
  obtain ⟨w1, hw1⟩ : ∃ w1, w1 = wA.setRow w.heap.size cur1.toArray := ⟨_, rfl⟩
  rw [← hw1] at HQ1
  have HG1 : Hid (w1.heap[w.heap.size]? = some (.cells cur1.toArray 9 (0, 0))) := by rw [hw1]; exact setRow_here PA.out
  have H1 : Hid (Below w.heap.size w w1) := by rw [hw1]; exact below_setRow BA.out (Nat.le_refl _) _
  have hs1 := H1.out.size
  clear hw1 hcur1
  have hMN : (L.length : Int) ≤ (N : Int) := by omega
  have hM0' : (0 : Int) ≤ (L.length : Int) := by omega
  have hbw : b < w.heap.size := obj_lt HB.out
  have hbg : b ≠ w.heap.size := Nat.ne_of_lt hbw
  have hNe : ¬ (N = L.length) := by have := HN.out; omega
  have HQ3 := hide (fun ty dc => copy_texts (ty := ty) Tryz.underlying25 (sT := 25) w1 w.heap.size L.length (N - L.length) dc M.length cm (some ⟨w.heap.size, L.length, none⟩) (some ⟨bm, om, none⟩) cur1 M HG1.out (Nat.min_eq_left (by have := HN.out; omega)).symm (fun _ => ⟨rfl, _, rfl, textsAt_cells (textsAt_keep HM.out H1.out)⟩) (by have := HN.out; omega))
  obtain ⟨cur3, hcur3⟩ : ∃ cur3, splice cur1 L.length (M.map Value.string) = cur3 := ⟨_, rfl⟩
  have HC3 : Hid (cur3 = (L ++ M).map Value.string) := by
    have h1 := splice_take cur1 L.length (M.map Value.string) (by omega)
    have h2 := length_splice cur1 L.length (M.map Value.string) (by rw [List.length_map, hl1]; have := HN.out; omega)
    have h3 := HN.out
    show _ = _
    rw [← hcur3, List.map_append, ← HC1.out, ← h1, List.take_of_length_le]
    rw [h2, hl1, List.length_map]
    omega
  rw [hcur3] at HQ3
  obtain ⟨w3, hw3⟩ : ∃ w3, w3 = w1.setRow w.heap.size cur3.toArray := ⟨_, rfl⟩
  rw [← hw3] at HQ3
  have HG3 : Hid (w3.heap[w.heap.size]? = some (.cells cur3.toArray 9 (0, 0))) := by rw [hw3]; exact setRow_here HG1.out
  have H3 : Hid (Below w.heap.size w w3) := by rw [hw3]; exact below_setRow H1.out (Nat.le_refl _) _
  clear hw3 hcur3
  have HB3 := hide (boxL_below HB.out H3.out)
  have HFIN : Hid (PutL w b v (L ++ M) (.returned (.tuple #[])) (w3.setCell ⟨b, 1, none⟩ (.slice (some ⟨w.heap.size, 0, none⟩) N N))) := by
    have hlen : (L ++ M).length = N := by have := HN.out; simp; omega
    have hg3 : (w3.setCell ⟨b, 1, none⟩ (.slice (some ⟨w.heap.size, 0, none⟩) N N)).heap[w.heap.size]? = some (.cells ((L ++ M).map Value.string).toArray 9 (0, 0)) := by
      rw [Below.heap_setCell _ _ _ _ (fun e => hbg e.symm), ← HC3.out]
      exact HG3.out
    refine ⟨rfl, some ⟨w.heap.size, 0, none⟩, N, ?_, ?_, ?_⟩
    · rw [hlen]
      exact boxL_set HB3.out _
    · have h := rowTextC_block (Nat.le_refl w.heap.size) hg3
      rw [hlen] at h ⊢
      exact h
    · exact (grownBy_below (some b) H3.out).trans (grownBy_store (World.grownBy.refl _ (some b)) 1 _)
  obtain ⟨y1, -⟩ := boxL_cells (boxL_below HB.out H1.out)
  obtain ⟨y0, -⟩ := boxL_cells (boxL_below HB.out BA.out)
  obtain ⟨x3, f3⟩ := boxL_cells HB3.out
  go_enter Tryz.func81, Tryz.ntmps81
  go_upto_region 1 with fail
  rw [← hwA]
  clear hwA x1 hmk
  have hq1 := HQ1.out
  go_upto_region 2 with (simp only [hq1])
  clear hq1 HQ1 PA BA y0
  have hq3 := HQ3.out
  go_upto_region 3 with (simp only [hq3])
  go_wp2
  go_end0
  exact HFIN.out
theorem rowTextC_cells {w : World} {B g n c : Nat} {ts : List ByteArray} (h : RowTextC w B (.slice (some ⟨g, 0, none⟩) n c) ts) : n = ts.length ∧ ts.length ≤ c ∧ B ≤ g ∧ ∃ cur : List Value, w.heap[g]? = some (.cells cur.toArray 9 (0, 0)) ∧ ts.length ≤ cur.length ∧ ∀ j (h : j < ts.length), cur[j]? = some (.string ts[j]) := by
  obtain ⟨h1, a', c', e, hc⟩ := h
  cases e
  refine ⟨rfl, hc, ?_⟩
  rcases h1 with ⟨e, -⟩ | ⟨g', cap, C, e, hB, hC, hs, hI⟩
  · cases e
  · cases e
    exact ⟨hB, C.toList, by simpa using hC, by simpa using hs, fun j hj => by rw [Array.getElem?_toList]; exact hI j hj hj⟩
theorem takeLast_any (w : World) (B b g n c : Nat) (v : Value) (x : ByteArray) (L : List ByteArray) (hb : BoxL w b v (.slice (some ⟨g, 0, none⟩) n c)) (hL : RowTextC w B (.slice (some ⟨g, 0, none⟩) n c) (L ++ [x])) (hl : L.length ≤ 1000) :
    Calls Tryz.prog 84 #[.pointer (some ⟨b, 1, none⟩)] w (TakL w B b v g x L) := by
  obtain ⟨hn, hnc, hBg, cur, hC, hcl, hcs⟩ := rowTextC_cells hL
  rw [List.length_append, List.length_cons, List.length_nil, Nat.zero_add] at hn hnc hcl
  subst hn
  have hbg : b ≠ g := fun e => by
    rw [e] at hb
    unfold BoxL at hb
    rw [hC] at hb
    simp at hb
  obtain ⟨x1, f1⟩ := boxL_cells hb
  have hgx : w.cell? ⟨g, L.length, none⟩ = some (.string x) := by
    rw [cell_of_row w g _ _ _ (0, 0) hC]
    have := hcs L.length (by simp)
    simpa using this
  have HFIN : Hid (TakL w B b v g x L (.returned (.string x)) (w.setCell ⟨b, 1, none⟩ (.slice (some ⟨g, 0, none⟩) L.length c))) := by
    refine ⟨rfl, c, boxL_set hb _, ⟨.inr ⟨g, c, cur.toArray, rfl, hBg, ?_, by simp; omega, fun j hj _ => ?_⟩, _, _, rfl, by omega⟩, fun k hk h1 h2 => Below.heap_setCell _ _ _ _ (fun e => h1 e), (Below.refl _ w).setCell (p := ⟨b, 1, none⟩) (Nat.min_le_left _ _) _⟩
    · rw [Below.heap_setCell _ _ _ _ (fun e => hbg e.symm)]
      exact hC
    · have := hcs j (by simp; omega)
      rw [List.getElem_append_left hj] at this
      simpa using this
  have hw1 : IntKind.i64.wrap ((L.length : Int) + 1 - 1) = (L.length : Int) := by rw [IntKind.wrap_i64]; omega
  have hi0 : (0 : Int) ≤ (L.length : Int) := by omega
  have hi1 : (L.length : Int) < (L.length : Int) + 1 := by omega
  clear hb hL hC hcl hcs
  go_enter Tryz.func84, Tryz.ntmps84
  go_wp2
  go_ret
  exact HFIN.out
theorem takeFirst_any (w : World) (B b g n c : Nat) (v : Value) (x : ByteArray) (L : List ByteArray) (hb : BoxL w b v (.slice (some ⟨g, 0, none⟩) n c)) (hL : RowTextC w B (.slice (some ⟨g, 0, none⟩) n c) (x :: L)) (hl : L.length ≤ 1000) :
    Calls Tryz.prog 83 #[.pointer (some ⟨b, 1, none⟩)] w (TakL w B b v g x L) := by
  obtain ⟨hn, hnc, hBg, cur, hC, hcl, hcs⟩ := rowTextC_cells hL
  rw [List.length_cons] at hn hnc hcl
  subst hn
  have hbg : b ≠ g := fun e => by
    rw [e] at hb
    unfold BoxL at hb
    rw [hC] at hb
    simp at hb
  obtain ⟨x1, f1⟩ := boxL_cells hb
  have hgx : w.cell? ⟨g, 0, none⟩ = some (.string x) := by
    rw [cell_of_row w g _ _ _ (0, 0) hC]
    have := hcs 0 (by simp)
    simpa using this
  obtain ⟨cur2, hcur2⟩ : ∃ cur2, splice cur 0 (L.map Value.string) = cur2 := ⟨_, rfl⟩
  have hl2 : cur2.length = cur.length := by rw [← hcur2, length_splice _ _ _ (by simp; omega)]
  have ht2 : cur2.take L.length = L.map Value.string := by
    rw [← hcur2]
    have := splice_take cur 0 (L.map Value.string) (Nat.zero_le _)
    simpa using this
  have HQ := hide (fun (W : World) (hW : W.heap = w.heap) ty dc dp (hp : 0 < L.length → dp = some ⟨g, 1, none⟩) => copy_texts (ty := ty) Tryz.underlying67 (sT := 67) W g 0 (L.length + 1) c L.length dc (some ⟨g, 0, none⟩) dp cur L (by rw [hW]; exact hC) (Nat.min_eq_left (by omega)).symm (fun h => ⟨rfl, _, hp h, fun j u hj => by
    rw [List.getElem?_map] at hj
    obtain ⟨t, ht, rfl⟩ := Option.map_eq_some_iff.1 hj
    obtain ⟨hjl, rfl⟩ := List.getElem?_eq_some_iff.1 ht
    have h1 := hcs (j + 1) (by simp; omega)
    have h2 : W.cell? ⟨g, 1 + j, none⟩ = some (.string L[j]) := by
      rw [cell_of_row W g _ _ _ (0, 0) (by rw [hW]; exact hC), Nat.add_comm]
      simpa using h1
    rcases Nat.eq_zero_or_pos j with rfl | h0
    · simpa [Addr.add] using h2
    · simpa [Addr.add, Nat.ne_of_gt h0] using h2⟩) (by omega))
  rw [hcur2] at HQ
  have hBX : ∀ W : World, W.heap = w.heap → BoxL (W.setRow g cur2.toArray) b v (.slice (some ⟨g, 0, none⟩) (L.length + 1) c) := fun W hW => (setRow_other W _ _ _ hbg).trans (by rw [hW]; exact hb)
  have HFIN : Hid (∀ W : World, W.heap = w.heap → Below (min b g) w W → TakL w B b v g x L (.returned (.string x)) ((W.setRow g cur2.toArray).setCell ⟨b, 1, none⟩ (.slice (some ⟨g, 0, none⟩) L.length c))) := fun W hW hWb => by
    refine ⟨rfl, c, boxL_set (hBX W hW) _, ⟨.inr ⟨g, c, cur2.toArray, rfl, hBg, ?_, by simp; omega, fun j hj _ => ?_⟩, _, _, rfl, by omega⟩, fun k hk h1 h2 => ?_, (below_setRow hWb (Nat.min_le_right _ _) _).setCell (p := ⟨b, 1, none⟩) (Nat.min_le_left _ _) _⟩
    · rw [Below.heap_setCell _ _ _ _ (fun e => hbg e.symm)]
      exact setRow_here (by rw [hW]; exact hC)
    · have h1 : (cur2.take L.length)[j]? = (L.map Value.string)[j]? := by rw [ht2]
      rw [List.getElem?_take_of_lt hj] at h1
      simpa [hj] using h1
    · rw [Below.heap_setCell _ _ _ _ (fun e => h1 e), setRow_other _ _ _ _ h2, hW]
  have hi1 : (0 : Int) < (L.length : Int) + 1 := by omega
  have hi2 : (1 : Int) ≤ (L.length : Int) + 1 := by omega
  have hi3 : (L.length : Int) ≤ (c : Int) := by omega
  have hi4 : (0 : Int) ≤ (L.length : Int) := by omega
  have hi5 : (L.length : Int) + 1 ≤ (c : Int) := by omega
  have HW := hide (fun (W : World) (h : W.heap = w.heap) => boxL_cells (hBX W h))
  clear hb hL hC hcl hcs hcur2 hl2 ht2 hBX
  by_cases hc1 : c = 1
  · obtain rfl : L = [] := List.eq_nil_of_length_eq_zero (by omega)
    subst hc1
    have HQ4 := hide (fun (W : World) (hW : W.heap = w.heap) ty dc => HQ.out W hW ty dc (some ⟨g, 0, none⟩) (fun h => absurd h (by simp)))
    go_enter Tryz.func83, Tryz.ntmps83
    go_upto_region 2 with fail
    go_region_law (go_loud (refine step_copyR (by rfl) _ _ 67 67 rfl (.slice (some ⟨g, 0, none⟩) 1 1) (.slice (some ⟨g, 0, none⟩) 0 0) (by rfl) (by rfl) (HQ4.out _ (by rfl) _ _) ?_))
    all_goals
      obtain ⟨y1, z1⟩ := HW.out w.drew rfl
      go_wp2
      go_ret
      exact HFIN.out w.drew rfl (Below.refl _ w).drew
  · go_enter Tryz.func83, Tryz.ntmps83
    have HQ4 := hide (fun (W : World) (hW : W.heap = w.heap) ty dc => HQ.out W hW ty dc (some ⟨g, 1, none⟩) (fun h => rfl))
    go_upto_region 2 with fail
    go_region_law (go_loud (refine step_copyR (by rfl) _ _ 67 67 rfl (.slice (some ⟨g, 0, none⟩) (L.length + 1) c) (.slice (some ⟨g, 1, none⟩) L.length (c - 1)) (by rfl) (by rfl) (HQ4.out _ (by rfl) _ _) ?_))
    all_goals
      obtain ⟨y1, z1⟩ := HW.out w.drew rfl
      go_wp2
      go_ret
      exact HFIN.out w.drew rfl (Below.refl _ w).drew
noncomputable def pushF (T : List EntD) (key : ByteArray) (f : List ByteArray → List ByteArray) : ByteArray × Option ByteArray × List EntD :=
  match (lookK T key 2).2.2 with
  | some e => (⟨#[]⟩, some e, T)
  | none => (hdB ⟨#[58]⟩ (f (lookK T key 2).1.items).length, putErr (putT T key ⟨(lookK T key 2).1.kind, (lookK T key 2).1.til, (lookK T key 2).1.text, f (lookK T key 2).1.items⟩), putT T key ⟨(lookK T key 2).1.kind, (lookK T key 2).1.til, (lookK T key 2).1.text, f (lookK T key 2).1.items⟩)
theorem look_list {T : List EntD} (hT : TabR T) (k : ByteArray) (h : (lookK T k 2).2.2 = none) : (lookK T k 2).1.items.length ≤ 24 ∧ (lookK T k 2).1.text.size ≤ 60 ∧ (∀ s ∈ (lookK T k 2).1.items, s.size ≤ 60) := by
  unfold lookK at h ⊢
  cases hf : findE T k with
  | none => exact ⟨Nat.zero_le 24, Nat.zero_le 60, fun s hs => by cases hs⟩
  | some v =>
    simp only [hf] at h ⊢
    by_cases hk : v.kind = 2
    · simp only [hk, if_pos]
      obtain ⟨-, -, -, h3⟩ := tab_all hT _ ((findE_iff (tab_pw hT) k v).1 hf)
      rcases h3 with ⟨h4, -⟩ | ⟨-, h4, h5⟩ | ⟨h4, -⟩ | ⟨h4, -⟩
      · simp only at h4; omega
      · exact ⟨h5.2.1, by simp only at h4; omega, h5.2.2⟩
      all_goals (simp only at h4; omega)
    · rw [if_neg hk] at h
      cases h
theorem box_items {W : World} {q : Nat} {k u t x x2 : Value} {ty : TypeId} (h : W.heap[q]? = some (.cells #[k, u, t, x] ty (0, 0))) : (W.setCell ⟨q, 3, none⟩ x2).heap[q]? = some (.cells #[k, u, t, x2] ty (0, 0)) := (heap_setCell_same W q 3 _ ty _ h).trans rfl
theorem workL_box {w : World} {B b : Nat} {T : List EntD} (h : WorkE 69 w B b T 1) : B ≤ b ∧ ∃ v x, BoxL w b v x ∧ BuildE w B v T := by
  obtain ⟨h1, v, E, hE, h2, h3⟩ := h
  match E, hE with
  | [x], _ => exact ⟨h1, v, x, h2, h3⟩
theorem workL_of {w : World} {B b : Nat} {T : List EntD} {v x : Value} (h1 : B ≤ b) (h2 : BoxL w b v x) (h3 : BuildE w B v T) : WorkS 69 w B b T := ⟨h1, v, [x], h2, h3⟩
theorem buildE_boxL {w w' : World} {B b : Nat} {T : List EntD} {v v0 x0 : Value} (h : BuildE w B v T) (hb : BoxL w b v0 x0) (hk : ∀ k, k < w.heap.size → k ≠ b → w'.heap[k]? = w.heap[k]?) : BuildE w' B v T :=
  buildE_box h (fun g C t hg ht => hk g (obj_lt hg) (fun e => by
    unfold BoxL at hb
    rw [e, hb] at hg
    simp at hg
    rcases ht with ht | ht
    · rw [ht] at hg; exact absurd hg.2 (by decide)
    · rw [ht] at hg; exact absurd hg.2 (by decide)))
theorem pushA_any (T : List EntD) (key : ByteArray) (M : List ByteArray) (am : Option Addr) (cm : Nat) (w0 w : World) (b : Nat) (hT : TabR T) (hW : WorkE 69 w w0.heap.size b T 1) (hv : RVars w0) (h0 : Below w0.heap.size w0 w) (hk : key.size ≤ 1048576)
    (hM : TextsAt w0 am M) (hM0 : 0 < M.length) (hm : M.length ≤ 1000000) (hmz : ∀ x ∈ M, x.size ≤ 1048576) :
    Calls Tryz.prog 79 #[.pointer (some ⟨b, 0, none⟩), .string key, .slice am M.length cm, .func (.func 80) #[.pointer (some ⟨b, 1, none⟩)] #[]] w (DoP 69 w0.heap.size b w (pushF T key (fun L => M.reverse ++ L)).1 (pushF T key (fun L => M.reverse ++ L)).2.1 (pushF T key (fun L => M.reverse ++ L)).2.2) := by
  have HT := hide hT
  have HM := hide hM
  have HLT := hide (look_list hT key)
  have HF := hide (findC_any T key 2 w w0.heap.size b 69 hT (workE_S hW))
  have HWS := hide (fun W (h : Below w.heap.size w W) => workS_below (workE_S hW) h)
  have HN := hide (fun (n : Int) W (h1 : -9223372036854775808 ≤ n) (h2 : n ≤ 9223372036854775807) (h : Below w0.heap.size w0 W) => implNumber_any n W h1 h2 (rvars_below hv h).pow)
  have hw0 := h0.size
  have H0 := hide h0
  have HG : Hid (pushF T key (fun L => M.reverse ++ L) = match (lookK T key 2).2.2 with
    | some e => (⟨#[]⟩, some e, T)
    | none => (hdB ⟨#[58]⟩ (M.reverse ++ (lookK T key 2).1.items).length, putErr (putT T key ⟨(lookK T key 2).1.kind, (lookK T key 2).1.til, (lookK T key 2).1.text, M.reverse ++ (lookK T key 2).1.items⟩), putT T key ⟨(lookK T key 2).1.kind, (lookK T key 2).1.til, (lookK T key 2).1.text, M.reverse ++ (lookK T key 2).1.items⟩)) := rfl
  obtain ⟨hBb, v0, x0, hb0, hbuild⟩ := workL_box hW
  have HB0 := hide hb0
  have HBU := hide hbuild
  have HMZ := hide hmz
  clear hT hW hv h0 hM hb0 hbuild hmz
  generalize pushF T key (fun L => M.reverse ++ L) = G at HG ⊢
  generalize lookK T key 2 = r at HF HG HLT
  obtain ⟨⟨k, u, t, ts⟩, th, er⟩ := r
  simp only [valC] at HF HG HLT
  cases er with
  | some y =>
    have hG := HG.out
    simp only at hG
    subst hG
    simp only [errV] at HF
    go_enter Tryz.func79, Tryz.ntmps79
    go_wp2_with fail
    refine HF.out.mono ?_
    rintro e w1 ⟨⟨a1, c1, rfl, -⟩, b1⟩
    have B2 := hide (b1.alloc b1.size (.cells #[.int .i64 k, .int .i64 u, .string t, .slice a1 ts.length c1] 38))
    have W2 := hide (HWS.out _ B2.out)
    clear b1
    go_wp2
    go_ret2
    exact ⟨rfl, W2.out, B2.out.mono hw0⟩
  | none =>
    have hG := HG.out
    simp only at hG
    obtain ⟨hts24, ht60, htsz⟩ := HLT.out rfl
    obtain ⟨L2, HL2⟩ : ∃ L2, Hid (M.reverse ++ ts = L2) := ⟨_, hide rfl⟩
    have hL2 : L2.length ≤ 1000024 := by rw [← HL2.out]; simp; omega
    have hL2z : ∀ s ∈ L2, s.size ≤ 1048576 := fun s hs => by
      rw [← HL2.out] at hs
      rcases List.mem_append.1 hs with hs | hs
      · exact HMZ.out s (List.mem_reverse.1 hs)
      · have := htsz s hs; omega
    rw [HL2.out] at hG
    clear HG htsz HLT HMZ
    subst hG
    have HP := hide (fun W a c (hta : TextsAt W a L2) (hT2 : WorkS 69 W w0.heap.size b T) (hB : w0.heap.size ≤ W.heap.size) => put_any T ⟨key, k, u, t, L2⟩ a c W w0.heap.size b 69 (by decide) (by decide) HT.out ⟨hk, by show t.size ≤ 1048576; omega, by show L2.length ≤ 1048576; omega, hL2z⟩ hta hT2 hB)
    simp only at HP
    simp only [errV] at HF
    go_enter Tryz.func79, Tryz.ntmps79
    go_wp2_with fail
    refine HF.out.mono ?_
    rintro e w1 ⟨⟨a1, c1, rfl, r1⟩, b1⟩
    have B1 := hide b1
    have R1 := hide r1
    clear b1 r1
    go_upto_region 2 with fail
    obtain ⟨wB, hwB⟩ : ∃ wB, wB = w1.alloc (.cells #[.int .i64 k, .int .i64 u, .string t, .slice a1 ts.length c1] 38) := ⟨_, rfl⟩
    rw [← hwB]
    have BB : Hid (Below w1.heap.size w1 wB) := by rw [hwB]; exact (Below.refl _ w1).alloc (Nat.le_refl _) _
    have PB : Hid (wB.heap[w1.heap.size]? = some (.cells #[.int .i64 k, .int .i64 u, .string t, .slice a1 ts.length c1] 38 (0, 0))) := by rw [hwB]; exact heap_alloc_new _ _
    clear hwB
    have hq := B1.out.size
    have hBBs := BB.out.size
    obtain ⟨y0, y1, y2, y3⟩ := box4w PB.out
    have hbw : b < w.heap.size := obj_lt HB0.out
    have BwB := hide (B1.out.trans (BB.out.mono hq))
    have XB := hide (boxL_below HB0.out BwB.out)
    obtain ⟨z1, z2⟩ := boxL_cells XB.out
    obtain ⟨wC, hwC⟩ : ∃ wC, wC = wB.setCell ⟨b, 1, none⟩ (.slice a1 ts.length c1) := ⟨_, rfl⟩
    have XC : Hid (BoxL wC b v0 (.slice a1 ts.length c1)) := by rw [hwC]; exact boxL_set XB.out _
    have BC : Hid (Below w0.heap.size w wC) := by rw [hwC]; exact (BwB.out.mono hw0).setCell (p := ⟨b, 1, none⟩) hBb _
    have KC : Hid (∀ j, j < wB.heap.size → j ≠ b → wC.heap[j]? = wB.heap[j]?) := by rw [hwC]; exact fun j _ hj => Below.heap_setCell _ _ _ _ (fun e => hj e)
    have TC : Hid (TextsAt wC a1 ts) := by
      have h1 := rowTextC_below R1.out BB.out
      have h2 := rowTextC_keep (w' := wC) h1 (fun g hg => KC.out g (rowTextC_lt h1 g hg).2 (fun e => by have := (rowTextC_lt R1.out g hg).1; omega))
      exact rowText_rows h2.1
    have UC := hide (buildE_boxL (buildE_below HBU.out BwB.out) XB.out KC.out)
    have hCs : wC.heap.size = wB.heap.size := by rw [hwC]; simp [World.setCell]
    have PC := hide ((KC.out _ (obj_lt PB.out) (by omega)).trans PB.out)
    have HPU := hide (putAhead_any wC b v0 ts M a1 am c1 cm XC.out TC.out (textsAt_keep HM.out (H0.out.trans BC.out)) hM0 (by omega) hm)
    go_upto_region 5 with fail
    rw [← hwC]
    clear hwC y0 y1 y2 y3 z1 z2 TC KC XB R1
    go_wp2_with fail
    refine HPU.out.mono ?_
    rintro e w5 ⟨rfl, a5, c5, x5, r5, g5⟩
    rw [HL2.out] at x5 r5
    have X5 := hide x5
    have R5 := hide r5
    have G5 := hide g5
    clear x5 r5 g5 HPU
    have P5 := hide ((G5.out.block _ (obj_lt PC.out) (fun e => by have := Option.some.inj e; omega)).trans PC.out)
    have U5 := hide (buildE_boxL UC.out XC.out (fun j hj hne => G5.out.block j hj (fun e => hne (Option.some.inj e))))
    have B5 : Hid (Below w0.heap.size w w5) := BC.out.grown G5.out (Nat.le_trans hw0 BC.out.size) (fun j hj => by cases hj; exact hBb)
    have hs5 : wC.heap.size ≤ w5.heap.size := G5.out.size
    obtain ⟨z1, z2⟩ := boxL_cells X5.out
    obtain ⟨y0, y1, y2, y3⟩ := box4w P5.out
    obtain ⟨f0, f1, f2, f3⟩ := box4f P5.out
    obtain ⟨w6, hw6⟩ : ∃ w6, w6 = w5.setCell ⟨w1.heap.size, 3, none⟩ (.slice a5 L2.length c5) := ⟨_, rfl⟩
    have P6 : Hid (w6.heap[w1.heap.size]? = some (.cells #[.int .i64 k, .int .i64 u, .string t, .slice a5 L2.length c5] 38 (0, 0))) := by rw [hw6]; exact box_items P5.out
    have K6 : Hid (∀ j, j ≠ w1.heap.size → w6.heap[j]? = w5.heap[j]?) := by rw [hw6]; exact fun j hj => Below.heap_setCell _ _ _ _ (fun e => hj e)
    have B6 : Hid (Below w0.heap.size w w6) := by rw [hw6]; exact B5.out.setCell (p := ⟨w1.heap.size, 3, none⟩) (Nat.le_trans hw0 hq) _
    have hP1 := obj_lt P5.out
    have hbl := obj_lt PC.out
    have T6 : Hid (TextsAt w6 a5 L2) := by
      have h2 := rowTextC_keep (w' := w6) R5.out (fun g hg => K6.out g (fun e => by have := (rowTextC_lt R5.out g hg).1; omega))
      exact rowText_rows h2.1
    have S6 : Hid (WorkS 69 w6 w0.heap.size b T) := by
      refine workL_of hBb ((K6.out b (by omega)).trans X5.out) (buildE_box U5.out (fun g C t hg ht => K6.out g (fun e => ?_)))
      rw [e, P5.out] at hg
      simp at hg
      rcases ht with ht | ht
      · rw [ht] at hg; exact absurd hg.2 (by decide)
      · rw [ht] at hg; exact absurd hg.2 (by decide)
    go_upto_region 7 with fail
    rw [← hw6]
    clear hw6 z1 z2 y0 y1 y2 y3 f0 f1 f2 f3
    have KQ := hide (fun X (hX : Below w6.heap.size w6 X) => box4w ((hX.block _ (obj_lt P6.out)).trans P6.out))
    have hs6 : w0.heap.size ≤ w6.heap.size := Nat.le_trans hw0 B6.out.size
    obtain ⟨x0, x1, x2, x3⟩ := KQ.out _ (Below.refl _ _)
    go_region_law (first | (go_simp; go_at_call 114; go_loud (refine (HN.out (L2.length : Int) _ (by omega) (by omega) (H0.out.trans (B6.out.trans ((Below.refl _ w6).drew.mono hs6)))).mono ?_; rintro e w7 ⟨rfl, b7⟩; have E7 : Hid (Below w6.heap.size w6 w7) := (Below.refl _ w6).drew.trans b7; obtain ⟨q0, q1, q2, q3⟩ := KQ.out _ E7.out; clear b7)) | (go_simp; go_at_call 112; go_loud (refine (HP.out _ _ _ (textsAt_keep T6.out E7.out) (workS_below S6.out E7.out) (Nat.le_trans hs6 E7.out.size)).mono ?_; rintro e w8 ⟨rfl, s8, b8⟩; have W8 := hide s8; have B8 := hide ((B6.out.trans (E7.out.mono hs6)).trans b8); clear s8 b8)))
    all_goals go_wp2
    all_goals go_ret2
    all_goals exact ⟨rfl, W8.out, B8.out⟩
end Go.Proofs.YtifjneldjjmeaaaGreatDoor
