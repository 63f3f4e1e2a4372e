import Derived.Test.YtdefipahgpljeaaDoorRq5
import Derived.Test.YtdefipahgpljeaaDoorRq2
import Derived.Test.YtdefipahgpljeaaDoorRq0
set_option maxRecDepth 100000
set_option maxHeartbeats 4000000
namespace Go.Proofs.YtdefipahgpljeaaDoor
open Go.RowKit
theorem extract_all (s : ByteArray) : s.extract 0 s.size = s := by
  apply ByteArray.ext
  apply Array.toList_inj.1
  rw [Lib.extract_data]
  simp
  exact List.take_of_length_le (by rw [Array.length_toList]; exact Nat.le_refl _)
theorem back_text (x : ByteArray) : (⟨x.data.toList.toArray⟩ : ByteArray) = x := by cases x; simp
theorem cut_from0 (s : ByteArray) : ∀ W : World, (Instr.slice 9 (.string s) (some (.int .i64 0)) none none).run Tryd.prog W = .ok (.string s) W := by
  intro W
  rw [run_slice_string_from_if W 9 s .i64 0 Tryd.underlying9, if_pos ⟨by omega, by omega⟩]
  rw [show (0 : Int).toNat = 0 from rfl, extract_all]
def MaxL (w : World) (m : Int) : Prop := w.cell? ⟨1, 0, none⟩ = some (.int .i64 m) ∧ 1 < w.heap.size
theorem maxL_of {w : World} {m : Int} (h : w.cell? ⟨1, 0, none⟩ = some (.int .i64 m)) : MaxL w m := by
  refine ⟨h, ?_⟩
  rcases Nat.lt_or_ge 1 w.heap.size with h' | h'
  · exact h'
  · simp [World.cell?, Array.getElem?_eq_none h'] at h
theorem maxL_below {w w' : World} {m : Int} {B : Nat} (h : MaxL w m) (hB : 1 < B) (hb : Below B w w') : MaxL w' m := ⟨(hb.cell (p := ⟨1, 0, none⟩) hB).trans h.1, Nat.lt_of_lt_of_le h.2 hb.size⟩
theorem takeLine_any (w0 w : World) (g : Nat) (s : ByteArray) (m : Int) (v : Value) (L : List ByteArray) (hz : s.size ≤ 1048576) (hm : MaxL w m) (h : PS w0 w g s 0 v L) :
    Calls Tryd.prog 45 #[.pointer (some ⟨g, 0, none⟩), .string ⟨#[10]⟩] w fun e w' => e = .returned (.tuple #[.string (s.extract 0 (lfE s)), .bool (decide (lfE s < s.size))]) ∧ PS w0 w' g s (if lfE s < s.size then lfE s + 1 else 0) v L := by
  have HP := hide h
  obtain ⟨hc0, hc1, hc2, hf1, hf2⟩ := prs_cells h.prs
  clear h
  have hle := lfE_le s
  obtain ⟨R, HC⟩ : ∃ R : ByteArray, Hid (∀ q, Calls Tryd.prog 56 #[.string s, .string ⟨#[10]⟩] (w.drewN q) fun e w' => e = .returned (.tuple #[.string (s.extract 0 (lfE s)), .string R, .bool (decide (lfE s < s.size))]) ∧ ∃ n, w' = (w.drewN q).drewN n) := by
    refine ⟨⟨(Lib.cut s.data.toList [10]).2.1.toArray⟩, fun q => ?_⟩
    refine (Tryd.strings_Cut s ⟨#[10]⟩ m (w.drewN q) (by omega) hm.1).mono ?_
    rintro e w' ⟨rfl, n, rfl⟩
    have hl := lf_cut s
    refine ⟨?_, n, rfl⟩
    rw [show (⟨#[10]⟩ : ByteArray).data.toList = [10] from rfl, hl]
    by_cases h : lfE s < s.size
    · rw [if_pos h]
      simp only [decide_eq_true h, back_text]
    · have e : lfE s = s.size := by omega
      rw [if_neg h]
      simp only [decide_eq_false h, back_text]
      rw [e, extract_all]
  have hcut := cut_from0 s
  obtain ⟨T, hT, hTz⟩ : ∃ T : ByteArray, Hid (s.extract 0 (lfE s) = T) ∧ T.size = lfE s := ⟨_, rfl, by rw [ByteArray.size_extract]; omega⟩
  rw [hT.out] at HC ⊢
  have HTz := hide hTz
  clear hTz
  by_cases h1 : lfE s < s.size
  · rw [if_pos h1]
    rw [decide_eq_true h1] at HC ⊢
    have hlen : T.size ≤ 1048576 := by have := HTz.out; omega
    have hz1 := hide h1
    clear h1
    go_enter Tryd.func45, Tryd.ntmps45
    go_wp2_with fail
    go_quiet ((go_at_call 56; exact Calls.quiet_of (HC.out _)))
    obtain ⟨w2, hw2⟩ : ∃ w2, w.drewN nq = w2 := ⟨_, rfl⟩
    rw [hw2]
    have HP2 : Hid (PS w0 w2 g s 0 v L) := by rw [← hw2]; exact ps_drew HP.out _
    clear hw2 hc0 hc1 hc2 hf1 hf2
    obtain ⟨hc0, hc1, hc2, hf1, hf2⟩ := prs_cells HP2.out.prs
    go_wp2
    go_ret2
    exact ⟨rfl, ps_at HP2.out (lfE s + 1) _ (by have := HTz.out; omega)⟩
  · rw [if_neg h1]
    rw [decide_eq_false h1] at HC ⊢
    go_enter Tryd.func45, Tryd.ntmps45
    go_wp2_with fail
    go_quiet ((go_at_call 56; exact Calls.quiet_of (HC.out _)))
    go_wp2
    go_ret2
    exact ⟨rfl, ps_drew HP.out _⟩
def okTs (ts : List ByteArray) : Bool := decide (ts.length ≤ 8) && ts.all (fun x => decide (x.size ≤ 60))
theorem argsOk_any (ts : List ByteArray) (ao : Option Addr) (cap : Nat) (w : World) (hl : ts.length ≤ 1048576) (hts : TextsAt w ao ts) (hz : ∀ x ∈ ts, x.size ≤ 1048576) :
    Calls Tryd.prog 18 #[.slice ao ts.length cap] w fun e w' => e = .returned (.bool (okTs ts)) ∧ w' = w := by
  have HT := hide hts
  have HZ := hide hz
  clear hts hz
  by_cases h8 : 8 < ts.length
  · have h8' : decide (8 < (ts.length : Int)) = true := by simp; omega
    have hR : Hid (okTs ts = false) := by show _ = _; unfold okTs; rw [decide_eq_false (by omega)]; rfl
    go_enter Tryd.func18, Tryd.ntmps18
    go_wp2
    go_ret
    rw [hR.out]
    exact ⟨rfl, rfl⟩
  · have h8' : decide (8 < (ts.length : Int)) = false := by simp; omega
    have hR : Hid (okTs ts = ts.all (fun x => decide (x.size ≤ 60))) := by show _ = _; unfold okTs; rw [decide_eq_true (by omega)]; rfl
    go_enter Tryd.func18, Tryd.ntmps18
    go_wp2
    go_loop [10] (fun ii => ∃ k : Nat, k ≤ ts.length ∧ ii = .int .i64 k ∧ Hid (∀ j (hj : j < ts.length), j < k → ts[j].size ≤ 60)) (fun ii => ts.length - (intOf ii).toNat)
    case atStart => exact ⟨0, Nat.zero_le _, rfl, fun j _ hj => absurd hj (by omega)⟩
    case round =>
      obtain ⟨k, hk, rfl, HS⟩ := hrel
      by_cases hlt : k < ts.length
      · obtain ⟨b, off, hao, hbw, hcell⟩ := HT.out k hlt
        subst hao
        have hi0 : (0 : Int) ≤ (k : Int) := by omega
        have hi1 : (k : Int) < (ts.length : Int) := by omega
        have hxz := HZ.out ts[k] (List.getElem_mem hlt)
        obtain ⟨x, hx⟩ : ∃ x, Hid (ts[k] = x) := ⟨ts[k], rfl⟩
        rw [hx.out] at hcell hxz
        by_cases h60 : 60 < x.size
        · have h60' : decide (60 < (x.size : Int)) = true := by simp; omega
          have hno : Hid (okTs ts = false) := by
            show _ = _
            rw [hR.out, List.all_eq_false]
            exact ⟨ts[k], List.getElem_mem hlt, by rw [hx.out]; simp; omega⟩
          go_wp2
          go_ret
          rw [hno.out]
          exact ⟨rfl, rfl⟩
        · have h60' : decide (60 < (x.size : Int)) = false := by simp; omega
          go_wp2
          go_round
          case rel =>
            refine ⟨k + 1, by omega, by go_num, fun j hj hjk => ?_⟩
            by_cases e : j = k
            · subst e; rw [hx.out]; omega
            · exact HS.out j hj (by omega)
          case measure => simp [intOf]; omega
      · have hyes : Hid (okTs ts = true) := by
          show _ = _
          rw [hR.out, List.all_eq_true]
          intro x hx
          obtain ⟨j, hj, rfl⟩ := List.mem_iff_getElem.1 hx
          exact decide_eq_true (HS.out j hj (by omega))
        go_wp2
        go_ret
        rw [hyes.out]
        exact ⟨rfl, rfl⟩
def kept (ps : List ByteArray) (k : Nat) : List (List UInt8) := ((ps.take k).map (·.data.toList)).filter (fun x => !x.isEmpty)
theorem kept_yes (ps : List ByteArray) (k : Nat) (p : ByteArray) (h : ps[k]? = some p) (hne : p.data.toList.isEmpty = false) : kept ps (k + 1) = kept ps k ++ [p.data.toList] := by
  unfold kept
  have hk : k < ps.length := (List.getElem?_eq_some_iff.1 h).1
  have e : ps[k] = p := (List.getElem?_eq_some_iff.1 h).2
  rw [List.take_succ_eq_append_getElem hk, List.map_append, List.filter_append, e]
  congr 1
  simp only [List.map_cons, List.map_nil, List.filter_cons, hne, Bool.not_false, if_true, List.filter_nil]
theorem kept_no (ps : List ByteArray) (k : Nat) (p : ByteArray) (h : ps[k]? = some p) (he : p.data.toList.isEmpty = true) : kept ps (k + 1) = kept ps k := by
  unfold kept
  have hk : k < ps.length := (List.getElem?_eq_some_iff.1 h).1
  have e : ps[k] = p := (List.getElem?_eq_some_iff.1 h).2
  rw [List.take_succ_eq_append_getElem hk, List.map_append, List.filter_append, e]
  simp only [List.map_cons, List.map_nil, List.filter_cons, he, Bool.not_true, Bool.false_eq_true, if_false, List.filter_nil, List.append_nil]
theorem kept_le (ps : List ByteArray) (k : Nat) : (kept ps k).length ≤ k := by
  unfold kept
  refine Nat.le_trans (List.length_filter_le _ _) ?_
  simp
  omega
theorem splitB_size (sep : ByteArray) : ∀ (k : Nat) (s : ByteArray), ∀ p ∈ Lib.splitB sep 0 k s, p.size ≤ s.size
  | 0, s, p, h => by simp [Lib.splitB] at h; subst h; exact Nat.le_refl _
  | k + 1, s, p, h => by
    unfold Lib.splitB at h
    split at h
    · simp at h; subst h; exact Nat.le_refl _
    · rcases List.mem_cons.1 h with h | h
      · subst h; simp only [ByteArray.size_extract]; omega
      · have := splitB_size sep k _ p h
        simp only [ByteArray.size_extract] at this
        omega
theorem split_any (s : ByteArray) (m : Int) (w : World) (h : s.size ≤ 600) (hm : MaxL w m) :
    Calls Tryd.prog 46 #[.string s, .string ⟨#[32]⟩] w fun e w' => ∃ ps : List ByteArray, e = .returned (.slice (some ⟨w.heap.size, 0, none⟩) ps.length ps.length) ∧ w' = w.alloc (.cells (ps.map Value.string).toArray 9) ∧
      Hid (kept ps ps.length = Wd.words s) ∧ Hid (∀ p ∈ ps, p.size ≤ 600) ∧ ps.length ≤ 601 := by
  refine (Tryd.strings_Split s ⟨#[32]⟩ m w (by omega) hm.1 (by decide)).mono ?_
  rintro e w' ⟨he, hw⟩
  have hl := Lib.splitB_all ⟨#[32]⟩ (by decide) 0 (Lib.countB s ⟨#[32]⟩) s rfl
  refine ⟨_, by rw [hl]; exact he, hw, ?_, ?_, ?_⟩
  · show kept _ _ = _
    unfold kept
    rw [List.take_length, ← Wd.words_of_split]
  · intro p hp
    have := splitB_size _ _ _ p hp
    omega
  · have := Lib.countB_le ⟨#[32]⟩ (by decide) s.size s (Nat.le_refl _)
    omega
theorem piece_cell (w : World) (ps : List ByteArray) (k : Nat) (p : ByteArray) (h : ps[k]? = some p) : (w.alloc (.cells (ps.map Value.string).toArray 9)).cell? ⟨w.heap.size, k, none⟩ = some (.string p) := by
  refine (World.cell?_alloc_mark w (ps.map Value.string).toArray 9 (0, 0) k).trans ?_
  simp [h]
theorem trim_any (s : ByteArray) (w : World) (hz : s.size ≤ 1048576) :
    Calls Tryd.prog 47 #[.string (s.extract 0 (lfE s)), .string ⟨#[13]⟩] w fun e w' => e = .returned (.string (lineTx s)) ∧ w' = w := by
  have hle := lfE_le s
  have hTz : (s.extract 0 (lfE s)).size ≤ 9223372036854775807 := by rw [ByteArray.size_extract]; omega
  refine (Tryd.strings_TrimSuffix (s.extract 0 (lfE s)) ⟨#[13]⟩ w hTz).mono ?_
  rintro e w' ⟨rfl, rfl⟩
  refine ⟨?_, rfl⟩
  rw [show (⟨#[13]⟩ : ByteArray).data.toList = [13] from rfl]
  unfold Lib.trimSuffix lineTx
  by_cases h : Lib.hasSuffix (s.extract 0 (lfE s)).data.toList [13] = true
  · rw [if_pos h, if_pos h]
    generalize s.extract 0 (lfE s) = T
    congr 2
    apply ByteArray.ext
    apply Array.toList_inj.1
    rw [Lib.extract_data]
    have e : T.data.toList.length = T.size := Array.length_toList
    simp [e]
  · rw [if_neg h, if_neg h, back_text]
theorem okTs_words (l : List (List UInt8)) : okTs (l.map tx) = (decide (l.length ≤ 8) && l.all (fun x => decide (x.length ≤ 60))) := by
  unfold okTs
  rw [List.length_map, List.all_map]
  rfl
theorem grown_step {a b c : World} {r : Option Nat} (h : a.grownBy b r) (hb : Below a.heap.size b c) : a.grownBy c r :=
  ⟨hb.os.trans h.os, hb.tape.trans h.tape, hb.output.trans h.output, Nat.le_trans h.size hb.size, fun k hk hr => (hb.block k hk).trans (h.block k hk hr)⟩
theorem kept_mem {ps : List ByteArray} {k : Nat} {x : List UInt8} (h : x ∈ kept ps k) : ∃ p ∈ ps, x = p.data.toList := by
  unfold kept at h
  rw [List.mem_filter, List.mem_map] at h
  obtain ⟨⟨p, hp, rfl⟩, -⟩ := h
  exact ⟨p, List.mem_of_mem_take hp, rfl⟩
theorem line_any (w0 w : World) (g : Nat) (s : ByteArray) (m : Int) (hz : s.size ≤ 1048576) (hm : MaxL w0 m) (h : PS w0 w g s 0 (.slice none 0 0) []) :
    Calls Tryd.prog 35 #[.pointer (some ⟨g, 0, none⟩)] w fun e w' => e = .returned (.int .i64 ((lineRq s).1 : Int)) ∧ Below w0.heap.size w0 w' ∧ ((lineRq s).1 = 1 → ∃ v', PS w0 w' g s (lineRq s).2.1 v' (lineRq s).2.2) := by
  have HM := hide hm
  have hle := lfE_le s
  have HT := hide (takeLine_any w0 w g s m (.slice none 0 0) [] hz (maxL_below hm hm.2 h.bel) h)
  clear h hm
  obtain ⟨n, hn⟩ : ∃ n, Hid (lfE s = n) := ⟨_, rfl⟩
  have HTR := hide (fun W => trim_any s W hz)
  have hTz : Hid ((s.extract 0 (lfE s)).size = n) := by show _ = _; rw [ByteArray.size_extract, ← hn.out]; omega
  have hLz : (lineTx s).size ≤ n := by have := lineTx_size s; rw [hn.out] at this; exact this
  have HQ : Hid (lineRq s = if 80 < n then (2, 0, []) else if s.size ≤ n then (0, 0, []) else if lineOk s = true then (1, n + 1, (lineWs s).map tx) else (2, 0, [])) := by show _ = _; unfold lineRq; rw [hn.out]
  rw [hn.out] at HT hle HTR hTz
  obtain ⟨T, hT⟩ : ∃ T, Hid (s.extract 0 n = T) := ⟨_, rfl⟩
  rw [hT.out] at HT HTR hTz
  have hTz' := hTz.out
  have hTn : T.size ≤ 1048576 := by omega
  clear hTz'
  by_cases h80 : 80 < n
  · have h80' : decide (80 < (T.size : Int)) = true := by have := hTz.out; simp; omega
    have hR : Hid (lineRq s = (2, 0, [])) := by show _ = _; rw [HQ.out, if_pos h80]
    go_enter Tryd.func35, Tryd.ntmps35
    go_wp2_with fail
    refine (HT.out).mono ?_
    rintro e w1 ⟨rfl, hp1⟩
    have HP1 := hide hp1
    clear hp1
    go_wp2
    go_ret
    rw [hR.out]
    exact ⟨rfl, HP1.out.bel, fun h => by cases h⟩
  have h80' : decide (80 < (T.size : Int)) = false := by have := hTz.out; simp; omega
  by_cases hen : n < s.size
  · rw [decide_eq_true hen, if_pos hen] at HT
    have hQ2 : Hid (lineRq s = if lineOk s = true then (1, n + 1, (lineWs s).map tx) else (2, 0, [])) := by show _ = _; rw [HQ.out, if_neg h80, if_neg (by omega)]
    clear HQ
    go_enter Tryd.func35, Tryd.ntmps35
    go_wp2_with fail
    refine (HT.out).mono ?_
    rintro e w1 ⟨rfl, hp1⟩
    have HP1 := hide hp1
    clear hp1
    have HM1 := hide (maxL_below HM.out HM.out.2 HP1.out.bel)
    go_wp2_with fail
    refine (HTR.out _).mono ?_
    rintro e w1' ⟨rfl, hw1'⟩
    rw [hw1']
    clear hw1' w1'
    go_wp2_with fail
    refine (split_any (lineTx s) m w1 (by omega) HM1.out).mono ?_
    rintro e wS ⟨ps, rfl, hwS, HK, HZ, hpl⟩
    have hgw1 := prs_lt HP1.out.prs
    have hbS : Hid (Below w1.heap.size w1 wS) := by rw [hwS]; exact (Below.refl _ _).alloc (Nat.le_refl _) _
    have hsS : Hid (wS.heap.size = w1.heap.size + 1) := by show _ = _; rw [hwS]; simp
    have HC : Hid (∀ k p, ps[k]? = some p → wS.cell? ⟨w1.heap.size, k, none⟩ = some (.string p)) := by intro k p hp; rw [hwS]; exact piece_cell w1 ps k p hp
    have HPS := hide (ps_below HP1.out hbS.out)
    clear hwS
    have hgS : g < wS.heap.size := by have := hsS.out; omega
    go_wp2_with fail
    go_loopw [23] (fun ii wr => ∃ (k : Nat) (v : Value), k ≤ ps.length ∧ ii = .int .i64 k ∧ Hid (Prs wr g s (n + 1) v) ∧ Hid (wr.ownsRow wS.heap.size 9 1 v ((kept ps k).map tx).length (((kept ps k).map tx).map Value.string)) ∧ Hid (wS.grownBy wr (some g))) (fun ii _ => ps.length - (intOf ii).toNat)
    case atStart => exact ⟨0, _, Nat.zero_le _, rfl, HPS.out.prs, World.ownsRow_nil _ _ _ _, World.grownBy.refl _ _⟩
    case round =>
      obtain ⟨k, v, hk, rfl, HPr, HOwn, HG⟩ := hrel
      have hgw := prs_lt HPr.out
      have hBw : wS.heap.size ≤ wr.heap.size := HG.out.size
      have hkl := kept_le ps k
      obtain ⟨L, hL, hLl⟩ : ∃ L, Hid ((kept ps k).map tx = L) ∧ L.length ≤ k := ⟨_, rfl, by rw [List.length_map]; exact hkl⟩
      rw [hL.out] at HOwn
      by_cases hlt : k < ps.length
      · obtain ⟨p, hpk⟩ : ∃ p, ps[k]? = some p := ⟨_, List.getElem?_eq_getElem hlt⟩
        have hcell : wr.cell? ⟨w1.heap.size, k, none⟩ = some (.string p) := by
          have h1 := HC.out k p hpk
          have h2 : wr.heap[w1.heap.size]? = wS.heap[w1.heap.size]? := HG.out.block _ (by have := hsS.out; omega) (by intro e; injection e; omega)
          simp only [World.cell?, h2] at h1 ⊢
          exact h1
        have hpz : p.size ≤ 1048576 := by have := HZ.out p (List.mem_of_getElem? hpk); omega
        have HPK := hide hpk
        have hi0 : (0 : Int) ≤ (k : Int) := by omega
        have hi1 : (k : Int) < (ps.length : Int) := by omega
        clear hpk
        by_cases he : p.toList.isEmpty = true
        · have hkn := hide (kept_no ps k p HPK.out (by rw [← ByteArray.toList_eq]; exact he))
          go_wp2_with fail
          go_roundw
          case rel =>
            refine ⟨k + 1, v, by omega, by go_num, HPr, ?_, HG⟩
            rw [hkn.out, hL.out]
            exact HOwn
          case measure => simp [intOf]; omega
        · have he' : p.toList.isEmpty = false := by simpa using he
          clear he
          have hkn := hide (kept_yes ps k p HPK.out (by rw [← ByteArray.toList_eq]; exact he'))
          obtain ⟨-, -, hc2, -, hf2⟩ := prs_cells HPr.out
          have hgB := hgS
          go_wp2_with fail
          go_region_law ((first | (refine step_app_txt _ (wS.heap.size) (by rfl) _ _ (by rfl) _ (L) p (by rfl) (HO4.out.alloc _) w4.heap.size (by simp [Act.eval]) (heap_alloc_new w4 _) (by omega) hB4 ?_; intro g3 cap3 w3 hown3 hb3 hgr3 hg3 hgl3; have hn0 : Prs w3 g s (n + 1) v := (hb3.block g hgB).trans ((((Below.refl _ w4).alloc (Nat.le_refl _) _).block g hg4).trans HP4.out); obtain ⟨-, -, hn2, -, hn3⟩ := prs_cells hn0; have HN0 := hide hn0; have HO3 := hide hown3; have HB3 := hide ((B4.out.mono hBw).trans (((Below.refl _ w4).alloc (Nat.le_trans hBw B4.out.size) _).trans hb3)); clear hn0 hown3 hb3 hgr3) | (go_simp; go_at_call 48; refine (ownText_any p _ hpz).mono ?_; rintro e w4 ⟨rfl, b4⟩; have B4 : Hid (Below wr.heap.size wr w4) := (Below.refl _ wr).drew.trans b4; have hg4 : g < w4.heap.size := Nat.lt_of_lt_of_le hgw B4.out.size; have HP4 : Hid (Prs w4 g s (n + 1) v) := (B4.out.block g hgw).trans HPr.out; have hall0 : w4.cell? ⟨g, 2, none⟩ = some v := (prs_cells HP4.out).2.2.1; have hall : (w4.alloc (.cells #[.string p] 9)).cell? ⟨g, 2, none⟩ = some v := (((Below.refl _ w4).alloc (Nat.le_refl _) _).cell (p := ⟨g, 2, none⟩) hg4).trans hall0; have HO4 := hide (ownsRow_below HOwn.out B4.out); have hB4 : wS.heap.size ≤ (w4.alloc (.cells #[.string p] 9)).heap.size := Nat.le_trans hBw (Nat.le_trans B4.out.size (by simp)); clear b4)))
          all_goals
            go_wp2_with fail
            go_roundw
            case rel =>
              refine ⟨k + 1, _, by omega, by go_num, prs_put HN0.out _, ?_, grownBy_store (grown_step HG.out HB3.out) 2 _⟩
              rw [hkn.out, List.map_append, hL.out]
              show Hid (World.ownsRow _ _ _ _ _ (L ++ [tx p.data.toList]).length ((L ++ [tx p.data.toList]).map Value.string))
              rw [show tx p.data.toList = p from back_text p]
              exact own_put HO3.out hgB
            case measure => simp [intOf]; omega
      · have hke : k = ps.length := by omega
        have hLw : Hid ((lineWs s).map tx = L) := by
          show _ = _
          rw [← hL.out, hke, HK.out]
          rfl
        have hok : Hid (okTs L = lineOk s) := by show _ = _; rw [← hLw.out, okTs_words]; rfl
        have hLz60 : ∀ x ∈ L, x.size ≤ 1048576 := by
          intro x hx
          rw [← hL.out, List.mem_map] at hx
          obtain ⟨y, hy, rfl⟩ := hx
          obtain ⟨p, hp, rfl⟩ := kept_mem hy
          have := HZ.out p hp
          rw [show tx p.data.toList = p from back_text p]
          omega
        have HRT := hide (rowText_own HOwn.out)
        obtain ⟨a, c, rfl⟩ := slice_form HOwn.out
        have HAO := hide (argsOk_any L a c wr (by omega) (rowText_rows HRT.out) hLz60)
        rw [hok.out] at HAO
        obtain ⟨-, -, hc2, -, hf2⟩ := prs_cells HPr.out
        have hBel : Hid (Below w0.heap.size w0 wr) := by
          have hb1 := HPS.out.bel
          exact ⟨HG.out.os.trans hb1.os, HG.out.tape.trans hb1.tape, HG.out.output.trans hb1.output, Nat.le_trans hb1.size HG.out.size, fun j hj => (HG.out.block j (Nat.lt_of_lt_of_le hj hb1.size) (by intro e; injection e; have := HPS.out.ge; omega)).trans (hb1.block j hj)⟩
        by_cases hlo : lineOk s = true
        · have hR : Hid (lineRq s = (1, n + 1, L)) := by show _ = _; rw [hQ2.out, if_pos hlo, hLw.out]
          rw [hlo] at HAO
          go_wp2_with fail
          refine (HAO.out).mono ?_
          rintro e w9 ⟨rfl, hw9⟩
          rw [hw9]
          clear hw9 w9
          go_wp2
          go_ret
          rw [hR.out]
          exact ⟨rfl, hBel.out, fun _ => ⟨_, HPr.out, HPS.out.ge, hBel.out, ownsRow_mono HOwn.out (by omega)⟩⟩
        · have hlo' : lineOk s = false := by simpa using hlo
          have hR : Hid (lineRq s = (2, 0, [])) := by show _ = _; rw [hQ2.out, if_neg hlo]
          rw [hlo'] at HAO
          go_wp2_with fail
          refine (HAO.out).mono ?_
          rintro e w9 ⟨rfl, hw9⟩
          rw [hw9]
          clear hw9 w9
          go_wp2
          go_ret
          rw [hR.out]
          exact ⟨rfl, hBel.out, fun h => by cases h⟩
  · rw [decide_eq_false hen, if_neg hen] at HT
    have hR : Hid (lineRq s = (0, 0, [])) := by show _ = _; rw [HQ.out, if_neg h80, if_pos (by omega)]
    go_enter Tryd.func35, Tryd.ntmps35
    go_wp2_with fail
    refine (HT.out).mono ?_
    rintro e w1 ⟨rfl, hp1⟩
    have HP1 := hide hp1
    clear hp1
    go_wp2
    go_ret
    rw [hR.out]
    exact ⟨rfl, HP1.out.bel, fun h => by cases h⟩
theorem hasStar (s : ByteArray) : Lib.hasPrefix s.data.toList [42] = (decide (s.size ≠ 0) && decide (Wd.bt s 0 = 42)) := by
  have hsz : s.data.toList.length = s.size := Array.length_toList
  by_cases h0 : s.size = 0
  · have e : s.data.toList = [] := List.eq_nil_of_length_eq_zero (by omega)
    rw [e]
    simp [Lib.hasPrefix, h0]
  · have h1 : 0 < s.size := by omega
    have hb := Wd.bt_eq s 0 h1
    have hc : s.data.toList = s[0]'h1 :: s.data.toList.tail := by
      have h2 : 0 < s.data.toList.length := by omega
      rw [← List.cons_head_tail (List.ne_nil_of_length_pos h2)]
      congr 1
      rw [List.head_eq_getElem]
      simp
      rfl
    rw [hc]
    simp only [Lib.hasPrefix, List.isPrefixOf, Bool.and_true]
    by_cases h3 : Wd.bt s 0 = 42
    · have h4 : s[0]'h1 = 42 := by apply UInt8.toNat_inj.1; rw [hb, h3]; rfl
      simp [h0, h3, h4]
    · have h4 : ¬ (42 : UInt8) = s[0]'h1 := by intro e; apply h3; rw [← hb, ← e]; rfl
      simp [h3, h4]
theorem beginsWith_any (w0 w : World) (g : Nat) (s : ByteArray) (v : Value) (L : List ByteArray) (h : PS w0 w g s 0 v L) :
    Calls Tryd.prog 33 #[.pointer (some ⟨g, 0, none⟩), .string ⟨#[42]⟩] w fun e w' => e = .returned (.bool (decide (s.size ≠ 0) && decide (Wd.bt s 0 = 42))) ∧ ∃ q, w' = w.drewN q := by
  obtain ⟨hc0, hc1, hc2, hf1, hf2⟩ := prs_cells h.prs
  clear h
  have hcut := cut_from0 s
  obtain ⟨b, HB⟩ : ∃ b, Hid ((decide (s.size ≠ 0) && decide (Wd.bt s 0 = 42)) = b) := ⟨_, rfl⟩
  have HC : Hid (∀ q, Calls Tryd.prog 42 #[.string s, .string ⟨#[42]⟩] (w.drewN q) fun e w' => e = .returned (.bool b) ∧ w' = w.drewN q) := by
    intro q
    have := Tryd.strings_HasPrefix s ⟨#[42]⟩ (w.drewN q)
    rw [show (⟨#[42]⟩ : ByteArray).data.toList = [42] from rfl, hasStar, HB.out] at this
    exact this
  rw [HB.out]
  go_enter Tryd.func33, Tryd.ntmps33
  go_wp2_with fail
  go_quiet ((go_at_call 42; exact Calls.quiet_of_same (HC.out _)))
  go_wp2
  go_ret
  exact ⟨rfl, _, rfl⟩
theorem parse_line {s : ByteArray} (h : ¬ (s.size ≠ 0 ∧ Wd.bt s 0 = 42)) : parse s = lineRq s := by
  unfold parse
  by_cases h0 : s.size = 0
  · have hl : lfE s = 0 := by have := lfE_le s; omega
    rw [if_pos h0]
    unfold lineRq
    rw [hl, h0]
    rfl
  · rw [if_neg h0, if_pos (fun e => h ⟨h0, e⟩)]
theorem request_any (w0 w : World) (g : Nat) (s : ByteArray) (m : Int) (hz : s.size ≤ 1048576) (hm : MaxL w0 m) (h : PS w0 w g s 0 (.slice none 0 0) []) :
    Calls Tryd.prog 21 #[.pointer (some ⟨g, 0, none⟩)] w fun e w' => e = .returned (.int .i64 ((parse s).1 : Int)) ∧ Below w0.heap.size w0 w' ∧ ((parse s).1 = 1 → ∃ v', PS w0 w' g s (parse s).2.1 v' (parse s).2.2) := by
  have HP := hide h
  have HB := hide (beginsWith_any w0 w g s _ [] h)
  clear h
  by_cases h1 : s.size ≠ 0 ∧ Wd.bt s 0 = 42
  · rw [decide_eq_true h1.1, decide_eq_true h1.2] at HB
    have HC := hide (fun q => counted_any w0 (w.drewN q) g s _ hz (ps_drew HP.out q))
    rw [parse_counted h1.1 h1.2]
    clear h1
    go_enter Tryd.func21, Tryd.ntmps21
    go_wp2_with fail
    refine (HB.out).mono ?_
    rintro e w1 ⟨rfl, q, rfl⟩
    go_wp2_with fail
    refine (HC.out q).mono ?_
    rintro e w2 ⟨rfl, hb2, hq2⟩
    go_wp2
    go_ret
    exact ⟨rfl, hb2, hq2⟩
  · have hb : (decide (s.size ≠ 0) && decide (Wd.bt s 0 = 42)) = false := by
      by_cases h2 : s.size = 0
      · simp [h2]
      · have h3 : ¬ Wd.bt s 0 = 42 := fun e => h1 ⟨h2, e⟩
        simp [h3]
    rw [hb] at HB
    have HC := hide (fun q => line_any w0 (w.drewN q) g s m hz hm (ps_drew HP.out q))
    rw [parse_line h1]
    clear h1 hb
    go_enter Tryd.func21, Tryd.ntmps21
    go_wp2_with fail
    refine (HB.out).mono ?_
    rintro e w1 ⟨rfl, q, rfl⟩
    go_wp2_with fail
    refine (HC.out q).mono ?_
    rintro e w2 ⟨rfl, hb2, hq2⟩
    go_wp2
    go_ret
    exact ⟨rfl, hb2, hq2⟩
def ParseLeft (s : ByteArray) (w : World) (e : Ending) (w' : World) : Prop :=
  Below w.heap.size w w' ∧ ∃ v, e = .returned (.tuple #[v, .int .i64 ((parse s).2.1 : Int), .int .i64 ((parse s).1 : Int)]) ∧ RowText w' w.heap.size v (parse s).2.2
theorem implParse_any (s : ByteArray) (m : Int) (w : World) (hz : s.size ≤ 1048576) (hm : MaxL w m) : Calls Tryd.prog 11 #[.string s] w (ParseLeft s w) := by
  have HR := hide (request_any w (w.alloc (.cells #[.string s, .int .i64 0, .slice none 0 0] 48)) w.heap.size s m hz hm ⟨heap_alloc_new w _, Nat.le_refl _, (Below.refl _ _).alloc (Nat.le_refl _) _, World.ownsRow_nil _ _ _ _⟩)
  clear hm
  have hf := parse_facts s
  by_cases h1 : (parse s).1 = 1
  · obtain ⟨p, hp⟩ : ∃ p, Hid ((parse s).2.1 = p) := ⟨_, rfl⟩
    obtain ⟨L, hL⟩ : ∃ L, Hid ((parse s).2.2 = L) := ⟨_, rfl⟩
    have HX : Hid (ParseLeft s w = fun e w' => Below w.heap.size w w' ∧ ∃ v, e = .returned (.tuple #[v, .int .i64 (p : Int), .int .i64 1]) ∧ RowText w' w.heap.size v L) := by
      show _ = _
      funext e w'
      unfold ParseLeft
      rw [hp.out, hL.out, h1]
      rfl
    rw [HX.out]
    rw [h1, hp.out, hL.out] at HR
    clear hf h1
    go_enter Tryd.func11, Tryd.ntmps11
    go_wp2_with fail
    refine (HR.out).mono ?_
    rintro e w1 ⟨rfl, hb1, hq1⟩
    obtain ⟨v, hps⟩ := hq1 (by trivial)
    obtain ⟨a, c, rfl⟩ := slice_form hps.own
    have HP := hide hps
    clear hps hq1
    obtain ⟨hc0, hc1, hc2, hf1, hf2⟩ := prs_cells HP.out.prs
    go_wp2_with fail
    go_quiet (fail)
    go_wp2
    go_ret3
    exact ⟨below_drewN hb1 _, _, rfl, rowText_le (rowText_own (ownsRow_drewN HP.out.own _)) (Nat.le_succ _)⟩
  · obtain ⟨c, hc, hcn⟩ : ∃ c, Hid ((parse s).1 = c) ∧ ((c : Int) != 1) = true := ⟨_, rfl, by have := hf.1; simp; omega⟩
    have h2 : (parse s).2 = (0, []) := hf.2.2.2.1 h1
    have HX : Hid (ParseLeft s w = fun e w' => Below w.heap.size w w' ∧ ∃ v, e = .returned (.tuple #[v, .int .i64 0, .int .i64 (c : Int)]) ∧ RowText w' w.heap.size v []) := by
      show _ = _
      funext e w'
      unfold ParseLeft
      rw [h2, hc.out]
      rfl
    rw [HX.out]
    rw [hc.out] at HR
    clear hf h1 h2
    go_enter Tryd.func11, Tryd.ntmps11
    go_wp2_with fail
    refine (HR.out).mono ?_
    rintro e w1 ⟨rfl, hb1, hq1⟩
    clear hq1
    go_wp2
    go_ret3
    exact ⟨hb1, _, rfl, .inl ⟨rfl, rfl⟩⟩
theorem buildT_grown {w w' : World} {B g : Nat} {v : Value} {bs : List (List ByteArray)} (h : BuildT w B v bs) (hg : w.grownBy w' (some g)) (hB : g < B) : BuildT w' B v bs := by
  obtain ⟨vs, h1, h2, h3, h4⟩ := h
  refine ⟨vs, h1, row_keep h2 hg hB, fun j x b hx hj => rowText_grown (h3 j x b hx hj) hg (fun k hk e => ?_), h4⟩
  have := (rowText_lt (h3 j x b hx hj) k hk).1
  have e2 : k = g := Option.some.inj e
  omega
theorem rowTT_le {w : World} {B B' : Nat} {v : Value} {tt : List (List ByteArray)} (h : RowTT w B v tt) (hB : B' ≤ B) : RowTT w B' v tt := by
  rcases h with h | ⟨g, cap, C, h1, h2, h3, h4, h5⟩
  · exact .inl h
  · refine .inr ⟨g, cap, C, h1, by omega, h3, h4, fun j hj hjk => ?_, h5.2⟩
    obtain ⟨x, k5, k6, k7⟩ := h5.1 j hj hjk
    exact ⟨x, k5, rowText_le k6 hB, k7⟩
theorem app_rowG {ops : Array Oper} {rest : List Oper} {o : Oper} {a : Act} {Q : Exit → Act → World → Prop} (W0 W : World) (B g : Nat) (hgd : o.guard = none) (s y : Operand)
    (ho : o.op = .call { callee := .builtin .append, args := #[s, y], argTypes := #[24, 24] }) (v x : Value) (bs : List (List ByteArray)) (b : List ByteArray) (hs : a.eval s = v)
    (hbuild : BuildT W0 B v bs) (hBs : B ≤ W0.heap.size) (hb : W0.grownBy W (some g)) (hgB : g < B) (hx : RowText W W0.heap.size x b) (k : Nat) (hy : a.eval y = .slice (some ⟨k, 0, none⟩) 1 1) (hblk : W.heap[k]? = some (.cells #[x] 29 (0, 0)))
    (hlen : bs.length ≤ 1048576)
    (h : ∀ g cap w', BuildT w' B (.slice (some ⟨g, 0, none⟩) (bs.length + 1) cap) (bs ++ [b]) → Below B W w' → wpList Tryd.prog ops Q rest (a.put o.dst (.slice (some ⟨g, 0, none⟩) (bs.length + 1) cap)) w') :
    wpList Tryd.prog ops Q (o :: rest) a W := by
  obtain ⟨i0, hi, hz0, hz1, hz2⟩ := info_parts Tryd.infoTexts
  obtain ⟨vs, h1, h2, h3, h4⟩ := hbuild
  have hown := row_keep h2 hb hgB
  have hBW := Nat.le_trans hBs hb.size
  refine wpList_append_lies W hgd s y 24 ho B 29 i0 (.slice none 0 0) 1 24 Tryd.underlying24 hi hz0 hz1 hz2 rfl (by decide) v bs.length vs hs hown ⟨k, 0, none⟩ 1 1 [x] hy rfl
    (fun j u hj => World.news_of_block hblk j u hj) (one_row hx) (by omega) (by unfold maxLen; omega) (by omega) hBW W.heap.size rfl ?_
  intro g2 cap w' hown' hgrow hg2 hgl
  refine h g2 cap w' ?_ ((Below.refl B W).grown hgrow hBW (fun k hk => (hown.lt k hk).1))
  refine buildT_put (W := W) (v := v) (rowText_le hx hBs) vs h1 (fun j y c hy hc => rowText_grown (h3 j y c hy hc) hb (fun k hk e => ?_)) h4 ?_ (by rw [List.length_append]; exact hown') (fun k hk hlt => hgrow.block k hlt (fun e => hk e.symm)) hown
  · have := (rowText_lt (h3 j y c hy hc) k hk).1
    have e2 : k = g := Option.some.inj e
    omega
  · intro q hq y hy e
    obtain ⟨j, hj, hjy⟩ := List.getElem_of_mem hy
    have k1 := h3 j y _ (by rw [List.getElem?_eq_getElem hj, hjy]) (List.getElem?_eq_getElem (by omega))
    have := (rowText_lt k1 q e).2
    have := (rowText_lt hx q hq).1
    omega
theorem drawWords_any (w : World) (ao : Option Addr) (len cap : Nat) (hlen : len ≤ 1048576) (hcode : Code w ao len) :
    Calls Tryd.prog 6 #[.slice ao len cap] w fun e w' => ∃ (a : Option Addr) (c : Nat) (L : List (List ByteArray)), e = .returned (.slice a L.length c) ∧ RowTT w' w.heap.size (.slice a L.length c) L ∧ L.length ≤ 4 ∧ (∀ x ∈ L, okTs x = true) ∧ Below w.heap.size w w' := by
  have HNW := hide (new_any w ao len cap hlen hcode)
  have HBE := hide (fun W g (n : Int) (hn : n ≤ 4611686018427387904) (h : CurAt w W g ao len cap) => below_any w W g ao len cap n hlen hn hcode h)
  have HAR := hide (fun W g (h : CurAt w W g ao len cap) => l11Args_any w W g ao len cap hlen hcode h)
  clear hcode
  go_enter Tryd.func6, Tryd.ntmps6
  go_wp2_with fail
  refine HNW.out.mono ?_
  rintro e w1 ⟨g, rfl, c1⟩
  have hg1 := cur_lt c1
  obtain ⟨w2, hw2⟩ : ∃ w2, w2 = w1.alloc (.cells #[] 29) := ⟨_, rfl⟩
  have C2 : Hid (CurAt w w2 g ao len cap) := by rw [hw2]; exact cur_keep c1 ((Below.refl _ w1).alloc (Nat.le_refl _) _) hg1
  have BT2 : Hid (BuildT w2 (g + 1) (.slice (some ⟨w1.heap.size, 0, none⟩) 0 0) []) := by rw [hw2]; exact buildT_lit _ _ (by omega)
  clear c1 HNW
  go_wp2_with fail
  rw [← hw2]
  clear hw2
  go_loopw [4, 5] (fun vv ii wr => ∃ (k : Nat) (a : Option Addr) (c : Nat) (acc : List (List ByteArray)), vv = .slice a acc.length c ∧ ii = .int .i64 (k : Int) ∧ k ≤ 4 ∧ acc.length ≤ k ∧ Hid (∀ x ∈ acc, okTs x = true) ∧ Hid (CurAt w wr g ao len cap) ∧ Hid (BuildT wr (g + 1) (.slice a acc.length c) acc)) (fun _ ii _ => 5 - (intOf ii).toNat)
  case atStart => exact ⟨0, _, 0, [], rfl, rfl, by omega, by simp, fun _ h => absurd h List.not_mem_nil, C2, BT2⟩
  case round =>
    clear C2 BT2
    obtain ⟨k, a, c, acc, rfl, rfl, hk, hal, HO, HC, HBT⟩ := hrel
    go_wp2_with fail
    refine (HBE.out _ g 5 (by omega) HC.out).mono ?_
    rintro e w3 ⟨x, rfl, hx, -, c3, g3⟩
    have hx5 : x < 5 := by have := hx (by omega); omega
    have C3 := hide c3
    have BT3 := hide (buildT_grown HBT.out g3 (by omega))
    have hg3 := cur_lt c3
    clear c3 g3 hx HC HBT
    by_cases hlt : k < x
    · have hlt' : decide ((k : Int) < (x : Int)) = true := by simp; omega
      go_wp2_with fail
      refine (HAR.out _ g C3.out).mono ?_
      rintro e w4 ⟨ka, ca, ts, rfl, htl, htz, hst⟩
      have HTO : Hid (okTs ts = true) := by
        show _ = _
        unfold okTs
        rw [Bool.and_eq_true, decide_eq_true_eq, List.all_eq_true]
        exact ⟨htl, fun y hy => decide_eq_true (htz y hy)⟩
      have S4 := hide hst
      have hs4 := hst.2.1.size
      clear hst htz
      go_wp2_with (at_builtin; refine app_rowG w3 _ (g + 1) g (by rfl) _ _ (by rfl) _ (.slice (some ⟨ka, 0, none⟩) ts.length ca) acc ts (by rfl) BT3.out (by omega) (grownBy_then S4.out.2.1 (((Below.refl _ w4).alloc (Nat.le_refl _) _).mono hs4)) (by omega) (rowText_below (rowText_own S4.out.2.2.2) ((Below.refl _ w4).alloc (Nat.le_refl _) _)) w4.heap.size (by simp [Act.eval]) (heap_alloc_new w4 _) (by omega) ?_; intro g5 cap5 w5 ho5 hb5; have HO5 := hide ho5; have C5 := hide (cur_keep S4.out.1 (((Below.refl _ w4).alloc (by have := cur_lt S4.out.1; omega) _).trans hb5) (Nat.lt_succ_self _)); clear ho5 hb5)
      go_roundw
      case rel =>
        refine ⟨k + 1, some ⟨g5, 0, none⟩, cap5, acc ++ [ts], by simp, by go_num, by omega, by simp; omega, ?_, C5, by rw [List.length_append]; exact HO5⟩
        intro y hy
        rcases List.mem_append.1 hy with hy | hy
        · exact HO.out y hy
        · obtain rfl : y = ts := by simpa using hy
          exact HTO.out
      case measure => simp [intOf]; omega
    · have hlt' : decide ((k : Int) < (x : Int)) = false := by simp; omega
      go_wp2
      go_ret
      exact ⟨a, c, acc, rfl, rowTT_le (buildT_row BT3.out) (by have := C3.out.2.1; omega), by omega, HO.out, C3.out.1⟩
theorem Tryd.info3 : (Tryd.prog.info? 3).map (fun i => (i.zero, i.size, i.bytes)) = some (some (.int .i64 0), 1, 8) := by kernel_rfl
def iv (n : Nat) : Value := .int .i64 (n : Int)
theorem app_int {ops : Array Oper} {rest : List Oper} {o : Oper} {a : Act} {Q : Exit → Act → World → Prop} {x : Nat} (wr : World) (w : World) (B : Nat) (hgd : o.guard = none) (s y : Operand)
    (ho : o.op = .call { callee := .builtin .append, args := #[s, y], argTypes := #[26, 26] }) (v : Value) (l : List Nat) (hs : a.eval s = v)
    (hown : wr.ownsRow B 3 1 v l.length (l.map iv)) (hx : a.eval y = .slice (some ⟨wr.heap.size, 0, none⟩) 1 1)
    (hlen : l.length ≤ 1000000) (hbel : Below B w wr) (hbase : B ≤ wr.heap.size)
    (h : ∀ v' w', w'.ownsRow B 3 1 v' (l ++ [x]).length ((l ++ [x]).map iv) → Below B w w' → wr.heap.size ≤ w'.heap.size → wpList Tryd.prog ops Q rest (a.put o.dst v') w') :
    wpList Tryd.prog ops Q (o :: rest) a (wr.alloc (.cells #[.int .i64 (x : Int)] 3)) := by
  obtain ⟨i0, hi, hz0, hz1, hz2⟩ := info_parts Tryd.info3
  have hsz : wr.heap.size ≤ (wr.alloc (.cells #[.int .i64 (x : Int)] 3)).heap.size := by simp
  refine wpList_append_own _ hgd s y 26 ho B 3 i0 (.int .i64 0) 1 8 Tryd.underlying26 hi hz0 hz1 hz2 rfl (by decide) v l.length (l.map iv) hs (hown.alloc _) ⟨wr.heap.size, 0, none⟩ 1 1 [iv x] hx rfl
    (fun j u hj => cells_new wr #[.int .i64 (x : Int)] 3 j u hj) (by intro u hu; simp at hu; subst hu; rfl) (by unfold maxLen; omega) (by omega) (by omega) ?_
  intro v' w' hown' hgrow _
  have hlt := hown.lt
  have hb1 : Below B w (wr.alloc (.cells #[.int .i64 (x : Int)] 3)) := hbel.alloc hbase _
  refine h v' w' ?_ (hb1.grown hgrow (by omega) (fun k hk => (hlt k hk).1)) (Nat.le_trans hsz hgrow.size)
  rw [List.length_append, List.map_append]
  exact hown'
theorem drawPlaces_any (w : World) (ao : Option Addr) (len cap : Nat) (hlen : len ≤ 1048576) (hcode : Code w ao len) :
    Calls Tryd.prog 10 #[.slice ao len cap] w fun e w' => ∃ (v : Value) (zs : List Nat), e = .returned v ∧ zs.length = 12 ∧ (∀ z ∈ zs, z < 10000) ∧ w'.ownsRow w.heap.size 3 1 v 12 (zs.map iv) ∧ Below w.heap.size w w' := by
  have HC := hide hcode
  clear hcode
  go_enter Tryd.func10, Tryd.ntmps10
  go_wp2_with fail
  refine (new_any _ ao len cap hlen HC.out).mono ?_
  rintro e w1 ⟨g, rfl, hc1⟩
  have hgl := cur_lt hc1
  have hs1 := hc1.1.size
  have HU1 := hide hc1
  clear hc1
  go_wp2_with fail
  refine (byte_any w _ g ao len cap hlen HC.out HU1.out).mono ?_
  rintro e w2 ⟨x0, rfl, _, hc2, g2⟩
  have hs2 := g2.size
  have hgl2 := cur_lt hc2
  have HU2 := hide hc2
  clear hc2 g2
  go_wp2
  go_loopw [4, 5] (fun v ii wr => ∃ (k : Nat) (zs : List Nat), ii = .int .i64 k ∧ k ≤ 12 ∧ zs.length = k ∧ Hid (∀ z ∈ zs, z < 10000) ∧ wr.ownsRow w2.heap.size 3 1 v zs.length (zs.map iv) ∧ Hid (CurAt w wr g ao len cap) ∧ w2.heap.size ≤ wr.heap.size) (fun _ ii _ => 12 - (intOf ii).toNat)
  case atStart =>
    refine ⟨0, [], rfl, Nat.zero_le _, rfl, (fun z hz => by cases hz), World.ownsRow_lit w2 #[] 0 (Nat.le_refl _) (by unfold maxLen; omega) (by simp), cur_keep HU2.out ((Below.refl w2.heap.size w2).alloc (Nat.le_refl _) _) hgl2, by simp⟩
  case round =>
    obtain ⟨k, zs, rfl, hk, hl, HA, hown, HU3, hbs⟩ := hrel
    by_cases hlt : k < 12
    · have hlt' : decide ((k : Int) < 12) = true := by simp; omega
      have HO := hide hown
      have HLL := hide hl
      clear hown hl
      go_wp2_with fail
      refine (below_any w _ g ao len cap _ hlen (by omega) HC.out HU3.out).mono ?_
      rintro e w3 ⟨x, rfl, hx, _, hc3, g3⟩
      have hx' := hx (by omega)
      have hown3 := row_keep HO.out g3 hgl2
      have hs3 := g3.size
      have HU4 := hide hc3
      clear hc3 g3 hx
      have hll : zs.length ≤ 1000000 := by have := HLL.out; omega
      go_wp2_with (at_builtin; refine app_int w3 w3 w2.heap.size rfl _ _ rfl _ zs rfl hown3 rfl hll (Below.refl _ _) (by omega) ?_; intro v' w4 hown4 hb4 hs4)
      go_roundw
      case rel =>
        refine ⟨k + 1, zs ++ [x], by go_num, by omega, by have := HLL.out; simp; omega, ?_, hown4, cur_keep HU4.out hb4 hgl2, by omega⟩
        intro z hz
        rcases List.mem_append.1 hz with h | h
        · exact HA.out z h
        · simp only [List.mem_singleton] at h; omega
      case measure => simp [intOf]; omega
    · have hlt' : decide ((k : Int) < 12) = false := by simp; omega
      have hk12 : zs.length = 12 := by omega
      have HO := hide hown
      have HLL := hide hk12
      clear hown hl hk12
      go_wp2
      go_ret
      refine ⟨_, zs, rfl, HLL.out, HA.out, ?_, HU3.out.1⟩
      have := HO.out
      rw [HLL.out] at this
      exact ownsRow_mono this (by omega)
end Go.Proofs.YtdefipahgpljeaaDoor
