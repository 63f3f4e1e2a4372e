/- Rows of entries as the laws hold them. -/
import Derived.Test.YtpibnhodlojajaaEntA
namespace Go.Proofs.Ytpibnhodlojajaa
open Go.RowKit

/-- All texts of an entry are below a bound. -/
def EntS (n : Nat) (e : EntD) : Prop := e.key.size ≤ n ∧ e.val.text.size ≤ n ∧ e.val.items.length ≤ n ∧ ∀ s ∈ e.val.items, s.size ≤ n
def szEntD (e : EntD) (n : Int) : Int := if n < (e.key.size : Int) then -1 else szValD e.val (n - e.key.size)
theorem szValD_neg (v : ValD) (n : Int) (h' : szValD v n < 0) : szValD v n = -1 := by
  unfold szValD at h' ⊢
  split at h'
  · rename_i h2; rw [if_pos h2]
  · rename_i h2; rw [if_neg h2]; exact szTx_neg _ _ h'
theorem szEntD_le (e : EntD) (n : Int) (h : 0 ≤ n) : szEntD e n ≤ n := by
  unfold szEntD
  split
  · omega
  · have := szValD_le e.val (n - e.key.size) (by omega)
    omega
theorem szEntD_small {e : EntD} {n : Int} (h0 : n ≤ 1048576) (h : 0 ≤ szEntD e n) : EntS 1048576 e := by
  unfold szEntD at h
  split at h
  · omega
  · have := szValD_small (by omega) (by omega) h
    exact ⟨by omega, this⟩
def szEnts : List EntD → Int → Int
  | [], n => n
  | e :: r, n => if szEntD e n < 0 then -1 else szEnts r (szEntD e n)
theorem szEnts_small : ∀ (es : List EntD) (n : Int), n ≤ 1048576 → 0 ≤ n → 0 ≤ szEnts es n → ∀ e ∈ es, EntS 1048576 e
  | [], _, _, _, _, _, h => absurd h List.not_mem_nil
  | F :: r, n, h0, h1, h2, A, hA => by
    unfold szEnts at h2
    split at h2
    · omega
    · rcases List.mem_cons.1 hA with rfl | hA
      · exact szEntD_small h0 (by omega)
      · have := szEntD_le F n h1
        exact szEnts_small r _ (by omega) (by omega) h2 A hA
/-- With the row's length counted. -/
def szEs (es : List EntD) (n : Int) : Int := if n < es.length then -1 else szEnts es (n - es.length)
theorem szEs_small {es : List EntD} {n : Int} (h0 : n ≤ 1048576) (hn : 0 ≤ n) (h : 0 ≤ szEs es n) : es.length ≤ 1048576 ∧ ∀ e ∈ es, EntS 1048576 e := by
  unfold szEs at h
  split at h
  · omega
  · exact ⟨by omega, szEnts_small es _ (by omega) (by omega) h⟩
theorem szEnts_le : ∀ (es : List EntD) (n : Int), 0 ≤ n → szEnts es n ≤ n
  | [], _, _ => Int.le_refl _
  | F :: r, n, h => by
    unfold szEnts
    split
    · omega
    · have := szEntD_le F n h
      have := szEnts_le r (szEntD F n) (by omega)
      omega
theorem szEs_le (es : List EntD) (n : Int) (h : 0 ≤ n) : szEs es n ≤ n := by
  unfold szEs
  split
  · omega
  · have := szEnts_le es (n - es.length) (by omega)
    omega

set_option maxRecDepth 100000 in
set_option maxHeartbeats 800000 in
theorem szEntry_any (F : EntD) (ao : Option Addr) (cap : Nat) (n : Int) (w : World) (h0 : 0 ≤ n) (h1 : n ≤ 1048576) (hS : EntS maxLen F) (hts : TextsAt w ao F.val.items) :
    Calls Try.prog 18 #[.agg #[.string F.key, .int .i64 F.val.kind, .int .i64 F.val.til, .string F.val.text, .slice ao F.val.items.length cap], .int .i64 n] w fun e w' => e = .returned (.int .i64 (szEntD F n)) ∧ Below w.heap.size w w' := by
  have HT := hide hts
  have HS := hide hS
  clear hts hS
  unfold szEntD
  have hk := HS.out.1
  unfold maxLen at hk
  by_cases hn : n < (F.key.size : Int)
  · have hn' : decide (n - (F.key.size : Int) < 0) = true := by simp; omega
    rw [if_pos hn]
    obtain ⟨key, k, u, t, ts⟩ := F
    simp only at hk hn hn' HT HS ⊢
    go_enter Try.func18, Try.ntmps18
    go_wp2
    go_ret
    exact ⟨rfl, (Below.refl _ w).alloc (Nat.le_refl _) _⟩
  · have hn' : decide (n - (F.key.size : Int) < 0) = false := by simp; omega
    rw [if_neg hn]
    have HNG := hide (szValD_neg F.val (n - F.key.size))
    have HSZ := hide (fun W (hW : Below w.heap.size w W) => szVal_any F.val ao cap (n - F.key.size) W (by omega) (by omega) HS.out.2.1 HS.out.2.2.1 (textsAt_keep HT.out hW) HS.out.2.2.2)
    generalize szValD F.val (n - F.key.size) = y at HNG HSZ ⊢
    obtain ⟨key, k, u, t, ts⟩ := F
    simp only at hk hn hn' HT HS HSZ ⊢
    go_enter Try.func18, Try.ntmps18
    go_wp2_with fail
    refine (HSZ.out _ ((Below.refl _ w).alloc (Nat.le_refl _) _)).mono ?_
    rintro e w1 ⟨rfl, b1⟩
    have HB := hide (((Below.refl _ w).alloc (Nat.le_refl _) _).trans (b1.mono (by simp)))
    clear b1
    by_cases hy : y < 0
    · have hy' : decide (y < 0) = true := by simp; omega
      have HY := hide (HNG.out hy)
      go_wp2
      go_ret
      rw [HY.out]
      exact ⟨rfl, HB.out⟩
    · have hy' : decide (y < 0) = false := by simp; omega
      go_wp2
      go_ret
      exact ⟨rfl, HB.out⟩

set_option maxRecDepth 100000 in
set_option maxHeartbeats 800000 in
theorem szEntryS_any (es : List EntD) (ao : Option Addr) (cap : Nat) (n : Int) (w : World) (h0 : 0 ≤ n) (h1 : n ≤ 1048576) (hl : es.length ≤ maxLen) (hes : EntriesAt w ao es) (hsz : ∀ e ∈ es, EntS maxLen e) :
    Calls Try.prog 5 #[.slice ao es.length cap, .int .i64 n] w fun e w' => e = .returned (.int .i64 (szEs es n)) ∧ Below w.heap.size w w' := by
  have HF := hide hes
  have HS := hide hsz
  clear hes hsz
  unfold maxLen at hl
  unfold szEs
  by_cases hn : n < es.length
  · have hn' : decide (n - (es.length : Int) < 0) = true := by simp; omega
    rw [if_pos hn]
    go_enter Try.func5, Try.ntmps5
    go_wp2
    go_ret
    exact ⟨rfl, Below.refl _ _⟩
  · have hn' : decide (n - (es.length : Int) < 0) = false := by simp; omega
    rw [if_neg hn]
    obtain ⟨R, HR⟩ : ∃ R, Hid (szEnts es (n - es.length) = R) := ⟨_, rfl⟩
    rw [HR.out]
    go_enter Try.func5, Try.ntmps5
    go_wp2
    go_loopw [1, 5] (fun m ii wr => ∃ (k : Nat) (x : Int), ii = .int .i64 k ∧ m = .int .i64 x ∧ k ≤ es.length ∧ 0 ≤ x ∧ x ≤ 1048576 ∧ Hid (szEnts (es.drop k) x = R) ∧ Hid (Below w.heap.size w wr)) (fun _ ii _ => es.length - (intOf ii).toNat)
    case atStart => exact ⟨0, n - es.length, rfl, rfl, Nat.zero_le _, by omega, by omega, HR.out, Below.refl _ _⟩
    case round =>
      obtain ⟨k, x, rfl, rfl, hk, hx0, hx1, HX, HB⟩ := hrel
      by_cases hlt : k < es.length
      · have hlt' : decide ((k : Int) < (es.length : Int)) = true := by simp; omega
        obtain ⟨b, off, rfl, hbw, hc0, hc1, hc2, hc3, a, c, hc4, hta⟩ := entriesAt_keep HF.out HB.out k hlt
        have hsA := HS.out es[k] (List.getElem_mem hlt)
        have HD : Hid (szEnts (es.drop k) x = if szEntD es[k] x < 0 then -1 else szEnts (es.drop (k + 1)) (szEntD es[k] x)) := by show _ = _; rw [List.drop_eq_getElem_cons hlt]; rfl
        have hle := szEntD_le es[k] x hx0
        have HC := hide (szEntry_any es[k] a c x wr hx0 hx1 hsA hta)
        generalize szEntD es[k] x = y at HD hle HC
        generalize es[k] = F at hc0 hc1 hc2 hc3 hc4 HC
        clear hsA hta
        have hi0 : (0 : Int) ≤ (k : Int) := by omega
        have hi1 : (k : Int) < (es.length : Int) := by omega
        go_wp2_with fail
        refine HC.out.mono ?_
        rintro e w1 ⟨rfl, b1⟩
        have HB1 := hide (HB.out.trans (b1.mono HB.out.size))
        clear b1 hc0 hc1 hc2 hc3 hc4
        by_cases hneg : y < 0
        · have hneg' : decide (y < 0) = true := by simp; omega
          have hR : Hid (R = -1) := by show _ = _; rw [← HX.out, HD.out, if_pos hneg]
          go_wp2
          go_ret
          rw [hR.out]
          exact ⟨rfl, HB1.out⟩
        · have hneg' : decide (y < 0) = false := by simp; omega
          have hR : Hid (szEnts (es.drop (k + 1)) y = R) := by show _ = _; rw [← HX.out, HD.out, if_neg hneg]
          go_wp2
          go_roundw
          case rel => exact ⟨k + 1, y, by go_num, rfl, by omega, by omega, by omega, hR, HB1⟩
          case measure => simp [intOf]; omega
      · have hlt' : decide ((k : Int) < (es.length : Int)) = false := by simp; omega
        have hR : Hid (x = R) := by show _ = _; rw [← HX.out, List.drop_eq_nil_of_le (by omega)]; rfl
        go_wp2
        go_ret
        rw [← hR.out]
        exact ⟨rfl, HB.out⟩

theorem ent_cells {W : World} {g : Nat} {a b c d e : Value} {t : TypeId} (h : W.heap[g]? = some (.cells #[a, b, c, d, e] t (0, 0))) : (W.cell? ⟨g, 0, none⟩ = some a ∧ W.cell? ⟨g, 1, none⟩ = some b ∧ W.cell? ⟨g, 2, none⟩ = some c ∧ W.cell? ⟨g, 3, none⟩ = some d ∧ W.cell? ⟨g, 4, none⟩ = some e) ∧
    (W.frozen? ⟨g, 0, none⟩ = false ∧ W.frozen? ⟨g, 1, none⟩ = false ∧ W.frozen? ⟨g, 2, none⟩ = false ∧ W.frozen? ⟨g, 3, none⟩ = false ∧ W.frozen? ⟨g, 4, none⟩ = false) :=
  ⟨⟨(cell_of_row W g 0 _ _ (0, 0) h).trans rfl, (cell_of_row W g 1 _ _ (0, 0) h).trans rfl, (cell_of_row W g 2 _ _ (0, 0) h).trans rfl, (cell_of_row W g 3 _ _ (0, 0) h).trans rfl, (cell_of_row W g 4 _ _ (0, 0) h).trans rfl⟩,
   ⟨frozen_of_row W g 0 _ _ h, frozen_of_row W g 1 _ _ h, frozen_of_row W g 2 _ _ h, frozen_of_row W g 3 _ _ h, frozen_of_row W g 4 _ _ h⟩⟩

set_option maxRecDepth 100000 in
set_option maxHeartbeats 800000 in
theorem toEntry_any (F : EntD) (ao : Option Addr) (cap : Nat) (w : World) (hl : F.val.items.length ≤ 1048576) (hts : TextsAt w ao F.val.items) :
    Calls Try.prog 20 #[.agg #[.string F.key, .int .i64 F.val.kind, .int .i64 F.val.til, .string F.val.text, .slice ao F.val.items.length cap]] w fun e w' => (∃ a c, e = .returned (.agg #[.string F.key, .int .i64 F.val.kind, .int .i64 F.val.til, .string F.val.text, .slice a F.val.items.length c]) ∧ RowText w' w.heap.size (.slice a F.val.items.length c) F.val.items) ∧ Below w.heap.size w w' := by
  have HTO := hide (fun W (hW : Below w.heap.size w W) => toVal_any F.val ao cap W hl (textsAt_keep hts hW))
  clear hts
  obtain ⟨key, k, u, t, ts⟩ := F
  simp only at hl HTO ⊢
  obtain ⟨w0, hw0⟩ : ∃ w0, w0 = ((w.alloc (.cells #[.string key, .int .i64 k, .int .i64 u, .string t, .slice ao ts.length cap] 48)).alloc (.cells #[.string ⟨#[]⟩, .int .i64 0, .int .i64 0, .string ⟨#[]⟩, .slice none 0 0] 42)).alloc (.cells #[.string key, .int .i64 0, .int .i64 0, .string ⟨#[]⟩, .slice none 0 0] 42) := ⟨_, rfl⟩
  have H0 : Hid (Below w.heap.size w w0) := by rw [hw0]; exact (((Below.refl _ w).alloc (Nat.le_refl _) _).alloc (by simp) _).alloc (by simp; omega) _
  have hz0 : w0.heap.size = w.heap.size + 1 + 1 + 1 := by rw [hw0]; simp
  have HZ := hide hz0
  have Q0 : Hid (w0.heap[w.heap.size + 1 + 1]? = some (.cells #[.string key, .int .i64 0, .int .i64 0, .string ⟨#[]⟩, .slice none 0 0] 42 (0, 0))) := by
    show _ = _
    rw [hw0, show w.heap.size + 1 + 1 = ((w.alloc (.cells #[.string key, .int .i64 k, .int .i64 u, .string t, .slice ao ts.length cap] 48)).alloc (.cells #[.string ⟨#[]⟩, .int .i64 0, .int .i64 0, .string ⟨#[]⟩, .slice none 0 0] 42)).heap.size from by simp]
    exact heap_alloc_new _ _
  have R0 : Hid (w0.heap[w.heap.size + 1]? = some (.cells #[.string ⟨#[]⟩, .int .i64 0, .int .i64 0, .string ⟨#[]⟩, .slice none 0 0] 42 (0, 0))) := by
    show _ = _
    rw [hw0]
    refine ((Below.refl ((w.alloc (.cells #[.string key, .int .i64 k, .int .i64 u, .string t, .slice ao ts.length cap] 48)).alloc (.cells #[.string ⟨#[]⟩, .int .i64 0, .int .i64 0, .string ⟨#[]⟩, .slice none 0 0] 42)).heap.size _).alloc (Nat.le_refl _) _).block (w.heap.size + 1) (by simp) |>.trans ?_
    rw [show w.heap.size + 1 = (w.alloc (.cells #[.string key, .int .i64 k, .int .i64 u, .string t, .slice ao ts.length cap] 48)).heap.size from by simp]
    exact heap_alloc_new _ _
  clear hz0
  go_enter Try.func20, Try.ntmps20
  go_wp2_with fail
  rw [← hw0]
  clear hw0
  refine (HTO.out _ H0.out).mono ?_
  rintro e w1 ⟨⟨x, rfl, hr⟩, b1⟩
  obtain ⟨a, c, rfl, -⟩ := rowText_at hr
  have HR := hide hr
  have hq := val_keep Q0.out b1 (by have := HZ.out; omega)
  have hp := val_keep R0.out b1 (by have := HZ.out; omega)
  have HB : Hid (Below w.heap.size w w1) := H0.out.trans (b1.mono H0.out.size)
  have hlt := hide (rowText_lt hr)
  clear b1 hr
  obtain ⟨⟨q0, q1, q2, q3, q4⟩, qf0, qf1, qf2, qf3, qf4⟩ := ent_cells hq
  obtain ⟨⟨r0, r1, r2, r3, r4⟩, rf0, rf1, rf2, rf3, rf4⟩ := ent_cells hp
  clear hq hp
  go_wp2_with fail
  refine bodyPost_ret (v := .agg #[.string key, .int .i64 k, .int .i64 u, .string t, .slice a ts.length c]) (by simp [results, Try.results20, go_sem, r0, r1, r2, r3, r4]) rfl ⟨⟨a, c, rfl, ?_⟩, ?_⟩
  · refine rowText_le (rowText_keep HR.out (fun g hg => ?_)) H0.out.size
    have h1 := hlt.out g hg
    have h2 := HZ.out
    rw [Below.heap_setCell _ _ _ _ (by simp; omega), Below.heap_setCell _ _ _ _ (by simp; omega), Below.heap_setCell _ _ _ _ (by simp; omega), Below.heap_setCell _ _ _ _ (by simp; omega), Below.heap_setCell _ _ _ _ (by simp; omega), Below.heap_setCell _ _ _ _ (by simp; omega), Below.heap_setCell _ _ _ _ (by simp; omega), Below.heap_setCell _ _ _ _ (by simp; omega), Below.heap_setCell _ _ _ _ (by simp; omega)]
  · have hb2 := ((((HB.out.setCell (p := ⟨w.heap.size + 1 + 1, 1, none⟩) (by simp; omega) (.int .i64 k)).setCell (p := ⟨w.heap.size + 1 + 1, 2, none⟩) (by simp; omega) (.int .i64 u)).setCell (p := ⟨w.heap.size + 1 + 1, 3, none⟩) (by simp; omega) (.string t)).setCell (p := ⟨w.heap.size + 1 + 1, 4, none⟩) (by simp; omega) (.slice a ts.length c))
    exact ((((hb2.setCell (p := ⟨w.heap.size + 1, 0, none⟩) (by simp) _).setCell (p := ⟨w.heap.size + 1, 1, none⟩) (by simp) _).setCell (p := ⟨w.heap.size + 1, 2, none⟩) (by simp) _).setCell (p := ⟨w.heap.size + 1, 3, none⟩) (by simp) _).setCell (p := ⟨w.heap.size + 1, 4, none⟩) (by simp) _

set_option maxRecDepth 100000 in
set_option maxHeartbeats 800000 in
theorem toEntryS_any (es : List EntD) (ao : Option Addr) (cap : Nat) (w : World) (hl : es.length ≤ 1048576) (hes : EntriesAt w ao es) (hsz : ∀ e ∈ es, EntS 1048576 e) :
    Calls Try.prog 7 #[.slice ao es.length cap] w fun e w' => (∃ v, e = .returned v ∧ RowEnt w' w.heap.size v es) ∧ Below w.heap.size w w' := by
  have HF := hide hes
  have HS := hide hsz
  clear hes hsz
  obtain ⟨i0, hi, hz0, hz1, hz2⟩ := info_parts Try.infoEntry
  obtain ⟨M, hM⟩ : ∃ M, M = madeCells (Value.agg #[.string ⟨#[]⟩, .int .i64 0, .int .i64 0, .string ⟨#[]⟩, .slice none 0 0]).cells (((es.length : Nat) : Int).toNat * i0.size) := ⟨_, rfl⟩
  have hmk : ∀ W : World, (Instr.makeSlice 24 (.int .i64 (es.length : Int)) (.int .i64 (es.length : Int))).run Try.prog W = .ok (.slice (some ⟨W.heap.size, 0, none⟩) es.length es.length) (W.alloc (.cells M 42)) := fun W => by
    have h := run_make (P := Try.prog) W 24 42 i0 (.agg #[.string ⟨#[]⟩, .int .i64 0, .int .i64 0, .string ⟨#[]⟩, .slice none 0 0]) Try.underlying24 hi hz0 .i64 .i64 (es.length : Int) (es.length : Int) (by omega) (by omega) (by rw [hz2]; omega) (by omega)
    rw [← hM] at h
    simpa using h
  have hMs : M.size = es.length * 5 := by rw [hM, size_madeCells, hz1]; simp
  clear hM
  go_enter Try.func7, Try.ntmps7
  go_wp2
  go_loopw [4] (fun ii wr => ∃ (k : Nat) (C : Array Value), ii = .int .i64 k ∧ k ≤ es.length ∧ Hid (wr.heap[w.heap.size]? = some (.cells C 42 (0, 0))) ∧ C.size = es.length * 5 ∧ Hid (KidsE wr w.heap.size w.heap.size C es k) ∧ Hid (Below w.heap.size w wr)) (fun ii _ => es.length - (intOf ii).toNat)
  case atStart => exact ⟨0, M, rfl, Nat.zero_le _, heap_alloc_new w _, hMs, kidsE_zero _ _ _ _ _, (Below.refl _ w).alloc (Nat.le_refl _) _⟩
  case round =>
    obtain ⟨k, C, rfl, hk, HC, hCs, HI, HB⟩ := hrel
    by_cases hlt : k < es.length
    · have hlt' : decide ((k : Int) < (es.length : Int)) = true := by simp; omega
      obtain ⟨b, off, rfl, hbw, hc0, hc1, hc2, hc3, a, c, hc4, hta⟩ := entriesAt_keep HF.out HB.out k hlt
      have hsA := HS.out es[k] (List.getElem_mem hlt)
      have HTE := hide (toEntry_any es[k] a c wr hsA.2.2.1 hta)
      have HPU := hide (fun (w1 : World) (x : Value) (h1 : Below wr.heap.size wr w1) (h2 : RowText w1 wr.heap.size x es[k].val.items) => kidsE_put HI.out hlt (by omega) HB.out.size (obj_lt HC.out) h1 h2)
      generalize es[k] = F at hc0 hc1 hc2 hc3 hc4 HTE HPU
      obtain ⟨key, kd, u, t, ts⟩ := F
      simp only at hc0 hc1 hc2 hc3 hc4 HTE HPU
      clear hsA hta
      have hi0 : (0 : Int) ≤ (k : Int) := by omega
      have hi1 : (k : Int) < (es.length : Int) := by omega
      go_wp2_with fail
      refine HTE.out.mono ?_
      rintro e w1 ⟨⟨a1, c1, rfl, hr1⟩, b1⟩
      have HB1 := hide (HB.out.trans (b1.mono HB.out.size))
      have hlt1 : w.heap.size < wr.heap.size := obj_lt HC.out
      have hC1 : w1.heap[w.heap.size]? = some (.cells C 42 (0, 0)) := (b1.block _ hlt1).trans HC.out
      have HN := hide (HPU.out w1 _ b1 hr1)
      have HC2 := hide (storeE_here (k := k) ⟨key, kd, u, t, ts⟩ (.slice a1 ts.length c1) hC1)
      have HB2 := hide (storeE_below (k := k) ⟨key, kd, u, t, ts⟩ (.slice a1 ts.length c1) HB1.out (Nat.le_refl _))
      clear b1 hr1 hc0 hc1 hc2 hc3 hc4
      have hq0 := cell_of_row w1 w.heap.size (k * 5) C _ (0, 0) hC1
      have hq1 := cell_of_row w1 w.heap.size (k * 5 + 1) C _ (0, 0) hC1
      have hq2 := cell_of_row w1 w.heap.size (k * 5 + 2) C _ (0, 0) hC1
      have hq3 := cell_of_row w1 w.heap.size (k * 5 + 3) C _ (0, 0) hC1
      have hq4 := cell_of_row w1 w.heap.size (k * 5 + 4) C _ (0, 0) hC1
      have hf0 := frozen_of_row w1 w.heap.size (k * 5) C _ hC1
      have hf1 := frozen_of_row w1 w.heap.size (k * 5 + 1) C _ hC1
      have hf2 := frozen_of_row w1 w.heap.size (k * 5 + 2) C _ hC1
      have hf3 := frozen_of_row w1 w.heap.size (k * 5 + 3) C _ hC1
      have hf4 := frozen_of_row w1 w.heap.size (k * 5 + 4) C _ hC1
      rw [Array.getElem?_eq_getElem (by omega)] at hq0 hq1 hq2 hq3 hq4
      clear hC1
      go_wp2_with fail
      go_roundw
      case rel => exact ⟨k + 1, putE C k ⟨key, kd, u, t, ts⟩ (.slice a1 ts.length c1), by go_num, by omega, HC2, by rw [putE_size]; exact hCs, HN, HB2⟩
      case measure => simp [intOf]; omega
    · have hlt' : decide ((k : Int) < (es.length : Int)) = false := by simp; omega
      have hke : k = es.length := by omega
      subst hke
      go_wp2
      go_ret
      exact ⟨⟨_, rfl, .inr ⟨w.heap.size, es.length, C, rfl, Nat.le_refl _, HC.out, by omega, HI.out⟩⟩, HB.out⟩

set_option maxRecDepth 100000 in
set_option maxHeartbeats 800000 in
theorem eqEntry_same (F : EntD) (ao ao2 : Option Addr) (cap cap2 : Nat) (w : World) (hl : F.val.items.length ≤ maxLen) (h1 : TextsAt w ao F.val.items) (h2 : TextsAt w ao2 F.val.items) :
    Calls Try.prog 22 #[.agg #[.string F.key, .int .i64 F.val.kind, .int .i64 F.val.til, .string F.val.text, .slice ao F.val.items.length cap], .agg #[.string F.key, .int .i64 F.val.kind, .int .i64 F.val.til, .string F.val.text, .slice ao2 F.val.items.length cap2]] w fun e w' => e = .returned (.bool true) ∧ Below w.heap.size w w' := by
  have HQ := hide (fun W (hW : Below w.heap.size w W) => eqVal_same F.val ao ao2 cap cap2 W hl (textsAt_keep h1 hW) (textsAt_keep h2 hW))
  clear h1 h2
  obtain ⟨key, k, u, t, ts⟩ := F
  simp only at HQ ⊢
  have e2 : (key.toList == key.toList) = true := beq_self_eq_true _
  have H0 : Hid (Below w.heap.size w ((w.alloc (.cells #[.string key, .int .i64 k, .int .i64 u, .string t, .slice ao ts.length cap] 42)).alloc (.cells #[.string key, .int .i64 k, .int .i64 u, .string t, .slice ao2 ts.length cap2] 42))) := ((Below.refl _ w).alloc (Nat.le_refl _) _).alloc (by simp) _
  go_enter Try.func22, Try.ntmps22
  go_wp2_with fail
  refine (HQ.out _ H0.out).mono ?_
  rintro e w1 ⟨rfl, b1⟩
  have HB : Hid (Below w.heap.size w w1) := H0.out.trans (b1.mono H0.out.size)
  clear b1
  go_wp2
  go_ret
  exact ⟨rfl, HB.out⟩

set_option maxRecDepth 100000 in
set_option maxHeartbeats 1600000 in
theorem eqEntryS_same (es : List EntD) (ao ao2 : Option Addr) (cap cap2 : Nat) (w : World) (hl : es.length ≤ 1048576) (hk : ∀ e ∈ es, e.val.items.length ≤ 1048576) (h1 : EntriesAt w ao es) (h2 : EntriesAt w ao2 es) :
    Calls Try.prog 9 #[.slice ao es.length cap, .slice ao2 es.length cap2] w fun e w' => e = .returned (.bool true) ∧ Below w.heap.size w w' := by
  have H1 := hide h1
  have H2 := hide h2
  have HK := hide hk
  clear h1 h2 hk
  have hne : (!((es.length : Int) == (es.length : Int))) = false := by simp
  go_enter Try.func9, Try.ntmps9
  go_wp2
  go_loopw [5] (fun ii wr => ∃ (k : Nat), ii = .int .i64 k ∧ k ≤ es.length ∧ Hid (Below w.heap.size w wr)) (fun ii _ => es.length - (intOf ii).toNat)
  case atStart => exact ⟨0, rfl, Nat.zero_le _, Below.refl _ _⟩
  case round =>
    obtain ⟨k, rfl, hk, HB⟩ := hrel
    by_cases hlt : k < es.length
    · have hlt' : decide ((k : Int) < (es.length : Int)) = true := by simp; omega
      obtain ⟨b, off, rfl, hbw, hc0, hc1, hc2, hc3, a1, c1, hc4, ha1⟩ := entriesAt_keep H1.out HB.out k hlt
      obtain ⟨b', off', rfl, hbw', hd0, hd1, hd2, hd3, a2, c2, hd4, ha2⟩ := entriesAt_keep H2.out HB.out k hlt
      have hsm := HK.out es[k] (List.getElem_mem hlt)
      generalize es[k] = F at hc0 hc1 hc2 hc3 hc4 hd0 hd1 hd2 hd3 hd4 ha1 ha2 hsm
      have hi0 : (0 : Int) ≤ (k : Int) := by omega
      have hi1 : (k : Int) < (es.length : Int) := by omega
      have HQ : Hid (∀ W, Below wr.heap.size wr W → Calls Try.prog 22 #[.agg #[.string F.key, .int .i64 F.val.kind, .int .i64 F.val.til, .string F.val.text, .slice a1 F.val.items.length c1], .agg #[.string F.key, .int .i64 F.val.kind, .int .i64 F.val.til, .string F.val.text, .slice a2 F.val.items.length c2]] W fun e w' => e = .returned (.bool true) ∧ Below W.heap.size W w') := fun W hW => eqEntry_same F a1 a2 c1 c2 W (by unfold maxLen; omega) (textsAt_keep ha1 hW) (textsAt_keep ha2 hW)
      obtain ⟨key, kd, u, t, ts⟩ := F
      simp only at hc0 hc1 hc2 hc3 hc4 hd0 hd1 hd2 hd3 hd4 HQ
      have KS : Hid (∀ X, Below wr.heap.size wr X → (X.cell? ⟨b, off + k * 5, none⟩ = some (.string key) ∧ X.cell? ⟨b, off + k * 5 + 1, none⟩ = some (.int .i64 kd) ∧ X.cell? ⟨b, off + k * 5 + 2, none⟩ = some (.int .i64 u) ∧ X.cell? ⟨b, off + k * 5 + 3, none⟩ = some (.string t) ∧ X.cell? ⟨b, off + k * 5 + 4, none⟩ = some (.slice a1 ts.length c1)) ∧ (X.cell? ⟨b', off' + k * 5, none⟩ = some (.string key) ∧ X.cell? ⟨b', off' + k * 5 + 1, none⟩ = some (.int .i64 kd) ∧ X.cell? ⟨b', off' + k * 5 + 2, none⟩ = some (.int .i64 u) ∧ X.cell? ⟨b', off' + k * 5 + 3, none⟩ = some (.string t) ∧ X.cell? ⟨b', off' + k * 5 + 4, none⟩ = some (.slice a2 ts.length c2))) :=
        fun X hX => ⟨⟨(hX.cell (p := ⟨b, off + k * 5, none⟩) hbw).trans hc0, (hX.cell (p := ⟨b, off + k * 5 + 1, none⟩) hbw).trans hc1, (hX.cell (p := ⟨b, off + k * 5 + 2, none⟩) hbw).trans hc2, (hX.cell (p := ⟨b, off + k * 5 + 3, none⟩) hbw).trans hc3, (hX.cell (p := ⟨b, off + k * 5 + 4, none⟩) hbw).trans hc4⟩, (hX.cell (p := ⟨b', off' + k * 5, none⟩) hbw').trans hd0, (hX.cell (p := ⟨b', off' + k * 5 + 1, none⟩) hbw').trans hd1, (hX.cell (p := ⟨b', off' + k * 5 + 2, none⟩) hbw').trans hd2, (hX.cell (p := ⟨b', off' + k * 5 + 3, none⟩) hbw').trans hd3, (hX.cell (p := ⟨b', off' + k * 5 + 4, none⟩) hbw').trans hd4⟩
      clear hbw hbw' ha1 ha2
      go_wp2_with fail
      go_region_held3 (fun X => (X.cell? ⟨b, off + k * 5, none⟩ = some (.string key) ∧ X.cell? ⟨b, off + k * 5 + 1, none⟩ = some (.int .i64 kd) ∧ X.cell? ⟨b, off + k * 5 + 2, none⟩ = some (.int .i64 u) ∧ X.cell? ⟨b, off + k * 5 + 3, none⟩ = some (.string t) ∧ X.cell? ⟨b, off + k * 5 + 4, none⟩ = some (.slice a1 ts.length c1)) ∧ (X.cell? ⟨b', off' + k * 5, none⟩ = some (.string key) ∧ X.cell? ⟨b', off' + k * 5 + 1, none⟩ = some (.int .i64 kd) ∧ X.cell? ⟨b', off' + k * 5 + 2, none⟩ = some (.int .i64 u) ∧ X.cell? ⟨b', off' + k * 5 + 3, none⟩ = some (.string t) ∧ X.cell? ⟨b', off' + k * 5 + 4, none⟩ = some (.slice a2 ts.length c2))) (first | (exact KS.out _ (Below.refl _ _)) | (exact KS.out _ (Below.refl _ _).drew) | (exact KS.out _ ((Below.refl _ _).drew.trans b1)) | fail) ((go_at_call 22; refine (HQ.out _ (by first | exact Below.refl _ _ | exact (Below.refl _ _).drew)).mono ?_; rintro e w1 ⟨rfl, b1⟩))
      go_wp2
      go_roundw
      case rel => exact ⟨k + 1, by go_num, by omega, HB.out.trans (((Below.refl _ _).drew.trans b1).mono HB.out.size)⟩
      case measure => simp [intOf]; omega
    · have hlt' : decide ((k : Int) < (es.length : Int)) = false := by simp; omega
      go_wp2
      go_ret
      exact ⟨rfl, HB.out⟩

open Go.ChangeShapes Go.WideShapes Go.Deep Go.Joins in
set_option maxRecDepth 100000 in
/-- An entry of a row that came in. -/
theorem entry_in {H : Type} {enc : TypeId × Value → H} {w : World} {fuel : Nat} {cs : List Value} {z : DataW H × List MemPlace} (h : DataW.trod enc Try.prog w 0 (fun _ => true) true fuel 48 cs = some z) :
    ∃ (F : EntD) (ao : Option Addr) (cap : Nat), cs = [.string F.key, .int .i64 F.val.kind, .int .i64 F.val.til, .string F.val.text, .slice ao F.val.items.length cap] ∧ EntS maxLen F ∧ TextsAt w ao F.val.items := by
  obtain ⟨y0, y1, n, hx, hl, h0, h1⟩ := trod_struct2 Try.underlying48 h
  have hc : Try.prog.cellsOf 48 = 5 := by kernel_rfl
  have kv : Try.prog.cellsOf 46 = 4 := by kernel_rfl
  have ks : Try.prog.cellsOf 9 = 1 := by kernel_rfl
  rw [hc] at hl
  match cs, hl with
  | [v0, v1, v2, v3, v4], _ =>
    simp only [kv, ks] at h0 h1
    obtain ⟨key, e0, _, z0⟩ := DataW.trod_string Try.underlying9 h0
    have h1' : DataW.trod enc Try.prog w 0 (fun _ => true) true n 46 [v1, v2, v3, v4] = some y1 := h1
    obtain ⟨v, ao, cap, e1, k1, k2, k3, k4⟩ := val_in h1'
    simp at e0 e1
    obtain ⟨rfl, rfl, rfl, rfl⟩ := e1
    subst e0
    exact ⟨⟨key, v⟩, ao, cap, rfl, ⟨z0, k1, k2, k4⟩, k3⟩

open Go.ChangeShapes Go.WideShapes Go.Deep Go.Joins in
set_option maxRecDepth 100000 in
theorem entries_of {H : Type} {enc : TypeId × Value → H} {w : World} {base : Nat} {v : Value} {d : DataW H} {p : List MemPlace} (hv : Value.okWide Try.prog w .any base 22 v)
    (h : DataW.Trod enc Try.prog w 0 (fun _ => true) true 22 v d p) :
    ∃ (ao : Option Addr) (es : List EntD) (cap : Nat), v = .slice ao es.length cap ∧ es.length ≤ maxLen ∧ EntriesAt w ao es ∧ ∀ e ∈ es, EntS maxLen e := by
  have hc : Try.prog.cellsOf 48 = 5 := by kernel_rfl
  obtain ⟨a0, l0, c0, rfl⟩ := okWide_slice Try.underlying22 hv
  obtain ⟨fuel, hf⟩ := h
  have h0' : DataW.trod enc Try.prog w 0 (fun _ => true) true fuel 22 [.slice a0 l0 c0] = some (d, p) := by simpa [Value.cells] using hf
  rcases open_slice Try.underlying22 h0' with ⟨e, _⟩ | ⟨a, len, cap, m, n', D, Pl, e, _, hle, hmx, hm, _, hel⟩
  · simp at e
    obtain ⟨rfl, rfl, rfl⟩ := e
    exact ⟨none, [], 0, rfl, by unfold maxLen; simp, fun j hj => absurd hj (by simp), fun F hF => absurd hF List.not_mem_nil⟩
  · simp at e
    obtain ⟨rfl, rfl, rfl⟩ := e
    rw [hc] at hel
    have hm' : l0 ≤ m := by rw [hm]; simpa using hle
    have hch : ∀ i, i < l0 → ∃ F : EntD, EntS maxLen F ∧ ∃ a1 c1, w.cells? 0 (a.add (i * 5)) 5 = some [.string F.key, .int .i64 F.val.kind, .int .i64 F.val.til, .string F.val.text, .slice a1 F.val.items.length c1] ∧ TextsAt w a1 F.val.items := by
      intro i hi
      obtain ⟨cs', g1, g2⟩ := hel i (by omega)
      obtain ⟨A, a1, c1, rfl, z0, z1⟩ := entry_in g2
      exact ⟨A, z0, a1, c1, g1, z1⟩
    haveI : Inhabited EntD := ⟨⟨⟨#[]⟩, ⟨0, 0, ⟨#[]⟩, []⟩⟩⟩
    obtain ⟨G, hG⟩ := choose_lt hch
    refine ⟨some a, (List.range l0).map G, c0, by simp, by simp; omega, ?_, ?_⟩
    · intro j hj
      have hj' : j < l0 := by simpa using hj
      obtain ⟨-, a1, c1, g1, g2⟩ := hG j hj'
      obtain ⟨_, _, hcell⟩ := World.cells?_some g1
      have q0 := hcell 0 (by omega)
      have q1 := hcell 1 (by omega)
      have q2 := hcell 2 (by omega)
      have q3 := hcell 3 (by omega)
      have q4 := hcell 4 (by omega)
      obtain ⟨b, off, spot⟩ := a
      have hspot : spot = none := by
        obtain ⟨-, a2, c2, g3, g4⟩ := hG 0 (by omega)
        obtain ⟨_, _, hcell0⟩ := World.cells?_some g3
        have q := hcell0 0 (by omega)
        simpa [Addr.add] using World.cell?_spot q
      subst hspot
      have ha : ∀ o i, ((⟨b, o, none⟩ : Addr).add i) = ⟨b, o + i, none⟩ := by intro o i; cases i <;> simp [Addr.add]
      simp only [ha] at q0 q1 q2 q3 q4
      refine ⟨b, off, rfl, ?_, ?_, ?_, ?_, ?_, a1, c1, ?_, ?_⟩
      · rcases Nat.lt_or_ge b w.heap.size with h | h
        · exact h
        · unfold World.cell? at q0
          rw [show w.heap[(⟨b, off + j * 5 + 0, none⟩ : Addr).block]? = none from Array.getElem?_eq_none h] at q0
          cases q0
      · simpa using q0
      · simpa using q1
      · simpa using q2
      · simpa using q3
      · simpa using q4
      · simpa using g2
    · intro A hA
      obtain ⟨i, hi, rfl⟩ := List.mem_map.1 hA
      exact (hG i (by simpa using hi)).1
end Go.Proofs.Ytpibnhodlojajaa
