/- Values as the laws hold them. -/
import Derived.Test.YtpibnhodlojajaaTxtL
import Derived.Test.YtpibnhodlojajaaValP
namespace Go.Proofs.Ytpibnhodlojajaa
open Go.RowKit

theorem val_cells {W : World} {g : Nat} {a b c d : Value} {t : TypeId} (h : W.heap[g]? = some (.cells #[a, b, c, d] t (0, 0))) : W.cell? ⟨g, 0, none⟩ = some a ∧ W.cell? ⟨g, 1, none⟩ = some b ∧ W.cell? ⟨g, 2, none⟩ = some c ∧ W.cell? ⟨g, 3, none⟩ = some d :=
  ⟨(cell_of_row W g 0 _ _ (0, 0) h).trans rfl, (cell_of_row W g 1 _ _ (0, 0) h).trans rfl, (cell_of_row W g 2 _ _ (0, 0) h).trans rfl, (cell_of_row W g 3 _ _ (0, 0) h).trans rfl⟩
theorem val_frozen {W : World} {g : Nat} {a b c d : Value} {t : TypeId} (h : W.heap[g]? = some (.cells #[a, b, c, d] t (0, 0))) : W.frozen? ⟨g, 0, none⟩ = false ∧ W.frozen? ⟨g, 1, none⟩ = false ∧ W.frozen? ⟨g, 2, none⟩ = false ∧ W.frozen? ⟨g, 3, none⟩ = false :=
  ⟨frozen_of_row W g 0 _ _ h, frozen_of_row W g 1 _ _ h, frozen_of_row W g 2 _ _ h, frozen_of_row W g 3 _ _ h⟩
theorem obj_lt {w : World} {k : Nat} {x : Obj} (h : w.heap[k]? = some x) : k < w.heap.size := (Array.getElem?_eq_some_iff.1 h).1
theorem blk_newd {X w2 : World} {C : Array Value} {t : TypeId} (b2 : Below (X.alloc (.cells C t)).drew.heap.size (X.alloc (.cells C t)).drew w2) : w2.heap[X.heap.size]? = some (.cells C t (0, 0)) := (b2.block X.heap.size (by simp)).trans (heap_alloc_new X _)
theorem val_keep {w w' : World} {g n : Nat} {o : Obj} (h : w.heap[g]? = some o) (hb : Below n w w') (hg : g < n) : w'.heap[g]? = some o := (hb.block g hg).trans h

/-- What a value leaves of a measure. -/
def szValD (v : ValD) (n : Int) : Int := if n < (v.text.size : Int) then -1 else szTx v.items (n - v.text.size)
theorem szTs_neg : ∀ (ts : List ByteArray) (n : Int), 0 ≤ n → szTs ts n < 0 → szTs ts n = -1
  | [], n, h, h' => by simp only [szTs] at h'; omega
  | s :: r, n, _, h' => by
    unfold szTs at h' ⊢
    split at h'
    · rename_i h2; rw [if_pos h2]
    · rename_i h2; rw [if_neg h2]; exact szTs_neg r _ (by omega) h'
theorem szTx_neg (ts : List ByteArray) (n : Int) (h' : szTx ts n < 0) : szTx ts n = -1 := by
  unfold szTx at h' ⊢
  split at h'
  · rename_i h2; rw [if_pos h2]
  · rename_i h2; rw [if_neg h2]; exact szTs_neg ts _ (by omega) h'
theorem szValD_le (v : ValD) (n : Int) (h : 0 ≤ n) : szValD v n ≤ n := by
  unfold szValD
  split
  · omega
  · have := szTx_le v.items (n - v.text.size) (by omega)
    omega
theorem szValD_small {v : ValD} {n : Int} (h0 : n ≤ 1048576) (hn : 0 ≤ n) (h : 0 ≤ szValD v n) : v.text.size ≤ 1048576 ∧ v.items.length ≤ 1048576 ∧ ∀ s ∈ v.items, s.size ≤ 1048576 := by
  unfold szValD at h
  split at h
  · omega
  · have := szTx_small (by omega) h (by omega)
    exact ⟨by omega, this⟩

set_option maxRecDepth 100000 in
set_option maxHeartbeats 800000 in
theorem szVal_any (v : ValD) (ao : Option Addr) (cap : Nat) (n : Int) (w : World) (h0 : 0 ≤ n) (h1 : n ≤ 1048576) (ht : v.text.size ≤ maxLen) (hl : v.items.length ≤ maxLen) (hts : TextsAt w ao v.items) (hsz : ∀ s ∈ v.items, s.size ≤ maxLen) :
    Calls Try.prog 34 #[.agg #[.int .i64 v.kind, .int .i64 v.til, .string v.text, .slice ao v.items.length cap], .int .i64 n] w fun e w' => e = .returned (.int .i64 (szValD v n)) ∧ Below w.heap.size w w' := by
  obtain ⟨k, u, t, ts⟩ := v
  simp only [szValD] at ht hl hts hsz ⊢
  have HT := hide hts
  have HS := hide hsz
  clear hts hsz
  unfold maxLen at ht
  by_cases hn : n < (t.size : Int)
  · have hn' : decide (n - (t.size : Int) < 0) = true := by simp; omega
    rw [if_pos hn]
    go_enter Try.func34, Try.ntmps34
    go_wp2
    go_ret
    exact ⟨rfl, (Below.refl _ w).alloc (Nat.le_refl _) _⟩
  · have hn' : decide (n - (t.size : Int) < 0) = false := by simp; omega
    rw [if_neg hn]
    have HNG := hide (szTx_neg ts (n - t.size))
    have HSZ := hide (fun W (hW : Below w.heap.size w W) => szStringS_any ts ao cap (n - t.size) W (by omega) (by omega) hl (textsAt_keep HT.out hW) HS.out)
    generalize szTx ts (n - t.size) = y at HNG HSZ ⊢
    go_enter Try.func34, Try.ntmps34
    go_wp2_with fail
    refine (HSZ.out _ ((Below.refl _ w).alloc (Nat.le_refl _) _)).mono ?_
    rintro e w1 ⟨rfl, b1⟩
    have HB := hide (((Below.refl _ w).alloc (Nat.le_refl _) _).trans (b1.mono (by simp)))
    clear b1
    by_cases hy : y < 0
    · have hy' : decide (y < 0) = true := by simp; omega
      have HY := hide (HNG.out hy)
      go_wp2
      go_ret
      rw [HY.out]
      exact ⟨rfl, HB.out⟩
    · have hy' : decide (y < 0) = false := by simp; omega
      go_wp2
      go_ret
      exact ⟨rfl, HB.out⟩

set_option maxRecDepth 100000 in
set_option maxHeartbeats 800000 in
theorem toVal_any (v : ValD) (ao : Option Addr) (cap : Nat) (w : World) (hl : v.items.length ≤ 1048576) (hts : TextsAt w ao v.items) :
    Calls Try.prog 35 #[.agg #[.int .i64 v.kind, .int .i64 v.til, .string v.text, .slice ao v.items.length cap]] w fun e w' => (∃ x, e = .returned (.agg #[.int .i64 v.kind, .int .i64 v.til, .string v.text, x]) ∧ RowText w' w.heap.size x v.items) ∧ Below w.heap.size w w' := by
  obtain ⟨k, u, t, ts⟩ := v
  simp only at hl hts ⊢
  have HT := hide hts
  clear hts
  obtain ⟨w0, hw0⟩ : ∃ w0, w0 = ((w.alloc (.cells #[.int .i64 k, .int .i64 u, .string t, .slice ao ts.length cap] 46)).alloc (.cells #[.int .i64 0, .int .i64 0, .string ⟨#[]⟩, .slice none 0 0] 38)).alloc (.cells #[.int .i64 k, .int .i64 u, .string t, .slice none 0 0] 38) := ⟨_, rfl⟩
  have H0 : Hid (Below w.heap.size w w0) := by rw [hw0]; exact (((Below.refl _ w).alloc (Nat.le_refl _) _).alloc (by simp) _).alloc (by simp; omega) _
  have hz0 : w0.heap.size = w.heap.size + 1 + 1 + 1 := by rw [hw0]; simp
  have HZ := hide hz0
  have Q0 : Hid (w0.heap[w.heap.size + 1 + 1]? = some (.cells #[.int .i64 k, .int .i64 u, .string t, .slice none 0 0] 38 (0, 0))) := by
    show _ = _
    rw [hw0, show w.heap.size + 1 + 1 = ((w.alloc (.cells #[.int .i64 k, .int .i64 u, .string t, .slice ao ts.length cap] 46)).alloc (.cells #[.int .i64 0, .int .i64 0, .string ⟨#[]⟩, .slice none 0 0] 38)).heap.size from by simp]
    exact heap_alloc_new _ _
  have R0 : Hid (w0.heap[w.heap.size + 1]? = some (.cells #[.int .i64 0, .int .i64 0, .string ⟨#[]⟩, .slice none 0 0] 38 (0, 0))) := by
    show _ = _
    rw [hw0]
    refine ((Below.refl ((w.alloc (.cells #[.int .i64 k, .int .i64 u, .string t, .slice ao ts.length cap] 46)).alloc (.cells #[.int .i64 0, .int .i64 0, .string ⟨#[]⟩, .slice none 0 0] 38)).heap.size _).alloc (Nat.le_refl _) _).block (w.heap.size + 1) (by simp) |>.trans ?_
    rw [show w.heap.size + 1 = (w.alloc (.cells #[.int .i64 k, .int .i64 u, .string t, .slice ao ts.length cap] 46)).heap.size from by simp]
    exact heap_alloc_new _ _
  clear hz0
  go_enter Try.func35, Try.ntmps35
  go_wp2_with fail
  rw [← hw0]
  clear hw0
  refine (toStringS_any ts ao cap _ hl (textsAt_keep HT.out H0.out)).mono ?_
  rintro e w1 ⟨⟨x, rfl, hr⟩, b1⟩
  obtain ⟨a, c, rfl, -⟩ := rowText_at hr
  have HR := hide hr
  have hq := val_keep Q0.out b1 (by have := HZ.out; omega)
  have hp := val_keep R0.out b1 (by have := HZ.out; omega)
  have HB : Hid (Below w.heap.size w w1) := H0.out.trans (b1.mono H0.out.size)
  have hlt := hide (rowText_lt hr)
  clear b1 hr
  obtain ⟨q0, q1, q2, q3⟩ := val_cells hq
  obtain ⟨-, -, -, qf⟩ := val_frozen hq
  obtain ⟨r0, r1, r2, r3⟩ := val_cells hp
  obtain ⟨f0, f1, f2, f3⟩ := val_frozen hp
  clear hq hp
  go_wp2_with fail
  refine bodyPost_ret (v := .agg #[.int .i64 k, .int .i64 u, .string t, .slice a ts.length c]) (by simp [results, Try.results35, go_sem, r0, r1, r2, r3]) rfl ⟨⟨_, rfl, ?_⟩, ?_⟩
  · refine rowText_le (rowText_keep HR.out (fun g hg => ?_)) H0.out.size
    have h1 := hlt.out g hg
    have h2 := HZ.out
    rw [Below.heap_setCell _ _ _ _ (by simp; omega), Below.heap_setCell _ _ _ _ (by simp; omega), Below.heap_setCell _ _ _ _ (by simp; omega), Below.heap_setCell _ _ _ _ (by simp; omega), Below.heap_setCell _ _ _ _ (by simp; omega)]
  · exact ((((HB.out.setCell (p := ⟨w.heap.size + 1 + 1, 3, none⟩) (by simp; omega) _).setCell (p := ⟨w.heap.size + 1, 0, none⟩) (by simp) _).setCell (p := ⟨w.heap.size + 1, 1, none⟩) (by simp) _).setCell (p := ⟨w.heap.size + 1, 2, none⟩) (by simp) _).setCell (p := ⟨w.heap.size + 1, 3, none⟩) (by simp) _

set_option maxRecDepth 100000 in
set_option maxHeartbeats 800000 in
theorem eqVal_same (v : ValD) (ao ao2 : Option Addr) (cap cap2 : Nat) (w : World) (hl : v.items.length ≤ maxLen) (h1 : TextsAt w ao v.items) (h2 : TextsAt w ao2 v.items) :
    Calls Try.prog 37 #[.agg #[.int .i64 v.kind, .int .i64 v.til, .string v.text, .slice ao v.items.length cap], .agg #[.int .i64 v.kind, .int .i64 v.til, .string v.text, .slice ao2 v.items.length cap2]] w fun e w' => e = .returned (.bool true) ∧ Below w.heap.size w w' := by
  obtain ⟨k, u, t, ts⟩ := v
  simp only at hl h1 h2 ⊢
  have H1 := hide h1
  have H2 := hide h2
  clear h1 h2
  have e0 : (k == k) = true := beq_self_eq_true _
  have e1 : (u == u) = true := beq_self_eq_true _
  have e2 : (t.toList == t.toList) = true := beq_self_eq_true _
  have H0 : Hid (Below w.heap.size w ((w.alloc (.cells #[.int .i64 k, .int .i64 u, .string t, .slice ao ts.length cap] 38)).alloc (.cells #[.int .i64 k, .int .i64 u, .string t, .slice ao2 ts.length cap2] 38))) := ((Below.refl _ w).alloc (Nat.le_refl _) _).alloc (by simp) _
  go_enter Try.func37, Try.ntmps37
  go_wp2_with fail
  refine (eqStringS_same ts ao ao2 cap cap2 _ hl (textsAt_keep H1.out H0.out) (textsAt_keep H2.out H0.out)).mono ?_
  rintro e w1 ⟨rfl, b1⟩
  have HB : Hid (Below w.heap.size w w1) := H0.out.trans (b1.mono H0.out.size)
  clear b1
  go_wp2
  go_ret
  exact ⟨rfl, HB.out⟩

open Go.ChangeShapes Go.WideShapes Go.Deep Go.Joins in
set_option maxRecDepth 100000 in
/-- A value that came in, out of its four cells. -/
theorem val_in {H : Type} {enc : TypeId × Value → H} {w : World} {fuel : Nat} {cs : List Value} {z : DataW H × List MemPlace} (h : DataW.trod enc Try.prog w 0 (fun _ => true) true fuel 46 cs = some z) :
    ∃ (v : ValD) (ao : Option Addr) (cap : Nat), cs = [.int .i64 v.kind, .int .i64 v.til, .string v.text, .slice ao v.items.length cap] ∧ v.text.size ≤ maxLen ∧ v.items.length ≤ maxLen ∧ TextsAt w ao v.items ∧ ∀ s ∈ v.items, s.size ≤ maxLen := by
  obtain ⟨y0, y1, y2, y3, n, hx, hl, h0, h1, h2, h3⟩ := trod_struct4 Try.underlying46 h
  have hc : Try.prog.cellsOf 46 = 4 := by kernel_rfl
  have kn : Try.prog.cellsOf 3 = 1 := by kernel_rfl
  have ks : Try.prog.cellsOf 9 = 1 := by kernel_rfl
  have kr : Try.prog.cellsOf 36 = 1 := by kernel_rfl
  rw [hc] at hl
  match cs, hl with
  | [v0, v1, v2, v3], _ =>
    simp only [kn, ks, kr] at h0 h1 h2 h3
    obtain ⟨k, e0, _, _⟩ := DataW.trod_int Try.underlying3 h0
    obtain ⟨u, e1, _, _⟩ := DataW.trod_int Try.underlying3 h1
    obtain ⟨t, e2, _, z2⟩ := DataW.trod_string Try.underlying9 h2
    have h3' : DataW.trod enc Try.prog w 0 (fun _ => true) true n 36 [v3] = some y3 := h3
    obtain ⟨ao, ts, cap, e3, l3, f3, s3⟩ := texts_in h3'
    simp at e0 e1 e2
    subst e0 e1 e2 e3
    exact ⟨⟨k, u, t, ts⟩, ao, cap, rfl, z2, l3, f3, s3⟩

open Go.ChangeShapes Go.WideShapes Go.Deep Go.Joins in
set_option maxRecDepth 100000 in
theorem val_of {H : Type} {enc : TypeId × Value → H} {w : World} {base : Nat} {x : Value} {d : DataW H} {p : List MemPlace} (hv : Value.okWide Try.prog w .any base 46 x)
    (h : DataW.Trod enc Try.prog w 0 (fun _ => true) true 46 x d p) :
    ∃ (v : ValD) (ao : Option Addr) (cap : Nat), x = .agg #[.int .i64 v.kind, .int .i64 v.til, .string v.text, .slice ao v.items.length cap] ∧ v.text.size ≤ maxLen ∧ v.items.length ≤ maxLen ∧ TextsAt w ao v.items ∧ ∀ s ∈ v.items, s.size ≤ maxLen := by
  obtain ⟨cs, rfl, hsz⟩ := okWide_struct Try.underlying46 hv
  obtain ⟨fuel, hf⟩ := h
  obtain ⟨v, ao, cap, e, h1⟩ := val_in hf
  have e' : cs.toList = [.int .i64 v.kind, .int .i64 v.til, .string v.text, .slice ao v.items.length cap] := e
  obtain ⟨l⟩ := cs
  simp only at e'
  subst e'
  exact ⟨v, ao, cap, rfl, h1⟩
end Go.Proofs.Ytpibnhodlojajaa
