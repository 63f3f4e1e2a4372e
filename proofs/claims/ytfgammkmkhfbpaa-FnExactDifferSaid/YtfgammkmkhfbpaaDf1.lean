import Derived.Test.YtfgammkmkhfbpaaDf0
set_option maxRecDepth 100000
set_option maxHeartbeats 800000
namespace Go.Proofs.Ytfgammkmkhfbpaa
open Go.RowKit
theorem val_cells {W : World} {g : Nat} {a b c d : Value} {t : TypeId} (h : W.heap[g]? = some (.cells #[a, b, c, d] t (0, 0))) : W.cell? ⟨g, 0, none⟩ = some a ∧ W.cell? ⟨g, 1, none⟩ = some b ∧ W.cell? ⟨g, 2, none⟩ = some c ∧ W.cell? ⟨g, 3, none⟩ = some d :=
  ⟨(cell_of_row W g 0 _ _ (0, 0) h).trans rfl, (cell_of_row W g 1 _ _ (0, 0) h).trans rfl, (cell_of_row W g 2 _ _ (0, 0) h).trans rfl, (cell_of_row W g 3 _ _ (0, 0) h).trans rfl⟩
theorem val_frozen {W : World} {g : Nat} {a b c d : Value} {t : TypeId} (h : W.heap[g]? = some (.cells #[a, b, c, d] t (0, 0))) : W.frozen? ⟨g, 0, none⟩ = false ∧ W.frozen? ⟨g, 1, none⟩ = false ∧ W.frozen? ⟨g, 2, none⟩ = false ∧ W.frozen? ⟨g, 3, none⟩ = false :=
  ⟨frozen_of_row W g 0 _ _ h, frozen_of_row W g 1 _ _ h, frozen_of_row W g 2 _ _ h, frozen_of_row W g 3 _ _ h⟩
theorem obj_lt {w : World} {k : Nat} {x : Obj} (h : w.heap[k]? = some x) : k < w.heap.size := (Array.getElem?_eq_some_iff.1 h).1
theorem blk_newd {X w2 : World} {C : Array Value} {t : TypeId} (b2 : Below (X.alloc (.cells C t)).drew.heap.size (X.alloc (.cells C t)).drew w2) : w2.heap[X.heap.size]? = some (.cells C t (0, 0)) := (b2.block X.heap.size (by simp)).trans (heap_alloc_new X _)
theorem val_keep {w w' : World} {g n : Nat} {o : Obj} (h : w.heap[g]? = some o) (hb : Below n w w') (hg : g < n) : w'.heap[g]? = some o := (hb.block g hg).trans h
def szValD (v : ValD) (n : Int) : Int := if n < (v.text.size : Int) then -1 else szTx v.items (n - v.text.size)
theorem szTs_neg : ∀ (ts : List ByteArray) (n : Int), 0 ≤ n → szTs ts n < 0 → szTs ts n = -1
  | [], n, h, h' => by simp only [szTs] at h'; omega
  | s :: r, n, _, h' => by
    unfold szTs at h' ⊢
    split at h'
    · rename_i h2; rw [if_pos h2]
    · rename_i h2; rw [if_neg h2]; exact szTs_neg r _ (by omega) h'
theorem szTx_neg (ts : List ByteArray) (n : Int) (h' : szTx ts n < 0) : szTx ts n = -1 := by
  unfold szTx at h' ⊢
  split at h'
  · rename_i h2; rw [if_pos h2]
  · rename_i h2; rw [if_neg h2]; exact szTs_neg ts _ (by omega) h'
theorem szValD_le (v : ValD) (n : Int) (h : 0 ≤ n) : szValD v n ≤ n := by
  unfold szValD
  split
  · omega
  · have := szTx_le v.items (n - v.text.size) (by omega)
    omega
theorem szValD_small {v : ValD} {n : Int} (h0 : n ≤ 1048576) (hn : 0 ≤ n) (h : 0 ≤ szValD v n) : v.text.size ≤ 1048576 ∧ v.items.length ≤ 1048576 ∧ ∀ s ∈ v.items, s.size ≤ 1048576 := by
  unfold szValD at h
  split at h
  · omega
  · have := szTx_small (by omega) h (by omega)
    exact ⟨by omega, this⟩
theorem szVal_any (v : ValD) (ao : Option Addr) (cap : Nat) (n : Int) (w : World) (h0 : 0 ≤ n) (h1 : n ≤ 1048576) (ht : v.text.size ≤ maxLen) (hl : v.items.length ≤ maxLen) (hts : TextsAt w ao v.items) (hsz : ∀ s ∈ v.items, s.size ≤ maxLen) :
    Calls Try.prog 29 #[.agg #[.int .i64 v.kind, .int .i64 v.til, .string v.text, .slice ao v.items.length cap], .int .i64 n] w fun e w' => e = .returned (.int .i64 (szValD v n)) ∧ Below w.heap.size w w' := by
  obtain ⟨k, u, t, ts⟩ := v
  simp only [szValD] at ht hl hts hsz ⊢
  have HT := hide hts
  have HS := hide hsz
  clear hts hsz
  unfold maxLen at ht
  by_cases hn : n < (t.size : Int)
  · have hn' : decide (n - (t.size : Int) < 0) = true := by simp; omega
    rw [if_pos hn]
    go_enter Try.func29, Try.ntmps29
    go_wp2
    go_ret
    exact ⟨rfl, (Below.refl _ w).alloc (Nat.le_refl _) _⟩
  · have hn' : decide (n - (t.size : Int) < 0) = false := by simp; omega
    rw [if_neg hn]
    have HNG := hide (szTx_neg ts (n - t.size))
    have HSZ := hide (fun W (hW : Below w.heap.size w W) => szStringS_any ts ao cap (n - t.size) W (by omega) (by omega) hl (textsAt_keep HT.out hW) HS.out)
    generalize szTx ts (n - t.size) = y at HNG HSZ ⊢
    go_enter Try.func29, Try.ntmps29
    go_wp2_with fail
    refine (HSZ.out _ ((Below.refl _ w).alloc (Nat.le_refl _) _)).mono ?_
    rintro e w1 ⟨rfl, b1⟩
    have HB := hide (((Below.refl _ w).alloc (Nat.le_refl _) _).trans (b1.mono (by simp)))
    clear b1
    by_cases hy : y < 0
    · have hy' : decide (y < 0) = true := by simp; omega
      have HY := hide (HNG.out hy)
      go_wp2
      go_ret
      rw [HY.out]
      exact ⟨rfl, HB.out⟩
    · have hy' : decide (y < 0) = false := by simp; omega
      go_wp2
      go_ret
      exact ⟨rfl, HB.out⟩
theorem toVal_any (v : ValD) (ao : Option Addr) (cap : Nat) (w : World) (hl : v.items.length ≤ 1048576) (hts : TextsAt w ao v.items) :
    Calls Try.prog 34 #[.agg #[.int .i64 v.kind, .int .i64 v.til, .string v.text, .slice ao v.items.length cap]] w fun e w' => (∃ x, e = .returned (.agg #[.int .i64 v.kind, .int .i64 v.til, .string v.text, x]) ∧ RowText w' w.heap.size x v.items) ∧ Below w.heap.size w w' := by
  obtain ⟨k, u, t, ts⟩ := v
  simp only at hl hts ⊢
  have HT := hide hts
  clear hts
  obtain ⟨w0, hw0⟩ : ∃ w0, w0 = ((w.alloc (.cells #[.int .i64 k, .int .i64 u, .string t, .slice ao ts.length cap] 36)).alloc (.cells #[.int .i64 0, .int .i64 0, .string ⟨#[]⟩, .slice none 0 0] 40)).alloc (.cells #[.int .i64 k, .int .i64 u, .string t, .slice none 0 0] 40) := ⟨_, rfl⟩
  have H0 : Hid (Below w.heap.size w w0) := by rw [hw0]; exact (((Below.refl _ w).alloc (Nat.le_refl _) _).alloc (by simp) _).alloc (by simp; omega) _
  have hz0 : w0.heap.size = w.heap.size + 1 + 1 + 1 := by rw [hw0]; simp
  have HZ := hide hz0
  have Q0 : Hid (w0.heap[w.heap.size + 1 + 1]? = some (.cells #[.int .i64 k, .int .i64 u, .string t, .slice none 0 0] 40 (0, 0))) := by
    show _ = _
    rw [hw0, show w.heap.size + 1 + 1 = ((w.alloc (.cells #[.int .i64 k, .int .i64 u, .string t, .slice ao ts.length cap] 36)).alloc (.cells #[.int .i64 0, .int .i64 0, .string ⟨#[]⟩, .slice none 0 0] 40)).heap.size from by simp]
    exact heap_alloc_new _ _
  have R0 : Hid (w0.heap[w.heap.size + 1]? = some (.cells #[.int .i64 0, .int .i64 0, .string ⟨#[]⟩, .slice none 0 0] 40 (0, 0))) := by
    show _ = _
    rw [hw0]
    refine ((Below.refl ((w.alloc (.cells #[.int .i64 k, .int .i64 u, .string t, .slice ao ts.length cap] 36)).alloc (.cells #[.int .i64 0, .int .i64 0, .string ⟨#[]⟩, .slice none 0 0] 40)).heap.size _).alloc (Nat.le_refl _) _).block (w.heap.size + 1) (by simp) |>.trans ?_
    rw [show w.heap.size + 1 = (w.alloc (.cells #[.int .i64 k, .int .i64 u, .string t, .slice ao ts.length cap] 36)).heap.size from by simp]
    exact heap_alloc_new _ _
  clear hz0
  go_enter Try.func34, Try.ntmps34
  go_wp2_with fail
  rw [← hw0]
  clear hw0
  refine (toStringS_any ts ao cap _ hl (textsAt_keep HT.out H0.out)).mono ?_
  rintro e w1 ⟨⟨x, rfl, hr⟩, b1⟩
  obtain ⟨a, c, rfl, -⟩ := rowText_at hr
  have HR := hide hr
  have hq := val_keep Q0.out b1 (by have := HZ.out; omega)
  have hp := val_keep R0.out b1 (by have := HZ.out; omega)
  have HB : Hid (Below w.heap.size w w1) := H0.out.trans (b1.mono H0.out.size)
  have hlt := hide (rowText_lt hr)
  clear b1 hr
  obtain ⟨q0, q1, q2, q3⟩ := val_cells hq
  obtain ⟨-, -, -, qf⟩ := val_frozen hq
  obtain ⟨r0, r1, r2, r3⟩ := val_cells hp
  obtain ⟨f0, f1, f2, f3⟩ := val_frozen hp
  clear hq hp
  go_wp2_with fail
  refine bodyPost_ret (v := .agg #[.int .i64 k, .int .i64 u, .string t, .slice a ts.length c]) (by simp [results, Try.results34, go_sem, r0, r1, r2, r3]) rfl ⟨⟨_, rfl, ?_⟩, ?_⟩
  · refine rowText_le (rowText_keep HR.out (fun g hg => ?_)) H0.out.size
    have h1 := hlt.out g hg
    have h2 := HZ.out
    rw [Below.heap_setCell _ _ _ _ (by simp; omega), Below.heap_setCell _ _ _ _ (by simp; omega), Below.heap_setCell _ _ _ _ (by simp; omega), Below.heap_setCell _ _ _ _ (by simp; omega), Below.heap_setCell _ _ _ _ (by simp; omega)]
  · exact ((((HB.out.setCell (p := ⟨w.heap.size + 1 + 1, 3, none⟩) (by simp; omega) _).setCell (p := ⟨w.heap.size + 1, 0, none⟩) (by simp) _).setCell (p := ⟨w.heap.size + 1, 1, none⟩) (by simp) _).setCell (p := ⟨w.heap.size + 1, 2, none⟩) (by simp) _).setCell (p := ⟨w.heap.size + 1, 3, none⟩) (by simp) _
theorem eqVal_same (v : ValD) (ao ao2 : Option Addr) (cap cap2 : Nat) (w : World) (hl : v.items.length ≤ maxLen) (h1 : TextsAt w ao v.items) (h2 : TextsAt w ao2 v.items) :
    Calls Try.prog 44 #[.agg #[.int .i64 v.kind, .int .i64 v.til, .string v.text, .slice ao v.items.length cap], .agg #[.int .i64 v.kind, .int .i64 v.til, .string v.text, .slice ao2 v.items.length cap2]] w fun e w' => e = .returned (.bool true) ∧ Below w.heap.size w w' := by
  obtain ⟨k, u, t, ts⟩ := v
  simp only at hl h1 h2 ⊢
  have H1 := hide h1
  have H2 := hide h2
  clear h1 h2
  have e0 : (k == k) = true := beq_self_eq_true _
  have e1 : (u == u) = true := beq_self_eq_true _
  have e2 : (t.toList == t.toList) = true := beq_self_eq_true _
  have H0 : Hid (Below w.heap.size w ((w.alloc (.cells #[.int .i64 k, .int .i64 u, .string t, .slice ao ts.length cap] 40)).alloc (.cells #[.int .i64 k, .int .i64 u, .string t, .slice ao2 ts.length cap2] 40))) := ((Below.refl _ w).alloc (Nat.le_refl _) _).alloc (by simp) _
  go_enter Try.func44, Try.ntmps44
  go_wp2_with fail
  refine (eqStringS_same ts ao ao2 cap cap2 _ hl (textsAt_keep H1.out H0.out) (textsAt_keep H2.out H0.out)).mono ?_
  rintro e w1 ⟨rfl, b1⟩
  have HB : Hid (Below w.heap.size w w1) := H0.out.trans (b1.mono H0.out.size)
  clear b1
  go_wp2
  go_ret
  exact ⟨rfl, HB.out⟩
open Go.ChangeShapes Go.WideShapes Go.Deep Go.Joins in
theorem val_in {H : Type} {enc : TypeId × Value → H} {w : World} {fuel : Nat} {cs : List Value} {z : DataW H × List MemPlace} (h : DataW.trod enc Try.prog w 0 (fun _ => true) true fuel 36 cs = some z) :
    ∃ (v : ValD) (ao : Option Addr) (cap : Nat), cs = [.int .i64 v.kind, .int .i64 v.til, .string v.text, .slice ao v.items.length cap] ∧ v.text.size ≤ maxLen ∧ v.items.length ≤ maxLen ∧ TextsAt w ao v.items ∧ ∀ s ∈ v.items, s.size ≤ maxLen := by
  obtain ⟨y0, y1, y2, y3, n, hx, hl, h0, h1, h2, h3⟩ := trod_struct4 Try.underlying36 h
  have hc : Try.prog.cellsOf 36 = 4 := by kernel_rfl
  have kn : Try.prog.cellsOf 3 = 1 := by kernel_rfl
  have ks : Try.prog.cellsOf 9 = 1 := by kernel_rfl
  have kr : Try.prog.cellsOf 34 = 1 := by kernel_rfl
  rw [hc] at hl
  match cs, hl with
  | [v0, v1, v2, v3], _ =>
    simp only [kn, ks, kr] at h0 h1 h2 h3
    obtain ⟨k, e0, _, _⟩ := DataW.trod_int Try.underlying3 h0
    obtain ⟨u, e1, _, _⟩ := DataW.trod_int Try.underlying3 h1
    obtain ⟨t, e2, _, z2⟩ := DataW.trod_string Try.underlying9 h2
    have h3' : DataW.trod enc Try.prog w 0 (fun _ => true) true n 34 [v3] = some y3 := h3
    obtain ⟨ao, ts, cap, e3, l3, f3, s3⟩ := texts_in h3'
    simp at e0 e1 e2
    subst e0 e1 e2 e3
    exact ⟨⟨k, u, t, ts⟩, ao, cap, rfl, z2, l3, f3, s3⟩
structure EntD where
  key : ByteArray
  val : ValD
theorem Try.infoEntry : (Try.prog.info? 42).map (fun i => (i.zero, i.size, i.bytes)) = some (some (.agg #[.string ⟨#[]⟩, .int .i64 0, .int .i64 0, .string ⟨#[]⟩, .slice none 0 0]), 5, 72) := by kernel_rfl
def EntriesAt (w : World) (ao : Option Addr) (es : List EntD) : Prop := ∀ j (h : j < es.length), ∃ b off : Nat, ao = some ⟨b, off, none⟩ ∧ b < w.heap.size ∧ w.cell? ⟨b, off + j * 5, none⟩ = some (.string es[j].key) ∧
  w.cell? ⟨b, off + j * 5 + 1, none⟩ = some (.int .i64 es[j].val.kind) ∧ w.cell? ⟨b, off + j * 5 + 2, none⟩ = some (.int .i64 es[j].val.til) ∧ w.cell? ⟨b, off + j * 5 + 3, none⟩ = some (.string es[j].val.text) ∧
  ∃ a c, w.cell? ⟨b, off + j * 5 + 4, none⟩ = some (.slice a es[j].val.items.length c) ∧ TextsAt w a es[j].val.items
theorem entriesAt_keep {w w' : World} {ao : Option Addr} {es : List EntD} (h : EntriesAt w ao es) (hb : Below w.heap.size w w') : EntriesAt w' ao es := by
  intro j hj
  obtain ⟨b, off, h1, h2, h3, h4, h5, h6, a, c, h7, h8⟩ := h j hj
  exact ⟨b, off, h1, Nat.lt_of_lt_of_le h2 hb.size, (hb.cell (p := ⟨b, off + j * 5, none⟩) h2).trans h3, (hb.cell (p := ⟨b, off + j * 5 + 1, none⟩) h2).trans h4, (hb.cell (p := ⟨b, off + j * 5 + 2, none⟩) h2).trans h5, (hb.cell (p := ⟨b, off + j * 5 + 3, none⟩) h2).trans h6, a, c, (hb.cell (p := ⟨b, off + j * 5 + 4, none⟩) h2).trans h7, textsAt_keep h8 hb⟩
def KidsE (w : World) (B g : Nat) (C : Array Value) (es : List EntD) (k : Nat) : Prop :=
  (∀ j (h : j < es.length), j < k → C[j * 5]? = some (.string es[j].key) ∧ C[j * 5 + 1]? = some (.int .i64 es[j].val.kind) ∧ C[j * 5 + 2]? = some (.int .i64 es[j].val.til) ∧ C[j * 5 + 3]? = some (.string es[j].val.text) ∧ ∃ x, C[j * 5 + 4]? = some x ∧ RowText w B x es[j].val.items ∧ x.ownBlock ≠ some g) ∧
  (∀ (i j : Nat) (x y : Value) (h : Nat), i ≠ j → i < k → j < k → C[i * 5 + 4]? = some x → C[j * 5 + 4]? = some y → x.ownBlock = some h → y.ownBlock ≠ some h)
def RowEnt (w : World) (B : Nat) (v : Value) (es : List EntD) : Prop := (v = .slice none 0 0 ∧ es = []) ∨
  ∃ (g cap : Nat) (C : Array Value), v = .slice (some ⟨g, 0, none⟩) es.length cap ∧ B ≤ g ∧ w.heap[g]? = some (.cells C 42 (0, 0)) ∧ es.length * 5 ≤ C.size ∧ KidsE w B g C es es.length
theorem kidsE_keep {w w' : World} {B g k : Nat} {C : Array Value} {es : List EntD} (h : KidsE w B g C es k) (hk : ∀ b, B ≤ b → b < w.heap.size → b ≠ g → w'.heap[b]? = w.heap[b]?) : KidsE w' B g C es k := by
  refine ⟨fun j hj hjk => ?_, h.2⟩
  obtain ⟨h1, h2, h3, h4, x, h5, h6, h7⟩ := h.1 j hj hjk
  exact ⟨h1, h2, h3, h4, x, h5, rowText_keep h6 (fun b hb => hk b (rowText_lt h6 b hb).1 (rowText_lt h6 b hb).2 (fun e => h7 (by rw [hb, e]))), h7⟩
theorem rowEnt_keep {w w' : World} {B : Nat} {v : Value} {es : List EntD} (h : RowEnt w B v es) (hk : ∀ b, B ≤ b → b < w.heap.size → w'.heap[b]? = w.heap[b]?) : RowEnt w' B v es := by
  rcases h with h | ⟨g, cap, C, rfl, hB, hC, hs, hI⟩
  · exact .inl h
  · exact .inr ⟨g, cap, C, rfl, hB, (hk g hB (obj_lt hC)).trans hC, hs, kidsE_keep hI (fun b h1 h2 _ => hk b h1 h2)⟩
theorem rowEnt_below {w w' : World} {B : Nat} {v : Value} {es : List EntD} (h : RowEnt w B v es) (hb : Below w.heap.size w w') : RowEnt w' B v es :=
  rowEnt_keep h (fun k _ hk => hb.block k hk)
theorem rowEnt_at {w : World} {B : Nat} {v : Value} {es : List EntD} (h : RowEnt w B v es) : ∃ ao cap, v = .slice ao es.length cap ∧ EntriesAt w ao es := by
  rcases h with ⟨rfl, rfl⟩ | ⟨g, cap, C, rfl, _, hC, _, hI⟩
  · exact ⟨none, 0, rfl, fun j hj => absurd hj (by simp)⟩
  · refine ⟨_, cap, rfl, fun j hj => ⟨g, 0, rfl, obj_lt hC, ?_⟩⟩
    obtain ⟨h1, h2, h3, h4, x, h5, h6, -⟩ := hI.1 j hj hj
    obtain ⟨a, c, rfl, h8⟩ := rowText_at h6
    rw [Nat.zero_add]
    exact ⟨(cell_of_row w g _ _ _ (0, 0) hC).trans h1, (cell_of_row w g _ _ _ (0, 0) hC).trans h2, (cell_of_row w g _ _ _ (0, 0) hC).trans h3, (cell_of_row w g _ _ _ (0, 0) hC).trans h4, a, c, (cell_of_row w g _ _ _ (0, 0) hC).trans h5, h8⟩
theorem rowEnt_rows {w : World} {B n c : Nat} {a : Option Addr} {es : List EntD} (h : RowEnt w B (.slice a n c) es) : n = es.length ∧ EntriesAt w a es := by
  obtain ⟨ao, cap, e, hf⟩ := rowEnt_at h
  cases e
  exact ⟨rfl, hf⟩
theorem kidsE_zero (w : World) (B g : Nat) (C : Array Value) (es : List EntD) : KidsE w B g C es 0 := ⟨fun j _ h => absurd h (by omega), fun i j x y h _ hi => absurd hi (by omega)⟩
def putE (C : Array Value) (k : Nat) (e : EntD) (x : Value) : Array Value := ((((C.setIfInBounds (k * 5) (.string e.key)).setIfInBounds (k * 5 + 1) (.int .i64 e.val.kind)).setIfInBounds (k * 5 + 2) (.int .i64 e.val.til)).setIfInBounds (k * 5 + 3) (.string e.val.text)).setIfInBounds (k * 5 + 4) x
theorem putE_size (C : Array Value) (k : Nat) (e : EntD) (x : Value) : (putE C k e x).size = C.size := by simp [putE]
theorem putE_other (C : Array Value) (k : Nat) (e : EntD) (x : Value) (i : Nat) (h : i < k * 5 ∨ k * 5 + 4 < i) : (putE C k e x)[i]? = C[i]? := by
  unfold putE
  rw [Array.getElem?_setIfInBounds_ne (by omega), Array.getElem?_setIfInBounds_ne (by omega), Array.getElem?_setIfInBounds_ne (by omega), Array.getElem?_setIfInBounds_ne (by omega), Array.getElem?_setIfInBounds_ne (by omega)]
theorem putE_here (C : Array Value) (k : Nat) (e : EntD) (x : Value) (h : k * 5 + 4 < C.size) : (putE C k e x)[k * 5]? = some (.string e.key) ∧ (putE C k e x)[k * 5 + 1]? = some (.int .i64 e.val.kind) ∧ (putE C k e x)[k * 5 + 2]? = some (.int .i64 e.val.til) ∧ (putE C k e x)[k * 5 + 3]? = some (.string e.val.text) ∧ (putE C k e x)[k * 5 + 4]? = some x := by
  unfold putE
  refine ⟨?_, ?_, ?_, ?_, ?_⟩ <;> simp [Array.getElem?_setIfInBounds] <;> omega
def storeE (w : World) (g k : Nat) (e : EntD) (x : Value) : World := ((((w.setCell ⟨g, k * 5, none⟩ (.string e.key)).setCell ⟨g, k * 5 + 1, none⟩ (.int .i64 e.val.kind)).setCell ⟨g, k * 5 + 2, none⟩ (.int .i64 e.val.til)).setCell ⟨g, k * 5 + 3, none⟩ (.string e.val.text)).setCell ⟨g, k * 5 + 4, none⟩ x
theorem storeE_here {w : World} {g k : Nat} {C : Array Value} {t : TypeId} (e : EntD) (x : Value) (h : w.heap[g]? = some (.cells C t (0, 0))) : (storeE w g k e x).heap[g]? = some (.cells (putE C k e x) t (0, 0)) :=
  heap_setCell_same _ g _ _ t _ (heap_setCell_same _ g _ _ t _ (heap_setCell_same _ g _ _ t _ (heap_setCell_same _ g _ _ t _ (heap_setCell_same w g _ C t _ h))))
theorem storeE_other (w : World) (g k : Nat) (e : EntD) (x : Value) (b : Nat) (h : b ≠ g) : (storeE w g k e x).heap[b]? = w.heap[b]? := by
  unfold storeE
  rw [Below.heap_setCell _ _ _ _ (by simpa using h), Below.heap_setCell _ _ _ _ (by simpa using h), Below.heap_setCell _ _ _ _ (by simpa using h), Below.heap_setCell _ _ _ _ (by simpa using h), Below.heap_setCell _ _ _ _ (by simpa using h)]
theorem storeE_below {w0 w : World} {B g k : Nat} (e : EntD) (x : Value) (h : Below B w0 w) (hg : B ≤ g) : Below B w0 (storeE w g k e x) :=
  ((((h.setCell (p := ⟨g, k * 5, none⟩) hg _).setCell (p := ⟨g, k * 5 + 1, none⟩) hg _).setCell (p := ⟨g, k * 5 + 2, none⟩) hg _).setCell (p := ⟨g, k * 5 + 3, none⟩) hg _).setCell (p := ⟨g, k * 5 + 4, none⟩) hg _
theorem kidsE_put {wr w1 : World} {B g k : Nat} {C : Array Value} {es : List EntD} {x : Value} (h : KidsE wr B g C es k) (hk : k < es.length) (hs : es.length * 5 ≤ C.size) (hBw : B ≤ wr.heap.size) (hg : g < wr.heap.size)
    (hb : Below wr.heap.size wr w1) (hx : RowText w1 wr.heap.size x es[k].val.items) : KidsE (storeE w1 g k es[k] x) B g (putE C k es[k] x) es (k + 1) := by
  have hxg : x.ownBlock ≠ some g := fun e => by have := (rowText_lt hx g e).1; omega
  refine ⟨fun j hj hjk => ?_, ?_⟩
  · by_cases e : j = k
    · subst e
      obtain ⟨h1, h2, h3, h4, h5⟩ := putE_here C j es[j] x (by omega)
      exact ⟨h1, h2, h3, h4, x, h5, rowText_le (rowText_keep hx (fun b hb' => storeE_other _ _ _ _ _ _ (fun e => hxg (by rw [hb', e])))) hBw, hxg⟩
    · obtain ⟨h1, h2, h3, h4, y, h5, h6, h7⟩ := h.1 j hj (by omega)
      refine ⟨by rw [putE_other _ _ _ _ _ (by omega)]; exact h1, by rw [putE_other _ _ _ _ _ (by omega)]; exact h2, by rw [putE_other _ _ _ _ _ (by omega)]; exact h3, by rw [putE_other _ _ _ _ _ (by omega)]; exact h4, y, by rw [putE_other _ _ _ _ _ (by omega)]; exact h5, rowText_keep h6 (fun b hb' => ?_), h7⟩
      rw [storeE_other _ _ _ _ _ _ (fun e => h7 (by rw [hb', e])), hb.block b (rowText_lt h6 b hb').2]
  · have old : ∀ i y, i < k → (putE C k es[k] x)[i * 5 + 4]? = some y → ∀ b, y.ownBlock = some b → b < wr.heap.size := by
      intro i y hi hy b hb'
      rw [putE_other _ _ _ _ _ (by omega)] at hy
      obtain ⟨_, _, _, _, z, h5, h6, _⟩ := h.1 i (by omega) hi
      rw [hy] at h5
      obtain rfl := Option.some.inj h5
      exact (rowText_lt h6 b hb').2
    have new : ∀ y, (putE C k es[k] x)[k * 5 + 4]? = some y → ∀ b, y.ownBlock = some b → wr.heap.size ≤ b := by
      intro y hy b hb'
      rw [(putE_here C k es[k] x (by omega)).2.2.2.2] at hy
      obtain rfl := Option.some.inj hy
      exact (rowText_lt hx b hb').1
    intro i j y z b hij hi hj hy hz hyb hzb
    by_cases ei : i = k
    · subst ei
      have := new y hy b hyb
      have := old j z (by omega) hz b hzb
      omega
    · by_cases ej : j = k
      · subst ej
        have := new z hz b hzb
        have := old i y (by omega) hy b hyb
        omega
      · rw [putE_other _ _ _ _ _ (by omega)] at hy hz
        exact h.2 i j y z b hij (by omega) (by omega) hy hz hyb hzb
end Go.Proofs.Ytfgammkmkhfbpaa
