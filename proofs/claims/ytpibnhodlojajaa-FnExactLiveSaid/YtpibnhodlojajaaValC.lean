/- A value copied: the specification's l10Copy, the program's ownVal (written by tools/gen_valc.py). -/
import Derived.Test.YtpibnhodlojajaaValL
import Derived.Test.YtpibnhodlojajaaClone
import Derived.Deep.Upon
import Derived.Deep.RegionHeld3
import Derived.Deep.RegionLaw
import Derived.Deep.CutRange
namespace Go.Proofs.Ytpibnhodlojajaa
open Go.RowKit

theorem texts_cells2 {W : World} {b off : Nat} {ts : List ByteArray} (h : TextsAt W (some ⟨b, off, none⟩) ts) : ∀ j u, (ts.map Value.string)[j]? = some u → W.cell? ((⟨b, off, none⟩ : Addr).add j) = some u := by
  intro j u hu
  have hj : j < ts.length := by
    rcases Nat.lt_or_ge j ts.length with h' | h'
    · exact h'
    · rw [List.getElem?_eq_none (by simpa using h')] at hu; cases hu
  obtain ⟨b', off', e, _, hc⟩ := h j hj
  obtain ⟨rfl, rfl⟩ : b = b' ∧ off = off' := by simpa using e
  have e2 : ((⟨b, off, none⟩ : Addr).add j) = ⟨b, off + j, none⟩ := by cases j <;> simp [Addr.add]
  rw [e2, hc, ← hu]
  simp [hj]

/-- The texts of a row, nil too, put behind an empty row of the call's own. -/
theorem app_txtsO {ops : Array Oper} {rest : List Oper} {o : Oper} {a : Act} {Q : Exit → Act → World → Prop} (W : World) (B : Nat) (hgd : o.guard = none) (s x : Operand)
    (ho : o.op = .call { callee := .builtin .append, args := #[s, x], argTypes := #[36, 36] }) (v : Value) (ts : List ByteArray) (hs : a.eval s = v)
    (hown : W.ownsRow B 9 1 v 0 []) (ao : Option Addr) (cap : Nat) (hx : a.eval x = .slice ao ts.length cap) (hts : TextsAt W ao ts)
    (hlen : ts.length ≤ 1048576) (hbase : B ≤ W.heap.size)
    (h : ∀ v' w', w'.ownsRow B 9 1 v' ts.length (ts.map Value.string) → Below B W w' → wpList Try.prog ops Q rest (a.put o.dst v') w') :
    wpList Try.prog ops Q (o :: rest) a W := by
  obtain ⟨i0, hi, hz0, hz1, hz2⟩ := info_parts Try.infoText
  by_cases hz : ts.length = 0
  · have hnil := List.eq_nil_of_length_eq_zero hz
    subst hnil
    obtain ⟨bs, cs, rfl⟩ := slice_form hown
    have hr := run_append_nothing (P := Try.prog) W 36 36 o.type 9 i0 Try.underlying36 hi bs 0 cs (Nat.zero_le _) (.slice ao 0 cap) (by cases ao with | none => exact Src.ofNil W Try.underlying36 cap | some p => exact Src.ofSlice W Try.underlying36 p 0 cap [] (by simp) (by simp) (by simp))
    refine wpList_plain hgd fun K hK => ?_
    unfold Oper.wp execOp
    simp only [ho, resolve, invoke, builtin, Sem.run_bind, Sem.run_pure, Result.andThen_ok, List.map_toArray, List.map_cons, List.map_nil, hs, hx, List.length_nil, hr]
    exact hK _ _ (h _ W hown (Below.refl _ _))
  · obtain ⟨b, off, rfl, _⟩ := hts 0 (by omega)
    refine wpList_append_own W hgd s x 36 ho B 9 i0 (.string ⟨#[]⟩) 1 16 Try.underlying36 hi hz0 hz1 hz2 rfl (by decide) v 0 [] hs hown ⟨b, off, none⟩ ts.length cap (ts.map Value.string) hx (by simp)
      (texts_cells2 hts) (texts_one ts) (by unfold maxLen; omega) (by omega) hbase ?_
    intro v' w' hown' hgrow _
    have hlt := hown.lt
    rw [Nat.zero_add, List.nil_append] at hown'
    exact h v' w' hown' ((Below.refl B W).grown hgrow hbase (fun k hk => (hlt k hk).1))

set_option maxRecDepth 100000 in
set_option maxHeartbeats 800000 in
theorem l10Copy_any (v : ValD) (ao : Option Addr) (cap : Nat) (w : World) (hl : v.items.length ≤ 1048576) (hts : TextsAt w ao v.items) :
    Calls Try.prog 19 #[.agg #[.int .i64 v.kind, .int .i64 v.til, .string v.text, .slice ao v.items.length cap]] w fun e w' => (∃ a c, e = .returned (.agg #[.int .i64 v.kind, .int .i64 v.til, .string v.text, .slice a v.items.length c]) ∧ RowText w' w.heap.size (.slice a v.items.length c) v.items) ∧ Below w.heap.size w w' := by
  obtain ⟨k, u, t, ts⟩ := v
  simp only at hl hts ⊢
  have HT := hide hts
  clear hts
  obtain ⟨w0, hw0⟩ : ∃ w0, w0 = ((w.alloc (.cells #[.int .i64 k, .int .i64 u, .string t, .slice ao ts.length cap] 38)).alloc (.cells #[.int .i64 0, .int .i64 0, .string ⟨#[]⟩, .slice none 0 0] 38)).alloc (.cells #[] 9) := ⟨_, rfl⟩
  have H0 : Hid (Below w.heap.size w w0) := by rw [hw0]; exact (((Below.refl _ w).alloc (Nat.le_refl _) _).alloc (by simp) _).alloc (by simp; omega) _
  have hz0 : w0.heap.size = w.heap.size + 1 + 1 + 1 := by rw [hw0]; simp
  have HZ := hide hz0
  have Q0 : Hid (w0.heap[w.heap.size]? = some (.cells #[.int .i64 k, .int .i64 u, .string t, .slice ao ts.length cap] 38 (0, 0))) := by
    show _ = _
    rw [hw0]
    exact ((((Below.refl (w.heap.size + 1) (w.alloc (.cells #[.int .i64 k, .int .i64 u, .string t, .slice ao ts.length cap] 38))).alloc (by simp) _).alloc (by simp) _).block w.heap.size (by omega)).trans (heap_alloc_new w _)
  have R0 : Hid (w0.heap[w.heap.size + 1]? = some (.cells #[.int .i64 0, .int .i64 0, .string ⟨#[]⟩, .slice none 0 0] 38 (0, 0))) := by
    show _ = _
    rw [hw0]
    refine ((Below.refl ((w.alloc (.cells #[.int .i64 k, .int .i64 u, .string t, .slice ao ts.length cap] 38)).alloc (.cells #[.int .i64 0, .int .i64 0, .string ⟨#[]⟩, .slice none 0 0] 38)).heap.size _).alloc (Nat.le_refl _) _).block (w.heap.size + 1) (by simp) |>.trans ?_
    rw [show w.heap.size + 1 = (w.alloc (.cells #[.int .i64 k, .int .i64 u, .string t, .slice ao ts.length cap] 38)).heap.size from by simp]
    exact heap_alloc_new _ _
  have E0 : Hid (w0.ownsRow (w.heap.size + 1 + 1) 9 1 (.slice (some ⟨w.heap.size + 1 + 1, 0, none⟩) 0 0) 0 []) := by
    show World.ownsRow _ _ _ _ _ _ _
    refine ⟨rfl, .inr ⟨w.heap.size + 1 + 1, 0, #[], rfl, Nat.le_refl _, ?_, Nat.le_refl _, Nat.zero_le _, rfl, rfl⟩⟩
    rw [hw0, show w.heap.size + 1 + 1 = ((w.alloc (.cells #[.int .i64 k, .int .i64 u, .string t, .slice ao ts.length cap] 38)).alloc (.cells #[.int .i64 0, .int .i64 0, .string ⟨#[]⟩, .slice none 0 0] 38)).heap.size from by simp]
    exact heap_alloc_new _ _
  clear hz0
  go_enter Try.func19, Try.ntmps19
  go_wp2_with (at_builtin; refine app_txtsO _ (w.heap.size + 1 + 1) rfl _ _ rfl _ ts rfl (by rw [← hw0]; exact E0.out) ao cap rfl (by rw [← hw0]; exact textsAt_keep HT.out H0.out) hl (by rw [← hw0, HZ.out]; omega) ?_; intro v1 w1 hown1 hb1; obtain ⟨a1, c1, rfl⟩ := slice_form hown1; rw [← hw0] at hb1; have HO1 := hide hown1; have q1 := (hb1.block _ (show w.heap.size < w.heap.size + 1 + 1 by omega)).trans Q0.out; have r1 := (hb1.block _ (show w.heap.size + 1 < w.heap.size + 1 + 1 by omega)).trans R0.out; have HB1 := hide (H0.out.trans (hb1.mono (by omega))); obtain ⟨qc0, qc1, qc2, qc3⟩ := val_cells q1; obtain ⟨qf0, qf1, qf2, qf3⟩ := val_frozen q1; obtain ⟨rc0, rc1, rc2, rc3⟩ := val_cells r1; obtain ⟨rf0, rf1, rf2, rf3⟩ := val_frozen r1; clear hown1 hb1 q1 r1)
  refine bodyPost_ret (v := .agg #[.int .i64 k, .int .i64 u, .string t, .slice a1 ts.length c1]) (by simp [results, Try.results19, go_sem, rc0, rc1, rc2, rc3]) rfl ⟨⟨a1, c1, rfl, ?_⟩, ?_⟩
  · have hr := rowText_own HO1.out
    refine rowText_le (rowText_keep hr (fun g hg => ?_)) (by omega : w.heap.size ≤ w.heap.size + 1 + 1)
    have h1 := rowText_lt hr g hg
    rw [Below.heap_setCell _ _ _ _ (by simp; omega), Below.heap_setCell _ _ _ _ (by simp; omega), Below.heap_setCell _ _ _ _ (by simp; omega), Below.heap_setCell _ _ _ _ (by simp; omega), Below.heap_setCell _ _ _ _ (by simp; omega)]
  · exact ((((HB1.out.setCell (p := ⟨w.heap.size, 3, none⟩) (Nat.le_refl _) _).setCell (p := ⟨w.heap.size + 1, 0, none⟩) (by simp) _).setCell (p := ⟨w.heap.size + 1, 1, none⟩) (by simp) _).setCell (p := ⟨w.heap.size + 1, 2, none⟩) (by simp) _).setCell (p := ⟨w.heap.size + 1, 3, none⟩) (by simp) _

/-- What ownVal holds while it goes on: its parameter, its answer's box, its own value in block o. -/
def OwnV (w wr : World) (o : Nat) (k u : Int) (t : ByteArray) (pv vv : Value) (L : List ByteArray) : Prop :=
  wr.heap[w.heap.size]? = some (.cells #[.int .i64 k, .int .i64 u, .string t, pv] 38 (0, 0)) ∧ wr.heap[w.heap.size + 1]? = some (.cells #[.int .i64 0, .int .i64 0, .string ⟨#[]⟩, .slice none 0 0] 38 (0, 0)) ∧
  wr.heap[o]? = some (.cells #[.int .i64 k, .int .i64 u, .string t, vv] 38 (0, 0)) ∧ wr.ownsRow (o + 1) 9 1 vv L.length (L.map Value.string) ∧ Below w.heap.size w wr ∧ w.heap.size + 2 ≤ o
theorem ownV_new {w wb x1 : World} {k u : Int} {t : ByteArray} {pv : Value} (hz : wb.heap[w.heap.size]? = some (.cells #[.int .i64 k, .int .i64 u, .string t, pv] 38 (0, 0)) ∧ wb.heap.size = w.heap.size + 1 + 1) (hr : wb.heap[w.heap.size + 1]? = some (.cells #[.int .i64 0, .int .i64 0, .string ⟨#[]⟩, .slice none 0 0] 38 (0, 0)))
    (he : Below wb.heap.size wb x1) (h0 : Below w.heap.size w wb) : OwnV w (x1.alloc (.cells #[.int .i64 k, .int .i64 u, .string t, .slice none 0 0] 38)) x1.heap.size k u t pv (.slice none 0 0) [] := by
  have b1 := he.alloc he.size (.cells #[.int .i64 k, .int .i64 u, .string t, .slice none 0 0] 38)
  have hs := he.size
  exact ⟨(b1.block _ (by omega)).trans hz.1, (b1.block _ (by omega)).trans hr, heap_alloc_new _ _, World.ownsRow_nil _ _ _ _, h0.trans (b1.mono h0.size), by omega⟩
theorem ownV_old {w wb x1 : World} {k u : Int} {t : ByteArray} {pv : Value} (hz : wb.heap[w.heap.size]? = some (.cells #[.int .i64 k, .int .i64 u, .string t, pv] 38 (0, 0)) ∧ wb.heap.size = w.heap.size + 1 + 1) (hr : wb.heap[w.heap.size + 1]? = some (.cells #[.int .i64 0, .int .i64 0, .string ⟨#[]⟩, .slice none 0 0] 38 (0, 0)))
    (hg : x1.heap[wb.heap.size]? = some (.cells #[.int .i64 0, .int .i64 0, .string ⟨#[]⟩, .slice none 0 0] 38 (0, 0))) (he : Below wb.heap.size wb x1) (h0 : Below w.heap.size w wb) :
    OwnV w ((((x1.setCell ⟨wb.heap.size, 0, none⟩ (.int .i64 k)).setCell ⟨wb.heap.size, 1, none⟩ (.int .i64 u)).setCell ⟨wb.heap.size, 2, none⟩ (.string t)).setCell ⟨wb.heap.size, 3, none⟩ (.slice none 0 0)) wb.heap.size k u t pv (.slice none 0 0) [] := by
  have b1 := (((he.setCell (p := ⟨wb.heap.size, 0, none⟩) (Nat.le_refl _) (.int .i64 k)).setCell (p := ⟨wb.heap.size, 1, none⟩) (Nat.le_refl _) (.int .i64 u)).setCell (p := ⟨wb.heap.size, 2, none⟩) (Nat.le_refl _) (.string t)).setCell (p := ⟨wb.heap.size, 3, none⟩) (Nat.le_refl _) (.slice none 0 0)
  exact ⟨(b1.block _ (by omega)).trans hz.1, (b1.block _ (by omega)).trans hr, (heap_setCell_same _ _ _ _ _ _ (heap_setCell_same _ _ _ _ _ _ (heap_setCell_same _ _ _ _ _ _ (heap_setCell_same _ _ _ _ _ _ hg)))).trans rfl, World.ownsRow_nil _ _ _ _, h0.trans (b1.mono h0.size), by omega⟩

set_option maxRecDepth 100000 in
set_option maxHeartbeats 3200000 in
theorem ownVal_any (v : ValD) (ao : Option Addr) (cap : Nat) (w : World) (hl : v.items.length ≤ 1048576) (ht : v.text.size ≤ 1048576) (hts : TextsAt w ao v.items) (hsz : ∀ s ∈ v.items, s.size ≤ 1048576) :
    Calls Try.prog 30 #[.agg #[.int .i64 v.kind, .int .i64 v.til, .string v.text, .slice ao v.items.length cap]] w fun e w' => (∃ a c, e = .returned (.agg #[.int .i64 v.kind, .int .i64 v.til, .string v.text, .slice a v.items.length c]) ∧ RowText w' w.heap.size (.slice a v.items.length c) v.items) ∧ Below w.heap.size w w' := by
  obtain ⟨k, u, t, ts⟩ := v
  simp only at hl ht hts hsz ⊢
  have HT := hide hts
  have HS := hide hsz
  have HOT := hide (fun W => ownText_any t W ht)
  clear hts hsz
  obtain ⟨wb, hwb⟩ : ∃ wb, wb = (w.alloc (.cells #[.int .i64 k, .int .i64 u, .string t, .slice ao ts.length cap] 38)).alloc (.cells #[.int .i64 0, .int .i64 0, .string ⟨#[]⟩, .slice none 0 0] 38) := ⟨_, rfl⟩
  have B0 : Hid (Below w.heap.size w wb) := by rw [hwb]; exact ((Below.refl _ w).alloc (Nat.le_refl _) _).alloc (by simp) _
  have HZ : Hid (wb.heap[w.heap.size]? = some (.cells #[.int .i64 k, .int .i64 u, .string t, .slice ao ts.length cap] 38 (0, 0)) ∧ wb.heap.size = w.heap.size + 1 + 1) := by
    rw [hwb]
    exact ⟨((Below.refl (w.heap.size + 1) (w.alloc (.cells #[.int .i64 k, .int .i64 u, .string t, .slice ao ts.length cap] 38))).alloc (by simp) _ |>.block w.heap.size (by omega)).trans (heap_alloc_new w _), by simp⟩
  have HR : Hid (wb.heap[w.heap.size + 1]? = some (.cells #[.int .i64 0, .int .i64 0, .string ⟨#[]⟩, .slice none 0 0] 38 (0, 0))) := by
    show _ = _
    rw [hwb, show w.heap.size + 1 = (w.alloc (.cells #[.int .i64 k, .int .i64 u, .string t, .slice ao ts.length cap] 38)).heap.size from by simp]
    exact heap_alloc_new _ _
  have KC : Hid (∀ X, Below wb.heap.size wb X → X.cell? ⟨w.heap.size, 0, none⟩ = some (.int .i64 k) ∧ X.cell? ⟨w.heap.size, 1, none⟩ = some (.int .i64 u) ∧ X.cell? ⟨w.heap.size, 2, none⟩ = some (.string t)) := fun X hX => by
    have h := val_cells (val_keep HZ.out.1 hX (by have := HZ.out.2; omega))
    exact ⟨h.1, h.2.1, h.2.2.1⟩
  go_enter Try.func30, Try.ntmps30
  go_upto_region 1 with fail
  rw [← hwb]
  clear hwb
  go_cut [3] from 5 (fun pp wx => ∃ o, pp = .pointer (some ⟨o, 0, none⟩) ∧ OwnV w wx o k u t (.slice ao ts.length cap) (.slice none 0 0) [])
  case first =>
    rename_i hJ9 hK9
    refine wp_region_held_drew (S := fun X => X.cell? ⟨w.heap.size, 0, none⟩ = some (.int .i64 k) ∧ X.cell? ⟨w.heap.size, 1, none⟩ = some (.int .i64 u) ∧ X.cell? ⟨w.heap.size, 2, none⟩ = some (.string t)) (by kernel_rfl) ?hS0 (fun hHeld => ?_)
    case hS0 => exact KC.out _ (Below.refl _ _).drew
    refine wpAnyH_take (i := 0) (oi := _) (v := .pointer (some ⟨w.heap.size, 0, none⟩)) rfl (by kernel_rfl) (by kernel_rfl) (by kernel_rfl) (fun _ _ _ h => h) (Or.inl ⟨by rfl, ?hy⟩) (by assumption) ?_
    case hy => intro w hSw; (try dsimp only at hSw); go_simp; (try with_reducible rfl)
    try simp only [Act.put]
    refine wpAnyH_take (i := 1) (oi := _) (v := .int .i64 k) rfl (by kernel_rfl) (by kernel_rfl) (by kernel_rfl) (fun _ _ _ h => h) (Or.inl ⟨by rfl, ?hy⟩) (by assumption) ?_
    case hy => intro w hSw; (try dsimp only at hSw); obtain ⟨hr0, hr1, hr2⟩ := hSw; go_simp; (try with_reducible rfl)
    try simp only [Act.put]
    refine wpAnyH_take (i := 2) (oi := _) (v := .pointer (some ⟨w.heap.size, 1, none⟩)) rfl (by kernel_rfl) (by kernel_rfl) (by kernel_rfl) (fun _ _ _ h => h) (Or.inl ⟨by rfl, ?hy⟩) (by assumption) ?_
    case hy => intro w hSw; (try dsimp only at hSw); go_simp; (try with_reducible rfl)
    try simp only [Act.put]
    refine wpAnyH_take (i := 3) (oi := _) (v := .int .i64 u) rfl (by kernel_rfl) (by kernel_rfl) (by kernel_rfl) (fun _ _ _ h => h) (Or.inl ⟨by rfl, ?hy⟩) (by assumption) ?_
    case hy => intro w hSw; (try dsimp only at hSw); obtain ⟨hr0, hr1, hr2⟩ := hSw; go_simp; (try with_reducible rfl)
    try simp only [Act.put]
    refine wpAnyH_take (i := 4) (oi := _) (v := .pointer (some ⟨w.heap.size, 2, none⟩)) rfl (by kernel_rfl) (by kernel_rfl) (by kernel_rfl) (fun _ _ _ h => h) (Or.inl ⟨by rfl, ?hy⟩) (by assumption) ?_
    case hy => intro w hSw; (try dsimp only at hSw); go_simp; (try with_reducible rfl)
    try simp only [Act.put]
    refine wpAnyH_take (i := 5) (oi := _) (v := .string t) rfl (by kernel_rfl) (by kernel_rfl) (by kernel_rfl) (fun _ _ _ h => h) (Or.inl ⟨by rfl, ?hy⟩) (by assumption) ?_
    case hy => intro w hSw; (try dsimp only at hSw); obtain ⟨hr0, hr1, hr2⟩ := hSw; go_simp; (try with_reducible rfl)
    try simp only [Act.put]
    refine wpAnyH_ready (rs := [6, 8]) (by kernel_rfl) (by simp) ?_
    refine AllReadyH.cons (o := _) rfl (fun K hK => ?step) ?_
    case step =>
      go_simp
      refine (HOT.out _).mono ?_
      rintro e x1 ⟨rfl, bx⟩
      have E1 : Hid (Below wb.heap.size wb x1) := (Below.refl wb.heap.size wb).drew.trans bx
      clear bx
      refine hK.out _ _ ?hS (fun hHeld => ?_)
      case hS => exact KC.out _ E1.out
      clear hK K
      try simp only [Act.put]
      refine wpAnyH_take (i := 7) (oi := _) (v := .agg #[.int .i64 k, .int .i64 u, .string t, .slice none 0 0]) rfl (by kernel_rfl) (by kernel_rfl) (by kernel_rfl) (fun _ _ _ h => h) (Or.inl ⟨by rfl, ?hy⟩) (by assumption) ?_
      case hy => intro w hSw; (try dsimp only at hSw); go_simp; (try with_reducible rfl)
      try simp only [Act.put]
      refine wpAnyH_ready (rs := [8]) (by kernel_rfl) (by simp) ?_
      refine AllReadyH.cons (o := _) rfl (fun K hK => ?step) ?_
      case step =>
        go_simp
        refine hK.out _ _ ?hS (fun hHeld => ?_)
        case hS => exact KC.out _ (E1.out.alloc E1.out.size (.cells #[.int .i64 0, .int .i64 0, .string ⟨#[]⟩, .slice none 0 0] 38))
        clear hK K
        try simp only [Act.put]
        refine wpAnyH_ready (rs := [9]) (by kernel_rfl) (by simp) ?_
        refine AllReadyH.cons (o := _) rfl (fun K hK => ?step) ?_
        case step =>
          go_simp
          refine hK.out _ _ ?hS (fun hHeld => ?_)
          case hS => exact KC.out _ (E1.out.alloc E1.out.size _)
          clear hK K
          try simp only [Act.put]
          refine wpAnyH_done (by kernel_rfl) ?_ _
          refine hK9 _ _ (Met.intro (hJ9 _ _ ?_)); (repeat apply Exists.intro); refine ⟨?_, rfl⟩
          exact ⟨x1.heap.size, rfl, ownV_new HZ.out HR.out E1.out B0.out⟩
        exact AllReadyH.nil
      exact AllReadyH.nil
    refine AllReadyH.cons (o := _) rfl (fun K hK => ?step) ?_
    case step =>
      go_simp
      refine hK.out _ _ ?hS (fun hHeld => ?_)
      case hS => exact KC.out _ ((Below.refl wb.heap.size wb).alloc (Nat.le_refl _) (.cells #[.int .i64 0, .int .i64 0, .string ⟨#[]⟩, .slice none 0 0] 38)).drew
      clear hK K
      try simp only [Act.put]
      refine wpAnyH_ready (rs := [6]) (by kernel_rfl) (by simp) ?_
      refine AllReadyH.cons (o := _) rfl (fun K hK => ?step) ?_
      case step =>
        go_simp
        refine (HOT.out _).mono ?_
        rintro e x1 ⟨rfl, bx⟩
        have E1 : Hid (Below wb.heap.size wb x1) := ((Below.refl wb.heap.size wb).alloc (Nat.le_refl _) (.cells #[.int .i64 0, .int .i64 0, .string ⟨#[]⟩, .slice none 0 0] 38)).drew.trans (bx.mono (by simp))
        have GX := hide (blk_newd bx)
        clear bx
        refine hK.out _ _ ?hS (fun hHeld => ?_)
        case hS => exact KC.out _ E1.out
        clear hK K
        try simp only [Act.put]
        refine wpAnyH_take (i := 7) (oi := _) (v := .agg #[.int .i64 k, .int .i64 u, .string t, .slice none 0 0]) rfl (by kernel_rfl) (by kernel_rfl) (by kernel_rfl) (fun _ _ _ h => h) (Or.inl ⟨by rfl, ?hy⟩) (by assumption) ?_
        case hy => intro w hSw; (try dsimp only at hSw); go_simp; (try with_reducible rfl)
        try simp only [Act.put]
        refine wpAnyH_ready (rs := [9]) (by kernel_rfl) (by simp) ?_
        obtain ⟨y0, y1, y2, y3⟩ := val_cells GX.out
        obtain ⟨f0, f1, f2, f3⟩ := val_frozen GX.out
        refine AllReadyH.cons (o := _) rfl (fun K hK => ?step) ?_
        case step =>
          go_simp
          refine hK.out _ _ ?hS (fun hHeld => ?_)
          case hS => exact KC.out _ ((((E1.out.setCell (p := ⟨wb.heap.size, 0, none⟩) (Nat.le_refl _) _).setCell (p := ⟨wb.heap.size, 1, none⟩) (Nat.le_refl _) _).setCell (p := ⟨wb.heap.size, 2, none⟩) (Nat.le_refl _) _).setCell (p := ⟨wb.heap.size, 3, none⟩) (Nat.le_refl _) _)
          clear hK K
          try simp only [Act.put]
          refine wpAnyH_done (by kernel_rfl) ?_ _
          refine hK9 _ _ (Met.intro (hJ9 _ _ ?_)); (repeat apply Exists.intro); refine ⟨?_, rfl⟩
          exact ⟨wb.heap.size, rfl, ownV_old HZ.out HR.out GX.out E1.out B0.out⟩
        exact AllReadyH.nil
      exact AllReadyH.nil
    exact AllReadyH.nil
  case rest =>
  obtain ⟨o, rfl, hov⟩ := hcut
  have HOV := hide hov
  clear hov
  obtain ⟨p0, p1, p2, p3⟩ := val_cells HOV.out.1
  go_wp2_with fail
  clear p0 p1 p2 p3
  go_loopw [17] (fun ii wr => ∃ (k1 : Nat) (vv : Value), ii = .int .i64 (k1 : Int) ∧ k1 ≤ ts.length ∧ Hid (OwnV w wr o k u t (.slice ao ts.length cap) vv (ts.take k1))) (fun ii _ => ts.length - (intOf ii).toNat)
  case atStart => exact ⟨0, _, rfl, Nat.zero_le _, HOV⟩
  case round =>
    obtain ⟨k1, vv, rfl, hk, HO⟩ := hrel
    by_cases hlt : k1 < ts.length
    · have hlt' : decide ((k1 : Int) < (ts.length : Int)) = true := by simp; omega
      obtain ⟨b, off, rfl, hbw, hc0⟩ := textsAt_keep HT.out HO.out.2.2.2.2.1 k1 hlt
      have hsF := HS.out ts[k1] (List.getElem_mem hlt)
      have HTK := hide (List.take_succ_eq_append_getElem hlt)
      obtain ⟨F, HF⟩ : ∃ F, Hid (ts[k1] = F) := ⟨_, hide rfl⟩
      rw [HF.out] at hc0 hsF HTK
      have hi0 : (0 : Int) ≤ (k1 : Int) := by omega
      have hi1 : (k1 : Int) < (ts.length : Int) := by omega
      obtain ⟨L, HL⟩ : ∃ L, Hid (ts.take k1 = L) := ⟨_, hide rfl⟩
      have hLl : L.length ≤ 1048576 := by rw [← HL.out, List.length_take]; omega
      rw [HL.out] at HO HTK
      obtain ⟨aa, ca, rfl⟩ := slice_form HO.out.2.2.2.1
      have HOW := hide HO.out.2.2.2.1
      have hoB : o < wr.heap.size := obj_lt HO.out.2.2.1
      obtain ⟨-, -, -, hv3⟩ := val_cells HO.out.2.2.1
      go_wp2_with fail
      go_region_law ((first | (refine step_app_txt _ (o + 1) (by rfl) _ _ (by rfl) _ L F (by rfl) (HO4.out.alloc _) w4.heap.size (by simp [Act.eval]) (heap_alloc_new w4 _) hLl (by simp; omega) ?_; intro g5 cap5 w5 ho5 hb5 hgr5 hg5 hgl5; have B5 : Hid (Below (o + 1) w4 w5) := ((Below.refl _ w4).alloc (by omega) _).trans hb5; have HO5 := hide ho5; have hn0 := (B5.out.block o (by omega)).trans HV4.out; obtain ⟨m0, m1, m2, m3⟩ := val_cells hn0; obtain ⟨l0, l1, l2, l3⟩ := val_frozen hn0; have HN0 := hide hn0; clear hn0 ho5 hb5 hgr5 hg5 hgl5) | (go_simp; go_at_call 36; refine (ownText_any F _ hsF).mono ?_; rintro e w4 ⟨rfl, b4⟩; have E4 : Hid (Below wr.heap.size wr w4) := (Below.refl _ wr).drew.trans b4; have hs4 : wr.heap.size ≤ w4.heap.size := E4.out.size; have HV4 := hide ((E4.out.block o hoB).trans HO.out.2.2.1); obtain ⟨-, -, -, hall0⟩ := val_cells HV4.out; have hall : (w4.alloc (.cells #[.string F] 9)).cell? ⟨o, 3, none⟩ = _ := (((Below.refl _ w4).alloc (Nat.le_refl _) _).cell (p := ⟨o, 3, none⟩) (by show o < _; omega)).trans hall0; have HO4 := hide (ownsRow_below HOW.out E4.out); clear b4)))
      all_goals
        go_wp2
        go_roundw
        case rel =>
          refine ⟨k1 + 1, .slice (some ⟨g5, 0, none⟩) (L.length + 1) cap5, by go_num, by omega, ?_⟩
          have h5 := B5.out
          have hx : (w5.setCell ⟨o, 3, none⟩ (.slice (some ⟨g5, 0, none⟩) (L.length + 1) cap5)).heap[o]? = some (.cells #[.int .i64 k, .int .i64 u, .string t, .slice (some ⟨g5, 0, none⟩) (L.length + 1) cap5] 38 (0, 0)) := (heap_setCell_same _ _ _ _ _ _ HN0.out).trans rfl
          have hoo := HO.out.2.2.2.2.2
          show OwnV _ _ _ _ _ _ _ _ _
          rw [HTK.out]
          refine ⟨?_, ?_, hx, ?_, ?_, hoo⟩
          · rw [Below.heap_setCell _ _ _ _ (by simp; omega), h5.block _ (by omega), E4.out.block _ (obj_lt HO.out.1)]; exact HO.out.1
          · rw [Below.heap_setCell _ _ _ _ (by simp; omega), h5.block _ (by omega), E4.out.block _ (obj_lt HO.out.2.1)]; exact HO.out.2.1
          · exact HO5.out.kept (grownBy_store (World.grownBy.refl _ _) 3 _) (by cases hh : (Value.slice (some ⟨g5, 0, none⟩) (L.length + 1) cap5).ownBlock with | none => exact .inl rfl | some bb => exact .inr (fun e => by have := (HO5.out.lt bb hh).1; have e2 : bb = o := Option.some.inj e; omega))
          · exact ((HO.out.2.2.2.2.1.trans (E4.out.mono (HO.out.2.2.2.2.1).size)).trans (h5.mono (by omega))).setCell (p := ⟨o, 3, none⟩) (by show w.heap.size ≤ o; omega) _
        case measure => simp [intOf]; omega
    · have hlt' : decide ((k1 : Int) < (ts.length : Int)) = false := by simp; omega
      have hke : k1 = ts.length := by omega
      subst hke
      have HO2 := HO.out
      rw [List.take_length] at HO2
      have HX := hide HO2
      clear HO2 HO
      obtain ⟨aa, ca, rfl⟩ := slice_form HX.out.2.2.2.1
      obtain ⟨q0, q1, q2, q3⟩ := val_cells HX.out.2.2.1
      obtain ⟨r0, r1, r2, r3⟩ := val_cells HX.out.2.1
      obtain ⟨f0, f1, f2, f3⟩ := val_frozen HX.out.2.1
      go_wp2_with fail
      refine bodyPost_ret (v := .agg #[.int .i64 k, .int .i64 u, .string t, .slice aa ts.length ca]) (by simp [results, Try.results30, go_sem, r0, r1, r2, r3]) rfl ⟨⟨aa, ca, rfl, ?_⟩, ?_⟩
      · have hr := rowText_own HX.out.2.2.2.1
        have hoo := HX.out.2.2.2.2.2
        refine rowText_le (rowText_keep hr (fun g hg => ?_)) (by omega : w.heap.size ≤ o + 1)
        have h1 := rowText_lt hr g hg
        rw [Below.heap_setCell _ _ _ _ (by simp; omega), Below.heap_setCell _ _ _ _ (by simp; omega), Below.heap_setCell _ _ _ _ (by simp; omega), Below.heap_setCell _ _ _ _ (by simp; omega)]
      · exact (((HX.out.2.2.2.2.1.setCell (p := ⟨w.heap.size + 1, 0, none⟩) (by simp) _).setCell (p := ⟨w.heap.size + 1, 1, none⟩) (by simp) _).setCell (p := ⟨w.heap.size + 1, 2, none⟩) (by simp) _).setCell (p := ⟨w.heap.size + 1, 3, none⟩) (by simp) _
end Go.Proofs.Ytpibnhodlojajaa
