import Derived.Test.YtmmchemgegmhhaaGreatDoorFo10
import Derived.Test.YtmmchemgegmhhaaGreatDoorFo7
import Derived.Test.YtmmchemgegmhhaaGreatDoorFo1
set_option maxRecDepth 100000
set_option maxHeartbeats 4000000
namespace Go.Proofs.YtmmchemgegmhhaaGreatDoor
open Go.RowKit
theorem isSegmentBelow_any (m : Nat) (nm : ByteArray) (w : World) (hm : m ≤ 100) :
    Calls Tryz.prog 169 #[.int .i64 (m : Int), .string nm] w fun e w' => e = .returned (.bool (isBelow m nm)) ∧ w' = w := by
  obtain ⟨R, HR⟩ : ∃ R, Hid (isBelow m nm = R) := ⟨_, hide rfl⟩
  rw [HR.out]
  go_enter Tryz.func169, Tryz.ntmps169
  go_wp2_with fail
  go_loopw [7] (fun ii wr => ∃ (k : Nat), ii = .int .i64 k ∧ k ≤ m ∧ Hid (isBelow k nm = false) ∧ wr = w) (fun ii _ => m - (intOf ii).toNat)
  case atStart => exact ⟨0, rfl, Nat.zero_le _, rfl, rfl⟩
  case round =>
    obtain ⟨k, rfl, hk, HK, rfl⟩ := hrel
    by_cases hlt : k < m
    · have hlt' : decide ((k : Int) < (m : Int)) = true := by simp; omega
      obtain ⟨X, HX⟩ : ∃ X, Hid (segNm (k : Int) = X) := ⟨_, hide rfl⟩
      have HN : Hid (∀ W : World, Calls Tryz.prog 41 #[.int .i64 (k : Int)] W fun e w' => e = .returned (.string X) ∧ w' = W) := fun W => by rw [← HX.out]; exact implSegName_any (k : Int) W
      cases hb : (X.toList == nm.toList) with
      | true =>
        have hE : Hid (R = true) := by show _ = _; rw [← HR.out]; exact isBelow_at hlt (by rw [HX.out]; exact hb)
        go_wp2_with fail
        refine (HN.out _).mono ?_
        rintro e w1 ⟨rfl, rfl⟩
        go_wp2
        go_ret
        rw [hE.out]
        exact ⟨rfl, rfl⟩
      | false =>
        have hE : Hid (isBelow (k + 1) nm = false) := by show _ = _; rw [isBelow_succ, HK.out, HX.out, hb]; rfl
        go_wp2_with fail
        refine (HN.out _).mono ?_
        rintro e w1 ⟨rfl, rfl⟩
        go_wp2
        go_roundw
        case rel => exact ⟨k + 1, by go_num, by omega, hE, by first | rfl | trivial⟩
        case measure => simp [intOf]; omega
    · have hlt' : decide ((k : Int) < (m : Int)) = false := by simp; omega
      have hke : k = m := by omega
      subst hke
      have hE : Hid (R = false) := by show _ = _; rw [← HR.out]; exact HK.out
      go_wp2
      go_ret
      rw [hE.out]
      exact ⟨rfl, rfl⟩
theorem seven_cells {W : World} {g : Nat} {a b c d e f f' : Value} {t : TypeId} (h : W.heap[g]? = some (.cells #[a, b, c, d, e, f, f'] t (0, 0))) : W.cell? ⟨g, 0, none⟩ = some a ∧ W.cell? ⟨g, 1, none⟩ = some b ∧ W.cell? ⟨g, 2, none⟩ = some c ∧ W.cell? ⟨g, 3, none⟩ = some d ∧ W.cell? ⟨g, 4, none⟩ = some e ∧ W.cell? ⟨g, 5, none⟩ = some f ∧ W.cell? ⟨g, 6, none⟩ = some f' :=
  ⟨(cell_of_row W g 0 _ _ (0, 0) h).trans rfl, (cell_of_row W g 1 _ _ (0, 0) h).trans rfl, (cell_of_row W g 2 _ _ (0, 0) h).trans rfl, (cell_of_row W g 3 _ _ (0, 0) h).trans rfl, (cell_of_row W g 4 _ _ (0, 0) h).trans rfl, (cell_of_row W g 5 _ _ (0, 0) h).trans rfl, (cell_of_row W g 6 _ _ (0, 0) h).trans rfl⟩
theorem lastOf_any (l : List SegD) (v : Value) (B K : Nat) (w : World) (hl : l.length ≤ 100) (h0 : 0 < l.length) (h : BuildG w B K v l) :
    Calls Tryz.prog 132 #[v] w fun e w' => (∃ a c a' c', e = .returned (.agg #[.int .i64 ((l[l.length - 1]'(by omega)).num : Int), .int .i64 ((l[l.length - 1]'(by omega)).frm : Int), .slice a (l[l.length - 1]'(by omega)).bs.length c, .slice a' (l[l.length - 1]'(by omega)).pls.length c', .int .i64 ((l[l.length - 1]'(by omega)).fin : Int), .bool (l[l.length - 1]'(by omega)).right, .bool (l[l.length - 1]'(by omega)).torn]) ∧ RowBatch w K (.slice a (l[l.length - 1]'(by omega)).bs.length c) (l[l.length - 1]'(by omega)).bs) ∧ Below w.heap.size w w' := by
  obtain ⟨ao, cap, rfl⟩ := buildG_form h
  obtain ⟨g, hg, hgw, hc0, hc1, ⟨a, c, hc2, hrb⟩, ⟨a', c', hc3, hrp⟩, hc4, hc5, hc6⟩ := buildG_at h (l.length - 1) (by omega)
  subst hg
  have HRB := hide hrb
  clear hrb hrp h
  generalize l[l.length - 1]'(by omega) = F at hc0 hc1 hc2 hc3 hc4 hc5 hc6 HRB
  have hj0 : (0 : Int) ≤ (l.length : Int) - 1 := by omega
  have hj1 : (l.length : Int) - 1 < (l.length : Int) := by omega
  have hjn : ((l.length : Int) - 1).toNat = l.length - 1 := by omega
  have hjw : IntKind.i64.wrap ((l.length : Int) - 1) = (l.length : Int) - 1 := by rw [IntKind.wrap_i64]; omega
  go_enter Tryz.func132, Tryz.ntmps132
  go_wp2
  obtain ⟨y0, y1, y2, y3, y4, y5, y6⟩ := seven_cells (heap_alloc_new w (.cells #[.int .i64 (F.num : Int), .int .i64 (F.frm : Int), .slice a F.bs.length c, .slice a' F.pls.length c', .int .i64 (F.fin : Int), .bool F.right, .bool F.torn] 161))
  refine bodyPost_ret (v := .agg #[.int .i64 (F.num : Int), .int .i64 (F.frm : Int), .slice a F.bs.length c, .slice a' F.pls.length c', .int .i64 (F.fin : Int), .bool F.right, .bool F.torn]) ?_ rfl ?_
  · simp [results, Tryz.results132, go_sem, y0, y1, y2, y3, y4, y5, y6]
  · exact ⟨⟨a, c, a', c', rfl, HRB.out⟩, (Below.refl _ w).alloc (Nat.le_refl _) _⟩
def TextsAt (w : World) (ao : Option Addr) (ts : List ByteArray) : Prop := ∀ j (h : j < ts.length), ∃ b off : Nat, ao = some ⟨b, off, none⟩ ∧ b < w.heap.size ∧ w.cell? ⟨b, off + j, none⟩ = some (.string ts[j])
theorem textsAt_keep {w w' : World} {ao : Option Addr} {ts : List ByteArray} (h : TextsAt w ao ts) (hb : Below w.heap.size w w') : TextsAt w' ao ts := by
  intro j hj
  obtain ⟨b, off, h1, h2, h3⟩ := h j hj
  exact ⟨b, off, h1, Nat.lt_of_lt_of_le h2 hb.size, (hb.cell (p := ⟨b, off + j, none⟩) h2).trans h3⟩
theorem newFileActs_any (nm : ByteArray) (ts : List ByteArray) (ao : Option Addr) (cap : Nat) (w : World) (hl : ts.length ≤ 1000000) (hts : TextsAt w ao ts) :
    Calls Tryz.prog 153 #[.string nm, .slice ao ts.length cap] w fun e w' => (∃ a c, e = .returned (.slice a (ts.length + 2) c) ∧ w'.ownsRow w.heap.size 103 4 (.slice a (ts.length + 2) c) (newsA nm ts).length (cellsAct (newsA nm ts))) ∧ Below w.heap.size w w' := by
  have HTS := hide hts
  clear hts
  go_enter Tryz.func153, Tryz.ntmps153
  go_wp2_with fail
  go_loopw [5, 10] (fun vo ii wr => ∃ (k : Nat), ii = .int .i64 k ∧ k ≤ ts.length ∧ Hid (wr.ownsRow w.heap.size 103 4 vo ((ts.take k).map addA).length (cellsAct ((ts.take k).map addA))) ∧ Hid (Below w.heap.size w wr)) (fun _ ii _ => ts.length - (intOf ii).toNat)
  case atStart => exact ⟨0, rfl, Nat.zero_le _, World.ownsRow_nil _ _ _ _, Below.refl _ _⟩
  case round =>
    obtain ⟨k, rfl, hk, HO, HB⟩ := hrel
    have hws := HB.out.size
    by_cases hlt : k < ts.length
    · have hlt' : decide ((k : Int) < (ts.length : Int)) = true := by simp; omega
      have hi0 : (0 : Int) ≤ (k : Int) := by omega
      have hi1 : (k : Int) < (ts.length : Int) := by omega
      obtain ⟨b, off, hab, hbw, hc0⟩ := textsAt_keep HTS.out HB.out k hlt
      have htk := hide (List.take_succ_eq_append_getElem hlt)
      generalize ts[k] = T at hc0 htk
      subst hab
      obtain ⟨L, HL⟩ : ∃ L, Hid ((ts.take k).map addA = L) := ⟨_, hide rfl⟩
      have hLl : L.length ≤ 1048576 := by
        rw [← HL.out, List.length_map, List.length_take]
        omega
      rw [HL.out] at HO
      go_wp2_with fail
      refine (ownText_any ⟨#[109, 43]⟩ _ (by decide)).mono ?_
      rintro e w3 ⟨rfl, b3⟩
      have B3 := hide b3
      have hw3 := b3.size
      clear b3
      go_wp2_with (at_builtin; refine app_act _ w.heap.size (by rfl) _ _ (by rfl) _ L (addA T) (by rfl) ((ownsRow_below HO.out B3.out).alloc _) w3.heap.size (by rfl) (heap_alloc_new w3 _) hLl (by simp; omega) ?_; intro g5 cap5 w5 ho5 hb5 hg5 hgl5; have HO5 := hide ho5; have HB5 := hide hb5; clear ho5 hb5 hg5 hgl5)
      go_roundw
      case rel =>
        refine ⟨k + 1, by go_num, by omega, ?_, ((HB.out.trans (B3.out.mono hws)).alloc (by omega) _).trans HB5.out⟩
        show World.ownsRow _ _ _ _ _ _ _
        rw [htk.out, List.map_append, HL.out]
        exact HO5.out
      case measure => simp [intOf]; omega
    · have hlt' : decide ((k : Int) < (ts.length : Int)) = false := by simp; omega
      have hke : k = ts.length := by omega
      subst hke
      rw [List.take_length] at HO
      obtain ⟨L, HL⟩ : ∃ L, Hid (ts.map addA = L) := ⟨_, hide rfl⟩
      have hLl : L.length ≤ 1048576 := by
        rw [← HL.out, List.length_map]
        omega
      have hLe : Hid (L.length = ts.length) := by show _ = _; rw [← HL.out, List.length_map]
      rw [HL.out] at HO
      have HE : Hid (newsA nm ts = L ++ [⟨2, nmNew, ⟨#[]⟩, ⟨#[]⟩⟩, ⟨3, nmNew, ⟨#[]⟩, nm⟩]) := by show _ = _; unfold newsA; rw [HL.out]
      go_wp2_with fail
      refine (ownText_any ⟨#[109, 43]⟩ _ (by decide)).mono ?_
      rintro e w3 ⟨rfl, b3⟩
      have B3 := hide b3
      have hw3 := b3.size
      clear b3
      go_wp2_with fail
      refine (ownText_any ⟨#[109, 43]⟩ _ (by decide)).mono ?_
      rintro e w4 ⟨rfl, b4⟩
      have B4 := hide (B3.out.trans (b4.mono B3.out.size))
      have hw4 := b4.size
      clear b4
      go_wp2_with (at_builtin; refine app_acts _ w.heap.size (by rfl) _ _ (by rfl) _ L [⟨2, nmNew, ⟨#[]⟩, ⟨#[]⟩⟩, ⟨3, nmNew, ⟨#[]⟩, nm⟩] (by rfl) ((ownsRow_below HO.out B4.out).alloc _) w4.heap.size 2 (by rfl) (by rfl) (heap_alloc_new w4 _) hLl (by omega) (by omega) (by simp; omega) ?_; intro g5 cap5 w5 ho5 hb5 hg5 hgl5; have HO5 := hide ho5; have HB5 := hide hb5; clear ho5 hb5 hg5 hgl5)
      rw [hLe.out] at HO5 ⊢
      go_ret
      rw [HE.out]
      exact ⟨⟨_, _, rfl, HO5.out⟩, ((HB.out.trans (B4.out.mono hws)).alloc (by omega) _).trans HB5.out⟩
theorem newFileActs_one (nm text : ByteArray) (k : Nat) (w : World) (hk : k < w.heap.size) (hc : w.cell? ⟨k, 0, none⟩ = some (.string text)) :
    Calls Tryz.prog 153 #[.string nm, .slice (some ⟨k, 0, none⟩) 1 1] w fun e w' => (∃ a c, e = .returned (.slice a 3 c) ∧ w'.ownsRow w.heap.size 103 4 (.slice a 3 c) (newA nm text).length (cellsAct (newA nm text))) ∧ Below w.heap.size w w' :=
  newFileActs_any nm [text] (some ⟨k, 0, none⟩) 1 w (by simp) (fun j hj => by
    have hj0 : j = 0 := by simp at hj; omega
    subst hj0
    exact ⟨k, 0, rfl, hk, hc⟩)
end Go.Proofs.YtmmchemgegmhhaaGreatDoor
namespace Go.Proofs.YtmmchemgegmhhaaGreatDoor
open Go.RowKit Go.Shelf
attribute [local go_sem] Oper.semAt_some
theorem lastB_of_empty {l : List SegD} : ∀ (k : Nat), k ≤ l.length → (∀ j (h : j < l.length), k ≤ j → l[j].bs = []) → seqD l = seqD (l.take k) := by
  intro k hk h
  induction hn : l.length - k generalizing k with
  | zero => rw [List.take_of_length_le (by omega)]
  | succ n ih =>
    rw [ih (k + 1) (by omega) (fun j hj hkj => h j hj (by omega)) (by omega), seqD_take_succ (by omega), h k (by omega) (Nat.le_refl _)]
    rfl
theorem mem_downTo {n k j : Nat} : j ∈ downTo n k ↔ k ≤ j ∧ j < n := by
  unfold downTo
  rw [List.mem_reverse, List.mem_iff_getElem?]
  constructor
  · rintro ⟨i, hi⟩
    rw [List.getElem?_drop, List.getElem?_eq_some_iff] at hi
    obtain ⟨h1, h2⟩ := hi
    simp at h1 h2
    omega
  · rintro ⟨h1, h2⟩
    exact ⟨j - k, by rw [List.getElem?_drop, List.getElem?_eq_some_iff]; exact ⟨by simp; omega, by simp; omega⟩⟩
theorem downTo_split {n j : Nat} {p rest : List Nat} (h : downTo n 0 = p ++ [j] ++ rest) : p = downTo n (j + 1) := by
  have hlen := congrArg List.length h
  have hp : p.length < n := by
    have : (downTo n 0).length = n := by unfold downTo; simp
    simp at hlen
    omega
  have h1 : (downTo n 0)[p.length]? = some j := by rw [h]; simp
  have h2 : j = n - 1 - p.length := by
    unfold downTo at h1
    rw [List.drop_zero, List.getElem?_reverse (by simpa using hp), List.length_range, List.getElem?_range (by omega)] at h1
    simp only [Option.some.injEq] at h1
    omega
  obtain ⟨r2, h3⟩ := downTo_pre (n := n) (k := j + 1)
  have h4 : (downTo n (j + 1)).length = p.length := by
    unfold downTo
    rw [List.length_reverse, List.length_drop, List.length_range]
    omega
  rw [h3, List.append_assoc] at h
  exact (List.append_inj h h4).1.symm
def BackAt (l : List SegD) (w : World) (pre : List (Pl l)) (W : World) : Prop := (∀ x ∈ pre, (l[x.1]'x.2).bs = []) ∧ Below w.heap.size w W
theorem backAt_own (l : List SegD) (w : World) (B : Nat) (hB : w.heap.size ≤ B) : OwnFrom B (BackAt l w) := by
  rintro pre W W' row ⟨h, hBl⟩ hg hr
  exact ⟨h, hBl.grown hg hBl.size (fun k hk => Nat.le_trans hB (hr k hk).1)⟩
def BackX (l : List SegD) (w : World) (Rb : Nat) (c : Go.Code) (pre : List (Pl l)) (W : World) : Prop :=
  c = .ret ∧ ∃ (p : List (Pl l)) (x : Pl l), pre = p ++ [x] ∧ (∀ y ∈ p, (l[y.1]'y.2).bs = []) ∧ (∃ h : 0 < (l[x.1]'x.2).bs.length, Boxed W Rb 3 (.int .i64 (((l[x.1]'x.2).bs[(l[x.1]'x.2).bs.length - 1]'(by omega)).seq))) ∧ Below w.heap.size w W
theorem backX_own (l : List SegD) (w : World) (Rb B : Nat) (hB : w.heap.size ≤ B) (hR : Rb < B) (c : Go.Code) : OwnFrom B (BackX l w Rb c) := by
  rintro pre W W' row ⟨h0, p, x, h1, h2, ⟨h3, h4⟩, hBl⟩ hg hr
  refine ⟨h0, p, x, h1, h2, ⟨h3, h4.kept hg (fun e => ?_)⟩, hBl.grown hg hBl.size (fun k hk => Nat.le_trans hB (hr k hk).1)⟩
  have := (hr _ e.symm).1
  omega
theorem box_ret {W : World} {g D : Nat} {t : TypeId} {v : Value} (h : Boxed W g t v) (hD : W.heap[D]? = some (.deferred (some []))) (o' : Obj) : (W.putObj D o').cell? ⟨g, 0, none⟩ = some v ∧ ∀ w : World, Below w.heap.size w W → w.heap.size ≤ D → Below w.heap.size w (W.putObj D o') := by
  have hne : D ≠ g := fun e => by rw [e, show W.heap[g]? = _ from h] at hD; cases hD
  have hb : Boxed (W.putObj D o') g t v := h.kept (grownBy_putObj' W D o') (fun e => by cases e; exact hne rfl)
  exact ⟨hb.cell, fun w hw h2 => hw.trans (belowK_b (w := w) (Nat.le_refl _) W D _ _ h2 hD rfl rfl)⟩
theorem lastSeq_any (l : List SegD) (v : Value) (B K : Nat) (w : World) (hl : l.length ≤ 100) (hb : ∀ s ∈ l, s.bs.length ≤ 20001) (h : BuildG w B K v l) :
    Calls Tryz.prog 133 #[v] w fun e w' => e = .returned (.int .i64 (seqD l)) ∧ Below w.heap.size w w' := by
  obtain ⟨a1, c1, rfl⟩ := buildG_form h
  obtain ⟨vs, ps, hV, hRB⟩ := segsV_of h
  have HB := hide hb
  have HRB := hide hRB
  have hvs := hV.1
  have hps := hV.2.1
  have hao : ∀ g, a1 = some ⟨g, 0, none⟩ → g < w.heap.size := fun g hg => by
    obtain ⟨vs, ps, -, -, h2, -⟩ := h
    subst hg
    exact (h2.lt g rfl).2
  clear hRB hb h
  refine (callsIn_wide (n := 3)).1 ?_
  refine callsIn_of_wp_marks Tryz.func133 rfl trivial ?_ rfl
  simp only [Tryz.ntmps133, List.size_toArray, List.length_cons, List.length_nil, Nat.reduceAdd, Nat.reduceSub, Array.replicate_succ, Array.replicate_zero, List.push_toArray, List.append_toArray, List.nil_append, List.cons_append]
  gi_wp2_with (first | (refine ⟨trivial, ?_⟩; gi_at_call 172; refine (callsIn_wide.2 (backward_any a1 l.length c1 _)).mono ?_; rintro e w' ⟨rfl, rfl⟩))
  obtain ⟨W0, hW0⟩ : ∃ W0, (w.alloc (.cells #[.int .i64 0] 3)).alloc (.cells #[.slice a1 l.length c1] 138) = W0 := ⟨_, rfl⟩
  have hB0 : Below w.heap.size w W0 := by rw [← hW0]; exact ((Below.refl _ w).alloc (Nat.le_refl _) _).alloc (by simp) _
  have hz0 : W0.heap.size = w.heap.size + 2 := by rw [← hW0]; simp
  have k1 : Boxed W0 w.heap.size 3 (.int .i64 0) := by rw [← hW0]; exact (Boxed.new w 3 (.int .i64 0)).alloc _
  have k2 : Boxed W0 (w.heap.size + 1) 138 (.slice a1 l.length c1) := by
    have h := Boxed.new (w.alloc (.cells #[.int .i64 0] 3)) 138 (.slice a1 l.length c1)
    rw [World.size_alloc] at h
    rw [← hW0]
    exact h
  have HV0 := hide (segsV_keep hV hao hB0 (by omega))
  rw [hW0]
  clear hW0
  obtain ⟨sf, hsf⟩ : ∃ f : Pl l → SegD, ∀ x, f x = l[x.1]'x.2 := ⟨_, fun x => rfl⟩
  obtain ⟨vf, hvf⟩ : ∃ f : Pl l → Option Addr × Nat, ∀ x, f x = vs[x.1]'(by have := x.2; omega) := ⟨fun x => vs[x.1]'(by have := x.2; omega), fun x => rfl⟩
  obtain ⟨pf, hpf⟩ : ∃ f : Pl l → Option Addr × Nat, ∀ x, f x = ps[x.1]'(by have := x.2; omega) := ⟨fun x => ps[x.1]'(by have := x.2; omega), fun x => rfl⟩
  have HST := back_stops l vs ps hvs hps hl a1 c1 2 (w.heap.size + 1) W0.heap.size (by omega) W0 (Nat.le_refl _) k2 (fun g hg => by have := hao g hg; omega) HV0.out
  simp only [← hsf, ← hvf, ← hpf] at HST
  have HSF := hide hsf
  have HVF := hide hvf
  clear hsf hvf hpf
  refine wpIn_rangeFunc_ownH rfl (by omega) (gf := 200) (lb := #[.pointer (some ⟨w.heap.size + 1, 0, none⟩)]) rfl trivial (enters_of Tryz.func200 (by kernel_rfl) rfl)
    HST kpT_t (kpT_b (Nat.le_refl _)) (Below.refl _ _) (fun _ => rfl)
    (BackAt l W0) (BackX l w w.heap.size) (backAt_own l W0 _ (Nat.le_refl _)) (backX_own l w w.heap.size _ (by omega) (by omega))
    ⟨fun x hx => absurd hx List.not_mem_nil, Below.refl _ _⟩
    (fun x a' W => ∃ g, a' = { tmps := #[.slice a1 l.length c1, undef, .pointer (some ⟨w.heap.size, 0, none⟩), undef, .pointer (some ⟨g, 0, none⟩), .slice a1 l.length c1, .func (.func 200) #[] #[.pointer (some ⟨w.heap.size + 1, 0, none⟩)], .int .i64 (x.1 : Int), segV (sf x) (vf x) (pf x), undef, undef, undef, undef, undef, undef, undef, undef, undef, undef, undef, undef, undef], defers := [] } ∧ W.heap[g]? = some (.cells (segC (sf x) (vf x) (pf x)) 161 (0, 0)))
    (fun x a' => by
      rintro _ W W' row ⟨g, h1, h2⟩ hg hr
      refine ⟨g, h1, (hg.block g (heap_lt h2) (fun e => ?_)).trans h2⟩
      obtain ⟨-, o, ho, hc⟩ := hr _ e.symm
      rw [h2] at ho
      cases ho
      cases hc) ?assign ?body ?done ?stop
  case assign =>
    rintro L pre x W K ⟨hE, hBl⟩ hK
    gi_wp2
    have b1 : Below W.heap.size W (W.alloc (.cells (segC (sf x) (vf x) (pf x)) 161)) := (Below.refl _ W).alloc (Nat.le_refl _) _
    exact hK _ _ (KeepsFrom.of_grownBy (grownBy_below none b1) (fun j e => by cases e)) ⟨b1.mono hBl.size, fun v hv => hv.alloc _⟩ ⟨hE, hBl.trans (b1.mono hBl.size)⟩ ⟨W.heap.size, rfl, heap_alloc_new W _⟩
  case body =>
    rintro L pre x a' W hLl hrec ⟨hE, hBl⟩ ⟨g, rfl, hblk⟩ hlt
    obtain ⟨e0, e1, e2, e3, e4, e5, e6⟩ := seven_cells hblk
    have HBb : (sf x).bs.length ≤ 20001 := by rw [HSF.out x]; exact HB.out _ (List.getElem_mem x.2)
    have HRx : Hid (RowBatch w K (.slice (vf x).1 (sf x).bs.length (vf x).2) (sf x).bs) := HRB.out x.1 (vf x) (sf x) (by rw [HVF.out x]; exact List.getElem?_eq_getElem (by have := x.2; omega)) (by rw [HSF.out x]; exact List.getElem?_eq_getElem x.2)
    have HBw : Hid (Below w.heap.size w W) := hB0.trans (hBl.mono (by omega))
    have HEX := hide hE
    by_cases hz : (sf x).bs.length = 0
    · have hz' : decide ((0 : Int) < ((sf x).bs.length : Int)) = false := by rw [decide_eq_false_iff_not]; omega
      have hzn : decide (0 < (sf x).bs.length) = false := by rw [decide_eq_false_iff_not]; omega
      have HZ := hide hz
      clear hz hE
      gi_wp2
      refine ⟨KeepsFrom.of_grownBy (World.grownBy.refl W none) (fun j e => by cases e), ⟨Below.refl _ _, fun v hv => hv⟩, fun y hy => ?_, hBl⟩
      rcases List.mem_append.1 hy with hy | hy
      · exact HEX.out y hy
      · obtain rfl : y = x := by simpa using hy
        have := HZ.out
        rw [HSF.out y] at this
        exact List.eq_nil_of_length_eq_zero this
    · have hz' : decide ((0 : Int) < ((sf x).bs.length : Int)) = true := by rw [decide_eq_true_eq]; omega
      have hzn : decide (0 < (sf x).bs.length) = true := by rw [decide_eq_true_eq]; omega
      obtain ⟨b, off, hab, hbw, hd0, -⟩ := (rowBatch_rows (rowBatch_below HRx.out HBw.out)).2 ((sf x).bs.length - 1) (by omega)
      have HQ : Hid (((sf x).bs[(sf x).bs.length - 1]'(by omega)) = ((l[x.1]'x.2).bs[(l[x.1]'x.2).bs.length - 1]'(by rw [← HSF.out x]; omega))) := by show _ = _; simp only [HSF.out x]
      generalize ((sf x).bs[(sf x).bs.length - 1]'(by omega)) = E at hd0 HQ
      have hj0 : (0 : Int) ≤ ((sf x).bs.length : Int) - 1 := by omega
      have hj1 : ((sf x).bs.length : Int) - 1 < ((sf x).bs.length : Int) := by omega
      have hjn : (((sf x).bs.length : Int) - 1).toNat = (sf x).bs.length - 1 := by omega
      have hjw : IntKind.i64.wrap (((sf x).bs.length : Int) - 1) = ((sf x).bs.length : Int) - 1 := by rw [IntKind.wrap_i64]; omega
      have hkx : Boxed W w.heap.size 3 (.int .i64 0) := (hBl.block w.heap.size (by omega)).trans k1
      have hc0 := hkx.cell
      have hf0 := hkx.frozen
      have HPOS : Hid (0 < (l[x.1]'x.2).bs.length) := by show _ < _; rw [← HSF.out x]; omega
      have HKX := hide hkx
      clear hkx hE
      gi_wp2
      refine ⟨KeepsFrom.of_grownBy (grownBy_setCell' W w.heap.size _) (fun j e => by cases e; omega), rfl, pre, x, rfl, HEX.out, ⟨HPOS.out, ?_⟩, HBw.out.setCell (p := ⟨w.heap.size, 0, none⟩) (Nat.le_refl _) _⟩
      rw [← HQ.out]
      exact HKX.out.set _
  case done =>
    rintro D ys W hD hys ⟨hE, hBl⟩ hK
    have HE : Hid (seqD l = 0) := by
      show _ = _
      rw [lastB_of_empty 0 (Nat.zero_le _) (fun j hj _ => ?_)]
      · rfl
      · have : j ∈ pv ys := by rw [hys]; exact mem_downTo.2 ⟨Nat.zero_le _, hj⟩
        unfold pv at this
        obtain ⟨y, hy, rfl⟩ := List.mem_map.1 this
        exact hE y hy
    have hkx : Boxed W w.heap.size 3 (.int .i64 0) := (hBl.block w.heap.size (by omega)).trans k1
    have hc0 := hkx.cell
    have hf0 := hkx.frozen
    have HKX := hide hkx
    have HBw : Hid (Below w.heap.size w W) := hB0.trans (hBl.mono (by omega))
    clear hkx hE
    gi_wp2
    have hD6 : (W.setCell ⟨w.heap.size, 0, none⟩ (.int .i64 0)).heap[D]? = some (.deferred (some [])) := (Below.heap_setCell _ _ _ _ (by show D ≠ w.heap.size; omega)).trans hK
    obtain ⟨y0, y1⟩ := box_ret (HKX.out.set (.int .i64 0)) hD6 (.deferred none)
    have y2 := y1 w (HBw.out.setCell (p := ⟨w.heap.size, 0, none⟩) (Nat.le_refl _) _) (by omega)
    refine ⟨by simp, .inl ⟨_, _, rfl, run_takeDeferred hD6, ?_⟩⟩
    generalize World.putObj _ D (.deferred none) = Wz at y0 y2 ⊢
    refine ⟨.int .i64 0, ?_, ?_⟩
    · simp [results, Tryz.results133, go_sem, y0]
    · rw [HE.out]
      exact ⟨rfl, y2⟩
  case stop =>
    rintro D c pre W hD ⟨rest, hrest⟩ ⟨rfl, p, x, rfl, hE, ⟨hpos, hbx⟩, hBl⟩ hK
    have HE : Hid (seqD l = ((l[x.1]'x.2).bs[(l[x.1]'x.2).bs.length - 1]'(by omega)).seq) := by
      show _ = _
      rw [pv_snoc] at hrest
      have hp := downTo_split hrest
      rw [lastB_of_empty (x.1 + 1) x.2 (fun j hj hxj => ?_), seqD_take_succ x.2, lastB_last _ _ hpos]
      have : j ∈ pv p := by rw [hp]; exact mem_downTo.2 ⟨hxj, hj⟩
      unfold pv at this
      obtain ⟨y, hy, rfl⟩ := List.mem_map.1 this
      exact hE y hy
    generalize ((l[x.1]'x.2).bs[(l[x.1]'x.2).bs.length - 1]'(by omega)).seq = Q at HE hbx
    have hc0 := hbx.cell
    have HBX := hide hbx
    clear hE hbx
    gi_wp2
    obtain ⟨y0, y1⟩ := box_ret HBX.out hK (.deferred none)
    have y2 := y1 w hBl (by omega)
    refine ⟨by simp, .inl ⟨_, _, rfl, run_takeDeferred hK, ?_⟩⟩
    generalize World.putObj _ D (.deferred none) = Wz at y0 y2 ⊢
    refine ⟨.int .i64 Q, ?_, ?_⟩
    · simp [results, Tryz.results133, go_sem, y0]
    · rw [HE.out]
      exact ⟨rfl, y2⟩
end Go.Proofs.YtmmchemgegmhhaaGreatDoor
