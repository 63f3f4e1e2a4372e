import Derived.BigQuiet
import Derived.Test.YtifjneldjjmeaaaGreatDoorCn0
import Derived.Test.YtifjneldjjmeaaaGreatDoorCn11
set_option maxRecDepth 100000
set_option maxHeartbeats 3200000
namespace Go.Proofs.YtifjneldjjmeaaaGreatDoor
open Go.RowKit
theorem quiet_run {P : Program} {C : World → Prop} {a : Act} {o : Oper} {K : Act → Prop} {v : Value} (hv : ∀ w, C w → (execOp a.eval o).run P w = .ok (.value v) w) (hk : K (a.put o.dst v)) : o.quiet P a C K :=
  ⟨v, fun w hw => by unfold Oper.quietAt; rw [hv w hw]; exact ⟨rfl, rfl⟩, hk⟩
theorem quiet_call {P : Program} {C : World → Prop} {a : Act} {o : Oper} {K : Act → Prop} {v : Value} {f : FuncId} {args : Array Value} (hv : ∀ w, C w → (execOp a.eval o).run P w = .ok (.enter f args) w) (hc : ∀ w, C w → Calls P f args w (fun e w'' => e = .returned v ∧ C w'')) (hk : K (a.put o.dst v)) : o.quiet P a C K :=
  ⟨v, fun w hw => by unfold Oper.quietAt; rw [hv w hw]; exact ⟨rfl, hc w hw⟩, hk⟩
structure WQ (P : Program) (ops : Array Oper) (C : World → Prop) (Q : Act → Prop) (l : List Oper) (a : Act) : Prop where
  out : wpQuiet P ops C Q l a
section
variable {P : Program} {ops : Array Oper} {C : World → Prop} {Q : Act → Prop} {rest : List Oper} {a : Act} {o : Oper} {v : Value}
theorem WQ.run (hw : Region.wanted o (yielded ops a.tmps) = true) (hv : ∀ w, C w → (execOp a.eval o).run P w = .ok (.value v) w) (h : WQ P ops C Q rest (a.put o.dst v)) : WQ P ops C Q (o :: rest) a :=
  ⟨BigFrame.wpQuiet_want hw (fun _ hK => quiet_run hv (hK _ h.out))⟩
theorem WQ.call {f : FuncId} {args : Array Value} (hw : Region.wanted o (yielded ops a.tmps) = true) (hv : ∀ w, C w → (execOp a.eval o).run P w = .ok (.enter f args) w) (hc : ∀ w, C w → Calls P f args w (fun e w'' => e = .returned v ∧ C w'')) (h : WQ P ops C Q rest (a.put o.dst v)) : WQ P ops C Q (o :: rest) a :=
  ⟨BigFrame.wpQuiet_want hw (fun _ hK => quiet_call hv hc (hK _ h.out))⟩
theorem WQ.nil (h : Q a) : WQ P ops C Q [] a := ⟨wpQuiet_nil h⟩
end
theorem sameTable_same (es : List EntD) (ao ao2 : Option Addr) (cap cap2 : Nat) (w : World) (hl : es.length ≤ 1048576) (h1 : EntriesAt w ao es) (h2 : EntriesAt w ao2 es) (hsz : ∀ e ∈ es, e.val.items.length ≤ maxLen) :
    Calls Tryz.prog 13 #[.slice ao es.length cap, .slice ao2 es.length cap2] w fun e w' => e = .returned (.bool true) ∧ Below w.heap.size w w' := by
  have H1 := hide h1
  have H2 := hide h2
  have HS := hide hsz
  clear h1 h2 hsz
  go_enter Tryz.func13, Tryz.ntmps13
  have hne : ((es.length : Int) != (es.length : Int)) = false := by simp
  go_wp2
  go_loopw [5] (fun ii wr => ∃ (k : Nat), ii = .int .i64 (k : Int) ∧ k ≤ es.length ∧ Hid (Below w.heap.size w wr)) (fun ii _ => es.length - (intOf ii).toNat)
  case atStart => exact ⟨0, rfl, by omega, Below.refl _ _⟩
  case round =>
    obtain ⟨k, rfl, hk, HB⟩ := hrel
    by_cases hlt : k < es.length
    · have hlt' : decide ((k : Int) < (es.length : Int)) = true := by simp; omega
      have hws := HB.out.size
      have K1 := hide (fun W (hW : Below wr.heap.size wr W) => entriesAt_keep H1.out (HB.out.trans (hW.mono hws)) k hlt)
      have K2 := hide (fun W (hW : Below wr.heap.size wr W) => entriesAt_keep H2.out (HB.out.trans (hW.mono hws)) k hlt)
      obtain ⟨b1, off1, rfl, hb1, -, -, -, -, a1, c1, hc1, ht1⟩ := K1.out wr (Below.refl _ _)
      obtain ⟨b2, off2, rfl, hb2, -, -, -, -, a2, c2, hc2, ht2⟩ := K2.out wr (Below.refl _ _)
      have KC : Hid (∀ W, Below wr.heap.size wr W → (W.cell? ⟨b1, off1 + k * 5, none⟩ = some (.string es[k].key) ∧ W.cell? ⟨b1, off1 + k * 5 + 1, none⟩ = some (.int .i64 es[k].val.kind) ∧ W.cell? ⟨b1, off1 + k * 5 + 2, none⟩ = some (.int .i64 es[k].val.til) ∧ W.cell? ⟨b1, off1 + k * 5 + 3, none⟩ = some (.string es[k].val.text) ∧ W.cell? ⟨b1, off1 + k * 5 + 4, none⟩ = some (.slice a1 es[k].val.items.length c1)) ∧
          (W.cell? ⟨b2, off2 + k * 5, none⟩ = some (.string es[k].key) ∧ W.cell? ⟨b2, off2 + k * 5 + 1, none⟩ = some (.int .i64 es[k].val.kind) ∧ W.cell? ⟨b2, off2 + k * 5 + 2, none⟩ = some (.int .i64 es[k].val.til) ∧ W.cell? ⟨b2, off2 + k * 5 + 3, none⟩ = some (.string es[k].val.text) ∧ W.cell? ⟨b2, off2 + k * 5 + 4, none⟩ = some (.slice a2 es[k].val.items.length c2))) := fun W hW => by
        obtain ⟨b, off, e, -, x0, x1, x2, x3, -⟩ := K1.out W hW
        cases e
        obtain ⟨b, off, e, -, y0, y1, y2, y3, -⟩ := K2.out W hW
        cases e
        exact ⟨⟨x0, x1, x2, x3, (hW.cell (p := ⟨b1, off1 + k * 5 + 4, none⟩) hb1).trans hc1⟩, y0, y1, y2, y3, (hW.cell (p := ⟨b2, off2 + k * 5 + 4, none⟩) hb2).trans hc2⟩
      have HSV := hide (fun W (hW : Below wr.heap.size wr W) => (sameVal_same es[k].val a1 a2 c1 c2 W (HS.out _ (List.getElem_mem hlt)) (textsAt_keep ht1 hW) (textsAt_keep ht2 hW)).mono (fun e W' (h : e = .returned (.bool true) ∧ Below W.heap.size W W') => (⟨h.1, hW.trans (h.2.mono hW.size)⟩ : e = .returned (.bool true) ∧ Below wr.heap.size wr W')))
      generalize es[k] = F at KC HSV hc1 hc2 ht1 ht2
      clear hc1 hc2 ht1 ht2
      obtain ⟨ky, kd, u, t, ts⟩ := F
      simp only at KC HSV
      have hi0 : (0 : Int) ≤ (k : Int) := by omega
      have hi1 : (k : Int) < (es.length : Int) := by omega
      have hkk : (ky.toList != ky.toList) = false := by simp
      go_upto_region 6 with fail
      refine wp_region_quiet (C := fun W => Below wr.heap.size wr W) (by kernel_rfl) (by kernel_rfl) (Below.refl _ _).drew (WQ.out ?_)
      refine WQ.run (v := .slice (some ⟨b1, off1, none⟩) es.length cap) (by kernel_rfl) (fun W hW => ?hy) ?_
      case hy => go_simp
      simp only [Act.put, List.setIfInBounds_toArray, List.set_cons_zero, List.set_cons_succ]
      refine WQ.run (v := .int .i64 (k : Int)) (by kernel_rfl) (fun W hW => ?hy) ?_
      case hy => go_simp
      simp only [Act.put, List.setIfInBounds_toArray, List.set_cons_zero, List.set_cons_succ]
      refine WQ.run (v := .pointer (some ⟨b1, off1 + k * 5, none⟩)) (by kernel_rfl) (fun W hW => ?hy) ?_
      case hy => go_simp
      simp only [Act.put, List.setIfInBounds_toArray, List.set_cons_zero, List.set_cons_succ]
      refine WQ.run (v := .pointer (some ⟨b1, off1 + k * 5, none⟩)) (by kernel_rfl) (fun W hW => ?hy) ?_
      case hy => go_simp
      simp only [Act.put, List.setIfInBounds_toArray, List.set_cons_zero, List.set_cons_succ]
      refine WQ.run (v := .string ky) (by kernel_rfl) (fun W hW => ?hy) ?_
      case hy => have hc := KC.out W hW; obtain ⟨⟨x0, x1, x2, x3, x4⟩, y0, y1, y2, y3, y4⟩ := hc; go_simp
      simp only [Act.put, List.setIfInBounds_toArray, List.set_cons_zero, List.set_cons_succ]
      refine WQ.run (v := .slice (some ⟨b2, off2, none⟩) es.length cap2) (by kernel_rfl) (fun W hW => ?hy) ?_
      case hy => go_simp
      simp only [Act.put, List.setIfInBounds_toArray, List.set_cons_zero, List.set_cons_succ]
      refine WQ.run (v := .int .i64 (k : Int)) (by kernel_rfl) (fun W hW => ?hy) ?_
      case hy => go_simp
      simp only [Act.put, List.setIfInBounds_toArray, List.set_cons_zero, List.set_cons_succ]
      refine WQ.run (v := .pointer (some ⟨b2, off2 + k * 5, none⟩)) (by kernel_rfl) (fun W hW => ?hy) ?_
      case hy => go_simp
      simp only [Act.put, List.setIfInBounds_toArray, List.set_cons_zero, List.set_cons_succ]
      refine WQ.run (v := .pointer (some ⟨b2, off2 + k * 5, none⟩)) (by kernel_rfl) (fun W hW => ?hy) ?_
      case hy => go_simp
      simp only [Act.put, List.setIfInBounds_toArray, List.set_cons_zero, List.set_cons_succ]
      refine WQ.run (v := .string ky) (by kernel_rfl) (fun W hW => ?hy) ?_
      case hy => have hc := KC.out W hW; obtain ⟨⟨x0, x1, x2, x3, x4⟩, y0, y1, y2, y3, y4⟩ := hc; go_simp
      simp only [Act.put, List.setIfInBounds_toArray, List.set_cons_zero, List.set_cons_succ]
      refine WQ.run (v := .bool false) (by kernel_rfl) (fun W hW => ?hy) ?_
      case hy => go_simp
      simp only [Act.put, List.setIfInBounds_toArray, List.set_cons_zero, List.set_cons_succ]
      refine WQ.run (v := .bool false) (by kernel_rfl) (fun W hW => ?hy) ?_
      case hy => go_simp
      simp only [Act.put, List.setIfInBounds_toArray, List.set_cons_zero, List.set_cons_succ]
      refine WQ.run (v := .slice (some ⟨b1, off1, none⟩) es.length cap) (by kernel_rfl) (fun W hW => ?hy) ?_
      case hy => go_simp
      simp only [Act.put, List.setIfInBounds_toArray, List.set_cons_zero, List.set_cons_succ]
      refine WQ.run (v := .int .i64 (k : Int)) (by kernel_rfl) (fun W hW => ?hy) ?_
      case hy => go_simp
      simp only [Act.put, List.setIfInBounds_toArray, List.set_cons_zero, List.set_cons_succ]
      refine WQ.run (v := .pointer (some ⟨b1, off1 + k * 5, none⟩)) (by kernel_rfl) (fun W hW => ?hy) ?_
      case hy => go_simp
      simp only [Act.put, List.setIfInBounds_toArray, List.set_cons_zero, List.set_cons_succ]
      refine WQ.run (v := .pointer (some ⟨b1, off1 + k * 5 + 1, none⟩)) (by kernel_rfl) (fun W hW => ?hy) ?_
      case hy => go_simp
      simp only [Act.put, List.setIfInBounds_toArray, List.set_cons_zero, List.set_cons_succ]
      refine WQ.run (v := .agg #[.int .i64 kd, .int .i64 u, .string t, .slice a1 ts.length c1]) (by kernel_rfl) (fun W hW => ?hy) ?_
      case hy => have hc := KC.out W hW; obtain ⟨⟨x0, x1, x2, x3, x4⟩, y0, y1, y2, y3, y4⟩ := hc; go_simp
      simp only [Act.put, List.setIfInBounds_toArray, List.set_cons_zero, List.set_cons_succ]
      refine WQ.run (v := .slice (some ⟨b2, off2, none⟩) es.length cap2) (by kernel_rfl) (fun W hW => ?hy) ?_
      case hy => go_simp
      simp only [Act.put, List.setIfInBounds_toArray, List.set_cons_zero, List.set_cons_succ]
      refine WQ.run (v := .int .i64 (k : Int)) (by kernel_rfl) (fun W hW => ?hy) ?_
      case hy => go_simp
      simp only [Act.put, List.setIfInBounds_toArray, List.set_cons_zero, List.set_cons_succ]
      refine WQ.run (v := .pointer (some ⟨b2, off2 + k * 5, none⟩)) (by kernel_rfl) (fun W hW => ?hy) ?_
      case hy => go_simp
      simp only [Act.put, List.setIfInBounds_toArray, List.set_cons_zero, List.set_cons_succ]
      refine WQ.run (v := .pointer (some ⟨b2, off2 + k * 5 + 1, none⟩)) (by kernel_rfl) (fun W hW => ?hy) ?_
      case hy => go_simp
      simp only [Act.put, List.setIfInBounds_toArray, List.set_cons_zero, List.set_cons_succ]
      refine WQ.run (v := .agg #[.int .i64 kd, .int .i64 u, .string t, .slice a2 ts.length c2]) (by kernel_rfl) (fun W hW => ?hy) ?_
      case hy => have hc := KC.out W hW; obtain ⟨⟨x0, x1, x2, x3, x4⟩, y0, y1, y2, y3, y4⟩ := hc; go_simp
      simp only [Act.put, List.setIfInBounds_toArray, List.set_cons_zero, List.set_cons_succ]
      refine WQ.call (v := .bool true) (by kernel_rfl) (fun W hW => ?hy) (fun W hW => HSV.out W hW) ?_
      case hy => go_simp; (try with_reducible rfl)
      simp only [Act.put, List.setIfInBounds_toArray, List.set_cons_zero, List.set_cons_succ]
      refine WQ.run (v := .bool false) (by kernel_rfl) (fun W hW => ?hy) ?_
      case hy => go_simp
      simp only [Act.put, List.setIfInBounds_toArray, List.set_cons_zero, List.set_cons_succ]
      refine WQ.run (v := .bool false) (by kernel_rfl) (fun W hW => ?hy) ?_
      case hy => go_simp
      simp only [Act.put, List.setIfInBounds_toArray, List.set_cons_zero, List.set_cons_succ]
      refine WQ.nil ?_
      intro wx hwx
      have HX := hide (HB.out.trans (hwx.mono hws))
      clear hwx
      go_wp2
      go_roundw
      case rel => exact ⟨k + 1, by go_num, by omega, HX⟩
      case measure => simp [intOf]; omega
    · have hlt' : decide ((k : Int) < (es.length : Int)) = false := by simp; omega
      go_wp2
      go_ret
      exact ⟨rfl, HB.out⟩
theorem Tryz.info3 : (Tryz.prog.info? 3).map (fun i => (i.zero, i.size, i.bytes)) = some (some (.int .i64 0), 1, 8) := by kernel_rfl
def iv (n : Nat) : Value := .int .i64 (n : Int)
theorem app_int {ops : Array Oper} {rest : List Oper} {o : Oper} {a : Act} {Q : Exit → Act → World → Prop} {x : Nat} (wr : World) (w : World) (B : Nat) (hgd : o.guard = none) (s y : Operand)
    (ho : o.op = .call { callee := .builtin .append, args := #[s, y], argTypes := #[35, 35] }) (v : Value) (l : List Nat) (hs : a.eval s = v)
    (hown : wr.ownsRow B 3 1 v l.length (l.map iv)) (hx : a.eval y = .slice (some ⟨wr.heap.size, 0, none⟩) 1 1)
    (hlen : l.length ≤ 1000000) (hbel : Below B w wr) (hbase : B ≤ wr.heap.size)
    (h : ∀ v' w', w'.ownsRow B 3 1 v' (l ++ [x]).length ((l ++ [x]).map iv) → Below B w w' → wr.heap.size ≤ w'.heap.size → wpList Tryz.prog ops Q rest (a.put o.dst v') w') :
    wpList Tryz.prog ops Q (o :: rest) a (wr.alloc (.cells #[.int .i64 (x : Int)] 3)) := by
  obtain ⟨i0, hi, hz0, hz1, hz2⟩ := info_parts Tryz.info3
  have hsz : wr.heap.size ≤ (wr.alloc (.cells #[.int .i64 (x : Int)] 3)).heap.size := by simp
  refine wpList_append_own _ hgd s y 35 ho B 3 i0 (.int .i64 0) 1 8 Tryz.underlying35 hi hz0 hz1 hz2 rfl (by decide) v l.length (l.map iv) hs (hown.alloc _) ⟨wr.heap.size, 0, none⟩ 1 1 [iv x] hx rfl
    (fun j u hj => cells_new wr #[.int .i64 (x : Int)] 3 j u hj) (by intro u hu; simp at hu; subst hu; rfl) (by unfold maxLen; omega) (by omega) (by omega) ?_
  intro v' w' hown' hgrow _
  have hlt := hown.lt
  have hb1 : Below B w (wr.alloc (.cells #[.int .i64 (x : Int)] 3)) := hbel.alloc hbase _
  refine h v' w' ?_ (hb1.grown hgrow (by omega) (fun k hk => (hlt k hk).1)) (Nat.le_trans hsz hgrow.size)
  rw [List.length_append, List.map_append]
  exact hown'
theorem drawPlaces_any (w : World) (ao : Option Addr) (len cap : Nat) (hlen : len ≤ 1048576) (hcode : Code w ao len) :
    Calls Tryz.prog 16 #[.slice ao len cap] w fun e w' => ∃ (v : Value) (zs : List Nat), e = .returned v ∧ zs.length = 12 ∧ (∀ z ∈ zs, z < 10000) ∧ w'.ownsRow w.heap.size 3 1 v 12 (zs.map iv) ∧ Below w.heap.size w w' := by
  have HC := hide hcode
  clear hcode
  go_enter Tryz.func16, Tryz.ntmps16
  go_wp2_with fail
  refine (new_any _ ao len cap hlen HC.out).mono ?_
  rintro e w1 ⟨g, rfl, hc1⟩
  have hgl := cur_lt hc1
  have hs1 := hc1.1.size
  have HU1 := hide hc1
  clear hc1
  go_wp2_with fail
  refine (byte_any w _ g ao len cap hlen HC.out HU1.out).mono ?_
  rintro e w2 ⟨x0, rfl, _, hc2, g2⟩
  have hs2 := g2.size
  have hgl2 := cur_lt hc2
  have HU2 := hide hc2
  clear hc2 g2
  go_wp2
  go_loopw [4, 5] (fun v ii wr => ∃ (k : Nat) (zs : List Nat), ii = .int .i64 k ∧ k ≤ 12 ∧ zs.length = k ∧ Hid (∀ z ∈ zs, z < 10000) ∧ wr.ownsRow w2.heap.size 3 1 v zs.length (zs.map iv) ∧ Hid (CurAt w wr g ao len cap) ∧ w2.heap.size ≤ wr.heap.size) (fun _ ii _ => 12 - (intOf ii).toNat)
  case atStart =>
    refine ⟨0, [], rfl, Nat.zero_le _, rfl, (fun z hz => by cases hz), World.ownsRow_lit w2 #[] 0 (Nat.le_refl _) (by unfold maxLen; omega) (by simp), cur_keep HU2.out ((Below.refl w2.heap.size w2).alloc (Nat.le_refl _) _) hgl2, by simp⟩
  case round =>
    obtain ⟨k, zs, rfl, hk, hl, HA, hown, HU3, hbs⟩ := hrel
    by_cases hlt : k < 12
    · have hlt' : decide ((k : Int) < 12) = true := by simp; omega
      have HO := hide hown
      have HLL := hide hl
      clear hown hl
      go_wp2_with fail
      refine (below_any w _ g ao len cap _ hlen (by omega) HC.out HU3.out).mono ?_
      rintro e w3 ⟨x, rfl, hx, _, hc3, g3⟩
      have hx' := hx (by omega)
      have hown3 := row_keep HO.out g3 hgl2
      have hs3 := g3.size
      have HU4 := hide hc3
      clear hc3 g3 hx
      have hll : zs.length ≤ 1000000 := by have := HLL.out; omega
      go_wp2_with (at_builtin; refine app_int w3 w3 w2.heap.size rfl _ _ rfl _ zs rfl hown3 rfl hll (Below.refl _ _) (by omega) ?_; intro v' w4 hown4 hb4 hs4)
      go_roundw
      case rel =>
        refine ⟨k + 1, zs ++ [x], by go_num, by omega, by have := HLL.out; simp; omega, ?_, hown4, cur_keep HU4.out hb4 hgl2, by omega⟩
        intro z hz
        rcases List.mem_append.1 hz with h | h
        · exact HA.out z h
        · simp only [List.mem_singleton] at h; omega
      case measure => simp [intOf]; omega
    · have hlt' : decide ((k : Int) < 12) = false := by simp; omega
      have hk12 : zs.length = 12 := by omega
      have HO := hide hown
      have HLL := hide hk12
      clear hown hl hk12
      go_wp2
      go_ret
      refine ⟨_, zs, rfl, HLL.out, HA.out, ?_, HU3.out.1⟩
      have := HO.out
      rw [HLL.out] at this
      exact ownsRow_mono this (by omega)
end Go.Proofs.YtifjneldjjmeaaaGreatDoor
