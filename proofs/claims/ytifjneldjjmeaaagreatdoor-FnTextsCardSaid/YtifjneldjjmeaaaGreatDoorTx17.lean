import Derived.Test.YtifjneldjjmeaaaGreatDoorTx16
import Derived.Test.YtifjneldjjmeaaaGreatDoorTx0
import Derived.Test.YtifjneldjjmeaaaGreatDoorTx1
set_option maxRecDepth 100000
set_option maxHeartbeats 3200000
namespace Go.Proofs.YtifjneldjjmeaaaGreatDoor
open Go.RowKit
theorem sameTable_same (es : List EntD) (ao ao2 : Option Addr) (cap cap2 : Nat) (w : World) (hl : es.length ≤ 1048576) (h1 : EntriesAt w ao es) (h2 : EntriesAt w ao2 es) (hsz : ∀ e ∈ es, e.val.items.length ≤ maxLen) :
    Calls Tryz.prog 13 #[.slice ao es.length cap, .slice ao2 es.length cap2] w fun e w' => e = .returned (.bool true) ∧ Below w.heap.size w w' := by
  have H1 := hide h1
  have H2 := hide h2
  have HS := hide hsz
  clear h1 h2 hsz
  go_enter Tryz.func13, Tryz.ntmps13
  have hne : ((es.length : Int) != (es.length : Int)) = false := by simp
  go_wp2
  go_loopw [5] (fun ii wr => ∃ (k : Nat), ii = .int .i64 (k : Int) ∧ k ≤ es.length ∧ Hid (Below w.heap.size w wr)) (fun ii _ => es.length - (intOf ii).toNat)
  case atStart => exact ⟨0, rfl, by omega, Below.refl _ _⟩
  case round =>
    obtain ⟨k, rfl, hk, HB⟩ := hrel
    by_cases hlt : k < es.length
    · have hlt' : decide ((k : Int) < (es.length : Int)) = true := by simp; omega
      have hws := HB.out.size
      have K1 := hide (fun W (hW : Below wr.heap.size wr W) => entriesAt_keep H1.out (HB.out.trans (hW.mono hws)) k hlt)
      have K2 := hide (fun W (hW : Below wr.heap.size wr W) => entriesAt_keep H2.out (HB.out.trans (hW.mono hws)) k hlt)
      obtain ⟨b1, off1, rfl, hb1, -, -, -, -, a1, c1, hc1, ht1⟩ := K1.out wr (Below.refl _ _)
      obtain ⟨b2, off2, rfl, hb2, -, -, -, -, a2, c2, hc2, ht2⟩ := K2.out wr (Below.refl _ _)
      have KC : Hid (∀ W, Below wr.heap.size wr W → (W.cell? ⟨b1, off1 + k * 5, none⟩ = some (.string es[k].key) ∧ W.cell? ⟨b1, off1 + k * 5 + 1, none⟩ = some (.int .i64 es[k].val.kind) ∧ W.cell? ⟨b1, off1 + k * 5 + 2, none⟩ = some (.int .i64 es[k].val.til) ∧ W.cell? ⟨b1, off1 + k * 5 + 3, none⟩ = some (.string es[k].val.text) ∧ W.cell? ⟨b1, off1 + k * 5 + 4, none⟩ = some (.slice a1 es[k].val.items.length c1)) ∧
          (W.cell? ⟨b2, off2 + k * 5, none⟩ = some (.string es[k].key) ∧ W.cell? ⟨b2, off2 + k * 5 + 1, none⟩ = some (.int .i64 es[k].val.kind) ∧ W.cell? ⟨b2, off2 + k * 5 + 2, none⟩ = some (.int .i64 es[k].val.til) ∧ W.cell? ⟨b2, off2 + k * 5 + 3, none⟩ = some (.string es[k].val.text) ∧ W.cell? ⟨b2, off2 + k * 5 + 4, none⟩ = some (.slice a2 es[k].val.items.length c2))) := fun W hW => by
        obtain ⟨b, off, e, -, x0, x1, x2, x3, -⟩ := K1.out W hW
        cases e
        obtain ⟨b, off, e, -, y0, y1, y2, y3, -⟩ := K2.out W hW
        cases e
        exact ⟨⟨x0, x1, x2, x3, (hW.cell (p := ⟨b1, off1 + k * 5 + 4, none⟩) hb1).trans hc1⟩, y0, y1, y2, y3, (hW.cell (p := ⟨b2, off2 + k * 5 + 4, none⟩) hb2).trans hc2⟩
      have HSV := hide (fun W (hW : Below wr.heap.size wr W) => (sameVal_same es[k].val a1 a2 c1 c2 W (HS.out _ (List.getElem_mem hlt)) (textsAt_keep ht1 hW) (textsAt_keep ht2 hW)).mono (fun e W' (h : e = .returned (.bool true) ∧ Below W.heap.size W W') => (⟨h.1, hW.trans (h.2.mono hW.size)⟩ : e = .returned (.bool true) ∧ Below wr.heap.size wr W')))
      generalize es[k] = F at KC HSV hc1 hc2 ht1 ht2
      clear hc1 hc2 ht1 ht2
      obtain ⟨ky, kd, u, t, ts⟩ := F
      simp only at KC HSV
      have hi0 : (0 : Int) ≤ (k : Int) := by omega
      have hi1 : (k : Int) < (es.length : Int) := by omega
      have hkk : (ky.toList != ky.toList) = false := by simp
      go_upto_region 6 with fail
      refine wp_region_quiet (C := fun W => Below wr.heap.size wr W) (by kernel_rfl) (by kernel_rfl) (Below.refl _ _).drew (WQ.out ?_)
      refine WQ.run (v := .slice (some ⟨b1, off1, none⟩) es.length cap) (by kernel_rfl) (fun W hW => ?hy) ?_
      case hy => go_simp
      simp only [Act.put, List.setIfInBounds_toArray, List.set_cons_zero, List.set_cons_succ]
      refine WQ.run (v := .int .i64 (k : Int)) (by kernel_rfl) (fun W hW => ?hy) ?_
      case hy => go_simp
      simp only [Act.put, List.setIfInBounds_toArray, List.set_cons_zero, List.set_cons_succ]
      refine WQ.run (v := .pointer (some ⟨b1, off1 + k * 5, none⟩)) (by kernel_rfl) (fun W hW => ?hy) ?_
      case hy => go_simp
      simp only [Act.put, List.setIfInBounds_toArray, List.set_cons_zero, List.set_cons_succ]
      refine WQ.run (v := .pointer (some ⟨b1, off1 + k * 5, none⟩)) (by kernel_rfl) (fun W hW => ?hy) ?_
      case hy => go_simp
      simp only [Act.put, List.setIfInBounds_toArray, List.set_cons_zero, List.set_cons_succ]
      refine WQ.run (v := .string ky) (by kernel_rfl) (fun W hW => ?hy) ?_
      case hy => have hc := KC.out W hW; obtain ⟨⟨x0, x1, x2, x3, x4⟩, y0, y1, y2, y3, y4⟩ := hc; go_simp
      simp only [Act.put, List.setIfInBounds_toArray, List.set_cons_zero, List.set_cons_succ]
      refine WQ.run (v := .slice (some ⟨b2, off2, none⟩) es.length cap2) (by kernel_rfl) (fun W hW => ?hy) ?_
      case hy => go_simp
      simp only [Act.put, List.setIfInBounds_toArray, List.set_cons_zero, List.set_cons_succ]
      refine WQ.run (v := .int .i64 (k : Int)) (by kernel_rfl) (fun W hW => ?hy) ?_
      case hy => go_simp
      simp only [Act.put, List.setIfInBounds_toArray, List.set_cons_zero, List.set_cons_succ]
      refine WQ.run (v := .pointer (some ⟨b2, off2 + k * 5, none⟩)) (by kernel_rfl) (fun W hW => ?hy) ?_
      case hy => go_simp
      simp only [Act.put, List.setIfInBounds_toArray, List.set_cons_zero, List.set_cons_succ]
      refine WQ.run (v := .pointer (some ⟨b2, off2 + k * 5, none⟩)) (by kernel_rfl) (fun W hW => ?hy) ?_
      case hy => go_simp
      simp only [Act.put, List.setIfInBounds_toArray, List.set_cons_zero, List.set_cons_succ]
      refine WQ.run (v := .string ky) (by kernel_rfl) (fun W hW => ?hy) ?_
      case hy => have hc := KC.out W hW; obtain ⟨⟨x0, x1, x2, x3, x4⟩, y0, y1, y2, y3, y4⟩ := hc; go_simp
      simp only [Act.put, List.setIfInBounds_toArray, List.set_cons_zero, List.set_cons_succ]
      refine WQ.run (v := .bool false) (by kernel_rfl) (fun W hW => ?hy) ?_
      case hy => go_simp
      simp only [Act.put, List.setIfInBounds_toArray, List.set_cons_zero, List.set_cons_succ]
      refine WQ.run (v := .bool false) (by kernel_rfl) (fun W hW => ?hy) ?_
      case hy => go_simp
      simp only [Act.put, List.setIfInBounds_toArray, List.set_cons_zero, List.set_cons_succ]
      refine WQ.run (v := .slice (some ⟨b1, off1, none⟩) es.length cap) (by kernel_rfl) (fun W hW => ?hy) ?_
      case hy => go_simp
      simp only [Act.put, List.setIfInBounds_toArray, List.set_cons_zero, List.set_cons_succ]
      refine WQ.run (v := .int .i64 (k : Int)) (by kernel_rfl) (fun W hW => ?hy) ?_
      case hy => go_simp
      simp only [Act.put, List.setIfInBounds_toArray, List.set_cons_zero, List.set_cons_succ]
      refine WQ.run (v := .pointer (some ⟨b1, off1 + k * 5, none⟩)) (by kernel_rfl) (fun W hW => ?hy) ?_
      case hy => go_simp
      simp only [Act.put, List.setIfInBounds_toArray, List.set_cons_zero, List.set_cons_succ]
      refine WQ.run (v := .pointer (some ⟨b1, off1 + k * 5 + 1, none⟩)) (by kernel_rfl) (fun W hW => ?hy) ?_
      case hy => go_simp
      simp only [Act.put, List.setIfInBounds_toArray, List.set_cons_zero, List.set_cons_succ]
      refine WQ.run (v := .agg #[.int .i64 kd, .int .i64 u, .string t, .slice a1 ts.length c1]) (by kernel_rfl) (fun W hW => ?hy) ?_
      case hy => have hc := KC.out W hW; obtain ⟨⟨x0, x1, x2, x3, x4⟩, y0, y1, y2, y3, y4⟩ := hc; go_simp
      simp only [Act.put, List.setIfInBounds_toArray, List.set_cons_zero, List.set_cons_succ]
      refine WQ.run (v := .slice (some ⟨b2, off2, none⟩) es.length cap2) (by kernel_rfl) (fun W hW => ?hy) ?_
      case hy => go_simp
      simp only [Act.put, List.setIfInBounds_toArray, List.set_cons_zero, List.set_cons_succ]
      refine WQ.run (v := .int .i64 (k : Int)) (by kernel_rfl) (fun W hW => ?hy) ?_
      case hy => go_simp
      simp only [Act.put, List.setIfInBounds_toArray, List.set_cons_zero, List.set_cons_succ]
      refine WQ.run (v := .pointer (some ⟨b2, off2 + k * 5, none⟩)) (by kernel_rfl) (fun W hW => ?hy) ?_
      case hy => go_simp
      simp only [Act.put, List.setIfInBounds_toArray, List.set_cons_zero, List.set_cons_succ]
      refine WQ.run (v := .pointer (some ⟨b2, off2 + k * 5 + 1, none⟩)) (by kernel_rfl) (fun W hW => ?hy) ?_
      case hy => go_simp
      simp only [Act.put, List.setIfInBounds_toArray, List.set_cons_zero, List.set_cons_succ]
      refine WQ.run (v := .agg #[.int .i64 kd, .int .i64 u, .string t, .slice a2 ts.length c2]) (by kernel_rfl) (fun W hW => ?hy) ?_
      case hy => have hc := KC.out W hW; obtain ⟨⟨x0, x1, x2, x3, x4⟩, y0, y1, y2, y3, y4⟩ := hc; go_simp
      simp only [Act.put, List.setIfInBounds_toArray, List.set_cons_zero, List.set_cons_succ]
      refine WQ.call (v := .bool true) (by kernel_rfl) (fun W hW => ?hy) (fun W hW => HSV.out W hW) ?_
      case hy => go_simp; (try with_reducible rfl)
      simp only [Act.put, List.setIfInBounds_toArray, List.set_cons_zero, List.set_cons_succ]
      refine WQ.run (v := .bool false) (by kernel_rfl) (fun W hW => ?hy) ?_
      case hy => go_simp
      simp only [Act.put, List.setIfInBounds_toArray, List.set_cons_zero, List.set_cons_succ]
      refine WQ.run (v := .bool false) (by kernel_rfl) (fun W hW => ?hy) ?_
      case hy => go_simp
      simp only [Act.put, List.setIfInBounds_toArray, List.set_cons_zero, List.set_cons_succ]
      refine WQ.nil ?_
      intro wx hwx
      have HX := hide (HB.out.trans (hwx.mono hws))
      clear hwx
      go_wp2
      go_roundw
      case rel => exact ⟨k + 1, by go_num, by omega, HX⟩
      case measure => simp [intOf]; omega
    · have hlt' : decide ((k : Int) < (es.length : Int)) = false := by simp; omega
      go_wp2
      go_ret
      exact ⟨rfl, HB.out⟩
def TabAt (w : World) (v : Value) (T : List EntD) : Prop := ∃ a c, v = .slice a T.length c ∧ EntriesAt w a T
theorem tabAt_build {w : World} {B : Nat} {v : Value} {T : List EntD} (h : BuildE w B v T) : TabAt w v T := by
  obtain ⟨a, c, rfl⟩ := buildE_form h
  exact ⟨a, c, rfl, (rowEnt_rows (buildE_row h)).2⟩
theorem tabAt_keep {w w' : World} {v : Value} {T : List EntD} (h : TabAt w v T) (hb : Below w.heap.size w w') : TabAt w' v T := by
  obtain ⟨a, c, e, h1⟩ := h
  exact ⟨a, c, e, entriesAt_keep h1 hb⟩
def OnQ (W : World) (T : List EntD) (rep : ByteArray) (e : Ending) (w' : World) : Prop := (∃ a n c, e = .returned (.tuple #[.slice a n c, .string rep, .bool true]) ∧ TabAt w' (.slice a n c) T) ∧ Below W.heap.size W w'
theorem onP_Q {W : World} {T : List EntD} {rep : ByteArray} {e : Ending} {w' : World} (h : OnP W (T, rep) e w') : OnQ W T rep e w' := by
  obtain ⟨⟨v, rfl, hb⟩, hb2⟩ := h
  have ht := tabAt_build hb
  obtain ⟨a, c, rfl⟩ := buildE_form hb
  exact ⟨⟨a, _, c, rfl, ht⟩, hb2⟩
def OnC (w : World) (T : List EntD) (ts : List ByteArray) (T2 : List EntD) (rep : ByteArray) : Prop :=
  ∀ (W : World) (v : Value) (b0 : Nat), TabAt W v T → TextsAt W (some ⟨b0, 0, none⟩) ts → Below w.heap.size w W → Calls Tryz.prog 10 #[v, .slice (some ⟨b0, 0, none⟩) ts.length ts.length] W (OnQ W T2 rep)
def SameC (T : List EntD) : Prop := ∀ (W : World) (v v2 : Value), TabAt W v T → TabAt W v2 T → Calls Tryz.prog 13 #[v, v2] W fun e w' => e = .returned (.bool true) ∧ Below W.heap.size W w'
theorem same_tabs {T : List EntD} (hl : T.length ≤ 1048576) (hs : ∀ e ∈ T, e.val.items.length ≤ maxLen) : SameC T := by
  rintro W v v2 ⟨a, c, rfl, e1⟩ ⟨a2, c2, rfl, e2⟩
  exact sameTable_same T a a2 c c2 W hl e1 e2 hs
end Go.Proofs.YtifjneldjjmeaaaGreatDoor
