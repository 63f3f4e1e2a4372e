/- The program's reader of frames: a function that is handed a yield, which may stop it: what has come then is a beginning of all. -/
import Derived.RangeFuncNested
import Derived.RangeFuncBound
import Derived.RangeFuncCalls
import Derived.RangeFuncLeaves
import Derived.Shelf.Abstract
import Derived.Shelf.RegionOpen
import Derived.WalkKit
import Derived.OwnWalkIn
import Derived.TacticsInMore
import Derived.LoopNIn
import Derived.LoopIn
import Derived.Test.YtmmchemgegmhhaaGreatDoorFrameI
namespace Go.Proofs.YtmmchemgegmhhaaGreatDoor
open Go.RowKit Go.Shelf

attribute [local go_sem] Oper.semAt_some

/-- What a round must keep: what lay below n₀, and the box of the file. -/
def KpF (n₀ Bn : Nat) (W W' : World) : Prop := Below n₀ W W' ∧ ∀ v, Boxed W Bn 9 v → Boxed W' Bn 9 v

theorem kpF_t {n₀ Bn : Nat} {A B C : World} (h : KpF n₀ Bn A B) (k : KpF n₀ Bn B C) : KpF n₀ Bn A C := ⟨h.1.trans k.1, fun v hv => k.2 v (h.2 v hv)⟩
theorem kpF_b {n₀ Bn : Nat} {w : World} (hn : n₀ ≤ w.heap.size) (W : World) (l : Nat) (o o' : Obj) (hl : w.heap.size ≤ l) (h : W.heap[l]? = some o) (hc : o.isCells = false) (hw : o.isWalk = false) : KpF n₀ Bn W (W.putObj l o') :=
  ⟨belowK_b hn W l o o' hl h hc hw, fun v hv => hv.kept (grownBy_putObj' W l o') (fun e => by
    cases e
    have hv' : W.heap[Bn]? = some (.cells #[v] 9 (0, 0)) := hv
    rw [hv'] at h
    cases h
    cases hc)⟩

theorem sumTab_below {w w' : World} {n₀ : Nat} (h : Below n₀ w w') (hg : 0 < n₀) (ht : SumTab w) : SumTab w' := fun r hr => (h.cell (p := ⟨0, r, none⟩) hg).trans (ht r hr)
theorem sumTab_lt {w : World} (ht : SumTab w) : 0 < w.heap.size := World.block_lt_of_cell? _ _ (ht 0 (by omega))

/-- What a round is handed: where a record begins, and the place behind it, which is none past a file's end. -/
abbrev FrX := { x : Nat × Nat // x.2 ≤ 20000 }
def vl (l : List FrX) : List (Nat × Nat) := l.map Subtype.val
theorem vl_snoc (l : List FrX) (x : FrX) : vl (l ++ [x]) = vl l ++ [x.1] := by simp [vl]
theorem vl_len (l : List FrX) : (vl l).length = l.length := by simp [vl]

set_option maxRecDepth 100000 in
set_option maxHeartbeats 1000000 in
theorem frames1_pre (s : ByteArray) (hs : s.size ≤ 20000) (n l Bn n₀ : Nat) (hn : 1 ≤ n) (J Jx : List FrX → World → Prop)
    (hY : ∀ pre x W, J pre W → pre.length < s.size + 1 → YieldAt Fence.wide (n - 1) Tryz.prog l #[.string (s.extract x.1.1 x.1.2), .int .i64 (x.1.2 : Int)] W fun e W' =>
      (e = .returned (.bool true) ∧ J (pre ++ [x]) W' ∧ KpF n₀ Bn W W') ∨ (e = .returned (.bool false) ∧ Jx (pre ++ [x]) W'))
    (W : World) (hJ : AbidesFrom W.heap.size J) (hn₀ : n₀ ≤ W.heap.size) (hg : 0 < n₀) (hbox : Boxed W Bn 9 (.string s)) (hT : SumTab W) (h0 : J [] W) :
    CallsIn Fence.wide n Tryz.prog 255 #[.func (.yield l) #[] #[], .pointer (some ⟨Bn, 0, none⟩)] W fun e W' => (∃ v, e = .returned v) ∧
      ((∃ ys, vl ys = frs s (s.size + 1) 0 ∧ J ys W') ∨ (∃ pre, (∃ rest, frs s (s.size + 1) 0 = vl pre ++ rest) ∧ Jx pre W')) := by
  have HY := hide hY
  have HJ := hide hJ
  have HT := hide hT
  clear hY hJ hT
  refine callsIn_of_wp Tryz.func255 rfl trivial ?_ rfl
  simp only [Tryz.ntmps255, List.size_toArray, List.length_cons, List.length_nil, Nat.reduceAdd, Nat.reduceSub, Array.replicate_succ, Array.replicate_zero, List.push_toArray, List.append_toArray, List.nil_append, List.cons_append]
  gi_wp2
  gi_loopw [3] (fun a wr => ∃ (pre : List FrX) (f i : Nat), a = .int .i64 i ∧ i ≤ s.size ∧ Hid (frs s (s.size + 1) 0 = vl pre ++ frs s f i) ∧ s.size < f + i ∧ Hid (J pre wr) ∧ Boxed wr Bn 9 (.string s) ∧ Below n₀ W wr ∧ W.heap.size ≤ wr.heap.size) (fun a _ => s.size - (intOf a).toNat)
  case atStart => exact ⟨[], s.size + 1, 0, rfl, Nat.zero_le _, rfl, by omega, h0, hbox, Below.refl _ _, Nat.le_refl _⟩
  case round =>
    obtain ⟨pre, f, i, rfl, hi, hall, hfuel, hJp, hbx, hbl, hsz⟩ := hrel
    have hc := hbx.cell
    have HTr := hide (sumTab_below hbl hg HT.out)
    cases hfr : frB s i with
    | none =>
      have hcall := hide (fun W1 hT1 => callsIn_wide (n := n - 1).2 (frameAt_none s i W1 hs hi hfr hT1))
      have hdone : Hid (frs s (s.size + 1) 0 = vl pre) := by show _ = _; rw [hall.out, frs_none s f i hfr, List.append_nil]
      clear hfr
      gi_wp2_with (first | (refine ⟨trivial, ?_⟩; gi_at_call 183; refine (hcall.out _ HTr.out).mono ?_; rintro e w1 ⟨rfl, b1⟩))
      refine ⟨fun _ _ => trivial, ?_⟩
      gi_wp2
      refine bodyPost_ret (results_none rfl _ _ _) rfl ?_
      exact ⟨⟨_, rfl⟩, .inl ⟨pre, hdone.out.symm, HJ.out _ _ _ none hJp.out (grownBy_below none b1) (fun r e => by cases e)⟩⟩
    | some x =>
      have hb := frB_bounds s i x hfr
      obtain ⟨X, hX⟩ : ∃ X : FrX, X.1 = x := ⟨⟨x, by omega⟩, rfl⟩
      have hcall := hide (fun W1 hT1 => callsIn_wide (n := n - 1).2 (frameAt_some s i x W1 hs hi hfr hT1))
      have HYX := hide (fun pre W => HY.out pre X W)
      rw [hX] at HYX
      cases f with
      | zero => omega
      | succ f =>
        have hall' := hide (show frs s (s.size + 1) 0 = vl (pre ++ [X]) ++ frs s f x.2 by rw [hall.out, frs_some s f i x hfr, vl_snoc, hX, List.append_assoc]; rfl)
        have hlen : pre.length < s.size + 1 := by
          have e := congrArg List.length hall'.out
          rw [List.length_append, vl_len, List.length_append] at e
          have := frs_len s (s.size + 1) 0
          simp at e
          omega
        clear hfr
        gi_wp2_with (first | (refine ⟨trivial, ?_⟩; gi_at_call 183; refine (hcall.out _ HTr.out).mono ?_; rintro e w1 ⟨rfl, b1⟩; obtain ⟨fn, tmps, assign, body, hy, hR⟩ := HYX.out pre w1 (HJ.out _ _ _ none hJp.out (grownBy_below none b1) (fun r e => by cases e)) hlen))
        refine hR.mono ?_
        rintro e W3 (⟨rfl, hJ3, hk3⟩ | ⟨rfl, hJx3⟩)
        · gi_wp2
          go_roundw
          case rel => exact ⟨pre ++ [X], f, x.2, rfl, hb.2.2, hall', by omega, hJ3, hk3.2 _ (hbx.kept (grownBy_below none b1) (by simp)), hbl.trans ((b1.mono (by omega)).trans hk3.1), Nat.le_trans hsz (Nat.le_trans b1.size hk3.1.size)⟩
          case measure => simp [intOf]; omega
        · gi_wp2
          refine bodyPost_ret (results_none rfl _ _ _) rfl ?_
          exact ⟨⟨_, rfl⟩, .inr ⟨_, ⟨_, hall'.out⟩, hJx3⟩⟩

theorem framesOf_any (s : ByteArray) (w : World) :
    Calls Tryz.prog 234 #[.string s] w fun e w' => e = .returned (.func (.func 255) #[] #[.pointer (some ⟨w.heap.size, 0, none⟩)]) ∧ w' = w.alloc (.cells #[.string s] 9) := by
  go_enter Tryz.func234, Tryz.ntmps234
  go_wp2
  go_ret
  exact ⟨rfl, rfl⟩

/-- The reader hands out the frames, one behind the other. -/
theorem frames_stopsP (s : ByteArray) (hs : s.size ≤ 20000) (n Bn n₀ : Nat) (hn : 1 ≤ n) (w : World) (hn₀ : n₀ ≤ w.heap.size) (hg : 0 < n₀) (hbox : Boxed w Bn 9 (.string s)) (hT : SumTab w) :
    SeqStopsK Fence.wide n Tryz.prog 255 #[.pointer (some ⟨Bn, 0, none⟩)] (fun x : FrX => #[Value.string (s.extract x.1.1 x.1.2), Value.int .i64 (x.1.2 : Int)]) (KpF n₀ Bn) (fun ys => vl ys = frs s (s.size + 1) 0) (fun pre => ∃ rest, frs s (s.size + 1) 0 = vl pre ++ rest) (s.size + 1) w := fun l J Jx W hW hJ _ hY h0 =>
  frames1_pre s hs n l Bn n₀ hn J Jx hY W hJ (Nat.le_trans hn₀ hW.size) hg (hbox.kept (grownBy_below none hW) (by simp)) (sumTab_below (hW.mono hn₀) hg hT) h0
end Go.Proofs.YtmmchemgegmhhaaGreatDoor
