import Derived.RangeFuncNested
import Derived.RangeFuncBound
import Derived.RangeFuncCalls
import Derived.RangeFuncLeaves
import Derived.Shelf.Abstract
import Derived.Shelf.RegionOpen
import Derived.WalkKit
import Derived.OwnWalkIn
import Derived.TacticsInMore
import Derived.LoopNIn
import Derived.LoopIn
import Derived.Deep.RegionHeld3
import Derived.BigQuiet
import Derived.WalkSmall
import Derived.Laws.MakeOwn
import Derived.Lib.SmallJoins
import Derived.OpenShut
import Derived.Test.YtmmchemgegmhhaaGreatDoorFo1
import Derived.Test.YtmmchemgegmhhaaGreatDoorFo0
set_option maxRecDepth 100000
set_option maxHeartbeats 1600000
namespace Go.Proofs.YtmmchemgegmhhaaGreatDoor
open Go.RowKit
theorem lenOk_yes (n : Nat) (w : World) (h1 : 1 ≤ n) (h2 : n ≤ 9000) :
    Calls Tryz.prog 126 #[.int .i64 n] w fun e w' => e = .returned (.bool true) ∧ w' = w := by
  have h1' : decide ((1 : Int) ≤ (n : Int)) = true := by simp; omega
  have h2' : decide ((n : Int) ≤ 9000) = true := by simp; omega
  go_enter Tryz.func126, Tryz.ntmps126
  go_wp2
  go_ret
  exact ⟨rfl, rfl⟩
theorem lenOk_no (n : Nat) (w : World) (h : n < 1 ∨ 9000 < n) :
    Calls Tryz.prog 126 #[.int .i64 n] w fun e w' => e = .returned (.bool false) ∧ w' = w := by
  rcases h with h | h
  · have h1' : decide ((1 : Int) ≤ (n : Int)) = false := by simp; omega
    go_enter Tryz.func126, Tryz.ntmps126
    go_wp2
    go_ret
    exact ⟨rfl, rfl⟩
  · have h1' : decide ((1 : Int) ≤ (n : Int)) = true := by simp; omega
    have h2' : decide ((n : Int) ≤ 9000) = false := by simp; omega
    go_enter Tryz.func126, Tryz.ntmps126
    go_wp2
    go_ret
    exact ⟨rfl, rfl⟩
theorem frame_yes (t : ByteArray) (w : World) (h1 : 1 ≤ t.size) (h2 : t.size ≤ 9000) (hT : SumTab w) :
    Calls Tryz.prog 84 #[.string t] w fun e w' => e = .returned (.tuple #[.string (frameB t), .bool true]) ∧ Below w.heap.size w w' := by
  have HT := hide hT
  have HE : Hid (frameB t = ⟨(Wd.varF 5 t.size).toArray⟩ ++ ⟨(four (sumB 4294967295 t)).toArray⟩ ++ t) := rfl
  have hlt := sumB_lt t
  have h4 : (four (sumB 4294967295 t)).length = 4 := rfl
  have hv := Wd.varF_len 5 t.size
  clear hT
  go_enter Tryz.func84, Tryz.ntmps84
  go_wp2_with (first | (go_at_call 126; refine (lenOk_yes t.size _ h1 h2).mono ?_; rintro e w0 ⟨rfl, rfl⟩) | (go_at_call 83; refine (implVar_yes t.size _ (by omega)).mono ?_; rintro e w1 ⟨rfl, b1⟩) | (go_at_call 127; refine (sumOf_any t _ (by omega) (sumTab_later b1 HT.out)).mono ?_; rintro e w2 ⟨rfl, rfl⟩) | (go_at_call 128; refine (inBytes_any _ _ hlt).mono ?_; rintro e w3 ⟨rfl, b3⟩))
  go_ret2
  rw [HE.out]
  exact ⟨rfl, b1.trans (b3.mono b1.size)⟩
theorem rvI_nat (s : ByteArray) (i : Nat) (h : i ≤ s.size) : Wd.rvI s (i : Int) = Wd.rv s i := by
  unfold Wd.rvI
  rw [if_neg (by omega), Int.toNat_natCast]
theorem frameAt_some (s : ByteArray) (i : Nat) (x : Nat × Nat) (w : World) (hs : s.size ≤ 20000) (hi : i ≤ s.size) (h : frB s i = some x) (hT : SumTab w) :
    Calls Tryz.prog 183 #[.string s, .int .i64 i] w fun e w' => e = .returned (.tuple #[.string (s.extract x.1 x.2), .int .i64 (x.2 : Int), .bool true]) ∧ Below w.heap.size w w' := by
  have HT := hide hT
  cases hr : Wd.rv s i with
  | none => rw [frB_num s i hr] at h; simp at h
  | some q =>
    obtain ⟨n, p⟩ := q
    have hb := Wd.rv_bounds s i n p hr
    by_cases hc : 1 ≤ n ∧ n ≤ 9000 ∧ p + 4 + n ≤ s.size ∧ s.extract p (p + 4) = ⟨(four (sumB 4294967295 (s.extract (p + 4) (p + 4 + n)))).toArray⟩
    · rw [frB_yes s i n p hr hc] at h
      simp only [Option.some.injEq] at h
      subst h
      obtain ⟨c1, c2, c3, c4⟩ := hc
      obtain ⟨R, hR⟩ : ∃ R, s.extract (p + 4) (p + 4 + n) = R := ⟨_, rfl⟩
      obtain ⟨T, hTx⟩ : ∃ T, s.extract p (p + 4) = T := ⟨_, rfl⟩
      have hRz : R.size ≤ 20000 := by rw [← hR, ByteArray.size_extract]; omega
      rw [hTx, hR] at c4
      have hcut1 := cut_at s (p + 4) (p + 4 + n) ((p : Int) + 4) ((p : Int) + 4 + n) R (by omega) (by omega) (by omega) c3 hR
      have hcut2 := cut_at s p (p + 4) (p : Int) ((p : Int) + 4) T rfl (by omega) (by omega) (by omega) hTx
      have hlt := sumB_lt R
      have heq : (four (sumB 4294967295 R) == T.toList) = true := by rw [c4, ByteArray.toList_eq]; exact beq_self_eq_true _
      have hread := hide (fun W => implRead_some s (i : Int) W n p (by omega) (by rw [rvI_nat s i hi]; exact hr))
      have HR := hide hR
      clear hT hr c4 hTx hR
      have hle : decide ((s.size : Int) - (p : Int) - 4 < (n : Int)) = false := by simp; omega
      go_enter Tryz.func183, Tryz.ntmps183
      go_wp2_with (first | (go_at_call 209; refine (hread.out _).mono ?_; rintro e w0 ⟨rfl, rfl⟩) | (go_at_call 126; refine (lenOk_yes n _ c1 c2).mono ?_; rintro e w1 ⟨rfl, rfl⟩))
      go_region_held3 (fun _ => True) (trivial) ((first | (go_at_call 127; refine (sumOf_any R _ (by omega) (by first | exact HT.out | exact sumTab_later ((Below.refl _ _).drew) HT.out)).mono ?_; rintro e w' ⟨rfl, rfl⟩) | (go_at_call 128; refine (inBytes_any _ _ hlt).mono ?_; rintro e w' ⟨rfl, b3⟩)))
      go_wp2
      go_ret3
      rw [HR.out]
      exact ⟨by simp, (Below.refl _ _).drew.trans b3⟩
    · rw [frB_no s i n p hr hc] at h; simp at h
theorem frameAt_none (s : ByteArray) (i : Nat) (w : World) (hs : s.size ≤ 20000) (hi : i ≤ s.size) (h : frB s i = none) (hT : SumTab w) :
    Calls Tryz.prog 183 #[.string s, .int .i64 i] w fun e w' => e = .returned (.tuple #[.string ⟨#[]⟩, .int .i64 0, .bool false]) ∧ Below w.heap.size w w' := by
  have HT := hide hT
  clear hT
  cases hr : Wd.rv s i with
  | none =>
    have hread := hide (fun W => implRead_none s (i : Int) W (by omega) (by rw [rvI_nat s i hi]; exact hr))
    clear hr h
    go_enter Tryz.func183, Tryz.ntmps183
    go_wp2_with (first | (go_at_call 209; refine (hread.out _).mono ?_; rintro e w0 ⟨rfl, rfl⟩))
    go_ret3
    exact ⟨rfl, Below.refl _ _⟩
  | some q =>
    obtain ⟨n, p⟩ := q
    have hb := Wd.rv_bounds s i n p hr
    have hread := hide (fun W => implRead_some s (i : Int) W n p (by omega) (by rw [rvI_nat s i hi]; exact hr))
    by_cases c12 : 1 ≤ n ∧ n ≤ 9000
    · by_cases c3 : p + 4 + n ≤ s.size
      · have c4 : ¬ s.extract p (p + 4) = ⟨(four (sumB 4294967295 (s.extract (p + 4) (p + 4 + n)))).toArray⟩ := fun c4 => by
          rw [frB_yes s i n p hr ⟨c12.1, c12.2, c3, c4⟩] at h; simp at h
        obtain ⟨c1, c2⟩ := c12
        obtain ⟨R, hR⟩ : ∃ R, s.extract (p + 4) (p + 4 + n) = R := ⟨_, rfl⟩
        obtain ⟨T, hTx⟩ : ∃ T, s.extract p (p + 4) = T := ⟨_, rfl⟩
        have hRz : R.size ≤ 20000 := by rw [← hR, ByteArray.size_extract]; omega
        rw [hTx, hR] at c4
        have hcut1 := cut_at s (p + 4) (p + 4 + n) ((p : Int) + 4) ((p : Int) + 4 + n) R (by omega) (by omega) (by omega) c3 hR
        have hcut2 := cut_at s p (p + 4) (p : Int) ((p : Int) + 4) T rfl (by omega) (by omega) (by omega) hTx
        have hlt := sumB_lt R
        have heq : (four (sumB 4294967295 R) == T.toList) = false := by
          rw [beq_eq_false_iff_ne, ByteArray.toList_eq]
          intro e
          exact c4 (ByteArray.ext (Array.toList_inj.1 e.symm))
        clear hr c4 hTx hR h
        have hle : decide ((s.size : Int) - (p : Int) - 4 < (n : Int)) = false := by simp; omega
        go_enter Tryz.func183, Tryz.ntmps183
        go_wp2_with (first | (go_at_call 209; refine (hread.out _).mono ?_; rintro e w0 ⟨rfl, rfl⟩) | (go_at_call 126; refine (lenOk_yes n _ c1 c2).mono ?_; rintro e w1 ⟨rfl, rfl⟩))
        go_region_held3 (fun _ => True) (trivial) ((first | (go_at_call 127; refine (sumOf_any R _ (by omega) (by first | exact HT.out | exact sumTab_later ((Below.refl _ _).drew) HT.out)).mono ?_; rintro e w' ⟨rfl, rfl⟩) | (go_at_call 128; refine (inBytes_any _ _ hlt).mono ?_; rintro e w' ⟨rfl, b3⟩)))
        go_wp2
        go_ret3
        exact ⟨rfl, (Below.refl _ _).drew.trans b3⟩
      · obtain ⟨c1, c2⟩ := c12
        have hle : decide ((s.size : Int) - (p : Int) - 4 < (n : Int)) = true := by simp; omega
        clear hr h
        go_enter Tryz.func183, Tryz.ntmps183
        go_wp2_with (first | (go_at_call 209; refine (hread.out _).mono ?_; rintro e w0 ⟨rfl, rfl⟩) | (go_at_call 126; refine (lenOk_yes n _ c1 c2).mono ?_; rintro e w1 ⟨rfl, rfl⟩))
        go_ret3
        exact ⟨rfl, Below.refl _ _⟩
    · have hno : n < 1 ∨ 9000 < n := by omega
      clear hr h
      go_enter Tryz.func183, Tryz.ntmps183
      go_wp2_with (first | (go_at_call 209; refine (hread.out _).mono ?_; rintro e w0 ⟨rfl, rfl⟩) | (go_at_call 126; refine (lenOk_no n _ hno).mono ?_; rintro e w1 ⟨rfl, rfl⟩))
      go_ret3
      exact ⟨rfl, Below.refl _ _⟩
end Go.Proofs.YtmmchemgegmhhaaGreatDoor
namespace Go.Proofs.YtmmchemgegmhhaaGreatDoor
open Go.RowKit Go.Shelf
attribute [local go_sem] Oper.semAt_some
def KpF (n₀ Bn : Nat) (W W' : World) : Prop := Below n₀ W W' ∧ ∀ v, Boxed W Bn 9 v → Boxed W' Bn 9 v
theorem kpF_t {n₀ Bn : Nat} {A B C : World} (h : KpF n₀ Bn A B) (k : KpF n₀ Bn B C) : KpF n₀ Bn A C := ⟨h.1.trans k.1, fun v hv => k.2 v (h.2 v hv)⟩
theorem kpF_b {n₀ Bn : Nat} {w : World} (hn : n₀ ≤ w.heap.size) (W : World) (l : Nat) (o o' : Obj) (hl : w.heap.size ≤ l) (h : W.heap[l]? = some o) (hc : o.isCells = false) (hw : o.isWalk = false) : KpF n₀ Bn W (W.putObj l o') :=
  ⟨belowK_b hn W l o o' hl h hc hw, fun v hv => hv.kept (grownBy_putObj' W l o') (fun e => by
    cases e
    have hv' : W.heap[Bn]? = some (.cells #[v] 9 (0, 0)) := hv
    rw [hv'] at h
    cases h
    cases hc)⟩
theorem sumTab_below {w w' : World} {n₀ : Nat} (h : Below n₀ w w') (hg : 0 < n₀) (ht : SumTab w) : SumTab w' := fun r hr => (h.cell (p := ⟨0, r, none⟩) hg).trans (ht r hr)
theorem sumTab_lt {w : World} (ht : SumTab w) : 0 < w.heap.size := World.block_lt_of_cell? _ _ (ht 0 (by omega))
abbrev FrX := { x : Nat × Nat // x.2 ≤ 20000 }
def vl (l : List FrX) : List (Nat × Nat) := l.map Subtype.val
theorem vl_snoc (l : List FrX) (x : FrX) : vl (l ++ [x]) = vl l ++ [x.1] := by simp [vl]
theorem vl_len (l : List FrX) : (vl l).length = l.length := by simp [vl]
theorem frames1_pre (s : ByteArray) (hs : s.size ≤ 20000) (n l Bn n₀ : Nat) (hn : 1 ≤ n) (J Jx : List FrX → World → Prop)
    (hY : ∀ pre x W, J pre W → pre.length < s.size + 1 → YieldAt Fence.wide (n - 1) Tryz.prog l #[.string (s.extract x.1.1 x.1.2), .int .i64 (x.1.2 : Int)] W fun e W' =>
      (e = .returned (.bool true) ∧ J (pre ++ [x]) W' ∧ KpF n₀ Bn W W') ∨ (e = .returned (.bool false) ∧ Jx (pre ++ [x]) W'))
    (W : World) (hJ : AbidesFrom W.heap.size J) (hn₀ : n₀ ≤ W.heap.size) (hg : 0 < n₀) (hbox : Boxed W Bn 9 (.string s)) (hT : SumTab W) (h0 : J [] W) :
    CallsIn Fence.wide n Tryz.prog 255 #[.func (.yield l) #[] #[], .pointer (some ⟨Bn, 0, none⟩)] W fun e W' => (∃ v, e = .returned v) ∧
      ((∃ ys, vl ys = frs s (s.size + 1) 0 ∧ J ys W') ∨ (∃ pre, (∃ rest, frs s (s.size + 1) 0 = vl pre ++ rest) ∧ Jx pre W')) := by
  have HY := hide hY
  have HJ := hide hJ
  have HT := hide hT
  clear hY hJ hT
  refine callsIn_of_wp Tryz.func255 rfl trivial ?_ rfl
  simp only [Tryz.ntmps255, List.size_toArray, List.length_cons, List.length_nil, Nat.reduceAdd, Nat.reduceSub, Array.replicate_succ, Array.replicate_zero, List.push_toArray, List.append_toArray, List.nil_append, List.cons_append]
  gi_wp2
  gi_loopw [3] (fun a wr => ∃ (pre : List FrX) (f i : Nat), a = .int .i64 i ∧ i ≤ s.size ∧ Hid (frs s (s.size + 1) 0 = vl pre ++ frs s f i) ∧ s.size < f + i ∧ Hid (J pre wr) ∧ Boxed wr Bn 9 (.string s) ∧ Below n₀ W wr ∧ W.heap.size ≤ wr.heap.size) (fun a _ => s.size - (intOf a).toNat)
  case atStart => exact ⟨[], s.size + 1, 0, rfl, Nat.zero_le _, rfl, by omega, h0, hbox, Below.refl _ _, Nat.le_refl _⟩
  case round =>
    obtain ⟨pre, f, i, rfl, hi, hall, hfuel, hJp, hbx, hbl, hsz⟩ := hrel
    have hc := hbx.cell
    have HTr := hide (sumTab_below hbl hg HT.out)
    cases hfr : frB s i with
    | none =>
      have hcall := hide (fun W1 hT1 => callsIn_wide (n := n - 1).2 (frameAt_none s i W1 hs hi hfr hT1))
      have hdone : Hid (frs s (s.size + 1) 0 = vl pre) := by show _ = _; rw [hall.out, frs_none s f i hfr, List.append_nil]
      clear hfr
      gi_wp2_with (first | (refine ⟨trivial, ?_⟩; gi_at_call 183; refine (hcall.out _ HTr.out).mono ?_; rintro e w1 ⟨rfl, b1⟩))
      refine ⟨fun _ _ => trivial, ?_⟩
      gi_wp2
      refine bodyPost_ret (results_none rfl _ _ _) rfl ?_
      exact ⟨⟨_, rfl⟩, .inl ⟨pre, hdone.out.symm, HJ.out _ _ _ none hJp.out (grownBy_below none b1) (fun r e => by cases e)⟩⟩
    | some x =>
      have hb := frB_bounds s i x hfr
      obtain ⟨X, hX⟩ : ∃ X : FrX, X.1 = x := ⟨⟨x, by omega⟩, rfl⟩
      have hcall := hide (fun W1 hT1 => callsIn_wide (n := n - 1).2 (frameAt_some s i x W1 hs hi hfr hT1))
      have HYX := hide (fun pre W => HY.out pre X W)
      rw [hX] at HYX
      cases f with
      | zero => omega
      | succ f =>
        have hall' := hide (show frs s (s.size + 1) 0 = vl (pre ++ [X]) ++ frs s f x.2 by rw [hall.out, frs_some s f i x hfr, vl_snoc, hX, List.append_assoc]; rfl)
        have hlen : pre.length < s.size + 1 := by
          have e := congrArg List.length hall'.out
          rw [List.length_append, vl_len, List.length_append] at e
          have := frs_len s (s.size + 1) 0
          simp at e
          omega
        clear hfr
        gi_wp2_with (first | (refine ⟨trivial, ?_⟩; gi_at_call 183; refine (hcall.out _ HTr.out).mono ?_; rintro e w1 ⟨rfl, b1⟩; obtain ⟨fn, tmps, assign, body, hy, hR⟩ := HYX.out pre w1 (HJ.out _ _ _ none hJp.out (grownBy_below none b1) (fun r e => by cases e)) hlen))
        refine hR.mono ?_
        rintro e W3 (⟨rfl, hJ3, hk3⟩ | ⟨rfl, hJx3⟩)
        · gi_wp2
          go_roundw
          case rel => exact ⟨pre ++ [X], f, x.2, rfl, hb.2.2, hall', by omega, hJ3, hk3.2 _ (hbx.kept (grownBy_below none b1) (by simp)), hbl.trans ((b1.mono (by omega)).trans hk3.1), Nat.le_trans hsz (Nat.le_trans b1.size hk3.1.size)⟩
          case measure => simp [intOf]; omega
        · gi_wp2
          refine bodyPost_ret (results_none rfl _ _ _) rfl ?_
          exact ⟨⟨_, rfl⟩, .inr ⟨_, ⟨_, hall'.out⟩, hJx3⟩⟩
theorem framesOf_any (s : ByteArray) (w : World) :
    Calls Tryz.prog 234 #[.string s] w fun e w' => e = .returned (.func (.func 255) #[] #[.pointer (some ⟨w.heap.size, 0, none⟩)]) ∧ w' = w.alloc (.cells #[.string s] 9) := by
  go_enter Tryz.func234, Tryz.ntmps234
  go_wp2
  go_ret
  exact ⟨rfl, rfl⟩
theorem frames_stopsP (s : ByteArray) (hs : s.size ≤ 20000) (n Bn n₀ : Nat) (hn : 1 ≤ n) (w : World) (hn₀ : n₀ ≤ w.heap.size) (hg : 0 < n₀) (hbox : Boxed w Bn 9 (.string s)) (hT : SumTab w) :
    SeqStopsK Fence.wide n Tryz.prog 255 #[.pointer (some ⟨Bn, 0, none⟩)] (fun x : FrX => #[Value.string (s.extract x.1.1 x.1.2), Value.int .i64 (x.1.2 : Int)]) (KpF n₀ Bn) (fun ys => vl ys = frs s (s.size + 1) 0) (fun pre => ∃ rest, frs s (s.size + 1) 0 = vl pre ++ rest) (s.size + 1) w := fun l J Jx W hW hJ _ hY h0 =>
  frames1_pre s hs n l Bn n₀ hn J Jx hY W hJ (Nat.le_trans hn₀ hW.size) hg (hbox.kept (grownBy_below none hW) (by simp)) (sumTab_below (hW.mono hn₀) hg hT) h0
end Go.Proofs.YtmmchemgegmhhaaGreatDoor
namespace Go.Proofs.YtmmchemgegmhhaaGreatDoor
open Go.RowKit
theorem l01Var_any (n : Nat) (w : World) (h1 : n < 34359738368) :
    Calls Tryz.prog 87 #[.int .i64 n] w fun e w' => e = .returned (.string ⟨(Wd.varF 5 n).toArray⟩) ∧ Below w.heap.size w w' := by
  go_enter Tryz.func87, Tryz.ntmps87
  go_wp2
  go_loopw [0, 3] (fun t v wr => ∃ (f m : Nat) (acc : List UInt8), t = .int .i64 m ∧ m < 128 ^ (f + 1) ∧ m < 34359738368 ∧ acc.length + f = 4 ∧ wr.ownsRow w.heap.size 5 1 v acc.length (acc.map bv) ∧ Hid (acc ++ Wd.varF (f + 1) m = Wd.varF 5 n) ∧ Below w.heap.size w wr) (fun t _ _ => (intOf t).toNat)
  case atStart =>
    refine ⟨4, n, [], rfl, by omega, h1, rfl, ?_, rfl, (Below.refl _ _).alloc (Nat.le_refl _) _⟩
    exact World.ownsRow_lit w #[] 0 (Nat.le_refl _) (by unfold maxLen; omega) (by simp)
  case round =>
    obtain ⟨f, m, acc, rfl, hm, hm2, hl, hown, hacc, hb⟩ := hrel
    by_cases hlt : 127 < m
    · obtain ⟨f, rfl⟩ : ∃ g, f = g + 1 := by
        cases f with
        | zero => simp at hm; omega
        | succ g => exact ⟨g, rfl⟩
      have hbs := hb.size
      have hfac : Hid (Wd.varF (f + 1 + 1) m = UInt8.ofNat (m % 128 + 128) :: Wd.varF (f + 1) (m / 128)) := Wd.varF_high _ _ (by omega)
      have hdiv := Wd.div_lt_pow _ _ hm
      obtain ⟨b, hbb, hbn⟩ : ∃ b : UInt8, Hid (b = UInt8.ofNat (m % 128 + 128)) ∧ Hid ((m : Int) % 128 + 128 = (b.toNat : Int)) := ⟨_, rfl, by simp only [Hid, UInt8.toNat_ofNat']; omega⟩
      go_wp2_with (at_builtin; refine app_bytes wr 22 5 Tryz.underlying22 Tryz.info5 w w.heap.size rfl _ _ rfl _ acc [b] rfl hown rfl (by simp [bv, hbn.out]) (by simp; omega) hb hbs ?_; intro v' w1 hown1 hb1 hs1)
      go_roundw
      case rel =>
        refine ⟨f, m / 128, acc ++ [b], by go_num, hdiv, by omega, by simp; omega, hown1, ?_, hb1⟩
        show _ = _
        rw [← hacc.out, hfac.out, ← hbb.out]; simp
      case measure => simp [intOf]; omega
    · have hbs := hb.size
      have hfac : Hid (Wd.varF (f + 1) m = [UInt8.ofNat m]) := Wd.varF_low _ _ (by omega)
      obtain ⟨b, hbb, hbn⟩ : ∃ b : UInt8, Hid (b = UInt8.ofNat m) ∧ Hid ((m : Int) = (b.toNat : Int)) := ⟨_, rfl, by simp only [Hid, UInt8.toNat_ofNat']; omega⟩
      go_wp2_with (at_builtin; refine app_bytes wr 22 5 Tryz.underlying22 Tryz.info5 w w.heap.size rfl _ _ rfl _ acc [b] rfl hown rfl (by simp [bv, hbn.out]) (by simp; omega) hb hbs ?_; intro v' w1 hown1 hb1 hs1; have hcv := conv_own 22 5 9 Tryz.underlying22 Tryz.underlying5 Tryz.underlying9 w1 _ _ _ hown1)
      go_ret
      rw [← hacc.out, hfac.out, ← hbb.out]
      exact ⟨rfl, hb1⟩
def varC (t : ByteArray) (i : Nat) (bad : Bool) : Nat × Nat × Bool :=
  match bad, Wd.rv t i with
  | false, some (n, p) => (n, p, false)
  | _, _ => (0, i, true)
def takeC (t : ByteArray) (n i : Nat) (bad : Bool) : ByteArray × Nat × Bool :=
  if bad = true ∨ t.size < i + n then (⟨#[]⟩, i, true) else (t.extract i (i + n), i + n, false)
def shortC (t : ByteArray) (i : Nat) (bad : Bool) : ByteArray × Nat × Bool := takeC t (varC t i bad).1 (varC t i bad).2.1 (varC t i bad).2.2
def mk (k : Nat) : List UInt8 := 109 :: Wd.decA 20 k []
structure ChangeD where
  key : ByteArray
  value : ByteArray
  gone : Bool
def ChangesAt (w : World) (ao : Option Addr) (fs : List ChangeD) : Prop := ∀ j (h : j < fs.length), ∃ b off : Nat, ao = some ⟨b, off, none⟩ ∧ b < w.heap.size ∧
  w.cell? ⟨b, off + j * 3, none⟩ = some (.string fs[j].key) ∧ w.cell? ⟨b, off + j * 3 + 1, none⟩ = some (.string fs[j].value) ∧ w.cell? ⟨b, off + j * 3 + 2, none⟩ = some (.bool fs[j].gone)
theorem changesAt_keep {w w' : World} {ao : Option Addr} {fs : List ChangeD} (h : ChangesAt w ao fs) (hb : Below w.heap.size w w') : ChangesAt w' ao fs := by
  intro j hj
  obtain ⟨b, off, h1, h2, h3, h4, h5⟩ := h j hj
  exact ⟨b, off, h1, Nat.lt_of_lt_of_le h2 hb.size, (hb.cell (p := ⟨b, off + j * 3, none⟩) h2).trans h3, (hb.cell (p := ⟨b, off + j * 3 + 1, none⟩) h2).trans h4, (hb.cell (p := ⟨b, off + j * 3 + 2, none⟩) h2).trans h5⟩
def ChangesIn (C : Array Value) (fs : List ChangeD) (k : Nat) : Prop := ∀ j (h : j < fs.length), j < k → C[j * 3]? = some (.string fs[j].key) ∧ C[j * 3 + 1]? = some (.string fs[j].value) ∧ C[j * 3 + 2]? = some (.bool fs[j].gone)
theorem Tryz.infoChange : (Tryz.prog.info? 144).map (fun i => (i.zero, i.size, i.bytes)) = some (some (.agg #[.string ⟨#[]⟩, .string ⟨#[]⟩, .bool false]), 3, 40) := by kernel_rfl
theorem changesAt_own {w : World} {g : Nat} {C : Array Value} {t : TypeId} {fs : List ChangeD} (h : w.heap[g]? = some (.cells C t (0, 0))) (hC : ChangesIn C fs fs.length) : ChangesAt w (some ⟨g, 0, none⟩) fs := by
  intro j hj
  obtain ⟨h0, h1, h2⟩ := hC j hj hj
  have hg : g < w.heap.size := (Array.getElem?_eq_some_iff.1 h).1
  refine ⟨g, 0, rfl, hg, ?_, ?_, ?_⟩
  · rw [Nat.zero_add, cell_of_row w g _ C t (0, 0) h, h0]
  · rw [Nat.zero_add, cell_of_row w g _ C t (0, 0) h, h1]
  · rw [Nat.zero_add, cell_of_row w g _ C t (0, 0) h, h2]
def cellsChange : List ChangeD → List Value
  | [] => []
  | A :: r => .string A.key :: .string A.value :: .bool A.gone :: cellsChange r
theorem cellsChange_append : ∀ (a b : List ChangeD), cellsChange (a ++ b) = cellsChange a ++ cellsChange b
  | [], _ => rfl
  | A :: r, b => by simp [cellsChange, cellsChange_append r b]
theorem cellsChange_length : ∀ a : List ChangeD, (cellsChange a).length = a.length * 3
  | [] => rfl
  | A :: r => by simp [cellsChange, cellsChange_length r]; omega
theorem cellsChange_one : ∀ (a : List ChangeD), ∀ u ∈ cellsChange a, u.oneCell' = true
  | [], u, h => absurd h List.not_mem_nil
  | A :: r, u, h => by
    simp only [cellsChange, List.mem_cons] at h
    rcases h with rfl | rfl | rfl | h
    · rfl
    · rfl
    · rfl
    · exact cellsChange_one r u h
theorem cellsChange_get : ∀ (a : List ChangeD) (j : Nat) (h : j < a.length), (cellsChange a)[j * 3]? = some (.string a[j].key) ∧ (cellsChange a)[j * 3 + 1]? = some (.string a[j].value) ∧ (cellsChange a)[j * 3 + 2]? = some (.bool a[j].gone)
  | [], _, h => absurd h (by simp)
  | A :: r, 0, _ => by simp [cellsChange]
  | A :: r, j + 1, h => by
    have := cellsChange_get r j (by simpa using h)
    have e : (j + 1) * 3 = j * 3 + 3 := by omega
    simp only [cellsChange, e]
    simpa using this
def RowChange (w : World) (B : Nat) (v : Value) (fs : List ChangeD) : Prop := (v = .slice none 0 0 ∧ fs = []) ∨
  ∃ (g cap : Nat) (C : Array Value), v = .slice (some ⟨g, 0, none⟩) fs.length cap ∧ B ≤ g ∧ w.heap[g]? = some (.cells C 144 (0, 0)) ∧ fs.length * 3 ≤ C.size ∧ ChangesIn C fs fs.length
theorem rowChange_at {w : World} {B : Nat} {v : Value} {fs : List ChangeD} (h : RowChange w B v fs) : ∃ ao cap, v = .slice ao fs.length cap ∧ ChangesAt w ao fs := by
  rcases h with ⟨rfl, rfl⟩ | ⟨g, cap, C, rfl, _, hC, _, hI⟩
  · exact ⟨none, 0, rfl, fun j hj => absurd hj (by simp)⟩
  · exact ⟨_, cap, rfl, changesAt_own hC hI⟩
theorem rowChange_lt {w : World} {B : Nat} {v : Value} {fs : List ChangeD} (h : RowChange w B v fs) : ∀ g, v.ownBlock = some g → B ≤ g ∧ g < w.heap.size := by
  rcases h with ⟨rfl, rfl⟩ | ⟨g, cap, C, rfl, hB, hC, _, hI⟩
  · intro g h; cases h
  · intro g' h
    obtain rfl : g = g' := by simpa [Value.ownBlock] using h
    exact ⟨hB, (Array.getElem?_eq_some_iff.1 hC).1⟩
theorem rowChange_keep {w w' : World} {B : Nat} {v : Value} {fs : List ChangeD} (h : RowChange w B v fs) (hk : ∀ g, v.ownBlock = some g → w'.heap[g]? = w.heap[g]?) : RowChange w' B v fs := by
  rcases h with ⟨rfl, rfl⟩ | ⟨g, cap, C, rfl, hB, hC, hs, hI⟩
  · exact .inl ⟨rfl, rfl⟩
  · exact .inr ⟨g, cap, C, rfl, hB, (hk g rfl).trans hC, hs, hI⟩
theorem rowChange_below {w w' : World} {B : Nat} {v : Value} {fs : List ChangeD} (h : RowChange w B v fs) (hb : Below w.heap.size w w') : RowChange w' B v fs :=
  rowChange_keep h (fun g hg => hb.block g (rowChange_lt h g hg).2)
theorem rowChange_grown {w w' : World} {B : Nat} {v : Value} {fs : List ChangeD} {r : Option Nat} (h : RowChange w B v fs) (hb : w.grownBy w' r) (hr : ∀ g, v.ownBlock = some g → some g ≠ r) : RowChange w' B v fs :=
  rowChange_keep h (fun g hg => hb.block g (rowChange_lt h g hg).2 (hr g hg))
theorem rowChange_le {w : World} {B B' : Nat} {v : Value} {fs : List ChangeD} (h : RowChange w B v fs) (hB : B' ≤ B) : RowChange w B' v fs := by
  rcases h with h | ⟨g, cap, C, h1, h2, h3⟩
  · exact .inl h
  · exact .inr ⟨g, cap, C, h1, by omega, h3⟩
theorem rowChange_rows {w : World} {B n c : Nat} {a : Option Addr} {fs : List ChangeD} (h : RowChange w B (.slice a n c) fs) : ChangesAt w a fs := by
  obtain ⟨ao, cap, e, hf⟩ := rowChange_at h
  cases e
  exact hf
theorem take_getChange {C : Array Value} {xs : List Value} {n : Nat} (h : C.toList.take n = xs) {j : Nat} {u : Value} (hj : j < n) (hu : xs[j]? = some u) : C[j]? = some u := by
  rw [← h, List.getElem?_take_of_lt hj] at hu
  simpa using hu
theorem rowChange_own {w : World} {B : Nat} {v : Value} {fs : List ChangeD} (h : w.ownsRow B 144 3 v fs.length (cellsChange fs)) : RowChange w B v fs := by
  rcases h.2 with ⟨rfl, hn⟩ | ⟨g, cap, cur, rfl, hB, hC, hle, _, hs, ht⟩
  · exact .inl ⟨rfl, List.eq_nil_of_length_eq_zero hn⟩
  · refine .inr ⟨g, cap, cur, rfl, hB, hC, by omega, ?_⟩
    intro j hj _
    obtain ⟨h0, h1, h2⟩ := cellsChange_get fs j hj
    exact ⟨take_getChange ht (by omega) h0, take_getChange ht (by omega) h1, take_getChange ht (by omega) h2⟩
theorem step_app_change {ops : Array Oper} {o : Oper} {a : Act} {K : Act → World → Prop} {Q : Exit → Act → World → Prop} {E : Prop} (W : World) (B : Nat) (hgd : o.guard = none) (s y : Operand)
    (ho : o.op = .call { callee := .builtin .append, args := #[s, y], argTypes := #[33, 33] }) (v : Value) (l : List ChangeD) (F : ChangeD) (hs : a.eval s = v)
    (hown : W.ownsRow B 144 3 v l.length (cellsChange l)) (k : Nat) (hx : a.eval y = .slice (some ⟨k, 0, none⟩) 1 1) (hblk : W.heap[k]? = some (.cells #[.string F.key, .string F.value, .bool F.gone] 144 (0, 0)))
    (hlen : l.length ≤ 1048576) (hbase : B ≤ W.heap.size)
    (h : ∀ g cap w', w'.ownsRow B 144 3 (.slice (some ⟨g, 0, none⟩) (l.length + 1) cap) (l ++ [F]).length (cellsChange (l ++ [F])) → Below B W w' → B ≤ g → g < w'.heap.size → K (a.put o.dst (.slice (some ⟨g, 0, none⟩) (l.length + 1) cap)) w') :
    if Region.wanted o (yielded ops a.tmps) = true then Oper.wp Tryz.prog o a W K Q else E := by
  obtain ⟨i0, hi, hz0, hz1, hz2⟩ := info_parts Tryz.infoChange
  refine step_append_lies W hgd s y 33 ho B 144 i0 (.agg #[.string ⟨#[]⟩, .string ⟨#[]⟩, .bool false]) 3 40 Tryz.underlying33 hi hz0 hz1 hz2 rfl (by decide) v l.length (cellsChange l) hs hown ⟨k, 0, none⟩ 1 1 (cellsChange [F]) hx (by rw [cellsChange_length]; rfl)
    (fun j u hj => World.news_of_block hblk j u hj) (cellsChange_one [F]) (by omega) (by unfold maxLen; omega) (by omega) hbase W.heap.size rfl ?_
  intro g cap w' hown' hgrow hg hgl
  have hlt := hown.lt
  refine h g cap w' ?_ ((Below.refl B W).grown hgrow hbase (fun k hk => (hlt k hk).1)) ?_ hgl
  · rw [cellsChange_append, List.length_append]
    exact hown'
  · rcases hg with hg | rfl
    · exact (hlt g hg).1
    · exact hbase
theorem app_change {ops : Array Oper} {rest : List Oper} {o : Oper} {a : Act} {Q : Exit → Act → World → Prop} (W : World) (B : Nat) (hgd : o.guard = none) (s y : Operand)
    (ho : o.op = .call { callee := .builtin .append, args := #[s, y], argTypes := #[33, 33] }) (v : Value) (l : List ChangeD) (F : ChangeD) (hs : a.eval s = v)
    (hown : W.ownsRow B 144 3 v l.length (cellsChange l)) (k : Nat) (hx : a.eval y = .slice (some ⟨k, 0, none⟩) 1 1) (hblk : W.heap[k]? = some (.cells #[.string F.key, .string F.value, .bool F.gone] 144 (0, 0)))
    (hlen : l.length ≤ 1048576) (hbase : B ≤ W.heap.size)
    (h : ∀ g cap w', w'.ownsRow B 144 3 (.slice (some ⟨g, 0, none⟩) (l.length + 1) cap) (l ++ [F]).length (cellsChange (l ++ [F])) → Below B W w' → B ≤ g → g < w'.heap.size → wpList Tryz.prog ops Q rest (a.put o.dst (.slice (some ⟨g, 0, none⟩) (l.length + 1) cap)) w') :
    wpList Tryz.prog ops Q (o :: rest) a W := by
  obtain ⟨i0, hi, hz0, hz1, hz2⟩ := info_parts Tryz.infoChange
  refine wpList_append_lies W hgd s y 33 ho B 144 i0 (.agg #[.string ⟨#[]⟩, .string ⟨#[]⟩, .bool false]) 3 40 Tryz.underlying33 hi hz0 hz1 hz2 rfl (by decide) v l.length (cellsChange l) hs hown ⟨k, 0, none⟩ 1 1 (cellsChange [F]) hx (by rw [cellsChange_length]; rfl)
    (fun j u hj => World.news_of_block hblk j u hj) (cellsChange_one [F]) (by omega) (by unfold maxLen; omega) (by omega) hbase W.heap.size rfl ?_
  intro g cap w' hown' hgrow hg hgl
  have hlt := hown.lt
  refine h g cap w' ?_ ((Below.refl B W).grown hgrow hbase (fun k hk => (hlt k hk).1)) ?_ hgl
  · rw [cellsChange_append, List.length_append]
    exact hown'
  · rcases hg with hg | rfl
    · exact (hlt g hg).1
    · exact hbase
def changeOkD (A : ChangeD) : Bool := (decide (1 ≤ A.key.size) && decide (A.key.size ≤ 20)) && (decide (A.value.size ≤ 2000) && !(A.gone && !decide (A.value.size = 0)))
def okChg : Option ByteArray → List ChangeD → Bool
  | _, [] => true
  | none, A :: r => changeOkD A && okChg (some A.key) r
  | some p, A :: r => changeOkD A && (Op.bytesLess p.toList A.key.toList && okChg (some A.key) r)
def batchOkD (q : Int) (fs : List ChangeD) : Bool := (decide (0 ≤ q) && decide (q ≤ 1000000000)) && ((decide (1 ≤ fs.length) && decide (fs.length ≤ 40)) && okChg none fs)
def prevChg (fs : List ChangeD) : Nat → Option ByteArray
  | 0 => none
  | k + 1 => fs[k]?.map ChangeD.key
theorem okChg_bad {fs : List ChangeD} {k : Nat} (h : k < fs.length) (hF : changeOkD fs[k] = false) : okChg (prevChg fs k) (fs.drop k) = false := by
  rw [List.drop_eq_getElem_cons h]
  cases prevChg fs k <;> simp [okChg, hF]
theorem okChg_first {fs : List ChangeD} (h : 0 < fs.length) (hF : changeOkD fs[0] = true) : okChg (prevChg fs 0) (fs.drop 0) = okChg (prevChg fs 1) (fs.drop 1) := by
  rw [List.drop_eq_getElem_cons h]
  simp [okChg, prevChg, hF, h]
theorem okChg_less {fs : List ChangeD} {k : Nat} (h : k < fs.length) (hk : 0 < k) (hF : Op.bytesLess fs[k - 1].key.toList fs[k].key.toList = false) : okChg (prevChg fs k) (fs.drop k) = false := by
  obtain ⟨j, rfl⟩ : ∃ j, k = j + 1 := ⟨k - 1, by omega⟩
  rw [List.drop_eq_getElem_cons h]
  have e1 : prevChg fs (j + 1) = some fs[j].key := by simp [prevChg, show j < fs.length from by omega]
  simp at hF
  rw [e1]
  simp [okChg, hF]
theorem okChg_more {fs : List ChangeD} {k : Nat} (h : k < fs.length) (hk : 0 < k) (hF : changeOkD fs[k] = true) (hL : Op.bytesLess fs[k - 1].key.toList fs[k].key.toList = true) : okChg (prevChg fs k) (fs.drop k) = okChg (prevChg fs (k + 1)) (fs.drop (k + 1)) := by
  obtain ⟨j, rfl⟩ : ∃ j, k = j + 1 := ⟨k - 1, by omega⟩
  rw [List.drop_eq_getElem_cons h]
  have e1 : prevChg fs (j + 1) = some fs[j].key := by simp [prevChg, show j < fs.length from by omega]
  have e2 : prevChg fs (j + 1 + 1) = some fs[j + 1].key := by simp [prevChg, h]
  simp at hL
  rw [e1, e2]
  simp [okChg, hF, hL]
theorem okChg_end {fs : List ChangeD} {k : Nat} (h : fs.length ≤ k) : okChg (prevChg fs k) (fs.drop k) = true := by
  rw [List.drop_eq_nil_of_le h]
  cases prevChg fs k <;> simp [okChg]
theorem list_nil_of_size {s : ByteArray} (h : s.size = 0) : s.toList = [] := List.eq_nil_of_length_eq_zero (by rw [ByteArray.toList_eq, Array.length_toList]; exact h)
theorem list_ne_of_size {s : ByteArray} (h : ¬ s.size = 0) : ¬ s.toList = [] := fun e => h (by have h0 := congrArg List.length e; rw [ByteArray.toList_eq, Array.length_toList] at h0; exact h0)
end Go.Proofs.YtmmchemgegmhhaaGreatDoor
