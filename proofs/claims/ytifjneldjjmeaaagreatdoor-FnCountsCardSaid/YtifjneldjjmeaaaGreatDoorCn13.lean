import Derived.OpenShut
import Derived.Test.YtifjneldjjmeaaaGreatDoorCn11
import Derived.Test.YtifjneldjjmeaaaGreatDoorCn12
set_option maxRecDepth 100000
set_option maxHeartbeats 3200000
namespace Go.Proofs.YtifjneldjjmeaaaGreatDoor
open Go.RowKit
def TabAt (w : World) (v : Value) (T : List EntD) : Prop := ∃ a c, v = .slice a T.length c ∧ EntriesAt w a T
theorem tabAt_build {w : World} {B : Nat} {v : Value} {T : List EntD} (h : BuildE w B v T) : TabAt w v T := by
  obtain ⟨a, c, rfl⟩ := buildE_form h
  exact ⟨a, c, rfl, (rowEnt_rows (buildE_row h)).2⟩
theorem tabAt_keep {w w' : World} {v : Value} {T : List EntD} (h : TabAt w v T) (hb : Below w.heap.size w w') : TabAt w' v T := by
  obtain ⟨a, c, e, h1⟩ := h
  exact ⟨a, c, e, entriesAt_keep h1 hb⟩
def OnQ (W : World) (T : List EntD) (rep : ByteArray) (e : Ending) (w' : World) : Prop := (∃ a n c, e = .returned (.tuple #[.slice a n c, .string rep, .bool true]) ∧ TabAt w' (.slice a n c) T) ∧ Below W.heap.size W w'
theorem onP_Q {W : World} {T : List EntD} {rep : ByteArray} {e : Ending} {w' : World} (h : OnP W (T, rep) e w') : OnQ W T rep e w' := by
  obtain ⟨⟨v, rfl, hb⟩, hb2⟩ := h
  have ht := tabAt_build hb
  obtain ⟨a, c, rfl⟩ := buildE_form hb
  exact ⟨⟨a, _, c, rfl, ht⟩, hb2⟩
def OnC (w : World) (T : List EntD) (ts : List ByteArray) (T2 : List EntD) (rep : ByteArray) : Prop :=
  ∀ (W : World) (v : Value) (b0 : Nat), TabAt W v T → TextsAt W (some ⟨b0, 0, none⟩) ts → Below w.heap.size w W → Calls Tryz.prog 10 #[v, .slice (some ⟨b0, 0, none⟩) ts.length ts.length] W (OnQ W T2 rep)
def SameC (T : List EntD) : Prop := ∀ (W : World) (v v2 : Value), TabAt W v T → TabAt W v2 T → Calls Tryz.prog 13 #[v, v2] W fun e w' => e = .returned (.bool true) ∧ Below W.heap.size W w'
theorem same_tabs {T : List EntD} (hl : T.length ≤ 1048576) (hs : ∀ e ∈ T, e.val.items.length ≤ maxLen) : SameC T := by
  rintro W v v2 ⟨a, c, rfl, e1⟩ ⟨a2, c2, rfl, e2⟩
  exact sameTable_same T a a2 c c2 W hl e1 e2 hs
theorem same_one {v : ValD} (h : v.items.length ≤ 1) : SameC (oneT v) := same_tabs (by simp [oneT]) (fun e he => by
  rw [List.mem_singleton.1 he]
  show v.items.length ≤ maxLen
  unfold maxLen
  omega)
theorem v_one : valS ⟨#[49]⟩ = some 1 := by decide +kernel
theorem v_word : valS ⟨#[111, 110, 101]⟩ = none := by decide +kernel
theorem lim_past : inLim (1000000000 + 1 * 1) = false := by decide
theorem rep_minus : hdB ⟨#[58]⟩ (0 + -1 * 1) = ⟨#[58, 45, 49, 13, 10]⟩ := by decide +kernel
theorem rep_int : lineB ⟨#[45]⟩ notInt = ⟨#[45, 69, 82, 82, 32, 105, 110, 116, 101, 103, 101, 114, 13, 10]⟩ := by decide +kernel
theorem rep_lim : lineB ⟨#[45]⟩ tooMuch = ⟨#[45, 69, 82, 82, 32, 108, 105, 109, 105, 116, 13, 10]⟩ := by decide +kernel
theorem rep_wrong : lineB ⟨#[45]⟩ wrongK = ⟨#[45, 87, 82, 79, 78, 71, 84, 89, 80, 69, 13, 10]⟩ := by decide +kernel
theorem cnt_up (w : World) (x : Value) (hv : RVars w) (hx : OthV w x) {n m : Int} (hn : -5000 ≤ n ∧ n ≤ 5000) (hm : -5000 ≤ m ∧ m ≤ 5000) (hmz : (numB m).size ≤ 1000000) : OnC w (oneT ⟨1, 7, numB n, []⟩) [⟨#[73, 78, 67, 82, 66, 89]⟩, ⟨#[113]⟩, (numB m)] (oneT ⟨1, 7, numB (n + m), []⟩) (hdB ⟨#[58]⟩ (n + m)) := by
  rintro W v b0 ⟨a, c, rfl, hes⟩ hts hB
  have h := onINCRBY_any (oneT ⟨1, 7, numB n, []⟩) ⟨#[73, 78, 67, 82, 66, 89]⟩ ⟨#[113]⟩ (numB m) a c b0 0 3 W x (one_ok (num_ok (by omega) (by omega))) hes hts (fun y hy => by simp at hy; rcases hy with rfl | rfl | rfl <;> first | decide | exact hmz) (by decide) (by decide +kernel) (othV_keep hx hB) (rvars_below hv hB)
  rw [show outT (oneT ⟨1, 7, numB n, []⟩) (countF _ ⟨#[113]⟩ (numB m) 1).1 (countF _ ⟨#[113]⟩ (numB m) 1).2.1 (countF _ ⟨#[113]⟩ (numB m) 1).2.2 = (oneT ⟨1, 7, numB (n + m), []⟩, hdB ⟨#[58]⟩ (n + m)) from (count_yes (s := 1) (by omega) (valS_num m (by omega) (by omega)) (by omega) (by omega)).trans (by rw [show n + 1 * m = n + m by omega])] at h
  exact h.mono (fun e w' hh => onP_Q hh)
theorem cnt_down (w : World) (x : Value) (hv : RVars w) (hx : OthV w x) {n m : Int} (hn : -5000 ≤ n ∧ n ≤ 5000) (hm : -5000 ≤ m ∧ m ≤ 5000) (hmz : (numB m).size ≤ 1000000) : OnC w (oneT ⟨1, 7, numB (n + m), []⟩) [⟨#[68, 69, 67, 82, 66, 89]⟩, ⟨#[113]⟩, (numB m)] (oneT ⟨1, 7, numB n, []⟩) (hdB ⟨#[58]⟩ n) := by
  rintro W v b0 ⟨a, c, rfl, hes⟩ hts hB
  have h := onDECRBY_any (oneT ⟨1, 7, numB (n + m), []⟩) ⟨#[68, 69, 67, 82, 66, 89]⟩ ⟨#[113]⟩ (numB m) a c b0 0 3 W x (one_ok (num_ok (by omega) (by omega))) hes hts (fun y hy => by simp at hy; rcases hy with rfl | rfl | rfl <;> first | decide | exact hmz) (by decide) (by decide +kernel) (othV_keep hx hB) (rvars_below hv hB)
  rw [show outT (oneT ⟨1, 7, numB (n + m), []⟩) (countF _ ⟨#[113]⟩ (numB m) (-1)).1 (countF _ ⟨#[113]⟩ (numB m) (-1)).2.1 (countF _ ⟨#[113]⟩ (numB m) (-1)).2.2 = (oneT ⟨1, 7, numB n, []⟩, hdB ⟨#[58]⟩ n) from (count_yes (s := -1) (by omega) (valS_num m (by omega) (by omega)) (by omega) (by omega)).trans (by rw [show n + m + -1 * m = n by omega])] at h
  exact h.mono (fun e w' hh => onP_Q hh)
theorem cnt_none (w : World) (x : Value) (hv : RVars w) (hx : OthV w x)  : OnC w (([] : List EntD)) [⟨#[68, 69, 67, 82]⟩, ⟨#[113]⟩] (oneT ⟨1, 0, numB (0 + -1 * 1), []⟩) (⟨#[58, 45, 49, 13, 10]⟩) := by
  rintro W v b0 ⟨a, c, rfl, hes⟩ hts hB
  have h := onDECR_any (([] : List EntD)) ⟨#[68, 69, 67, 82]⟩ ⟨#[113]⟩ a c b0 0 2 W x (nil_ok) hes hts (fun y hy => by simp at hy; rcases hy with rfl | rfl <;> decide) (by decide) (by decide +kernel) (othV_keep hx hB) (rvars_below hv hB)
  rw [show outT [] (countF [] ⟨#[113]⟩ ⟨#[49]⟩ (-1)).1 (countF [] ⟨#[113]⟩ ⟨#[49]⟩ (-1)).2.1 (countF [] ⟨#[113]⟩ ⟨#[49]⟩ (-1)).2.2 = (oneT ⟨1, 0, numB (0 + -1 * 1), []⟩, ⟨#[58, 45, 49, 13, 10]⟩) from (count_new (s := -1) v_one (by omega)).trans (by rw [rep_minus])] at h
  exact h.mono (fun e w' hh => onP_Q hh)
theorem cnt_word (w : World) (x : Value) (hv : RVars w) (hx : OthV w x) {n : Int} (hn : -5000 ≤ n ∧ n ≤ 5000) : OnC w (oneT ⟨1, 7, numB n, []⟩) [⟨#[73, 78, 67, 82, 66, 89]⟩, ⟨#[113]⟩, ⟨#[111, 110, 101]⟩] (oneT ⟨1, 7, numB n, []⟩) (⟨#[45, 69, 82, 82, 32, 105, 110, 116, 101, 103, 101, 114, 13, 10]⟩) := by
  rintro W v b0 ⟨a, c, rfl, hes⟩ hts hB
  have h := onINCRBY_any (oneT ⟨1, 7, numB n, []⟩) ⟨#[73, 78, 67, 82, 66, 89]⟩ ⟨#[113]⟩ ⟨#[111, 110, 101]⟩ a c b0 0 3 W x (one_ok (num_ok (by omega) (by omega))) hes hts (fun y hy => by simp at hy; rcases hy with rfl | rfl | rfl <;> decide) (by decide) (by decide +kernel) (othV_keep hx hB) (rvars_below hv hB)
  rw [show outT (oneT ⟨1, 7, numB n, []⟩) (countF _ ⟨#[113]⟩ ⟨#[111, 110, 101]⟩ 1).1 (countF _ ⟨#[113]⟩ ⟨#[111, 110, 101]⟩ 1).2.1 (countF _ ⟨#[113]⟩ ⟨#[111, 110, 101]⟩ 1).2.2 = (oneT ⟨1, 7, numB n, []⟩, ⟨#[45, 69, 82, 82, 32, 105, 110, 116, 101, 103, 101, 114, 13, 10]⟩) from (count_bad (s := 1) v_word).trans (by rw [rep_int])] at h
  exact h.mono (fun e w' hh => onP_Q hh)
theorem cnt_past (w : World) (x : Value) (hv : RVars w) (hx : OthV w x)  : OnC w (oneT ⟨1, 0, numB 1000000000, []⟩) [⟨#[73, 78, 67, 82]⟩, ⟨#[113]⟩] (oneT ⟨1, 0, numB 1000000000, []⟩) (⟨#[45, 69, 82, 82, 32, 108, 105, 109, 105, 116, 13, 10]⟩) := by
  rintro W v b0 ⟨a, c, rfl, hes⟩ hts hB
  have h := onINCR_any (oneT ⟨1, 0, numB 1000000000, []⟩) ⟨#[73, 78, 67, 82]⟩ ⟨#[113]⟩ a c b0 0 2 W x (one_ok (num_ok (by omega) (by omega))) hes hts (fun y hy => by simp at hy; rcases hy with rfl | rfl <;> decide) (by decide) (by decide +kernel) (othV_keep hx hB) (rvars_below hv hB)
  rw [show outT (oneT ⟨1, 0, numB 1000000000, []⟩) (countF _ ⟨#[113]⟩ ⟨#[49]⟩ 1).1 (countF _ ⟨#[113]⟩ ⟨#[49]⟩ 1).2.1 (countF _ ⟨#[113]⟩ ⟨#[49]⟩ 1).2.2 = (oneT ⟨1, 0, numB 1000000000, []⟩, ⟨#[45, 69, 82, 82, 32, 108, 105, 109, 105, 116, 13, 10]⟩) from (count_full (s := 1) (by omega) v_one lim_past).trans (by rw [rep_lim])] at h
  exact h.mono (fun e w' hh => onP_Q hh)
theorem cnt_kind (w : World) (x : Value) (hv : RVars w) (hx : OthV w x)  : OnC w (oneT ⟨2, 0, ⟨#[]⟩, [⟨#[97]⟩]⟩) [⟨#[73, 78, 67, 82]⟩, ⟨#[113]⟩] (oneT ⟨2, 0, ⟨#[]⟩, [⟨#[97]⟩]⟩) (⟨#[45, 87, 82, 79, 78, 71, 84, 89, 80, 69, 13, 10]⟩) := by
  rintro W v b0 ⟨a, c, rfl, hes⟩ hts hB
  have h := onINCR_any (oneT ⟨2, 0, ⟨#[]⟩, [⟨#[97]⟩]⟩) ⟨#[73, 78, 67, 82]⟩ ⟨#[113]⟩ a c b0 0 2 W x (one_ok ⟨by decide, by decide, .inr (.inl ⟨rfl, rfl, by decide, by decide, fun s hs => by rw [List.mem_singleton.1 hs]; decide⟩)⟩) hes hts (fun y hy => by simp at hy; rcases hy with rfl | rfl <;> decide) (by decide) (by decide +kernel) (othV_keep hx hB) (rvars_below hv hB)
  rw [show outT (oneT ⟨2, 0, ⟨#[]⟩, [⟨#[97]⟩]⟩) (countF _ ⟨#[113]⟩ ⟨#[49]⟩ 1).1 (countF _ ⟨#[113]⟩ ⟨#[49]⟩ 1).2.1 (countF _ ⟨#[113]⟩ ⟨#[49]⟩ 1).2.2 = (oneT ⟨2, 0, ⟨#[]⟩, [⟨#[97]⟩]⟩, ⟨#[45, 87, 82, 79, 78, 71, 84, 89, 80, 69, 13, 10]⟩) from (count_wrong (s := 1) (by decide)).trans (by rw [rep_wrong])] at h
  exact h.mono (fun e w' hh => onP_Q hh)
theorem counts_facts (w : World) (x : Value) (hv : RVars w) (hx : OthV w x) {n m : Int} (hn : -5000 ≤ n ∧ n ≤ 5000) (hm : -5000 ≤ m ∧ m ≤ 5000) :
    ∃ (T1 T2 TZ TU TV : List EntD) (DN DM DU X1 X2 : ByteArray),
      ((∀ W, Calls Tryz.prog 9 #[.int .i64 n] W fun e w' => e = .returned (.string DN) ∧ Below W.heap.size W w') ∧ (∀ W, Calls Tryz.prog 9 #[.int .i64 m] W fun e w' => e = .returned (.string DM) ∧ Below W.heap.size W w') ∧ (∀ W, Calls Tryz.prog 9 #[.int .i64 1000000000] W fun e w' => e = .returned (.string DU) ∧ Below W.heap.size W w')) ∧
      ((∀ W, Calls Tryz.prog 12 #[.int .i64 (n + m)] W fun e w' => e = .returned (.string X1) ∧ Below W.heap.size W w') ∧ (∀ W, Calls Tryz.prog 12 #[.int .i64 n] W fun e w' => e = .returned (.string X2) ∧ Below W.heap.size W w')) ∧
      ((∀ (W : World) (k : Nat), W.heap[k]? = some (.cells #[.string ⟨#[113]⟩, .int .i64 1, .int .i64 7, .string DN, .slice none 0 0] 40 (0, 0)) → TabAt W (.slice (some ⟨k, 0, none⟩) 1 1) T1) ∧
       (∀ (W : World) (k : Nat), W.heap[k]? = some (.cells #[.string ⟨#[113]⟩, .int .i64 1, .int .i64 0, .string DU, .slice none 0 0] 40 (0, 0)) → TabAt W (.slice (some ⟨k, 0, none⟩) 1 1) TU) ∧
       (∀ (W : World) (b off : Nat), W.cell? ⟨b, off, none⟩ = some (.string ⟨#[97]⟩) → b < W.heap.size → Calls Tryz.prog 17 #[.slice (some ⟨b, off, none⟩) 1 1] W fun e w' => (∃ k, e = .returned (.slice (some ⟨k, 0, none⟩) 1 1) ∧ TabAt w' (.slice (some ⟨k, 0, none⟩) 1 1) TV) ∧ Below W.heap.size W w')) ∧
      (OnC w T1 [⟨#[73, 78, 67, 82, 66, 89]⟩, ⟨#[113]⟩, DM] T2 X1 ∧ OnC w T2 [⟨#[68, 69, 67, 82, 66, 89]⟩, ⟨#[113]⟩, DM] T1 X2 ∧ OnC w [] [⟨#[68, 69, 67, 82]⟩, ⟨#[113]⟩] TZ ⟨#[58, 45, 49, 13, 10]⟩ ∧ OnC w T1 [⟨#[73, 78, 67, 82, 66, 89]⟩, ⟨#[113]⟩, ⟨#[111, 110, 101]⟩] T1 ⟨#[45, 69, 82, 82, 32, 105, 110, 116, 101, 103, 101, 114, 13, 10]⟩ ∧ OnC w TU [⟨#[73, 78, 67, 82]⟩, ⟨#[113]⟩] TU ⟨#[45, 69, 82, 82, 32, 108, 105, 109, 105, 116, 13, 10]⟩ ∧ OnC w TV [⟨#[73, 78, 67, 82]⟩, ⟨#[113]⟩] TV ⟨#[45, 87, 82, 79, 78, 71, 84, 89, 80, 69, 13, 10]⟩) ∧
      (SameC T1 ∧ SameC TU ∧ SameC TV) := by
  have hmz : (numB m).size ≤ 1000000 := by
    have := numB_size m (by omega) (by omega)
    omega
  refine ⟨_, _, _, _, _, numB n, numB m, numB 1000000000, hdB ⟨#[58]⟩ (n + m), hdB ⟨#[58]⟩ n, ⟨fun W => decimal_any n W (by omega) (by omega), fun W => decimal_any m W (by omega) (by omega), fun W => decimal_any 1000000000 W (by omega) (by omega)⟩, ⟨fun W => specNumber_any (n + m) W (by omega) (by omega), fun W => specNumber_any n W (by omega) (by omega)⟩,
    ⟨fun W k h => ⟨_, _, rfl, entriesAt_box (ts := []) h (textsAt_none _ _)⟩, fun W k h => ⟨_, _, rfl, entriesAt_box (ts := []) h (textsAt_none _ _)⟩, fun W b off h1 h2 => (fresh_any ⟨#[97]⟩ b off W h1 h2).mono (fun e w' hh => ?_)⟩,
    ⟨cnt_up w x hv hx hn hm hmz, cnt_down w x hv hx hn hm hmz, cnt_none w x hv hx, cnt_word w x hv hx hn, cnt_past w x hv hx, cnt_kind w x hv hx⟩, same_one (Nat.zero_le 1), same_one (Nat.zero_le 1), same_one (Nat.le_refl 1)⟩
  obtain ⟨⟨k, rfl, he⟩, hb⟩ := hh
  exact ⟨⟨k, rfl, _, _, rfl, he⟩, hb⟩
theorem counts_walk (w : World) (x : Value) (ao : Option Addr) (len cap : Nat) (hv : RVars w) (hx : OthV w x) (hcode : len ≤ 1048576 → Code w ao len) :
    Calls Tryz.prog 4 #[.slice ao len cap] w fun e w' => e = .returned (.bool true) ∧ Below w.heap.size w w' := by
  by_cases hlen : len ≤ 1048576
  case neg =>
    have hbig : decide (1048576 < (len : Int)) = true := by simp; omega
    clear hv hx
    go_enter Tryz.func4, Tryz.ntmps4
    go_wp2_with fail
    refine (big_any _ ao len cap).mono ?_
    rintro e w1 ⟨rfl, rfl⟩
    rw [hbig]
    go_wp2
    go_ret
    exact ⟨rfl, Below.refl _ _⟩
  have hbig : decide (1048576 < (len : Int)) = false := by simp; omega
  have HPL := hide (drawPlaces_any w ao len cap hlen (hcode hlen))
  have HFA := hide (fun (n m : Int) hn hm => counts_facts w x hv hx (n := n) (m := m) hn hm)
  clear hcode hv hx
  go_enter Tryz.func4, Tryz.ntmps4
  go_wp2_with fail
  refine (big_any _ ao len cap).mono ?_
  rintro e w1 ⟨rfl, e1⟩
  obtain rfl := e1.symm
  rw [hbig]
  clear hbig
  go_wp2_with fail
  refine HPL.out.mono ?_
  rintro e wp ⟨vp, zs, rfl, hzl, hzs, hownp, bp⟩
  obtain ⟨gp, capp, rfl⟩ : ∃ gp capp, vp = .slice (some ⟨gp, 0, none⟩) 12 capp := by
    rcases hownp.2 with ⟨h, h'⟩ | ⟨g, c, cur, rfl, _⟩
    · cases h'
    · exact ⟨g, c, rfl⟩
  obtain ⟨z0, hz0, hz0b⟩ : ∃ z : Nat, wp.cell? ⟨gp, 0, none⟩ = some (.int .i64 (z : Int)) ∧ z < 10000 := by
    have hl : 0 < zs.length := by rw [hzl]; decide
    exact ⟨zs[0], (hownp.cellAt 0 (by decide)).trans (by simp [hl, iv]), hzs _ (List.getElem_mem hl)⟩
  obtain ⟨z1, hz1, hz1b⟩ : ∃ z : Nat, wp.cell? ⟨gp, 1, none⟩ = some (.int .i64 (z : Int)) ∧ z < 10000 := by
    have hl : 1 < zs.length := by rw [hzl]; decide
    exact ⟨zs[1], (hownp.cellAt 1 (by decide)).trans (by simp [hl, iv]), hzs _ (List.getElem_mem hl)⟩
  have B0 := hide bp
  clear bp hownp hzl hzs HPL
  obtain ⟨n, hn⟩ : ∃ n : Int, n = (z0 : Int) - 5000 := ⟨_, rfl⟩
  obtain ⟨m, hm⟩ : ∃ m : Int, m = (z1 : Int) - 5000 := ⟨_, rfl⟩
  have hw1 : IntKind.i64.wrap ((z0 : Int) - 5000) = n := by rw [IntKind.wrap_i64]; omega
  have hw2 : IntKind.i64.wrap ((z1 : Int) - 5000) = m := by rw [IntKind.wrap_i64]; omega
  have hw3 : IntKind.i64.wrap (n + m) = n + m := by rw [IntKind.wrap_i64]; omega
  obtain ⟨T1, T2, TZ, TU, TV, DN, DM, DU, X1, X2, ⟨cN, cM, cU⟩, ⟨n1, n2⟩, ⟨k1, kU, kV⟩, ⟨cA, cB, cZ, cC, cD, cE⟩, s1, sU, sV⟩ := HFA.out n m (by omega) (by omega)
  have CN := hide cN
  have CM := hide cM
  have CU := hide cU
  have N1 := hide n1
  have N2 := hide n2
  have K1 := hide k1
  have KU := hide kU
  have KV := hide kV
  have CA := hide cA
  have CB := hide cB
  have CZ := hide cZ
  have CC := hide cC
  have CD := hide cD
  have CE := hide cE
  have S1 := hide s1
  have SU := hide sU
  have SV := hide sV
  have q1 : (X1.toList == X1.toList) = true := beq_self_eq_true _
  have q2 : (X2.toList == X2.toList) = true := beq_self_eq_true _
  clear cN cM cU n1 n2 k1 kU kV cA cB cZ cC cD cE s1 sU sV HFA hn hm hz0b hz1b
  go_upto_region 6 with fail
  clear hz0 hz1 hw1 hw2
  go_wp2_with fail
  refine (CN.out _).mono ?_
  rintro e w2 ⟨rfl, b2⟩
  have B2 := hide (B0.out.trans (b2.mono B0.out.size))
  clear b2
  go_upto_region 7 with fail
  obtain ⟨w3, hw3'⟩ : ∃ w3, w3 = w2.alloc (.cells #[.string ⟨#[113]⟩, .int .i64 1, .int .i64 7, .string DN, .slice none 0 0] 40) := ⟨_, rfl⟩
  rw [← hw3']
  have B3 : Hid (Below w.heap.size w w3) := by rw [hw3']; exact B2.out.alloc B2.out.size _
  have T3 : Hid (TabAt w3 (.slice (some ⟨w2.heap.size, 0, none⟩) 1 1) T1) := by
    rw [hw3']
    exact K1.out _ _ (heap_alloc_new w2 _)
  clear hw3' K1 CN
  generalize w2.heap.size = kt at T3 ⊢
  go_wp2_with fail
  refine (CM.out _).mono ?_
  rintro e w4 ⟨rfl, b4⟩
  have B4 := hide (B3.out.trans (b4.mono B3.out.size))
  have T3_w4 := hide (tabAt_keep T3.out b4)
  clear T3
  clear b4
  have BW5 : Hid (Below w4.heap.size w4 (w4.alloc (.cells #[.string ⟨#[73, 78, 67, 82, 66, 89]⟩, .string ⟨#[113]⟩, .string DM] 9))) := (Below.refl w4.heap.size w4).alloc (Nat.le_refl _) _
  have HC5 := hide (CA.out (w4.alloc (.cells #[.string ⟨#[73, 78, 67, 82, 66, 89]⟩, .string ⟨#[113]⟩, .string DM] 9)) _ w4.heap.size (tabAt_keep T3_w4.out BW5.out) (textsAt_lit w4 [⟨#[73, 78, 67, 82, 66, 89]⟩, ⟨#[113]⟩, DM]) (B4.out.trans (BW5.out.mono B4.out.size)))
  go_wp2_with fail
  refine HC5.out.mono ?_
  rintro e w5 ⟨⟨a5, n5, c5, rfl, ht5⟩, b5⟩
  have N5 := hide ht5
  have bb5 := BW5.out.trans (b5.mono BW5.out.size)
  have B5 := hide (B4.out.trans (bb5.mono B4.out.size))
  have T3_w5 := hide (tabAt_keep T3_w4.out bb5)
  clear T3_w4
  clear b5 bb5 ht5 BW5 HC5
  go_wp2_with fail
  refine (CM.out _).mono ?_
  rintro e w6 ⟨rfl, b6⟩
  have B6 := hide (B5.out.trans (b6.mono B5.out.size))
  have T3_w6 := hide (tabAt_keep T3_w5.out b6)
  clear T3_w5
  have N5_w6 := hide (tabAt_keep N5.out b6)
  clear N5
  clear b6
  have BW7 : Hid (Below w6.heap.size w6 (w6.alloc (.cells #[.string ⟨#[68, 69, 67, 82, 66, 89]⟩, .string ⟨#[113]⟩, .string DM] 9))) := (Below.refl w6.heap.size w6).alloc (Nat.le_refl _) _
  have HC7 := hide (CB.out (w6.alloc (.cells #[.string ⟨#[68, 69, 67, 82, 66, 89]⟩, .string ⟨#[113]⟩, .string DM] 9)) _ w6.heap.size (tabAt_keep N5_w6.out BW7.out) (textsAt_lit w6 [⟨#[68, 69, 67, 82, 66, 89]⟩, ⟨#[113]⟩, DM]) (B6.out.trans (BW7.out.mono B6.out.size)))
  go_wp2_with fail
  refine HC7.out.mono ?_
  rintro e w7 ⟨⟨a7, n7, c7, rfl, ht7⟩, b7⟩
  have N7 := hide ht7
  have bb7 := BW7.out.trans (b7.mono BW7.out.size)
  have B7 := hide (B6.out.trans (bb7.mono B6.out.size))
  have T3_w7 := hide (tabAt_keep T3_w6.out bb7)
  clear T3_w6
  have N5_w7 := hide (tabAt_keep N5_w6.out bb7)
  clear N5_w6
  clear b7 bb7 ht7 BW7 HC7
  have BW8 : Hid (Below w7.heap.size w7 ((w7.alloc (.cells #[] 40)).alloc (.cells #[.string ⟨#[68, 69, 67, 82]⟩, .string ⟨#[113]⟩] 9))) := ((Below.refl w7.heap.size w7).alloc (Nat.le_refl _) _).alloc (by simp) _
  have HC8 := hide (CZ.out ((w7.alloc (.cells #[] 40)).alloc (.cells #[.string ⟨#[68, 69, 67, 82]⟩, .string ⟨#[113]⟩] 9)) _ (w7.alloc (.cells #[] 40)).heap.size (show TabAt _ (.slice (some ⟨w7.heap.size, 0, none⟩) 0 0) [] from ⟨_, _, rfl, entriesAt_none _ _⟩) (textsAt_lit (w7.alloc (.cells #[] 40)) [⟨#[68, 69, 67, 82]⟩, ⟨#[113]⟩]) (B7.out.trans (BW8.out.mono B7.out.size)))
  rw [show (w7.alloc (.cells #[] 40)).heap.size = w7.heap.size + 1 from by simp] at HC8
  go_wp2_with fail
  refine HC8.out.mono ?_
  rintro e w8 ⟨⟨a8, n8, c8, rfl, ht8⟩, b8⟩
  have N8 := hide ht8
  have bb8 := BW8.out.trans (b8.mono BW8.out.size)
  have B8 := hide (B7.out.trans (bb8.mono B7.out.size))
  have T3_w8 := hide (tabAt_keep T3_w7.out bb8)
  clear T3_w7
  have N5_w8 := hide (tabAt_keep N5_w7.out bb8)
  clear N5_w7
  have N7_w8 := hide (tabAt_keep N7.out bb8)
  clear N7
  clear b8 bb8 ht8 BW8 HC8
  have BW9 : Hid (Below w8.heap.size w8 (w8.alloc (.cells #[.string ⟨#[73, 78, 67, 82, 66, 89]⟩, .string ⟨#[113]⟩, .string ⟨#[111, 110, 101]⟩] 9))) := (Below.refl w8.heap.size w8).alloc (Nat.le_refl _) _
  have HC9 := hide (CC.out (w8.alloc (.cells #[.string ⟨#[73, 78, 67, 82, 66, 89]⟩, .string ⟨#[113]⟩, .string ⟨#[111, 110, 101]⟩] 9)) _ w8.heap.size (tabAt_keep T3_w8.out BW9.out) (textsAt_lit w8 [⟨#[73, 78, 67, 82, 66, 89]⟩, ⟨#[113]⟩, ⟨#[111, 110, 101]⟩]) (B8.out.trans (BW9.out.mono B8.out.size)))
  go_wp2_with fail
  refine HC9.out.mono ?_
  rintro e w9 ⟨⟨a9, n9, c9, rfl, ht9⟩, b9⟩
  have N9 := hide ht9
  have bb9 := BW9.out.trans (b9.mono BW9.out.size)
  have B9 := hide (B8.out.trans (bb9.mono B8.out.size))
  have T3_w9 := hide (tabAt_keep T3_w8.out bb9)
  clear T3_w8
  have N5_w9 := hide (tabAt_keep N5_w8.out bb9)
  clear N5_w8
  have N7_w9 := hide (tabAt_keep N7_w8.out bb9)
  clear N7_w8
  have N8_w9 := hide (tabAt_keep N8.out bb9)
  clear N8
  clear b9 bb9 ht9 BW9 HC9
  go_wp2_with fail
  refine (CU.out _).mono ?_
  rintro e w10 ⟨rfl, b10⟩
  have B10 := hide (B9.out.trans (b10.mono B9.out.size))
  have T3_w10 := hide (tabAt_keep T3_w9.out b10)
  clear T3_w9
  have N5_w10 := hide (tabAt_keep N5_w9.out b10)
  clear N5_w9
  have N7_w10 := hide (tabAt_keep N7_w9.out b10)
  clear N7_w9
  have N8_w10 := hide (tabAt_keep N8_w9.out b10)
  clear N8_w9
  have N9_w10 := hide (tabAt_keep N9.out b10)
  clear N9
  clear b10
  go_upto_region 12 with fail
  obtain ⟨w11, hw11'⟩ : ∃ w11, w11 = w10.alloc (.cells #[.string ⟨#[113]⟩, .int .i64 1, .int .i64 0, .string DU, .slice none 0 0] 40) := ⟨_, rfl⟩
  rw [← hw11']
  have bb11 : Below w10.heap.size w10 w11 := by rw [hw11']; exact (Below.refl _ w10).alloc (Nat.le_refl _) _
  have B11 := hide (B10.out.trans (bb11.mono B10.out.size))
  have T3_w11 := hide (tabAt_keep T3_w10.out bb11)
  clear T3_w10
  have N5_w11 := hide (tabAt_keep N5_w10.out bb11)
  clear N5_w10
  have N7_w11 := hide (tabAt_keep N7_w10.out bb11)
  clear N7_w10
  have N8_w11 := hide (tabAt_keep N8_w10.out bb11)
  clear N8_w10
  have N9_w11 := hide (tabAt_keep N9_w10.out bb11)
  clear N9_w10
  have U11 : Hid (TabAt w11 (.slice (some ⟨w10.heap.size, 0, none⟩) 1 1) TU) := by
    rw [hw11']
    exact KU.out _ _ (heap_alloc_new w10 _)
  clear hw11' bb11 KU CU
  generalize w10.heap.size = ku at U11 ⊢
  have BW12 : Hid (Below w11.heap.size w11 (w11.alloc (.cells #[.string ⟨#[73, 78, 67, 82]⟩, .string ⟨#[113]⟩] 9))) := (Below.refl w11.heap.size w11).alloc (Nat.le_refl _) _
  have HC12 := hide (CD.out (w11.alloc (.cells #[.string ⟨#[73, 78, 67, 82]⟩, .string ⟨#[113]⟩] 9)) _ w11.heap.size (tabAt_keep U11.out BW12.out) (textsAt_lit w11 [⟨#[73, 78, 67, 82]⟩, ⟨#[113]⟩]) (B11.out.trans (BW12.out.mono B11.out.size)))
  go_wp2_with fail
  refine HC12.out.mono ?_
  rintro e w12 ⟨⟨a12, n12, c12, rfl, ht12⟩, b12⟩
  have N12 := hide ht12
  have bb12 := BW12.out.trans (b12.mono BW12.out.size)
  have B12 := hide (B11.out.trans (bb12.mono B11.out.size))
  have T3_w12 := hide (tabAt_keep T3_w11.out bb12)
  clear T3_w11
  have N5_w12 := hide (tabAt_keep N5_w11.out bb12)
  clear N5_w11
  have N7_w12 := hide (tabAt_keep N7_w11.out bb12)
  clear N7_w11
  have N8_w12 := hide (tabAt_keep N8_w11.out bb12)
  clear N8_w11
  have N9_w12 := hide (tabAt_keep N9_w11.out bb12)
  clear N9_w11
  have U11_w12 := hide (tabAt_keep U11.out bb12)
  clear U11
  clear b12 bb12 ht12 BW12 HC12
  have BW13 : Hid (Below w12.heap.size w12 (w12.alloc (.cells #[.string ⟨#[97]⟩] 9))) := (Below.refl w12.heap.size _).alloc (Nat.le_refl _) _
  have HC13 := hide (KV.out (w12.alloc (.cells #[.string ⟨#[97]⟩] 9)) w12.heap.size 0 ((cell_of_row _ _ 0 _ _ (0, 0) (heap_alloc_new w12 (.cells #[.string ⟨#[97]⟩] 9))).trans rfl) (obj_lt (heap_alloc_new w12 (.cells #[.string ⟨#[97]⟩] 9))))
  go_wp2_with fail
  refine HC13.out.mono ?_
  rintro e w13 ⟨⟨kv, rfl, hev⟩, b13⟩
  have bb13 := BW13.out.trans (b13.mono BW13.out.size)
  have B13 := hide (B12.out.trans (bb13.mono B12.out.size))
  have T3_w13 := hide (tabAt_keep T3_w12.out bb13)
  clear T3_w12
  have N5_w13 := hide (tabAt_keep N5_w12.out bb13)
  clear N5_w12
  have N7_w13 := hide (tabAt_keep N7_w12.out bb13)
  clear N7_w12
  have N8_w13 := hide (tabAt_keep N8_w12.out bb13)
  clear N8_w12
  have N9_w13 := hide (tabAt_keep N9_w12.out bb13)
  clear N9_w12
  have U11_w13 := hide (tabAt_keep U11_w12.out bb13)
  clear U11_w12
  have N12_w13 := hide (tabAt_keep N12.out bb13)
  clear N12
  have V13 := hide hev
  clear b13 bb13 hev BW13 HC13
  have BW14 : Hid (Below w13.heap.size w13 (w13.alloc (.cells #[.string ⟨#[73, 78, 67, 82]⟩, .string ⟨#[113]⟩] 9))) := (Below.refl w13.heap.size w13).alloc (Nat.le_refl _) _
  have HC14 := hide (CE.out (w13.alloc (.cells #[.string ⟨#[73, 78, 67, 82]⟩, .string ⟨#[113]⟩] 9)) _ w13.heap.size (tabAt_keep V13.out BW14.out) (textsAt_lit w13 [⟨#[73, 78, 67, 82]⟩, ⟨#[113]⟩]) (B13.out.trans (BW14.out.mono B13.out.size)))
  go_wp2_with fail
  refine HC14.out.mono ?_
  rintro e w14 ⟨⟨a14, n14, c14, rfl, ht14⟩, b14⟩
  have N14 := hide ht14
  have bb14 := BW14.out.trans (b14.mono BW14.out.size)
  have B14 := hide (B13.out.trans (bb14.mono B13.out.size))
  have T3_w14 := hide (tabAt_keep T3_w13.out bb14)
  clear T3_w13
  have N5_w14 := hide (tabAt_keep N5_w13.out bb14)
  clear N5_w13
  have N7_w14 := hide (tabAt_keep N7_w13.out bb14)
  clear N7_w13
  have N8_w14 := hide (tabAt_keep N8_w13.out bb14)
  clear N8_w13
  have N9_w14 := hide (tabAt_keep N9_w13.out bb14)
  clear N9_w13
  have U11_w14 := hide (tabAt_keep U11_w13.out bb14)
  clear U11_w13
  have N12_w14 := hide (tabAt_keep N12_w13.out bb14)
  clear N12_w13
  have V13_w14 := hide (tabAt_keep V13.out bb14)
  clear V13
  clear b14 bb14 ht14 BW14 HC14
  go_wp2_with fail
  refine (N1.out _).mono ?_
  rintro e w15 ⟨rfl, b15⟩
  have B15 := hide (B14.out.trans (b15.mono B14.out.size))
  have T3_w15 := hide (tabAt_keep T3_w14.out b15)
  clear T3_w14
  have N5_w15 := hide (tabAt_keep N5_w14.out b15)
  clear N5_w14
  have N7_w15 := hide (tabAt_keep N7_w14.out b15)
  clear N7_w14
  have N8_w15 := hide (tabAt_keep N8_w14.out b15)
  clear N8_w14
  have N9_w15 := hide (tabAt_keep N9_w14.out b15)
  clear N9_w14
  have U11_w15 := hide (tabAt_keep U11_w14.out b15)
  clear U11_w14
  have N12_w15 := hide (tabAt_keep N12_w14.out b15)
  clear N12_w14
  have V13_w15 := hide (tabAt_keep V13_w14.out b15)
  clear V13_w14
  have N14_w15 := hide (tabAt_keep N14.out b15)
  clear N14
  clear b15
  go_wp2_with fail
  refine (N2.out _).mono ?_
  rintro e w16 ⟨rfl, b16⟩
  have B16 := hide (B15.out.trans (b16.mono B15.out.size))
  have T3_w16 := hide (tabAt_keep T3_w15.out b16)
  clear T3_w15
  have N5_w16 := hide (tabAt_keep N5_w15.out b16)
  clear N5_w15
  have N7_w16 := hide (tabAt_keep N7_w15.out b16)
  clear N7_w15
  have N8_w16 := hide (tabAt_keep N8_w15.out b16)
  clear N8_w15
  have N9_w16 := hide (tabAt_keep N9_w15.out b16)
  clear N9_w15
  have U11_w16 := hide (tabAt_keep U11_w15.out b16)
  clear U11_w15
  have N12_w16 := hide (tabAt_keep N12_w15.out b16)
  clear N12_w15
  have V13_w16 := hide (tabAt_keep V13_w15.out b16)
  clear V13_w15
  have N14_w16 := hide (tabAt_keep N14_w15.out b16)
  clear N14_w15
  clear b16
  go_wp2_with fail
  refine (S1.out _ _ _ N7_w16.out T3_w16.out).mono ?_
  rintro e w17 ⟨rfl, b17⟩
  have B17 := hide (B16.out.trans (b17.mono B16.out.size))
  have T3_w17 := hide (tabAt_keep T3_w16.out b17)
  clear T3_w16
  have N5_w17 := hide (tabAt_keep N5_w16.out b17)
  clear N5_w16
  have N7_w17 := hide (tabAt_keep N7_w16.out b17)
  clear N7_w16
  have N8_w17 := hide (tabAt_keep N8_w16.out b17)
  clear N8_w16
  have N9_w17 := hide (tabAt_keep N9_w16.out b17)
  clear N9_w16
  have U11_w17 := hide (tabAt_keep U11_w16.out b17)
  clear U11_w16
  have N12_w17 := hide (tabAt_keep N12_w16.out b17)
  clear N12_w16
  have V13_w17 := hide (tabAt_keep V13_w16.out b17)
  clear V13_w16
  have N14_w17 := hide (tabAt_keep N14_w16.out b17)
  clear N14_w16
  clear b17
  go_wp2_with fail
  refine (S1.out _ _ _ N9_w17.out T3_w17.out).mono ?_
  rintro e w18 ⟨rfl, b18⟩
  have B18 := hide (B17.out.trans (b18.mono B17.out.size))
  have T3_w18 := hide (tabAt_keep T3_w17.out b18)
  clear T3_w17
  have N5_w18 := hide (tabAt_keep N5_w17.out b18)
  clear N5_w17
  have N7_w18 := hide (tabAt_keep N7_w17.out b18)
  clear N7_w17
  have N8_w18 := hide (tabAt_keep N8_w17.out b18)
  clear N8_w17
  have N9_w18 := hide (tabAt_keep N9_w17.out b18)
  clear N9_w17
  have U11_w18 := hide (tabAt_keep U11_w17.out b18)
  clear U11_w17
  have N12_w18 := hide (tabAt_keep N12_w17.out b18)
  clear N12_w17
  have V13_w18 := hide (tabAt_keep V13_w17.out b18)
  clear V13_w17
  have N14_w18 := hide (tabAt_keep N14_w17.out b18)
  clear N14_w17
  clear b18
  go_wp2_with fail
  refine (SU.out _ _ _ N12_w18.out U11_w18.out).mono ?_
  rintro e w19 ⟨rfl, b19⟩
  have B19 := hide (B18.out.trans (b19.mono B18.out.size))
  have T3_w19 := hide (tabAt_keep T3_w18.out b19)
  clear T3_w18
  have N5_w19 := hide (tabAt_keep N5_w18.out b19)
  clear N5_w18
  have N7_w19 := hide (tabAt_keep N7_w18.out b19)
  clear N7_w18
  have N8_w19 := hide (tabAt_keep N8_w18.out b19)
  clear N8_w18
  have N9_w19 := hide (tabAt_keep N9_w18.out b19)
  clear N9_w18
  have U11_w19 := hide (tabAt_keep U11_w18.out b19)
  clear U11_w18
  have N12_w19 := hide (tabAt_keep N12_w18.out b19)
  clear N12_w18
  have V13_w19 := hide (tabAt_keep V13_w18.out b19)
  clear V13_w18
  have N14_w19 := hide (tabAt_keep N14_w18.out b19)
  clear N14_w18
  clear b19
  go_wp2_with fail
  refine (SV.out _ _ _ N14_w19.out V13_w19.out).mono ?_
  rintro e w20 ⟨rfl, b20⟩
  have B20 := hide (B19.out.trans (b20.mono B19.out.size))
  have T3_w20 := hide (tabAt_keep T3_w19.out b20)
  clear T3_w19
  have N5_w20 := hide (tabAt_keep N5_w19.out b20)
  clear N5_w19
  have N7_w20 := hide (tabAt_keep N7_w19.out b20)
  clear N7_w19
  have N8_w20 := hide (tabAt_keep N8_w19.out b20)
  clear N8_w19
  have N9_w20 := hide (tabAt_keep N9_w19.out b20)
  clear N9_w19
  have U11_w20 := hide (tabAt_keep U11_w19.out b20)
  clear U11_w19
  have N12_w20 := hide (tabAt_keep N12_w19.out b20)
  clear N12_w19
  have V13_w20 := hide (tabAt_keep V13_w19.out b20)
  clear V13_w19
  have N14_w20 := hide (tabAt_keep N14_w19.out b20)
  clear N14_w19
  clear b20
  go_wp2
  go_ret
  exact ⟨rfl, B20.out⟩
end Go.Proofs.YtifjneldjjmeaaaGreatDoor
namespace Go.Proofs.YtifjneldjjmeaaaGreatDoor
open Go.RowKit Go.ChangeShapes
theorem code_of {w : World} {x : Addr} {len : Nat} {zs : List Int} (hl : len ≤ zs.length) (hcell : ∀ i, i < zs.length → w.cell? (x.add i) = some (.int .u8 (zs.getD i 0))) (hwz : ∀ n ∈ zs, (Lit.int .u8 n).wf = true) : Code w (some x) len := by
  intro j hj
  have hjl : j < zs.length := by omega
  have hc := hcell j hjl
  obtain ⟨b, off, spot⟩ := x
  have hspot : spot = none := by
    have h0 := hcell 0 (by omega)
    simpa [Addr.add] using World.cell?_spot h0
  subst hspot
  have hz : zs.getD j 0 = zs[j] := by simp [List.getD, hjl]
  have hb := bounds_u8 (hwz zs[j] (List.getElem_mem hjl))
  have ha : ((⟨b, off, none⟩ : Addr).add j) = ⟨b, off + j, none⟩ := by cases j <;> simp [Addr.add]
  rw [ha, hz] at hc
  obtain ⟨z, hzz⟩ := Int.eq_ofNat_of_zero_le hb.1
  rw [hzz] at hc
  refine ⟨b, off, z, rfl, ?_, hc, by omega⟩
  rcases Nat.lt_or_ge b w.heap.size with h | h
  · exact h
  · unfold World.cell? at hc
    rw [show w.heap[(⟨b, off + j, none⟩ : Addr).block]? = none from Array.getElem?_eq_none h] at hc
    cases hc
end Go.Proofs.YtifjneldjjmeaaaGreatDoor
