import Derived.Laws.Bits128
import Derived.Test.YtifjneldjjmeaaaGreatDoorLs11
import Derived.Test.YtifjneldjjmeaaaGreatDoorLs9
import Derived.Test.YtifjneldjjmeaaaGreatDoorLs0
set_option maxRecDepth 100000
set_option maxHeartbeats 1600000
namespace Go.Proofs.YtifjneldjjmeaaaGreatDoor
open Go.RowKit
theorem doLPUSH_any (T : List EntD) (nm key : ByteArray) (M : List ByteArray) (b0 off cap : Nat) (w0 w : World) (b : Nat) (hT : TabR T) (hW : WorkE 69 w w0.heap.size b T 1) (hv : RVars w0) (h0 : Below w0.heap.size w0 w) (hks : TextsAt w0 (some ⟨b0, off, none⟩) (key :: M)) (hcap : M.length + 1 ≤ cap) (hk : key.size ≤ 1048576) (hM0 : 0 < M.length) (hm : M.length ≤ 1000000) (hmz : ∀ x ∈ M, x.size ≤ 1048576) (n0 : (nm.toList == [76, 80, 85, 83, 72]) = true) :
    Calls Tryz.prog 41 #[.pointer (some ⟨b, 0, none⟩), .string nm, .slice (some ⟨b0, off, none⟩) (M.length + 1) cap] w (DoP 69 w0.heap.size b w (pushF T key (fun L => M.reverse ++ L)).1 (pushF T key (fun L => M.reverse ++ L)).2.1 (pushF T key (fun L => M.reverse ++ L)).2.2) := by
  obtain ⟨b0', off', e0, hbw, hc0⟩ := textsAt_keep hks h0 0 (by simp)
  cases e0
  rw [Nat.add_zero] at hc0
  have hM1 : TextsAt w0 (some ⟨b0, off + 1, none⟩) M := by
    intro j hj
    obtain ⟨b1, off1, e, h1, h2⟩ := hks (j + 1) (by simpa using hj)
    cases e
    exact ⟨b0, off + 1, rfl, h1, by rw [show off + 1 + j = off + (j + 1) by omega]; exact h2⟩
  have HC := hide (fun W (h : Below w.heap.size w W) => pushA_any T key M (some ⟨b0, off + 1, none⟩) (cap - 1) w0 W b hT (workE_below hW h) hv (h0.trans (h.mono h0.size)) hk hM1 hM0 hm hmz)
  have hw0 := h0.size
  have KC := hide (fun X (hX : Below w.heap.size w X) => (hX.cell (p := ⟨b0, off, none⟩) hbw).trans hc0)
  have hmf : ∀ (fn : Fn) (first cap : Array Value) (w : World), (Instr.makeFunc fn first cap).run Tryz.prog w = .ok (.func fn first cap) w := fun _ _ _ _ => rfl
  clear hT hW hv h0 hks hM1 hmz
  simp only [List.getElem_cons_zero] at hc0 KC
  have hi0 : (0 : Int) < (M.length : Int) + 1 := by omega
  have hi1 : (1 : Int) ≤ (M.length : Int) + 1 := by omega
  have hi2 : (M.length : Int) + 1 ≤ (cap : Int) := by omega
  have hc1 : ¬ (cap = 1) := by omega
  generalize pushF T key (fun L => M.reverse ++ L) = G at HC ⊢
  go_enter Tryz.func41, Tryz.ntmps41
  go_upto_region 3 with fail
  go_region_law (go_simp; go_at_call 79; go_loud (refine (HC.out _ (Below.refl _ w).drew).mono ?_; rintro e w2 ⟨rfl, s2, b2⟩; have S2 := hide s2; have B2 := hide ((Below.refl w0.heap.size w).drew.trans b2); clear s2 b2))
  all_goals go_wp2
  all_goals go_ret2
  all_goals exact ⟨rfl, S2.out, B2.out⟩
theorem doRPUSH_any (T : List EntD) (nm key : ByteArray) (M : List ByteArray) (b0 off cap : Nat) (w0 w : World) (b : Nat) (hT : TabR T) (hW : WorkE 69 w w0.heap.size b T 1) (hv : RVars w0) (h0 : Below w0.heap.size w0 w) (hks : TextsAt w0 (some ⟨b0, off, none⟩) (key :: M)) (hcap : M.length + 1 ≤ cap) (hk : key.size ≤ 1048576) (hM0 : 0 < M.length) (hm : M.length ≤ 1000000) (hmz : ∀ x ∈ M, x.size ≤ 1048576) (n0 : (nm.toList == [76, 80, 85, 83, 72]) = false) (n1 : (nm.toList == [82, 80, 85, 83, 72]) = true) :
    Calls Tryz.prog 41 #[.pointer (some ⟨b, 0, none⟩), .string nm, .slice (some ⟨b0, off, none⟩) (M.length + 1) cap] w (DoP 69 w0.heap.size b w (pushF T key (fun L => L ++ M)).1 (pushF T key (fun L => L ++ M)).2.1 (pushF T key (fun L => L ++ M)).2.2) := by
  obtain ⟨b0', off', e0, hbw, hc0⟩ := textsAt_keep hks h0 0 (by simp)
  cases e0
  rw [Nat.add_zero] at hc0
  have hM1 : TextsAt w0 (some ⟨b0, off + 1, none⟩) M := by
    intro j hj
    obtain ⟨b1, off1, e, h1, h2⟩ := hks (j + 1) (by simpa using hj)
    cases e
    exact ⟨b0, off + 1, rfl, h1, by rw [show off + 1 + j = off + (j + 1) by omega]; exact h2⟩
  have HC := hide (fun W (h : Below w.heap.size w W) => pushB_any T key M (some ⟨b0, off + 1, none⟩) (cap - 1) w0 W b hT (workE_below hW h) hv (h0.trans (h.mono h0.size)) hk hM1 hM0 hm hmz)
  have hw0 := h0.size
  have KC := hide (fun X (hX : Below w.heap.size w X) => (hX.cell (p := ⟨b0, off, none⟩) hbw).trans hc0)
  have hmf : ∀ (fn : Fn) (first cap : Array Value) (w : World), (Instr.makeFunc fn first cap).run Tryz.prog w = .ok (.func fn first cap) w := fun _ _ _ _ => rfl
  clear hT hW hv h0 hks hM1 hmz
  simp only [List.getElem_cons_zero] at hc0 KC
  have hi0 : (0 : Int) < (M.length : Int) + 1 := by omega
  have hi1 : (1 : Int) ≤ (M.length : Int) + 1 := by omega
  have hi2 : (M.length : Int) + 1 ≤ (cap : Int) := by omega
  have hc1 : ¬ (cap = 1) := by omega
  generalize pushF T key (fun L => L ++ M) = G at HC ⊢
  go_enter Tryz.func41, Tryz.ntmps41
  go_upto_region 5 with fail
  go_region_law (go_simp; go_at_call 79; go_loud (refine (HC.out _ (Below.refl _ w).drew).mono ?_; rintro e w2 ⟨rfl, s2, b2⟩; have S2 := hide s2; have B2 := hide ((Below.refl w0.heap.size w).drew.trans b2); clear s2 b2))
  all_goals go_wp2
  all_goals go_ret2
  all_goals exact ⟨rfl, S2.out, B2.out⟩
theorem doLPOP_none (T : List EntD) (V : ValD) (nm key : ByteArray) (b0 off cap : Nat) (w0 w : World) (b : Nat) (hT : TabR T) (hW : WorkE 69 w w0.heap.size b T 1) (hv : RVars w0) (h0 : Below w0.heap.size w0 w) (hks : TextsAt w0 (some ⟨b0, off, none⟩) [key]) (hl : lookK T key 2 = (V, false, none)) (n0 : (nm.toList == [76, 80, 85, 83, 72]) = false) (n1 : (nm.toList == [82, 80, 85, 83, 72]) = false) (n2 : (nm.toList == [76, 80, 79, 80]) = true) :
    Calls Tryz.prog 41 #[.pointer (some ⟨b, 0, none⟩), .string nm, .slice (some ⟨b0, off, none⟩) 1 cap] w (DoP 69 w0.heap.size b w nilB none T) := by
  obtain ⟨b0', off', e0, hbw, hc0⟩ := textsAt_keep hks h0 0 (by simp)
  cases e0
  rw [Nat.add_zero] at hc0
  have HC := hide (fun W (h : Below w.heap.size w W) => popNone_any T key V (.func (.func 83) #[.pointer (some ⟨b, 1, none⟩)] #[]) w0 W b 69 hl hT (workE_S (workE_below hW h)) hv (h0.trans (h.mono h0.size)))
  have hw0 := h0.size
  have hmf : ∀ (fn : Fn) (first cap : Array Value) (w : World), (Instr.makeFunc fn first cap).run Tryz.prog w = .ok (.func fn first cap) w := fun _ _ _ _ => rfl
  clear hT hW hv h0 hks hl
  simp only [List.getElem_cons_zero] at hc0
  go_enter Tryz.func41, Tryz.ntmps41
  go_upto_region 7 with fail
  go_region_law (go_simp; go_at_call 82; go_loud (refine (HC.out _ (Below.refl _ w).drew).mono ?_; rintro e w2 ⟨rfl, s2, b2⟩; have S2 := hide s2; have B2 := hide ((Below.refl w0.heap.size w).drew.trans b2); clear s2 b2))
  all_goals go_wp2
  all_goals go_ret2
  all_goals exact ⟨rfl, S2.out, B2.out⟩
theorem doLPOP_any (T T2 : List EntD) (k u : Int) (t x : ByteArray) (L : List ByteArray) (er : Option ByteArray) (nm key : ByteArray) (b0 off cap : Nat) (w0 w : World) (b : Nat) (hT : TabR T) (hW : WorkE 69 w w0.heap.size b T 1) (hv : RVars w0) (h0 : Below w0.heap.size w0 w) (hks : TextsAt w0 (some ⟨b0, off, none⟩) [key]) (hk : key.size ≤ 1048576) (hl : lookK T key 2 = (⟨k, u, t, x :: L⟩, true, none))
    (hput : L ≠ [] → er = putErr (putT T key ⟨k, u, t, L⟩) ∧ T2 = putT T key ⟨k, u, t, L⟩) (hdrop : L = [] → (∃ v0, T = [⟨key, v0⟩]) ∧ er = none ∧ T2 = []) (n0 : (nm.toList == [76, 80, 85, 83, 72]) = false) (n1 : (nm.toList == [82, 80, 85, 83, 72]) = false) (n2 : (nm.toList == [76, 80, 79, 80]) = true) :
    Calls Tryz.prog 41 #[.pointer (some ⟨b, 0, none⟩), .string nm, .slice (some ⟨b0, off, none⟩) 1 cap] w (DoP 69 w0.heap.size b w (bulkB x) er T2) := by
  obtain ⟨b0', off', e0, hbw, hc0⟩ := textsAt_keep hks h0 0 (by simp)
  cases e0
  rw [Nat.add_zero] at hc0
  have HC := hide (fun W (h : Below w.heap.size w W) => popA_any T T2 key k u t x L er w0 W b hl hT (workE_below hW h) hv (h0.trans (h.mono h0.size)) hk hput hdrop)
  have hw0 := h0.size
  have hmf : ∀ (fn : Fn) (first cap : Array Value) (w : World), (Instr.makeFunc fn first cap).run Tryz.prog w = .ok (.func fn first cap) w := fun _ _ _ _ => rfl
  clear hT hW hv h0 hks hl hput hdrop
  simp only [List.getElem_cons_zero] at hc0
  go_enter Tryz.func41, Tryz.ntmps41
  go_upto_region 7 with fail
  go_region_law (go_simp; go_at_call 82; go_loud (refine (HC.out _ (Below.refl _ w).drew).mono ?_; rintro e w2 ⟨rfl, s2, b2⟩; have S2 := hide s2; have B2 := hide ((Below.refl w0.heap.size w).drew.trans b2); clear s2 b2))
  all_goals go_wp2
  all_goals go_ret2
  all_goals exact ⟨rfl, S2.out, B2.out⟩
theorem doRPOP_any (T T2 : List EntD) (k u : Int) (t x : ByteArray) (L : List ByteArray) (er : Option ByteArray) (nm key : ByteArray) (b0 off cap : Nat) (w0 w : World) (b : Nat) (hT : TabR T) (hW : WorkE 69 w w0.heap.size b T 1) (hv : RVars w0) (h0 : Below w0.heap.size w0 w) (hks : TextsAt w0 (some ⟨b0, off, none⟩) [key]) (hk : key.size ≤ 1048576) (hl : lookK T key 2 = (⟨k, u, t, L ++ [x]⟩, true, none))
    (hput : L ≠ [] → er = putErr (putT T key ⟨k, u, t, L⟩) ∧ T2 = putT T key ⟨k, u, t, L⟩) (hdrop : L = [] → (∃ v0, T = [⟨key, v0⟩]) ∧ er = none ∧ T2 = []) (n0 : (nm.toList == [76, 80, 85, 83, 72]) = false) (n1 : (nm.toList == [82, 80, 85, 83, 72]) = false) (n2 : (nm.toList == [76, 80, 79, 80]) = false) (n3 : (nm.toList == [82, 80, 79, 80]) = true) :
    Calls Tryz.prog 41 #[.pointer (some ⟨b, 0, none⟩), .string nm, .slice (some ⟨b0, off, none⟩) 1 cap] w (DoP 69 w0.heap.size b w (bulkB x) er T2) := by
  obtain ⟨b0', off', e0, hbw, hc0⟩ := textsAt_keep hks h0 0 (by simp)
  cases e0
  rw [Nat.add_zero] at hc0
  have HC := hide (fun W (h : Below w.heap.size w W) => popB_any T T2 key k u t x L er w0 W b hl hT (workE_below hW h) hv (h0.trans (h.mono h0.size)) hk hput hdrop)
  have hw0 := h0.size
  have hmf : ∀ (fn : Fn) (first cap : Array Value) (w : World), (Instr.makeFunc fn first cap).run Tryz.prog w = .ok (.func fn first cap) w := fun _ _ _ _ => rfl
  clear hT hW hv h0 hks hl hput hdrop
  simp only [List.getElem_cons_zero] at hc0
  go_enter Tryz.func41, Tryz.ntmps41
  go_upto_region 9 with fail
  go_region_law (go_simp; go_at_call 82; go_loud (refine (HC.out _ (Below.refl _ w).drew).mono ?_; rintro e w2 ⟨rfl, s2, b2⟩; have S2 := hide s2; have B2 := hide ((Below.refl w0.heap.size w).drew.trans b2); clear s2 b2))
  all_goals go_wp2
  all_goals go_ret2
  all_goals exact ⟨rfl, S2.out, B2.out⟩
theorem doLLEN_any (T : List EntD) (nm key : ByteArray) (b0 off cap : Nat) (w0 w : World) (b : Nat) (hT : TabR T) (hW : WorkE 69 w w0.heap.size b T 1) (hv : RVars w0) (h0 : Below w0.heap.size w0 w) (hks : TextsAt w0 (some ⟨b0, off, none⟩) [key]) (n0 : (nm.toList == [76, 80, 85, 83, 72]) = false) (n1 : (nm.toList == [82, 80, 85, 83, 72]) = false) (n2 : (nm.toList == [76, 80, 79, 80]) = false) (n3 : (nm.toList == [82, 80, 79, 80]) = false) (n4 : (nm.toList == [76, 76, 69, 78]) = true) :
    Calls Tryz.prog 41 #[.pointer (some ⟨b, 0, none⟩), .string nm, .slice (some ⟨b0, off, none⟩) 1 cap] w (DoP 69 w0.heap.size b w (hdB ⟨#[58]⟩ (lookK T key 2).1.items.length) (lookK T key 2).2.2 T) := by
  obtain ⟨b0', off', e0, hbw, hc0⟩ := textsAt_keep hks h0 0 (by simp)
  cases e0
  rw [Nat.add_zero] at hc0
  have HC := hide (lengthL_any T key w w0.heap.size b 69 hT (workE_S hW) (rvars_below hv h0))
  have HW := hide (fun W (h : Below w.heap.size w W) => workS_below (workE_S hW) h)
  have hw0 := h0.size
  clear hT hW hv h0 hks
  simp only [List.getElem_cons_zero] at hc0
  go_enter Tryz.func41, Tryz.ntmps41
  go_wp2_with fail
  refine HC.out.mono ?_
  rintro e w1 ⟨rfl, b1⟩
  have B1 := hide b1
  have W1 := hide (HW.out _ b1)
  clear b1
  go_wp2
  go_ret2
  exact ⟨rfl, W1.out, B1.out.mono hw0⟩
def TabL (w : World) (v : Value) (T : List EntD) : Prop := ∃ a c, v = .slice a T.length c ∧ EntriesAt w a T
theorem tabL_build {w : World} {B : Nat} {v : Value} {T : List EntD} (h : BuildE w B v T) : TabL w v T := by
  obtain ⟨a, c, rfl⟩ := buildE_form h
  exact ⟨a, c, rfl, (rowEnt_rows (buildE_row h)).2⟩
theorem tabL_keep {w w' : World} {v : Value} {T : List EntD} (h : TabL w v T) (hb : Below w.heap.size w w') : TabL w' v T := by
  obtain ⟨a, c, e, h1⟩ := h
  exact ⟨a, c, e, entriesAt_keep h1 hb⟩
def OnLQ (W : World) (T : List EntD) (rep : ByteArray) (e : Ending) (w' : World) : Prop := (∃ a c, e = .returned (.tuple #[.slice a T.length c, .string rep, .bool true]) ∧ TabL w' (.slice a T.length c) T) ∧ Below W.heap.size W w'
def OnL (w : World) (T : List EntD) (ts : List ByteArray) (T2 : List EntD) (rep : ByteArray) : Prop :=
  ∀ (W : World) (v : Value) (b0 c0 : Nat), TabL W v T → TextsAt W (some ⟨b0, 0, none⟩) ts → ts.length ≤ c0 → Below w.heap.size w W → Calls Tryz.prog 19 #[v, .slice (some ⟨b0, 0, none⟩) ts.length c0] W (OnLQ W T2 rep)
def qK : ByteArray := ⟨#[113]⟩
def listV (L : List ByteArray) : ValD := ⟨2, 0, ⟨#[]⟩, L⟩
def tblL (L : List ByteArray) : List EntD := match L with | [] => [] | x :: r => [⟨qK, listV (x :: r)⟩]
theorem tblL_some {L : List ByteArray} (h : L ≠ []) : tblL L = [⟨qK, listV L⟩] := by
  cases L with
  | nil => exact absurd rfl h
  | cons x r => rfl
theorem tblL_right {L : List ByteArray} (h : L.length ≤ 24) (hz : ∀ s ∈ L, s.size ≤ 60) : TabR (tblL L) := by
  cases L with
  | nil => rw [tabR_iff]; exact ⟨by decide, fun e he => (by cases he), fun j hj => absurd hj (by simp [tblL])⟩
  | cons x r =>
    rw [tabR_iff]
    refine ⟨by simp [tblL], fun e he => ?_, fun j hj => absurd hj (by simp [tblL])⟩
    rw [List.mem_singleton.1 he]
    exact ⟨by show 1 ≤ qK.size ∧ qK.size ≤ 20; decide, (by decide : (0 : Int) ≤ 0), (by decide : (0 : Int) ≤ 100000), .inr (.inl ⟨rfl, rfl, by show 1 ≤ (x :: r).length; simp, h, hz⟩)⟩
theorem look_tbl {L : List ByteArray} (h : L ≠ []) : lookK (tblL L) qK 2 = (listV L, true, none) := by
  rw [tblL_some h]
  simp [lookK, findE, listV]
theorem look_tnil : lookK [] qK 2 = (listV [], false, none) := rfl
theorem put_tbl {L : List ByteArray} (h : L ≠ []) (v : ValD) : putT (tblL L) qK v = [⟨qK, v⟩] := by
  have h1 : Op.bytesLess qK.toList qK.toList = false := less_irrefl _
  rw [tblL_some h]
  simp [putT, h1]
theorem put_tnil (v : ValD) : putT [] qK v = [⟨qK, v⟩] := by simp [putT]
theorem putErr_no {T : List EntD} (h : TabR T) : putErr T = none := by
  unfold putErr
  rw [(tabB_iff T).2 h]
  rfl
theorem txt_tail {w : World} {b off : Nat} {x : ByteArray} {r : List ByteArray} (h : TextsAt w (some ⟨b, off, none⟩) (x :: r)) : TextsAt w (some ⟨b, off + 1, none⟩) r := by
  intro j hj
  obtain ⟨b', off', e, h1, h2⟩ := h (j + 1) (by simpa using hj)
  cases e
  exact ⟨b, off + 1, rfl, h1, by rw [show off + 1 + j = off + (j + 1) by omega]; exact h2⟩
theorem othV_keepL {w w' : World} {x : Value} (h : OthV w x) (hb : Below w.heap.size w w') : OthV w' x :=
  ⟨h.1, (hb.cell (p := ⟨0, 0, none⟩) h.2.2).trans h.2.1, Nat.lt_of_lt_of_le h.2.2 hb.size⟩
theorem onLQ_of {W : World} {T2 : List EntD} {rep : ByteArray} {e : Ending} {w' : World} (h : (∃ v, e = .returned (.tuple #[v, .string rep, .bool true]) ∧ BuildE w' W.heap.size v T2) ∧ Below W.heap.size W w') : OnLQ W T2 rep e w' := by
  obtain ⟨⟨v, rfl, hb⟩, hb2⟩ := h
  have ht := tabL_build hb
  obtain ⟨a, c, rfl⟩ := buildE_form hb
  exact ⟨⟨a, c, rfl, ht⟩, hb2⟩
theorem ok_push (nm key : ByteArray) (M : List ByteArray) (h0 : 0 < M.length) (hnm : upT nm = ⟨#[76, 80, 85, 83, 72]⟩ ∨ upT nm = ⟨#[82, 80, 85, 83, 72]⟩) : okS (nm :: key :: M) = true := by
  show (inB cmdsL (upT nm) && takesK (kindS (upT nm)) ((key :: M).length : Int)) = true
  rcases hnm with hnm | hnm
  · rw [hnm, show inB cmdsL ⟨#[76, 80, 85, 83, 72]⟩ = true by decide +kernel, show kindS ⟨#[76, 80, 85, 83, 72]⟩ = 5 by decide +kernel]
    simp [takesK]
    omega
  · rw [hnm, show inB cmdsL ⟨#[82, 80, 85, 83, 72]⟩ = true by decide +kernel, show kindS ⟨#[82, 80, 85, 83, 72]⟩ = 5 by decide +kernel]
    simp [takesK]
    omega
theorem on_LPUSH (w : World) (x : Value) (I : List ByteArray) (hv : RVars w) (hx : OthV w x) (h0 : 0 < I.length) (h6 : I.length ≤ 24) (hz : ∀ s ∈ I, s.size ≤ 60) : OnL w [] (⟨#[76, 80, 85, 83, 72]⟩ :: qK :: I) (tblL I.reverse) (hdB ⟨#[58]⟩ I.length) := by
  rintro W v b0 c0 ⟨a, c, rfl, hes⟩ hts hc hB
  have hne : I.reverse ≠ [] := fun e => by have := congrArg List.length e; simp at this; subst this; simp at h0
  have hF : pushF [] qK (fun L => I.reverse ++ L) = (hdB ⟨#[58]⟩ I.length, none, tblL I.reverse) := by
    unfold pushF
    rw [look_tnil]
    show (hdB ⟨#[58]⟩ ((I.reverse ++ []).length : Nat), putErr (putT [] qK ⟨2, 0, ⟨#[]⟩, I.reverse ++ []⟩), putT [] qK ⟨2, 0, ⟨#[]⟩, I.reverse ++ []⟩) = _
    rw [List.append_nil, put_tnil]
    have e : ([⟨qK, ⟨2, 0, ⟨#[]⟩, I.reverse⟩⟩] : List EntD) = tblL I.reverse := (tblL_some hne).symm
    rw [e, putErr_no (tblL_right (by simpa using h6) (fun s hs => hz s (by simpa using hs))), List.length_reverse]
  have h := onLists_any [] (⟨#[76, 80, 85, 83, 72]⟩ :: qK :: I) a c b0 0 c0 W x (pushF [] qK (fun L => I.reverse ++ L)).1 (pushF [] qK (fun L => I.reverse ++ L)).2.1 (pushF [] qK (fun L => I.reverse ++ L)).2.2 (tblL_right (L := []) (by decide) (fun s hs => by cases hs)) hes hts
    (fun y hy => by simp at hy; rcases hy with rfl | rfl | hy <;> first | decide | exact Nat.le_trans (hz _ hy) (by decide)) (by simp) (by simp; omega) hc (ok_push _ _ I h0 (.inl (by decide +kernel))) (othV_keepL hx hB) (fun s hs => by rw [hF] at hs; cases hs)
    (fun w1 b hW hb => doLPUSH_any [] (upT ⟨#[76, 80, 85, 83, 72]⟩) qK I b0 1 (c0 - 1) W w1 b (tblL_right (L := []) (by decide) (fun s hs => by cases hs)) hW (rvars_below hv hB) hb (txt_tail hts) (by simp at hc; omega) (by decide) h0 (by omega) (fun s hs => by have := hz s hs; omega) (by decide +kernel))
  rw [hF] at h
  exact h.mono (fun e w' hh => onLQ_of hh)
theorem on_RPUSH (w : World) (x : Value) (I : List ByteArray) (hv : RVars w) (hx : OthV w x) (h0 : 0 < I.length) (h6 : I.length ≤ 24) (hz : ∀ s ∈ I, s.size ≤ 60) : OnL w [] (⟨#[82, 80, 85, 83, 72]⟩ :: qK :: I) (tblL I) (hdB ⟨#[58]⟩ I.length) := by
  rintro W v b0 c0 ⟨a, c, rfl, hes⟩ hts hc hB
  have hne : I ≠ [] := fun e => by subst e; simp at h0
  have hF : pushF [] qK (fun L => L ++ I) = (hdB ⟨#[58]⟩ I.length, none, tblL I) := by
    unfold pushF
    rw [look_tnil]
    show (hdB ⟨#[58]⟩ (([] ++ I).length : Nat), putErr (putT [] qK ⟨2, 0, ⟨#[]⟩, [] ++ I⟩), putT [] qK ⟨2, 0, ⟨#[]⟩, [] ++ I⟩) = _
    rw [List.nil_append, put_tnil]
    have e : ([⟨qK, ⟨2, 0, ⟨#[]⟩, I⟩⟩] : List EntD) = tblL I := (tblL_some hne).symm
    rw [e, putErr_no (tblL_right h6 hz)]
  have h := onLists_any [] (⟨#[82, 80, 85, 83, 72]⟩ :: qK :: I) a c b0 0 c0 W x (pushF [] qK (fun L => L ++ I)).1 (pushF [] qK (fun L => L ++ I)).2.1 (pushF [] qK (fun L => L ++ I)).2.2 (tblL_right (L := []) (by decide) (fun s hs => by cases hs)) hes hts
    (fun y hy => by simp at hy; rcases hy with rfl | rfl | hy <;> first | decide | exact Nat.le_trans (hz _ hy) (by decide)) (by simp) (by simp; omega) hc (ok_push _ _ I h0 (.inr (by decide +kernel))) (othV_keepL hx hB) (fun s hs => by rw [hF] at hs; cases hs)
    (fun w1 b hW hb => doRPUSH_any [] (upT ⟨#[82, 80, 85, 83, 72]⟩) qK I b0 1 (c0 - 1) W w1 b (tblL_right (L := []) (by decide) (fun s hs => by cases hs)) hW (rvars_below hv hB) hb (txt_tail hts) (by simp at hc; omega) (by decide) h0 (by omega) (fun s hs => by have := hz s hs; omega) (by decide +kernel) (by decide +kernel))
  rw [hF] at h
  exact h.mono (fun e w' hh => onLQ_of hh)
theorem on_LLEN (w : World) (x : Value) (L : List ByteArray) (hv : RVars w) (hx : OthV w x) (h0 : L ≠ []) (h6 : L.length ≤ 24) (hz : ∀ s ∈ L, s.size ≤ 60) : OnL w (tblL L) [⟨#[76, 76, 69, 78]⟩, qK] (tblL L) (hdB ⟨#[58]⟩ L.length) := by
  rintro W v b0 c0 ⟨a, c, rfl, hes⟩ hts hc hB
  have h := onLists_any (tblL L) [⟨#[76, 76, 69, 78]⟩, qK] a c b0 0 c0 W x (hdB ⟨#[58]⟩ (lookK (tblL L) qK 2).1.items.length) (lookK (tblL L) qK 2).2.2 (tblL L) (tblL_right h6 hz) hes hts
    (fun y hy => by simp at hy; rcases hy with rfl | rfl <;> decide) (by simp) (by simp) hc (by decide +kernel) (othV_keepL hx hB) (fun s hs => by rw [look_tbl h0] at hs; cases hs)
    (fun w1 b hW hb => doLLEN_any (tblL L) (upT ⟨#[76, 76, 69, 78]⟩) qK b0 1 (c0 - 1) W w1 b (tblL_right h6 hz) hW (rvars_below hv hB) hb (txt_tail hts) (by decide +kernel) (by decide +kernel) (by decide +kernel) (by decide +kernel) (by decide +kernel))
  rw [look_tbl h0] at h
  exact h.mono (fun e w' hh => onLQ_of hh)
theorem on_LPOP (w : World) (x : Value) (y : ByteArray) (L : List ByteArray) (hv : RVars w) (hx : OthV w x) (h6 : (y :: L).length ≤ 24) (hz : ∀ s ∈ y :: L, s.size ≤ 60) : OnL w (tblL (y :: L)) [⟨#[76, 80, 79, 80]⟩, qK] (tblL L) (bulkB y) := by
  rintro W v b0 c0 ⟨a, c, rfl, hes⟩ hts hc hB
  have hR : TabR (tblL L) := tblL_right (by simp at h6; omega) (fun s hs => hz s (by simp [hs]))
  have h := onLists_any (tblL (y :: L)) [⟨#[76, 80, 79, 80]⟩, qK] a c b0 0 c0 W x (bulkB y) none (tblL L) (tblL_right h6 hz) hes hts
    (fun y hy => by simp at hy; rcases hy with rfl | rfl <;> decide) (by simp) (by simp) hc (by decide +kernel) (othV_keepL hx hB) (fun s hs => by cases hs)
    (fun w1 b hW hb => doLPOP_any (tblL (y :: L)) (tblL L) 2 0 ⟨#[]⟩ y L none (upT ⟨#[76, 80, 79, 80]⟩) qK b0 1 (c0 - 1) W w1 b (tblL_right h6 hz) hW (rvars_below hv hB) hb (txt_tail hts) (by decide) (look_tbl (by simp))
      (fun hne => by
        have e : putT (tblL (y :: L)) qK ⟨2, 0, ⟨#[]⟩, L⟩ = tblL L := (put_tbl (by simp) _).trans (tblL_some hne).symm
        rw [e, putErr_no hR]
        exact ⟨rfl, rfl⟩) (fun he => by subst he; exact ⟨⟨_, rfl⟩, rfl, rfl⟩) (by decide +kernel) (by decide +kernel) (by decide +kernel))
  exact h.mono (fun e w' hh => onLQ_of hh)
theorem on_RPOP (w : World) (x : Value) (y : ByteArray) (L : List ByteArray) (hv : RVars w) (hx : OthV w x) (h6 : (L ++ [y]).length ≤ 24) (hz : ∀ s ∈ L ++ [y], s.size ≤ 60) : OnL w (tblL (L ++ [y])) [⟨#[82, 80, 79, 80]⟩, qK] (tblL L) (bulkB y) := by
  rintro W v b0 c0 ⟨a, c, rfl, hes⟩ hts hc hB
  have hR : TabR (tblL L) := tblL_right (by simp at h6; omega) (fun s hs => hz s (by simp [hs]))
  have h := onLists_any (tblL (L ++ [y])) [⟨#[82, 80, 79, 80]⟩, qK] a c b0 0 c0 W x (bulkB y) none (tblL L) (tblL_right h6 hz) hes hts
    (fun y hy => by simp at hy; rcases hy with rfl | rfl <;> decide) (by simp) (by simp) hc (by decide +kernel) (othV_keepL hx hB) (fun s hs => by cases hs)
    (fun w1 b hW hb => doRPOP_any (tblL (L ++ [y])) (tblL L) 2 0 ⟨#[]⟩ y L none (upT ⟨#[82, 80, 79, 80]⟩) qK b0 1 (c0 - 1) W w1 b (tblL_right h6 hz) hW (rvars_below hv hB) hb (txt_tail hts) (by decide) (look_tbl (by simp))
      (fun hne => by
        have e : putT (tblL (L ++ [y])) qK ⟨2, 0, ⟨#[]⟩, L⟩ = tblL L := (put_tbl (by simp) _).trans (tblL_some hne).symm
        rw [e, putErr_no hR]
        exact ⟨rfl, rfl⟩) (fun he => by subst he; exact ⟨⟨_, rfl⟩, rfl, rfl⟩) (by decide +kernel) (by decide +kernel) (by decide +kernel) (by decide +kernel))
  exact h.mono (fun e w' hh => onLQ_of hh)
theorem on_LPOPnone (w : World) (x : Value) (hv : RVars w) (hx : OthV w x) : OnL w [] [⟨#[76, 80, 79, 80]⟩, qK] [] nilB := by
  rintro W v b0 c0 ⟨a, c, rfl, hes⟩ hts hc hB
  have h := onLists_any [] [⟨#[76, 80, 79, 80]⟩, qK] a c b0 0 c0 W x nilB none [] (tblL_right (L := []) (by decide) (fun s hs => by cases hs)) hes hts
    (fun y hy => by simp at hy; rcases hy with rfl | rfl <;> decide) (by simp) (by simp) hc (by decide +kernel) (othV_keepL hx hB) (fun s hs => by cases hs)
    (fun w1 b hW hb => doLPOP_none [] (listV []) (upT ⟨#[76, 80, 79, 80]⟩) qK b0 1 (c0 - 1) W w1 b (tblL_right (L := []) (by decide) (fun s hs => by cases hs)) hW (rvars_below hv hB) hb (txt_tail hts) look_tnil (by decide +kernel) (by decide +kernel) (by decide +kernel))
  exact h.mono (fun e w' hh => onLQ_of hh)
theorem i64_and255 (n : Int) : bits .and .i64 n 255 = n % 256 := by
  have h255 : (BitVec.ofInt 64 255).toNat = 2 ^ 8 - 1 := by decide
  have key : (BitVec.ofInt 64 n &&& BitVec.ofInt 64 255).toNat = (n % ((2 ^ 64 : Nat) : Int)).toNat % 2 ^ 8 := by
    rw [BitVec.toNat_and, BitVec.toNat_ofInt, h255, Nat.and_two_pow_sub_one_eq_mod]
  show IntKind.i64.wrap ((BitVec.ofInt 64 n &&& BitVec.ofInt 64 255).toNat : Nat) = n % 256
  rw [key, IntKind.wrap_i64]
  omega
def Code (w0 : World) (ao : Option Addr) (len : Nat) : Prop := ∀ j, j < len → ∃ b off z : Nat, ao = some ⟨b, off, none⟩ ∧ b < w0.heap.size ∧ w0.cell? ⟨b, off + j, none⟩ = some (.int .u8 z) ∧ z < 256
def CurAt (w0 w : World) (g : Nat) (ao : Option Addr) (len cap : Nat) : Prop :=
  Below w0.heap.size w0 w ∧ w0.heap.size ≤ g ∧ ∃ (i : Nat) (h : Int) (T : TypeId), i ≤ len ∧ w.heap[g]? = some (.cells #[.slice ao len cap, .int .i64 i, .int .i64 h] T (0, 0))
theorem cur_cell {w : World} {g : Nat} {cs : Array Value} {T : TypeId} (h : w.heap[g]? = some (.cells cs T (0, 0))) (j : Nat) (v : Value) (hj : cs[j]? = some v) : w.cell? ⟨g, j, none⟩ = some v := by
  rw [cell_of_row w g j cs T (0, 0) h, hj]
theorem ret_i {k : IntKind} {a b : Int} (h : a = b) : Ending.returned (.int k a) = .returned (.int k b) := by rw [h]
theorem byte_any (w0 w : World) (g : Nat) (ao : Option Addr) (len cap : Nat) (hlen : len ≤ 1048576) (hcode : Code w0 ao len) (hc : CurAt w0 w g ao len cap) :
    Calls Tryz.prog 39 #[.pointer (some ⟨g, 0, none⟩)] w fun e w' => ∃ x : Nat, e = .returned (.int .i64 x) ∧ x < 256 ∧ CurAt w0 w' g ao len cap ∧ w.grownBy w' (some g) := by
  obtain ⟨hb, hg, i, h, T, hi, hh⟩ := hc
  have hc0 := cur_cell hh 0 _ rfl
  have hc1 := cur_cell hh 1 _ rfl
  have hc2 := cur_cell hh 2 _ rfl
  have hf1 := frozen_of_row w g 1 _ T hh
  have hf2 := frozen_of_row w g 2 _ T hh
  have hand := i64_and255
  have KH : Hid (∀ H1 : Int, (w.setCell ⟨g, 2, none⟩ (.int .i64 H1)).heap[g]? = some (.cells #[.slice ao len cap, .int .i64 i, .int .i64 H1] T (0, 0)) ∧ w.grownBy (w.setCell ⟨g, 2, none⟩ (.int .i64 H1)) (some g)) :=
    fun H1 => ⟨(heap_setCell_same w g 2 _ T (.int .i64 H1) hh).trans rfl, grownBy_store (World.grownBy.refl _ _) 2 _⟩
  have HB := hide hb
  have HC := hide hcode
  clear hh hb hcode
  go_enter Tryz.func39, Tryz.ntmps39
  go_wp2
  clear hc0 hc1 hc2 hf1 hf2
  generalize wrap64 (wrap64 (h * 6364136223846793005) + 1442695040888963407) = H1
  obtain ⟨hh1, g1⟩ := KH.out H1
  generalize w.setCell ⟨g, 2, none⟩ (.int .i64 H1) = W1 at hh1 g1 ⊢
  have hc0 := cur_cell hh1 0 _ rfl
  have hc1 := cur_cell hh1 1 _ rfl
  have hc2 := cur_cell hh1 2 _ rfl
  have hf1 := frozen_of_row W1 g 1 _ T hh1
  have HH1 := hide hh1
  have G1 := hide g1
  have HB1 : Hid (Below w0.heap.size w0 W1) := HB.out.grown g1 HB.out.size (fun k hk => by cases hk; exact hg)
  clear hh1 g1
  by_cases hlt : i < len
  · have hlt' : decide ((i : Int) < (len : Int)) = true := by simp; omega
    obtain ⟨b, off, z, rfl, hbl, hz, hz256⟩ := HC.out i hlt
    have hcz : W1.cell? ⟨b, off + i, none⟩ = some (.int .u8 z) := (HB1.out.cell (p := ⟨b, off + i, none⟩) hbl).trans hz
    have hi0 : (0 : Int) ≤ (i : Int) := by omega
    have hi1 : (i : Int) < (len : Int) := by omega
    clear hz
    go_quiet (fail)
    go_wp2
    generalize bits BinOp.xor IntKind.i64 (H1 / 8589934592) (H1 / 35184372088832) = Y
    go_quiet (fail)
    go_wp2
    go_quiet (fail)
    go_wp2
    go_ret
    have hs : ∀ q, Below w0.heap.size w0 ((W1.drewN q).setCell ⟨g, 1, none⟩ (.int .i64 ((i : Int) + 1))) := fun q => (below_drewN HB1.out q).setCell (p := ⟨g, 1, none⟩) hg _
    have hr : ∀ q, ((W1.drewN q).setCell ⟨g, 1, none⟩ (.int .i64 ((i : Int) + 1))).heap[g]? = some (.cells #[.slice (some ⟨b, off, none⟩) len cap, .int .i64 ((i + 1 : Nat) : Int), .int .i64 H1] T (0, 0)) :=
      fun q => (heap_setCell_same (W1.drewN q) g 1 _ T (.int .i64 ((i : Int) + 1)) HH1.out).trans rfl
    exact ⟨((Y + z) % 256).toNat, ret_i (by omega), by omega, ⟨hs _, hg, i + 1, H1, T, by omega, hr _⟩, grownBy_store (grownBy_trans G1.out (grownBy_below _ (drewN_below _ _))) 1 _⟩
  · have hlt' : decide ((i : Int) < (len : Int)) = false := by simp; omega
    go_quiet (fail)
    go_wp2
    generalize bits BinOp.xor IntKind.i64 (H1 / 8589934592) (H1 / 35184372088832) = Y
    go_quiet (fail)
    go_wp2
    go_ret
    exact ⟨(Y % 256).toNat, ret_i (by omega), by omega, ⟨below_drewN (below_drewN HB1.out _) _, hg, i, H1, T, hi, HH1.out⟩, grownBy_trans G1.out (grownBy_trans (grownBy_below _ (drewN_below _ _)) (grownBy_below _ (drewN_below _ _)))⟩
theorem below_any (w0 w : World) (g : Nat) (ao : Option Addr) (len cap : Nat) (n : Int) (hlen : len ≤ 1048576) (hn : n ≤ 4611686018427387904) (hcode : Code w0 ao len) (hc : CurAt w0 w g ao len cap) :
    Calls Tryz.prog 32 #[.pointer (some ⟨g, 0, none⟩), .int .i64 n] w fun e w' => ∃ x : Nat, e = .returned (.int .i64 x) ∧ (0 < n → (x : Int) < n) ∧ (n ≤ 0 → x = 0) ∧ CurAt w0 w' g ao len cap ∧ w.grownBy w' (some g) := by
  have HC := hide hcode
  have HU := hide hc
  clear hcode hc
  by_cases h0 : n ≤ 0
  · go_enter Tryz.func32, Tryz.ntmps32
    go_wp2
    go_ret
    exact ⟨0, rfl, fun h => absurd h (by omega), fun _ => rfl, HU.out, World.grownBy.refl _ _⟩
  · by_cases h1 : n ≤ 256
    · go_enter Tryz.func32, Tryz.ntmps32
      go_wp2_with fail
      refine (byte_any w0 _ g ao len cap hlen HC.out HU.out).mono ?_
      rintro e w1 ⟨x, rfl, hx, hc1, g1⟩
      go_wp2
      go_ret
      have hb := Int.emod_lt_of_pos (x : Int) (show 0 < n by omega)
      have hp := Int.emod_nonneg (x : Int) (show n ≠ 0 by omega)
      exact ⟨((x : Int) % n).toNat, ret_i (by omega), fun _ => by omega, fun h => absurd h (by omega), hc1, g1⟩
    · go_enter Tryz.func32, Tryz.ntmps32
      go_wp2_with fail
      refine (byte_any w0 _ g ao len cap hlen HC.out HU.out).mono ?_
      rintro e w1 ⟨x, rfl, hx, hc1, g1⟩
      have HU1 := hide hc1
      have G1 := hide g1
      clear hc1 g1
      go_wp2_with fail
      refine (byte_any w0 _ g ao len cap hlen HC.out HU1.out).mono ?_
      rintro e w2 ⟨y, rfl, hy, hc2, g2⟩
      have HU2 := hide hc2
      have G2 := hide g2
      clear hc2 g2
      go_wp2_with fail
      refine (byte_any w0 _ g ao len cap hlen HC.out HU2.out).mono ?_
      rintro e w3 ⟨z, rfl, hz, hc3, g3⟩
      have HU3 := hide hc3
      have G3 := hide g3
      clear hc3 g3
      go_wp2_with fail
      refine (byte_any w0 _ g ao len cap hlen HC.out HU3.out).mono ?_
      rintro e w4 ⟨u, rfl, hu, hc4, g4⟩
      go_wp2
      go_ret
      have hb := Int.emod_lt_of_pos ((x : Int) * 16777216 + (y : Int) * 65536 + (z : Int) * 256 + (u : Int)) (show 0 < n by omega)
      have hp := Int.emod_nonneg ((x : Int) * 16777216 + (y : Int) * 65536 + (z : Int) * 256 + (u : Int)) (show n ≠ 0 by omega)
      exact ⟨(((x : Int) * 16777216 + (y : Int) * 65536 + (z : Int) * 256 + (u : Int)) % n).toNat, ret_i (by omega), fun _ => by omega, fun h => absurd h (by omega), hc4, grownBy_trans G1.out (grownBy_trans G2.out (grownBy_trans G3.out g4))⟩
theorem i64_and30 (n : Int) : bits .and .i64 n 1073741823 = n % 1073741824 := by
  have h30 : (BitVec.ofInt 64 1073741823).toNat = 2 ^ 30 - 1 := by decide
  have key : (BitVec.ofInt 64 n &&& BitVec.ofInt 64 1073741823).toNat = (n % ((2 ^ 64 : Nat) : Int)).toNat % 2 ^ 30 := by
    rw [BitVec.toNat_and, BitVec.toNat_ofInt, h30, Nat.and_two_pow_sub_one_eq_mod]
  show IntKind.i64.wrap ((BitVec.ofInt 64 n &&& BitVec.ofInt 64 1073741823).toNat : Nat) = n % 1073741824
  rw [key, IntKind.wrap_i64]
  omega
theorem new_any (w : World) (ao : Option Addr) (len cap : Nat) (hlen : len ≤ 1048576) (hcode : Code w ao len) :
    Calls Tryz.prog 30 #[.slice ao len cap] w fun e w' => ∃ g, e = .returned (.pointer (some ⟨g, 0, none⟩)) ∧ CurAt w w' g ao len cap := by
  have hand := i64_and30
  have HC := hide hcode
  clear hcode
  go_enter Tryz.func30, Tryz.ntmps30
  go_wp2
  go_loop [3, 4] (fun hh ii => ∃ (k : Nat) (h : Int), k ≤ len ∧ ii = .int .i64 k ∧ hh = .int .i64 h ∧ 0 ≤ h ∧ h ≤ 1073741824) (fun _ ii => len - (intOf ii).toNat)
  case atStart => exact ⟨0, _, Nat.zero_le _, rfl, rfl, by omega, by omega⟩
  case round =>
    obtain ⟨k, h, hk, rfl, rfl, h0, h1⟩ := hrel
    by_cases hlt : k < len
    · have hlt' : decide ((k : Int) < (len : Int)) = true := by simp; omega
      by_cases h4 : k < 4000
      · have h4' : decide ((k : Int) < 4000) = true := by simp; omega
        obtain ⟨b, off, z, rfl, hbl, hz, hz256⟩ := HC.out k hlt
        have hi0 : (0 : Int) ≤ (k : Int) := by omega
        have hi1 : (k : Int) < (len : Int) := by omega
        go_wp2
        go_round
        case rel => exact ⟨k + 1, _, by omega, by go_num, rfl, by omega, by omega⟩
        case measure => simp [intOf]; omega
      · have h4' : decide ((k : Int) < 4000) = false := by simp; omega
        go_wp2
        go_ret
        exact ⟨w.heap.size, rfl, (Below.refl _ _).alloc (Nat.le_refl _) _, Nat.le_refl _, 0, h, _, Nat.zero_le _, heap_alloc_new w _⟩
    · have hlt' : decide ((k : Int) < (len : Int)) = false := by simp; omega
      go_wp2
      go_ret
      exact ⟨w.heap.size, rfl, (Below.refl _ _).alloc (Nat.le_refl _) _, Nat.le_refl _, 0, h, _, Nat.zero_le _, heap_alloc_new w _⟩
theorem grownBy_then {a b c : World} {r : Option Nat} (h : a.grownBy b r) (k : Below a.heap.size b c) : a.grownBy c r :=
  ⟨k.os.trans h.os, k.tape.trans h.tape, k.output.trans h.output, Nat.le_trans h.size k.size, fun i hi hr => (k.block i hi).trans (h.block i hi hr)⟩
theorem cur_keep {w0 w w' : World} {g : Nat} {ao : Option Addr} {len cap B : Nat} (h : CurAt w0 w g ao len cap) (hb : Below B w w') (hB : g < B) : CurAt w0 w' g ao len cap := by
  obtain ⟨h1, h2, i, x, T, hi, hh⟩ := h
  exact ⟨h1.trans (hb.mono (by omega)), h2, i, x, T, hi, by rw [hb.block g hB]; exact hh⟩
theorem cur_lt {w0 w : World} {g : Nat} {ao : Option Addr} {len cap : Nat} (h : CurAt w0 w g ao len cap) : g < w.heap.size := by
  obtain ⟨_, _, i, x, T, _, hh⟩ := h
  rcases Nat.lt_or_ge g w.heap.size with h | h
  · exact h
  · rw [Array.getElem?_eq_none h] at hh; cases hh
theorem row_keep {w w' : World} {B g n : Nat} {e : TypeId} {size : Nat} {v : Value} {xs : List Value} (h : w.ownsRow B e size v n xs) (hg : w.grownBy w' (some g)) (hB : g < B) : w'.ownsRow B e size v n xs := by
  refine h.kept hg ?_
  cases hv : v.ownBlock with
  | none => exact .inl rfl
  | some k =>
    right
    intro e
    have := (h.lt k hv).1
    simp at e
    omega
theorem pickText_any (w0 w : World) (g b : Nat) (ao : Option Addr) (len cap n : Nat) (zs : List ByteArray) (hlen : len ≤ 1048576) (hcode : Code w0 ao len) (hc : CurAt w0 w g ao len cap) (hne : b ≠ g)
    (hzs : zs.length = n) (hn0 : 0 < n) (hn : n ≤ 1000) (hcells : ∀ j z, zs[j]? = some z → w.cell? ⟨b, j, none⟩ = some (.string z)) :
    Calls Tryz.prog 40 #[.pointer (some ⟨g, 0, none⟩), .slice (some ⟨b, 0, none⟩) n n] w fun e w' => ∃ z : ByteArray, e = .returned (.string z) ∧ z ∈ zs ∧ CurAt w0 w' g ao len cap ∧ w.grownBy w' (some g) := by
  have HC := hide hcode
  have HU := hide hc
  have HZ := hide hcells
  have HN := hide hzs
  clear hcode hc hcells hzs
  go_enter Tryz.func40, Tryz.ntmps40
  go_wp2_with fail
  refine (below_any w0 _ g ao len cap _ hlen (by omega) HC.out HU.out).mono ?_
  rintro e w1 ⟨x, rfl, hx, _, hc1, g1⟩
  have hxn : (x : Int) < (n : Int) := hx (by omega)
  have hx0 : (0 : Int) ≤ (x : Int) := by omega
  have hxl : x < zs.length := by rw [HN.out]; omega
  have hcell : w1.cell? ⟨b, x, none⟩ = some (.string zs[x]) := g1.cell (HZ.out x zs[x] (List.getElem?_eq_getElem hxl)) (by intro e; simp at e; exact hne e)
  have HU1 := hide hc1
  have G1 := hide g1
  have HM := hide (List.getElem_mem hxl)
  generalize zs[x] = Z at hcell HM
  clear hc1 g1 hx
  go_wp2
  go_ret
  exact ⟨Z, rfl, HM.out, HU1.out, G1.out⟩
theorem texts_cells {w : World} {b : Nat} {T : TypeId} (zs : List ByteArray) (h : w.heap[b]? = some (.cells (zs.map Value.string).toArray T (0, 0))) : ∀ j z, zs[j]? = some z → w.cell? ⟨b, j, none⟩ = some (.string z) := by
  intro j z hz
  rw [cell_of_row w b j _ _ (0, 0) h, List.getElem?_toArray, List.getElem?_map, hz]
  rfl
end Go.Proofs.YtifjneldjjmeaaaGreatDoor
