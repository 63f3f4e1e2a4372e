import Derived.Laws.MakeOwn
import Derived.Lib.SmallJoins
import Derived.OpenShut
import Derived.BigQuiet
import Derived.Deep.Upon
import Derived.Deep.RegionHeld3
import Derived.Deep.RegionLaw
import Derived.Deep.CutRange
import Derived.Test.YtifjneldjjmeaaaGreatDoorTx15
import Derived.Test.YtifjneldjjmeaaaGreatDoorTx6
import Derived.Test.YtifjneldjjmeaaaGreatDoorTx0
import Derived.Test.YtifjneldjjmeaaaGreatDoorTx2
import Derived.Test.YtifjneldjjmeaaaGreatDoorTx3
import Derived.Test.YtifjneldjjmeaaaGreatDoorTx1
set_option maxRecDepth 100000
set_option maxHeartbeats 1600000
namespace Go.Proofs.YtifjneldjjmeaaaGreatDoor
open Go.RowKit
def OnP (w : World) (R : List EntD × ByteArray) (e : Ending) (w' : World) : Prop := (∃ v, e = .returned (.tuple #[v, .string R.2, .bool true]) ∧ BuildE w' w.heap.size v R.1) ∧ Below w.heap.size w w'
theorem textsAt_tail {w : World} {b off : Nat} {x : ByteArray} {r : List ByteArray} (h : TextsAt w (some ⟨b, off, none⟩) (x :: r)) : TextsAt w (some ⟨b, off + 1, none⟩) r := by
  intro j hj
  obtain ⟨b', off', e, h1, h2⟩ := h (j + 1) (by simpa using hj)
  cases e
  exact ⟨b, off + 1, rfl, h1, by rw [show off + 1 + j = off + (j + 1) by omega]; exact h2⟩
theorem look_err {T : List EntD} {k : ByteArray} {kind : Int} {s : ByteArray} (h : (lookK T k kind).2.2 = some s) : s = wrongK := by
  unfold lookK at h
  cases hf : findE T k with
  | none => rw [hf] at h; cases h
  | some v =>
    simp only [hf] at h
    by_cases hk : v.kind = kind
    · rw [if_pos hk] at h; cases h
    · rw [if_neg hk] at h; exact (Option.some.inj h).symm
def ErrS (s : ByteArray) : Prop := s = wrongK ∨ s = notInt ∨ s = tooMuch
theorem errS_size {s : ByteArray} (h : ErrS s) : s.size ≤ 1048576 := by
  rcases h with rfl | rfl | rfl <;> decide
theorem put_errS {T : List EntD} {s : ByteArray} (h : putErr T = some s) : ErrS s := by
  rcases putErr_cases T with ⟨h2, -⟩ | ⟨h2, -⟩
  · rw [h2] at h; cases h
  · rw [h2] at h; exact .inr (.inr (Option.some.inj h).symm)
theorem getF_err {T : List EntD} {k s : ByteArray} (h : (getF T k).2 = some s) : ErrS s := by
  unfold getF at h
  cases hl : (lookK T k 1).2.2 with
  | some e =>
    rw [hl] at h
    have := look_err hl
    simp only at h
    rw [← Option.some.inj h]
    exact .inl this
  | none => rw [hl] at h; cases h
theorem getR_err {T : List EntD} {k s : ByteArray} (h : (getR T k).2.1 = some s) : ErrS s := getF_err h
theorem lenR_err {T : List EntD} {k s : ByteArray} (h : (lenR T k).2.1 = some s) : ErrS s := .inl (look_err h)
theorem setR_err {T : List EntD} {k x s : ByteArray} (h : (setR T k x).2.1 = some s) : ErrS s := put_errS h
theorem setNewF_err {T : List EntD} {k x s : ByteArray} (h : (setNewF T k x).2.1 = some s) : ErrS s := by
  unfold setNewF at h
  cases hb : findB T k with
  | true => rw [hb] at h; cases h
  | false => rw [hb] at h; exact put_errS h
theorem getSetF_err {T : List EntD} {k x s : ByteArray} (h : (getSetF T k x).2.1 = some s) : ErrS s := by
  unfold getSetF at h
  cases hg : (getF T k).2 with
  | some e =>
    rw [hg] at h
    have := getF_err hg
    simp only at h
    rw [← Option.some.inj h]
    exact this
  | none => rw [hg] at h; exact put_errS h
theorem addF_err {T : List EntD} {k x s : ByteArray} (h : (addF T k x).2.1 = some s) : ErrS s := by
  unfold addF at h
  cases hl : (lookK T k 1).2.2 with
  | some e =>
    rw [hl] at h
    have := look_err hl
    simp only at h
    rw [← Option.some.inj h]
    exact .inl this
  | none => rw [hl] at h; exact put_errS h
theorem setEachF_err : ∀ (n : Nat) (L : List ByteArray) (T : List EntD) (s : ByteArray), L.length ≤ n → (setEachF T L).1 = some s → ErrS s
  | _, [], T, s, _, h => by simp [setEachF] at h
  | _, [_], T, s, _, h => by simp [setEachF] at h
  | 0, _ :: _ :: _, _, _, hn, _ => absurd hn (by simp)
  | n + 1, k :: x :: r, T, s, hn, h => by
    rw [setEachF] at h
    cases hp : putErr (putT T k (txt x)) with
    | some e =>
      rw [hp] at h
      simp only at h
      rw [← Option.some.inj h]
      exact put_errS hp
    | none =>
      rw [hp] at h
      exact setEachF_err n r _ s (by simp at hn; omega) h
theorem onGET_any (T : List EntD) (nm a : ByteArray) (ao : Option Addr) (cap b0 off c0 : Nat) (w : World) (x : Value) (hT : TabR T) (hes : EntriesAt w ao T) (hts : TextsAt w (some ⟨b0, off, none⟩) [nm, a]) (hz : ∀ y ∈ [nm, a], y.size ≤ 1000000) (hc : 2 ≤ c0) (hnm : upT nm = ⟨#[71, 69, 84]⟩) (hx : OthV w x) (hv : RVars w) :
    Calls Tryz.prog 10 #[.slice ao T.length cap, .slice (some ⟨b0, off, none⟩) 2 c0] w (OnP w (outT T (getR T a).1 (getR T a).2.1 (getR T a).2.2)) := by
  have hok : okS [nm, a] = true := by
    show (inB cmdsL (upT nm) && takesK (kindS (upT nm)) (1 : Nat)) = true
    rw [hnm]
    decide +kernel
  refine onTexts_any T [nm, a] ao cap b0 off c0 w x _ _ _ hT hes hts hz (by simp) (by simp) hc hok hx (fun s h => errS_size (getR_err h)) ?_
  intro w1 b hW hB
  exact doGET_any T (upT nm) [a] (some ⟨b0, off + 1, none⟩) (c0 - 1) w w1 b 61 (by decide) (by decide) hT hW hv hB (textsAt_tail hts) (fun y hy => hz y (List.mem_cons_of_mem _ hy)) (by simp) (by rw [hnm]; decide +kernel)
theorem onSET_any (T : List EntD) (nm a c : ByteArray) (ao : Option Addr) (cap b0 off c0 : Nat) (w : World) (x : Value) (hT : TabR T) (hes : EntriesAt w ao T) (hts : TextsAt w (some ⟨b0, off, none⟩) [nm, a, c]) (hz : ∀ y ∈ [nm, a, c], y.size ≤ 1000000) (hc : 3 ≤ c0) (hnm : upT nm = ⟨#[83, 69, 84]⟩) (hx : OthV w x) (hv : RVars w) :
    Calls Tryz.prog 10 #[.slice ao T.length cap, .slice (some ⟨b0, off, none⟩) 3 c0] w (OnP w (outT T (setR T a c).1 (setR T a c).2.1 (setR T a c).2.2)) := by
  have hok : okS [nm, a, c] = true := by
    show (inB cmdsL (upT nm) && takesK (kindS (upT nm)) (2 : Nat)) = true
    rw [hnm]
    decide +kernel
  refine onTexts_any T [nm, a, c] ao cap b0 off c0 w x _ _ _ hT hes hts hz (by simp) (by simp) hc hok hx (fun s h => errS_size (setR_err h)) ?_
  intro w1 b hW hB
  exact doSET_any T (upT nm) [a, c] (some ⟨b0, off + 1, none⟩) (c0 - 1) w w1 b 61 (by decide) (by decide) hT hW hv hB (textsAt_tail hts) (fun y hy => hz y (List.mem_cons_of_mem _ hy)) (by simp) (by rw [hnm]; decide +kernel) (by rw [hnm]; decide +kernel)
theorem onSETNX_any (T : List EntD) (nm a c : ByteArray) (ao : Option Addr) (cap b0 off c0 : Nat) (w : World) (x : Value) (hT : TabR T) (hes : EntriesAt w ao T) (hts : TextsAt w (some ⟨b0, off, none⟩) [nm, a, c]) (hz : ∀ y ∈ [nm, a, c], y.size ≤ 1000000) (hc : 3 ≤ c0) (hnm : upT nm = ⟨#[83, 69, 84, 78, 88]⟩) (hx : OthV w x) (hv : RVars w) :
    Calls Tryz.prog 10 #[.slice ao T.length cap, .slice (some ⟨b0, off, none⟩) 3 c0] w (OnP w (outT T (setNewF T a c).1 (setNewF T a c).2.1 (setNewF T a c).2.2)) := by
  have hok : okS [nm, a, c] = true := by
    show (inB cmdsL (upT nm) && takesK (kindS (upT nm)) (2 : Nat)) = true
    rw [hnm]
    decide +kernel
  refine onTexts_any T [nm, a, c] ao cap b0 off c0 w x _ _ _ hT hes hts hz (by simp) (by simp) hc hok hx (fun s h => errS_size (setNewF_err h)) ?_
  intro w1 b hW hB
  exact doSETNX_any T (upT nm) [a, c] (some ⟨b0, off + 1, none⟩) (c0 - 1) w w1 b 61 (by decide) (by decide) hT hW hv hB (textsAt_tail hts) (fun y hy => hz y (List.mem_cons_of_mem _ hy)) (by simp) (by rw [hnm]; decide +kernel) (by rw [hnm]; decide +kernel) (by rw [hnm]; decide +kernel)
theorem onGETSET_any (T : List EntD) (nm a c : ByteArray) (ao : Option Addr) (cap b0 off c0 : Nat) (w : World) (x : Value) (hT : TabR T) (hes : EntriesAt w ao T) (hts : TextsAt w (some ⟨b0, off, none⟩) [nm, a, c]) (hz : ∀ y ∈ [nm, a, c], y.size ≤ 1000000) (hc : 3 ≤ c0) (hnm : upT nm = ⟨#[71, 69, 84, 83, 69, 84]⟩) (hx : OthV w x) (hv : RVars w) :
    Calls Tryz.prog 10 #[.slice ao T.length cap, .slice (some ⟨b0, off, none⟩) 3 c0] w (OnP w (outT T (getSetF T a c).1 (getSetF T a c).2.1 (getSetF T a c).2.2)) := by
  have hok : okS [nm, a, c] = true := by
    show (inB cmdsL (upT nm) && takesK (kindS (upT nm)) (2 : Nat)) = true
    rw [hnm]
    decide +kernel
  refine onTexts_any T [nm, a, c] ao cap b0 off c0 w x _ _ _ hT hes hts hz (by simp) (by simp) hc hok hx (fun s h => errS_size (getSetF_err h)) ?_
  intro w1 b hW hB
  exact doGETSET_any T (upT nm) [a, c] (some ⟨b0, off + 1, none⟩) (c0 - 1) w w1 b 61 (by decide) (by decide) hT hW hv hB (textsAt_tail hts) (fun y hy => hz y (List.mem_cons_of_mem _ hy)) (by simp) (by rw [hnm]; decide +kernel) (by rw [hnm]; decide +kernel) (by rw [hnm]; decide +kernel) (by rw [hnm]; decide +kernel)
theorem onAPPEND_any (T : List EntD) (nm a c : ByteArray) (ao : Option Addr) (cap b0 off c0 : Nat) (w : World) (x : Value) (hT : TabR T) (hes : EntriesAt w ao T) (hts : TextsAt w (some ⟨b0, off, none⟩) [nm, a, c]) (hz : ∀ y ∈ [nm, a, c], y.size ≤ 1000000) (hc : 3 ≤ c0) (hnm : upT nm = ⟨#[65, 80, 80, 69, 78, 68]⟩) (hx : OthV w x) (hv : RVars w) :
    Calls Tryz.prog 10 #[.slice ao T.length cap, .slice (some ⟨b0, off, none⟩) 3 c0] w (OnP w (outT T (addF T a c).1 (addF T a c).2.1 (addF T a c).2.2)) := by
  have hok : okS [nm, a, c] = true := by
    show (inB cmdsL (upT nm) && takesK (kindS (upT nm)) (2 : Nat)) = true
    rw [hnm]
    decide +kernel
  refine onTexts_any T [nm, a, c] ao cap b0 off c0 w x _ _ _ hT hes hts hz (by simp) (by simp) hc hok hx (fun s h => errS_size (addF_err h)) ?_
  intro w1 b hW hB
  exact doAPPEND_any T (upT nm) [a, c] (some ⟨b0, off + 1, none⟩) (c0 - 1) w w1 b 61 (by decide) (by decide) hT hW hv hB (textsAt_tail hts) (fun y hy => hz y (List.mem_cons_of_mem _ hy)) (by simp) (by rw [hnm]; decide +kernel) (by rw [hnm]; decide +kernel) (by rw [hnm]; decide +kernel) (by rw [hnm]; decide +kernel) (by rw [hnm]; decide +kernel)
theorem onSTRLEN_any (T : List EntD) (nm a : ByteArray) (ao : Option Addr) (cap b0 off c0 : Nat) (w : World) (x : Value) (hT : TabR T) (hes : EntriesAt w ao T) (hts : TextsAt w (some ⟨b0, off, none⟩) [nm, a]) (hz : ∀ y ∈ [nm, a], y.size ≤ 1000000) (hc : 2 ≤ c0) (hnm : upT nm = ⟨#[83, 84, 82, 76, 69, 78]⟩) (hx : OthV w x) (hv : RVars w) :
    Calls Tryz.prog 10 #[.slice ao T.length cap, .slice (some ⟨b0, off, none⟩) 2 c0] w (OnP w (outT T (lenR T a).1 (lenR T a).2.1 (lenR T a).2.2)) := by
  have hok : okS [nm, a] = true := by
    show (inB cmdsL (upT nm) && takesK (kindS (upT nm)) (1 : Nat)) = true
    rw [hnm]
    decide +kernel
  refine onTexts_any T [nm, a] ao cap b0 off c0 w x _ _ _ hT hes hts hz (by simp) (by simp) hc hok hx (fun s h => errS_size (lenR_err h)) ?_
  intro w1 b hW hB
  exact doSTRLEN_any T (upT nm) [a] (some ⟨b0, off + 1, none⟩) (c0 - 1) w w1 b 61 (by decide) (by decide) hT hW hv hB (textsAt_tail hts) (fun y hy => hz y (List.mem_cons_of_mem _ hy)) (by simp) (by rw [hnm]; decide +kernel) (by rw [hnm]; decide +kernel) (by rw [hnm]; decide +kernel) (by rw [hnm]; decide +kernel) (by rw [hnm]; decide +kernel) (by rw [hnm]; decide +kernel)
theorem onMGET_any (T : List EntD) (nm : ByteArray) (L : List ByteArray) (ao : Option Addr) (cap b0 off c0 : Nat) (w : World) (x : Value) (hT : TabR T) (hes : EntriesAt w ao T) (hts : TextsAt w (some ⟨b0, off, none⟩) (nm :: L)) (hz : ∀ y ∈ nm :: L, y.size ≤ 1000000) (hl : 1 ≤ L.length) (hl2 : L.length ≤ 1000000) (hc : L.length + 1 ≤ c0) (hnm : upT nm = ⟨#[77, 71, 69, 84]⟩) (hx : OthV w x) (hv : RVars w) :
    Calls Tryz.prog 10 #[.slice ao T.length cap, .slice (some ⟨b0, off, none⟩) (L.length + 1) c0] w (OnP w (T, arrB (L.map (tellF T)))) := by
  have hok : okS (nm :: L) = true := by
    show (inB cmdsL (upT nm) && takesK (kindS (upT nm)) (L.length : Int)) = true
    rw [hnm]
    have h1 : inB cmdsL ⟨#[77, 71, 69, 84]⟩ = true := by decide +kernel
    have h2 : kindS ⟨#[77, 71, 69, 84]⟩ = 4 := by decide +kernel
    rw [h1, h2]
    simp [takesK]
    omega
  refine onTexts_any T (nm :: L) ao cap b0 off c0 w x (mgetR T L).1 (mgetR T L).2.1 (mgetR T L).2.2 hT hes hts hz (by simp; omega) (by simp; omega) (by simpa using hc) hok hx (fun s h => by cases h) ?_
  intro w1 b hW hB
  exact doMGET_any T (upT nm) L (some ⟨b0, off + 1, none⟩) (c0 - 1) w w1 b 61 (by decide) (by decide) hT hW hv hB (textsAt_tail hts) (fun y hy => hz y (List.mem_cons_of_mem _ hy)) (by omega) (by rw [hnm]; decide +kernel) (by rw [hnm]; decide +kernel) (by rw [hnm]; decide +kernel) (by rw [hnm]; decide +kernel) (by rw [hnm]; decide +kernel) (by rw [hnm]; decide +kernel) (by rw [hnm]; decide +kernel) (by rw [hnm]; decide +kernel) (by rw [hnm]; decide +kernel) (by rw [hnm]; decide +kernel) (by rw [hnm]; decide +kernel)
theorem onMSET_any (T : List EntD) (nm : ByteArray) (L : List ByteArray) (n : Nat) (ao : Option Addr) (cap b0 off c0 : Nat) (w : World) (x : Value) (hT : TabR T) (hes : EntriesAt w ao T) (hts : TextsAt w (some ⟨b0, off, none⟩) (nm :: L)) (hz : ∀ y ∈ nm :: L, y.size ≤ 1000000) (hn : L.length = 2 * n) (h1 : 1 ≤ n) (h3 : n ≤ 3) (hc : L.length + 1 ≤ c0) (hnm : upT nm = ⟨#[77, 83, 69, 84]⟩) (hx : OthV w x) (hv : RVars w) :
    Calls Tryz.prog 10 #[.slice ao T.length cap, .slice (some ⟨b0, off, none⟩) (L.length + 1) c0] w (OnP w (outT T (msetR T L).1 (msetR T L).2.1 (msetR T L).2.2)) := by
  have hok : okS (nm :: L) = true := by
    show (inB cmdsL (upT nm) && takesK (kindS (upT nm)) (L.length : Int)) = true
    rw [hnm, hn]
    rcases (by omega : n = 1 ∨ n = 2 ∨ n = 3) with rfl | rfl | rfl <;> decide +kernel
  refine onTexts_any T (nm :: L) ao cap b0 off c0 w x _ _ _ hT hes hts hz (by simp; omega) (by simp; omega) (by simpa using hc) hok hx (fun s h => errS_size (setEachF_err L.length L T s (Nat.le_refl _) h)) ?_
  intro w1 b hW hB
  exact doMSET_any T (upT nm) L (some ⟨b0, off + 1, none⟩) (c0 - 1) w w1 b 61 (by decide) (by decide) hT hW hv hB (textsAt_tail hts) (fun y hy => hz y (List.mem_cons_of_mem _ hy)) n hn (by omega) (by rw [hnm]; decide +kernel) (by rw [hnm]; decide +kernel) (by rw [hnm]; decide +kernel) (by rw [hnm]; decide +kernel) (by rw [hnm]; decide +kernel) (by rw [hnm]; decide +kernel) (by rw [hnm]; decide +kernel) (by rw [hnm]; decide +kernel) (by rw [hnm]; decide +kernel) (by rw [hnm]; decide +kernel) (by rw [hnm]; decide +kernel) (by rw [hnm]; decide +kernel)
theorem onLLEN_any (T : List EntD) (nm a : ByteArray) (ao : Option Addr) (cap b0 off c0 : Nat) (w : World) (x : Value) (hT : TabR T) (hes : EntriesAt w ao T) (hts : TextsAt w (some ⟨b0, off, none⟩) [nm, a]) (hz : ∀ y ∈ [nm, a], y.size ≤ 1000000) (hc : 2 ≤ c0) (hnm : upT nm = ⟨#[76, 76, 69, 78]⟩) (hx : OthV w x) :
    Calls Tryz.prog 10 #[.slice ao T.length cap, .slice (some ⟨b0, off, none⟩) 2 c0] w fun e w' => e = .returned (.tuple #[.slice none 0 0, .string ⟨#[]⟩, .bool false]) ∧ Below w.heap.size w w' := by
  have hok : okS [nm, a] = true := by
    show (inB cmdsL (upT nm) && takesK (kindS (upT nm)) (1 : Nat)) = true
    rw [hnm]
    decide +kernel
  refine onTexts_other T [nm, a] ao cap b0 off c0 w x hT hes hts hz (by simp) (by simp) hc hok hx ?_
  intro w1 b sv hB
  obtain ⟨⟨ad, rfl⟩, h1, h2⟩ := hx
  exact doOther_any b (upT nm) sv _ w1 ⟨_, _, rfl⟩ ((hB.cell (p := ⟨0, 0, none⟩) h2).trans h1) (by rw [hnm]; decide +kernel) (by rw [hnm]; decide +kernel) (by rw [hnm]; decide +kernel) (by rw [hnm]; decide +kernel) (by rw [hnm]; decide +kernel) (by rw [hnm]; decide +kernel) (by rw [hnm]; decide +kernel) (by rw [hnm]; decide +kernel) (by rw [hnm]; decide +kernel) (by rw [hnm]; decide +kernel) (by rw [hnm]; decide +kernel) (by rw [hnm]; decide +kernel)
def qB : ByteArray := ⟨#[113]⟩
theorem putErr_ok {T : List EntD} (h : TabR T) : putErr T = none := by
  rcases putErr_cases T with ⟨h1, -⟩ | ⟨-, h2⟩
  · exact h1
  · exact absurd h h2
theorem othV_keep {w w' : World} {x : Value} (h : OthV w x) (hb : Below w.heap.size w w') : OthV w' x :=
  ⟨h.1, (hb.cell (p := ⟨0, 0, none⟩) h.2.2).trans h.2.1, Nat.lt_of_lt_of_le h.2.2 hb.size⟩
def qqB : ByteArray := ⟨#[113, 113]⟩
def noneB : ByteArray := ⟨#[110, 111, 110, 101]⟩
def FreeT (T : List EntD) : Prop := TabR T ∧ T.length ≤ 18 ∧ (∀ e ∈ T, e.key ≠ qB) ∧ (∀ e ∈ T, e.key ≠ qqB) ∧ ∀ e ∈ T, e.key.size ≤ 3
theorem txt_ok {x : ByteArray} (h : x.size ≤ 60) : ValR (txt x) := ⟨(by decide : (0 : Int) ≤ 0), (by decide : (0 : Int) ≤ 100000), .inl ⟨rfl, rfl, h⟩⟩
theorem look_at {T : List EntD} {k : ByteArray} {v : ValD} (h : findE T k = some v) (hk : v.kind = 1) : lookK T k 1 = (v, true, none) := by
  unfold lookK
  rw [h]
  simp only [hk, if_true]
theorem get_at {T : List EntD} {k : ByteArray} {v : ValD} (h : findE T k = some v) (hk : v.kind = 1) : getF T k = (bulkB v.text, none) := by
  unfold getF
  rw [look_at h hk]
  rfl
theorem get_none {T : List EntD} {k : ByteArray} (h : findE T k = none) : getF T k = (nilB, none) := by
  unfold getF lookK
  rw [h]
  rfl
theorem put_right {T : List EntD} {k : ByteArray} {v : ValD} (h : TabR T) (hk : 1 ≤ k.size ∧ k.size ≤ 20) (hv : ValR v) (hl : T.length + 1 ≤ 20) : TabR (putT T k v) := by
  rw [putT_ok h]
  refine ⟨⟨hk, hv⟩, ?_⟩
  rw [putT_len (tab_pw h)]
  split <;> omega
theorem set_out {T : List EntD} {k x : ByteArray} (h : TabR (putT T k (txt x))) : outT T (setR T k x).1 (setR T k x).2.1 (setR T k x).2.2 = (putT T k (txt x), lineB ⟨#[43]⟩ ⟨#[79, 75]⟩) := by
  unfold setR
  rw [putErr_ok h]
  rfl
theorem get_out {T : List EntD} {k : ByteArray} {v : ValD} (h : findE T k = some v) (hk : v.kind = 1) : outT T (getR T k).1 (getR T k).2.1 (getR T k).2.2 = (T, bulkB v.text) := by
  unfold getR
  rw [get_at h hk]
  rfl
theorem len_out {T : List EntD} {k : ByteArray} {v : ValD} (h : findE T k = some v) (hk : v.kind = 1) : outT T (lenR T k).1 (lenR T k).2.1 (lenR T k).2.2 = (T, hdB ⟨#[58]⟩ v.text.size) := by
  unfold lenR
  rw [look_at h hk]
  rfl
theorem add_out {T : List EntD} {k more : ByteArray} {v : ValD} (h : findE T k = some v) (hk : v.kind = 1) (hr : TabR (putT T k ⟨v.kind, v.til, v.text ++ more, v.items⟩)) :
    outT T (addF T k more).1 (addF T k more).2.1 (addF T k more).2.2 = (putT T k ⟨v.kind, v.til, v.text ++ more, v.items⟩, hdB ⟨#[58]⟩ (v.text ++ more).size) := by
  have e : addF T k more = (hdB ⟨#[58]⟩ (v.text ++ more).size, none, putT T k ⟨v.kind, v.til, v.text ++ more, v.items⟩) := by
    unfold addF
    rw [look_at h hk]
    simp only [if_true]
    rw [putErr_ok hr]
  rw [e]
  rfl
theorem getSet_out {T : List EntD} {k x : ByteArray} {v : ValD} (h : findE T k = some v) (hk : v.kind = 1) (hr : TabR (putT T k (txt x))) :
    outT T (getSetF T k x).1 (getSetF T k x).2.1 (getSetF T k x).2.2 = (putT T k (txt x), bulkB v.text) := by
  have e : getSetF T k x = (bulkB v.text, none, putT T k (txt x)) := by
    unfold getSetF
    rw [get_at h hk]
    simp only
    rw [putErr_ok hr]
  rw [e]
  rfl
theorem setNew_there {T : List EntD} {k x : ByteArray} {v : ValD} (h : findE T k = some v) : outT T (setNewF T k x).1 (setNewF T k x).2.1 (setNewF T k x).2.2 = (T, hdB ⟨#[58]⟩ 0) := by
  have e : setNewF T k x = (hdB ⟨#[58]⟩ 0, none, T) := by
    unfold setNewF findB
    rw [h]
    rfl
  rw [e]
  rfl
theorem setNew_new {T : List EntD} {k x : ByteArray} (h : findE T k = none) (hr : TabR (putT T k (txt x))) : outT T (setNewF T k x).1 (setNewF T k x).2.1 (setNewF T k x).2.2 = (putT T k (txt x), hdB ⟨#[58]⟩ 1) := by
  have e : setNewF T k x = (hdB ⟨#[58]⟩ 1, none, putT T k (txt x)) := by
    unfold setNewF findB
    rw [h, putErr_ok hr]
    rfl
  rw [e]
  rfl
theorem mset_out {T : List EntD} {k x k2 x2 : ByteArray} (h1 : TabR (putT T k (txt x))) (h2 : TabR (putT (putT T k (txt x)) k2 (txt x2))) :
    outT T (msetR T [k, x, k2, x2]).1 (msetR T [k, x, k2, x2]).2.1 (msetR T [k, x, k2, x2]).2.2 = (putT (putT T k (txt x)) k2 (txt x2), lineB ⟨#[43]⟩ ⟨#[79, 75]⟩) := by
  have e : setEachF T [k, x, k2, x2] = (none, putT (putT T k (txt x)) k2 (txt x2)) := by
    simp only [setEachF, putErr_ok h1, putErr_ok h2]
  unfold msetR
  rw [e]
  rfl
theorem tell_at {T : List EntD} {k : ByteArray} {v : ValD} (h : findE T k = some v) (hk : v.kind = 1) : tellF T k = bulkB v.text := by
  unfold tellF
  rw [get_at h hk]
theorem tell_none {T : List EntD} {k : ByteArray} (h : findE T k = none) : tellF T k = nilB := by
  unfold tellF
  rw [get_none h]
theorem ba_ne {a b : ByteArray} (h : a.size ≠ b.size) : a ≠ b := fun e => h (by rw [e])
theorem free_facts {T : List EntD} (h : FreeT T) {x : ByteArray} (hx : x.size ≤ 58) :
    ∃ (A B D E : List EntD), TabR A ∧ TabR B ∧ TabR D ∧ TabR E ∧ A = putT T qB (txt x) ∧ B = putT A qB ⟨1, 0, x ++ ⟨#[33, 33]⟩, []⟩ ∧ D = putT T qqB (txt ⟨#[122]⟩) ∧ D.length = T.length + 1 ∧ E = putT (putT T qB (txt ⟨#[49]⟩)) qqB (txt ⟨#[50]⟩) ∧
      TabR (putT T qB (txt ⟨#[49]⟩)) ∧ TabR (putT B qB (txt ⟨#[122]⟩)) ∧ findE A qB = some (txt x) ∧ findE B qB = some ⟨1, 0, x ++ ⟨#[33, 33]⟩, []⟩ ∧ findE T qqB = none ∧
      findE E qqB = some (txt ⟨#[50]⟩) ∧ findE E noneB = none ∧ findE E qB = some (txt ⟨#[49]⟩) := by
  obtain ⟨hT, hl, hq, hqq, h3⟩ := h
  have hs := tab_pw hT
  have kq : 1 ≤ qB.size ∧ qB.size ≤ 20 := by decide
  have kqq : 1 ≤ qqB.size ∧ qqB.size ≤ 20 := by decide
  have fq : findE T qB = none := find_none T qB hq
  have fqq : findE T qqB = none := find_none T qqB hqq
  have nq : qB ≠ qqB := ba_ne (by decide)
  have n1 : noneB ≠ qB := ba_ne (by decide)
  have n2 : noneB ≠ qqB := ba_ne (by decide)
  have fn : findE T noneB = none := find_none T noneB (fun e he => ba_ne (by have := h3 e he; have h4 : noneB.size = 4 := rfl; omega))
  have hxx : (x ++ ⟨#[33, 33]⟩ : ByteArray).size ≤ 60 := by
    rw [ByteArray.size_append]
    have : (⟨#[33, 33]⟩ : ByteArray).size = 2 := rfl
    omega
  have hA : TabR (putT T qB (txt x)) := put_right hT kq (txt_ok (by omega)) (by omega)
  have lA : (putT T qB (txt x)).length = T.length + 1 := by rw [putT_len hs, fq]; rfl
  have fA : findE (putT T qB (txt x)) qB = some (txt x) := putT_here T qB _ hs
  have vB : ValR ⟨1, 0, x ++ ⟨#[33, 33]⟩, []⟩ := ⟨(by decide : (0 : Int) ≤ 0), (by decide : (0 : Int) ≤ 100000), .inl ⟨rfl, rfl, hxx⟩⟩
  have hB : TabR (putT (putT T qB (txt x)) qB ⟨1, 0, x ++ ⟨#[33, 33]⟩, []⟩) := put_right hA kq vB (by omega)
  have lB : (putT (putT T qB (txt x)) qB ⟨1, 0, x ++ ⟨#[33, 33]⟩, []⟩).length = T.length + 1 := by rw [putT_len (tab_pw hA), fA, lA]; rfl
  have hD : TabR (putT T qqB (txt ⟨#[122]⟩)) := put_right hT kqq (txt_ok (by decide)) (by omega)
  have h1 : TabR (putT T qB (txt ⟨#[49]⟩)) := put_right hT kq (txt_ok (by decide)) (by omega)
  have l1 : (putT T qB (txt ⟨#[49]⟩)).length = T.length + 1 := by rw [putT_len hs, fq]; rfl
  have hE : TabR (putT (putT T qB (txt ⟨#[49]⟩)) qqB (txt ⟨#[50]⟩)) := put_right h1 kqq (txt_ok (by decide)) (by omega)
  refine ⟨_, _, _, _, hA, hB, hD, hE, rfl, rfl, rfl, by rw [putT_len hs, fqq]; rfl, rfl, h1, put_right hB kq (txt_ok (by decide)) (by omega), fA, putT_here _ qB _ (tab_pw hA), fqq, putT_here _ qqB _ (tab_pw h1), ?_, ?_⟩
  · rw [putT_there (tab_pw h1) n2, putT_there hs n1]
    exact fn
  · rw [putT_there (tab_pw h1) nq]
    exact putT_here T qB _ hs
theorem drawArgs_any (w : World) (ao : Option Addr) (len cap : Nat) (hlen : len ≤ 1048576) (hcode : Code w ao len) :
    Calls Tryz.prog 8 #[.slice ao len cap] w fun e w' => (∃ (T : List EntD) (ta : Option Addr) (tc y : Nat) (a : Option Addr) (n c : Nat), e = .returned (.tuple #[.slice ta T.length tc, .int .i64 (y : Int), .slice a n c]) ∧ T.length ≤ tc ∧ y < 30 ∧ TabR T ∧ (∀ e ∈ T, KeyQ e.key) ∧ EntriesAt w' ta T) ∧ Below w.heap.size w w' := by
  have HNW := hide (new_any w ao len cap hlen hcode)
  have HTA := hide (fun W g (h : CurAt w W g ao len cap) => l10TableQ_any w W g ao len cap hlen hcode h)
  have HBE := hide (fun W g (h : CurAt w W g ao len cap) => below_any w W g ao len cap 30 hlen (by decide) hcode h)
  have HAR := hide (fun W g (h : CurAt w W g ao len cap) => l14Args_any w W g ao len cap hlen hcode h)
  clear hcode
  go_enter Tryz.func8, Tryz.ntmps8
  go_wp2_with fail
  refine HNW.out.mono ?_
  rintro e w1 ⟨g, rfl, c1⟩
  have C1 := hide c1
  clear c1 HNW
  go_wp2_with fail
  refine (HTA.out _ g C1.out).mono ?_
  rintro e w2 ⟨⟨es, v, rfl, hes, -, hks, r2⟩, c2, g2⟩
  have hg1 := cur_lt C1.out
  have HES := hide (And.intro hes hks)
  have hl20 : es.length ≤ 20 := hes.1
  obtain ⟨av, cv, rfl⟩ := buildE_form r2
  have hcap := buildE_cap r2
  have C2 := hide c2
  have R2 := hide (buildE_row r2)
  have hs2 := g2.size
  clear c2 g2 r2 hes hks
  go_wp2_with fail
  refine (HBE.out _ g C2.out).mono ?_
  rintro e w3 ⟨y, rfl, hy, -, c3, g3⟩
  have hy30 : (y : Int) < 30 := hy (by decide)
  have C3 := hide c3
  have G3 := hide g3
  have hs3 := g3.size
  clear c3 g3 hy
  go_wp2_with fail
  refine (specCmds_row _).mono ?_
  rintro e w4 ⟨vl, rfl, rl, b4⟩
  obtain ⟨al, cl, rfl, hal⟩ := rowText_at rl
  obtain ⟨lb, rfl⟩ : ∃ lb, al = some ⟨lb, 0, none⟩ := by
    rcases rl with ⟨-, h⟩ | ⟨gl, capl, Cl, e, -⟩
    · cases h
    · cases e
      exact ⟨gl, rfl⟩
  have C4 := hide (cur_keep C3.out b4 (Nat.lt_of_lt_of_le hg1 (Nat.le_trans hs2 hs3)))
  have HROW4 := hide (rowEnt_below (rowEnt_keep R2.out (fun b hb1 hb2 => G3.out.block b hb2 (by simp; omega))) b4)
  have HLI := hide (rowText_le rl (show w1.heap.size ≤ w3.heap.size from Nat.le_trans hs2 hs3))
  have hb4 := hide b4
  clear b4 rl hal R2 G3
  have HC := hide (HAR.out w4 g C4.out w1.heap.size hg1 lb cl HLI.out es av cv HROW4.out (by omega))
  go_wp2_with fail
  refine HC.out.mono ?_
  rintro e w5 ⟨⟨a, n, c, rfl⟩, s5⟩
  have HE5 := hide (rowEnt_rows (rowEnt_keep HROW4.out (fun b hb1 hb2 => s5.2.block b hb2 (by simp; omega)))).2
  have B5 := hide s5.1.1
  clear s5 HC
  go_wp2
  refine bodyPost_ret (v := .tuple #[.slice av es.length cv, .int .i64 (y : Int), .slice a n c]) (by simp [results, Tryz.results8, go_sem]) rfl ?_
  exact ⟨⟨es, av, cv, y, a, n, c, rfl, hcap, by omega, HES.out.1, HES.out.2, HE5.out⟩, B5.out⟩
theorem free_of {T : List EntD} (h : TabR T) (hk : ∀ e ∈ T, KeyQ e.key) (hl : T.length ≤ 18) : FreeT T :=
  ⟨h, hl, fun e he e2 => (hk e he).2.1 (by rw [e2]; rfl), fun e he e2 => (hk e he).2.2 (by rw [e2]; rfl), fun e he => (hk e he).1⟩
theorem tab_take {T : List EntD} (h : TabR T) (n : Nat) : TabR (T.take n) := by
  rw [tabR_iff]
  refine ⟨by rw [List.length_take]; have := h.1; omega, fun e he => tab_all h e (List.mem_of_mem_take he), fun j hj => ?_⟩
  have hj' : j + 1 < (T.take n).length := by simpa using hj
  rw [List.length_take] at hj'
  simpa using List.pairwise_iff_getElem.1 (tab_pw h) j (j + 1) (by omega) (by omega) (by omega)
theorem entriesAt_take {w : World} {a : Option Addr} {T : List EntD} (h : EntriesAt w a T) (n : Nat) : EntriesAt w a (T.take n) := by
  intro j hj
  have hj2 : j < T.length := by rw [List.length_take] at hj; omega
  have := h j hj2
  rw [List.getElem_take]
  exact this
structure ChangeD where
  key : ByteArray
  value : ByteArray
  gone : Bool
theorem sameTexts_same (ts : List ByteArray) (ao ao2 : Option Addr) (cap cap2 : Nat) (w : World) (hl : ts.length ≤ maxLen) (h1 : TextsAt w ao ts) (h2 : TextsAt w ao2 ts) :
    Calls Tryz.prog 78 #[.slice ao ts.length cap, .slice ao2 ts.length cap2] w fun e w' => e = .returned (.bool true) ∧ Below w.heap.size w w' := by
  have H1 := hide h1
  have H2 := hide h2
  clear h1 h2
  unfold maxLen at hl
  have hne : (!((ts.length : Int) == (ts.length : Int))) = false := by simp
  go_enter Tryz.func78, Tryz.ntmps78
  go_wp2
  go_loopw [5] (fun ii wr => ∃ (k q : Nat), ii = .int .i64 k ∧ k ≤ ts.length ∧ wr = w.drewN q) (fun ii _ => ts.length - (intOf ii).toNat)
  case atStart => exact ⟨0, 0, rfl, Nat.zero_le _, rfl⟩
  case round =>
    obtain ⟨k, q, rfl, hk, rfl⟩ := hrel
    by_cases hlt : k < ts.length
    · have hlt' : decide ((k : Int) < (ts.length : Int)) = true := by simp; omega
      obtain ⟨b, off, rfl, hbw, hc0⟩ := H1.out k hlt
      obtain ⟨b', off', rfl, hbw', hd0⟩ := H2.out k hlt
      generalize ts[k] = F at hc0 hd0
      have hi0 : (0 : Int) ≤ (k : Int) := by omega
      have hi1 : (k : Int) < (ts.length : Int) := by omega
      have hee : (F.toList == F.toList) = true := beq_self_eq_true _
      go_wp2
      go_quiet (fail)
      go_wp2
      go_roundw
      case rel => exact ⟨k + 1, q + nq, by go_num, by omega, rfl⟩
      case measure => simp [intOf]; omega
    · have hlt' : decide ((k : Int) < (ts.length : Int)) = false := by simp; omega
      go_wp2
      go_ret
      exact ⟨rfl, drewN_below w q⟩
theorem sameVal_same (v : ValD) (ao ao2 : Option Addr) (cap cap2 : Nat) (w : World) (hl : v.items.length ≤ maxLen) (h1 : TextsAt w ao v.items) (h2 : TextsAt w ao2 v.items) :
    Calls Tryz.prog 38 #[.agg #[.int .i64 v.kind, .int .i64 v.til, .string v.text, .slice ao v.items.length cap], .agg #[.int .i64 v.kind, .int .i64 v.til, .string v.text, .slice ao2 v.items.length cap2]] w fun e w' => e = .returned (.bool true) ∧ Below w.heap.size w w' := by
  obtain ⟨k, u, t, ts⟩ := v
  simp only at hl h1 h2 ⊢
  have H1 := hide h1
  have H2 := hide h2
  clear h1 h2
  have e0 : (k == k) = true := beq_self_eq_true _
  have e1 : (u == u) = true := beq_self_eq_true _
  have e2 : (t.toList == t.toList) = true := beq_self_eq_true _
  have H0 : Hid (Below w.heap.size w ((w.alloc (.cells #[.int .i64 k, .int .i64 u, .string t, .slice ao ts.length cap] 38)).alloc (.cells #[.int .i64 k, .int .i64 u, .string t, .slice ao2 ts.length cap2] 38))) := ((Below.refl _ w).alloc (Nat.le_refl _) _).alloc (by simp) _
  go_enter Tryz.func38, Tryz.ntmps38
  go_wp2_with fail
  refine (sameTexts_same ts ao ao2 cap cap2 _ hl (textsAt_keep H1.out H0.out) (textsAt_keep H2.out H0.out)).mono ?_
  rintro e w1 ⟨rfl, b1⟩
  have HB : Hid (Below w.heap.size w w1) := H0.out.trans (b1.mono H0.out.size)
  clear b1
  go_wp2
  go_ret
  exact ⟨rfl, HB.out⟩
theorem quiet_run {P : Program} {C : World → Prop} {a : Act} {o : Oper} {K : Act → Prop} {v : Value} (hv : ∀ w, C w → (execOp a.eval o).run P w = .ok (.value v) w) (hk : K (a.put o.dst v)) : o.quiet P a C K :=
  ⟨v, fun w hw => by unfold Oper.quietAt; rw [hv w hw]; exact ⟨rfl, rfl⟩, hk⟩
theorem quiet_call {P : Program} {C : World → Prop} {a : Act} {o : Oper} {K : Act → Prop} {v : Value} {f : FuncId} {args : Array Value} (hv : ∀ w, C w → (execOp a.eval o).run P w = .ok (.enter f args) w) (hc : ∀ w, C w → Calls P f args w (fun e w'' => e = .returned v ∧ C w'')) (hk : K (a.put o.dst v)) : o.quiet P a C K :=
  ⟨v, fun w hw => by unfold Oper.quietAt; rw [hv w hw]; exact ⟨rfl, hc w hw⟩, hk⟩
structure WQ (P : Program) (ops : Array Oper) (C : World → Prop) (Q : Act → Prop) (l : List Oper) (a : Act) : Prop where
  out : wpQuiet P ops C Q l a
section
variable {P : Program} {ops : Array Oper} {C : World → Prop} {Q : Act → Prop} {rest : List Oper} {a : Act} {o : Oper} {v : Value}
theorem WQ.run (hw : Region.wanted o (yielded ops a.tmps) = true) (hv : ∀ w, C w → (execOp a.eval o).run P w = .ok (.value v) w) (h : WQ P ops C Q rest (a.put o.dst v)) : WQ P ops C Q (o :: rest) a :=
  ⟨BigFrame.wpQuiet_want hw (fun _ hK => quiet_run hv (hK _ h.out))⟩
theorem WQ.call {f : FuncId} {args : Array Value} (hw : Region.wanted o (yielded ops a.tmps) = true) (hv : ∀ w, C w → (execOp a.eval o).run P w = .ok (.enter f args) w) (hc : ∀ w, C w → Calls P f args w (fun e w'' => e = .returned v ∧ C w'')) (h : WQ P ops C Q rest (a.put o.dst v)) : WQ P ops C Q (o :: rest) a :=
  ⟨BigFrame.wpQuiet_want hw (fun _ hK => quiet_call hv hc (hK _ h.out))⟩
theorem WQ.nil (h : Q a) : WQ P ops C Q [] a := ⟨wpQuiet_nil h⟩
end
end Go.Proofs.YtifjneldjjmeaaaGreatDoor
