import Derived.Laws.Bits128
import Derived.Laws.MakeOwn
import Derived.Lib.SmallJoins
import Derived.OpenShut
import Derived.BigQuiet
import Derived.Deep.RegionLaw
import Derived.Deep.CutRange
import Derived.Deep.Upon
import Derived.Deep.RegionHeld3
import Derived.Test.YtifjneldjjmeaaaGreatDoorCn8
import Derived.Test.YtifjneldjjmeaaaGreatDoorCn10
import Derived.Test.YtifjneldjjmeaaaGreatDoorCn0
set_option maxRecDepth 100000
set_option maxHeartbeats 3200000
namespace Go.Proofs.YtifjneldjjmeaaaGreatDoor
open Go.RowKit
theorem textCommand_any (T : List EntD) (ts : List ByteArray) (ao : Option Addr) (cap : Nat) (b0 off c0 : Nat) (w0 w : World) (bx : Nat) (v0 : Value) (E : List Value) (x : Value) (r : ByteArray) (er : Option ByteArray) (T2 : List EntD)
    (h0 : Below w0.heap.size w0 w) (hBx : w0.heap.size ≤ bx) (hbx : w.heap[bx]? = some (.cells ⟨v0 :: E⟩ 61 (0, 0)))
    (hT : TabR T) (hes : EntriesAt w0 ao T) (hts : TextsAt w0 (some ⟨b0, off, none⟩) ts) (hz : ∀ y ∈ ts, y.size ≤ 1000000) (hl : 2 ≤ ts.length) (hl2 : ts.length ≤ 1048576) (hc : ts.length ≤ c0) (hok : okS ts = true) (hx : OthV w0 x) (her : ∀ s, er = some s → s.size ≤ 1048576)
    (hdo : ∀ w1, WorkS 61 w1 w0.heap.size bx T → Below w0.heap.size w0 w1 → Calls Tryz.prog 37 #[.pointer (some ⟨bx, 0, none⟩), .string (upT (ts[0]'(by omega))), .slice (some ⟨b0, off + 1, none⟩) (ts.length - 1) (c0 - 1)] w1 (DoP 61 w0.heap.size bx w1 r er T2)) :
    Calls Tryz.prog 36 #[.pointer (some ⟨bx, 0, none⟩), .slice ao T.length cap, .slice (some ⟨b0, off, none⟩) ts.length c0, .func (.func 37) #[.pointer (some ⟨bx, 0, none⟩)] #[]] w fun e w' => (∃ v, e = .returned (.tuple #[v, .string (outT T r er T2).2, .bool true]) ∧ BuildE w' w0.heap.size v (outT T r er T2).1) ∧ Below w0.heap.size w0 w' := by
  have hT20 := hT.1
  have hb0 := h0.size
  have hbw := obj_lt hbx
  have HTO := hide (implTableOk_any T ao cap w true (by simp [hT]) (by omega) (entriesAt_keep hes h0) (tab_ents hT))
  have HAR := hide (fun W (h : Below w0.heap.size w0 W) => implArityOk_any ts (some ⟨b0, off, none⟩) c0 W hl2 (textsAt_keep hts h) (fun y hy => by have := hz y hy; omega))
  rw [hok] at HAR
  have HOT := hide (fun W (h : Below w0.heap.size w0 W) => ownTable_any T ao cap W (by omega) (entriesAt_keep hes h) (tab_ents hT))
  have HU := hide (fun W => implUpper_any (ts[0]'(by omega)) W (by have := hz _ (List.getElem_mem (show 0 < ts.length by omega)); omega))
  have HDO := hide hdo
  have HX := hide hx
  have KC := hide (fun X (hX : Below w0.heap.size w0 X) => textsAt_keep hts hX 0 (by omega))
  have H0 := hide h0
  have HBX := hide hbx
  have HER := hide (fun W s (h : er = some s) => implFault_any s W (her s h))
  clear hT hes hts hz hok hx her hdo h0 hbx
  go_enter Tryz.func36, Tryz.ntmps36
  go_wp2_with fail
  refine HTO.out.mono ?_
  rintro e w1 ⟨rfl, b1⟩
  have B1 := hide (H0.out.trans (b1.mono hb0))
  have P1 := hide ((b1.block bx hbw).trans HBX.out)
  clear b1
  go_wp2_with fail
  refine (HAR.out _ B1.out).mono ?_
  rintro e w2 ⟨rfl, b2⟩
  have B2 := hide (B1.out.trans (b2.mono B1.out.size))
  have P2 := hide ((b2.block bx (obj_lt P1.out)).trans P1.out)
  clear b2
  go_wp2_with fail
  refine (HOT.out _ B2.out).mono ?_
  rintro e w3 ⟨⟨v3, rfl, hb3⟩, b3⟩
  have B3 := hide (B2.out.trans (b3.mono B2.out.size))
  have P3 := hide ((b3.block bx (obj_lt P2.out)).trans P2.out)
  obtain ⟨a3, c3, e3⟩ := buildE_form hb3
  subst e3
  have HB3 := hide (buildE_le hb3 B2.out.size)
  clear b3 hb3
  obtain ⟨x3, f3⟩ := box1w P3.out
  obtain ⟨wB, hwB⟩ : ∃ wB, wB = w3.setCell ⟨bx, 0, none⟩ (.slice a3 T.length c3) := ⟨_, rfl⟩
  have B4 : Hid (Below w0.heap.size w0 wB) := by rw [hwB]; exact B3.out.setCell (p := ⟨bx, 0, none⟩) hBx _
  have WK : Hid (WorkS 61 wB w0.heap.size bx T) := by
    rw [hwB]
    exact workS_first P3.out hBx HB3.out (by decide) (by decide)
  have hb4 := B4.out.size
  have KB := hide (fun X (hX : Below wB.heap.size wB X) => KC.out X (B4.out.trans (hX.mono hb4)))
  obtain ⟨b0', off', e0, hbw0, hc0⟩ := KB.out _ (Below.refl _ wB)
  cases e0
  rw [Nat.add_zero] at hc0
  have hN0 : 0 < ts.length := by omega
  have hN1 : (1 : Int) ≤ (ts.length : Int) := by omega
  have hc1 : ¬ (c0 = 1) := by omega
  have hc63 : ts.length ≤ 9223372036854775807 := by omega
  go_upto_region 4 with fail
  rw [← hwB]
  clear hwB x3 f3
  go_region_law (first | (go_simp; go_at_call 66; go_loud (refine (HU.out _).mono ?_; rintro e w5 ⟨rfl, b5⟩; have E5 : Hid (Below wB.heap.size wB w5) := (Below.refl _ wB).drew.trans b5; clear b5)) | (go_simp; go_at_call 37; go_loud (refine (HDO.out _ (workS_below WK.out E5.out) (B4.out.trans (E5.out.mono hb4))).mono ?_; rintro e w6 ⟨rfl, s6, b6⟩; have S6 := hide s6; have B6 := hide ((B4.out.trans (E5.out.mono hb4)).trans b6); clear s6 b6)))
  all_goals
    have HX6 := hide ((B6.out.cell (p := ⟨0, 0, none⟩) HX.out.2.2).trans HX.out.2.1)
    obtain ⟨⟨ax, hxx⟩, -⟩ := HX.out
    have hx6 := HX6.out
    rw [hxx] at hx6
    obtain ⟨hb6, v6, E6, hv6, hw6⟩ := S6.out
    obtain ⟨a6, c6, e6⟩ := buildE_form hw6
    subst e6
    obtain ⟨x6, -⟩ := box1w hv6
    have HW6 := hide hw6
    clear hw6 hv6 HX6 hxx
    cases er with
    | none =>
      simp only [errV]
      have hq := run_eql_iface_nil_left (P := Tryz.prog) w6 209 (.pointer (some ax)) Tryz.underlying100
      go_wp2_with (simp only [hq])
      refine bodyPost_ret (v := .tuple #[.slice a6 T2.length c6, .string r, .bool true]) (by simp [results, Tryz.results36, go_sem]) rfl ?_
      exact ⟨⟨_, rfl, HW6.out⟩, B6.out⟩
    | some s =>
      have HOT6 := hide (HOT.out w6 B6.out)
      have HF6 := hide (fun W => HER.out W s rfl)
      simp only [errV]
      have hq := run_eql_types (P := Tryz.prog) w6 143 209 (.string s) (.pointer (some ax)) Tryz.underlying100 (by decide)
      go_wp2_with (simp only [hq])
      refine HOT6.out.mono ?_
      rintro e w7 ⟨⟨v7, rfl, hb7⟩, b7⟩
      have B7 := hide (B6.out.trans (b7.mono B6.out.size))
      obtain ⟨a7, c7, e7⟩ := buildE_form hb7
      subst e7
      have HB7 := hide (buildE_le hb7 B6.out.size)
      clear b7 hb7 hq
      go_wp2_with fail
      refine (faultError_any s _).mono ?_
      rintro e w8 ⟨rfl, rfl⟩
      go_wp2_with fail
      refine (HF6.out _).mono ?_
      rintro e w9 ⟨rfl, b9⟩
      have HB9 := hide (buildE_below HB7.out b9)
      have B9 := hide (B7.out.trans (b9.mono B7.out.size))
      clear b9
      go_wp2
      refine bodyPost_ret (v := .tuple #[.slice a7 T.length c7, .string (lineB ⟨#[45]⟩ s), .bool true]) (by simp [results, Tryz.results36, go_sem]) rfl ?_
      exact ⟨⟨_, rfl, HB9.out⟩, B9.out⟩
theorem onTexts_any (T : List EntD) (ts : List ByteArray) (ao : Option Addr) (cap : Nat) (b0 off c0 : Nat) (w : World) (x : Value) (r : ByteArray) (er : Option ByteArray) (T2 : List EntD)
    (hT : TabR T) (hes : EntriesAt w ao T) (hts : TextsAt w (some ⟨b0, off, none⟩) ts) (hz : ∀ y ∈ ts, y.size ≤ 1000000) (hl : 2 ≤ ts.length) (hl2 : ts.length ≤ 1048576) (hc : ts.length ≤ c0) (hok : okS ts = true) (hx : OthV w x) (her : ∀ s, er = some s → s.size ≤ 1048576)
    (hdo : ∀ w1 b, WorkS 61 w1 w.heap.size b T → Below w.heap.size w w1 → Calls Tryz.prog 37 #[.pointer (some ⟨b, 0, none⟩), .string (upT (ts[0]'(by omega))), .slice (some ⟨b0, off + 1, none⟩) (ts.length - 1) (c0 - 1)] w1 (DoP 61 w.heap.size b w1 r er T2)) :
    Calls Tryz.prog 10 #[.slice ao T.length cap, .slice (some ⟨b0, off, none⟩) ts.length c0] w fun e w' => (∃ v, e = .returned (.tuple #[v, .string (outT T r er T2).2, .bool true]) ∧ BuildE w' w.heap.size v (outT T r er T2).1) ∧ Below w.heap.size w w' := by
  obtain ⟨wA, hwA⟩ : ∃ wA, wA = w.alloc (.cells #[.slice none 0 0] 61) := ⟨_, rfl⟩
  have BA : Hid (Below w.heap.size w wA) := by rw [hwA]; exact (Below.refl _ w).alloc (Nat.le_refl _) _
  have PA : Hid (wA.heap[w.heap.size]? = some (.cells ⟨[.slice none 0 0]⟩ 61 (0, 0))) := by rw [hwA]; exact heap_alloc_new _ _
  have hmf : ∀ (fn : Fn) (first cap : Array Value) (w : World), (Instr.makeFunc fn first cap).run Tryz.prog w = .ok (.func fn first cap) w := fun _ _ _ _ => rfl
  have HC := hide (textCommand_any T ts ao cap b0 off c0 w wA w.heap.size _ _ x r er T2 BA.out (Nat.le_refl _) PA.out hT hes hts hz hl hl2 hc hok hx her (fun w1 h1 h2 => hdo w1 w.heap.size h1 h2))
  clear hT hes hts hz hok hx her hdo BA PA
  go_enter Tryz.func10, Tryz.ntmps10
  go_upto_region 2 with fail
  rw [← hwA]
  clear hwA
  go_wp2_with fail
  refine HC.out.mono ?_
  rintro e w1 ⟨⟨v, rfl, hb⟩, b1⟩
  have HB := hide hb
  have B1 := hide b1
  clear hb b1
  go_wp2
  refine bodyPost_ret (v := .tuple #[v, .string (outT T r er T2).2, .bool true]) (by simp [results, Tryz.results10, go_sem]) rfl ?_
  exact ⟨⟨v, rfl, HB.out⟩, B1.out⟩
def OnP (w : World) (R : List EntD × ByteArray) (e : Ending) (w' : World) : Prop := (∃ v, e = .returned (.tuple #[v, .string R.2, .bool true]) ∧ BuildE w' w.heap.size v R.1) ∧ Below w.heap.size w w'
theorem textsAt_tail {w : World} {b off : Nat} {x : ByteArray} {r : List ByteArray} (h : TextsAt w (some ⟨b, off, none⟩) (x :: r)) : TextsAt w (some ⟨b, off + 1, none⟩) r := by
  intro j hj
  obtain ⟨b', off', e, h1, h2⟩ := h (j + 1) (by simpa using hj)
  cases e
  exact ⟨b, off + 1, rfl, h1, by rw [show off + 1 + j = off + (j + 1) by omega]; exact h2⟩
theorem look_err {T : List EntD} {k : ByteArray} {kind : Int} {s : ByteArray} (h : (lookK T k kind).2.2 = some s) : s = wrongK := by
  unfold lookK at h
  cases hf : findE T k with
  | none => rw [hf] at h; cases h
  | some v =>
    simp only [hf] at h
    by_cases hk : v.kind = kind
    · rw [if_pos hk] at h; cases h
    · rw [if_neg hk] at h; exact (Option.some.inj h).symm
def ErrS (s : ByteArray) : Prop := s = wrongK ∨ s = notInt ∨ s = tooMuch
theorem errS_size {s : ByteArray} (h : ErrS s) : s.size ≤ 1048576 := by
  rcases h with rfl | rfl | rfl <;> decide
theorem put_errS {T : List EntD} {s : ByteArray} (h : putErr T = some s) : ErrS s := by
  rcases putErr_cases T with ⟨h2, -⟩ | ⟨h2, -⟩
  · rw [h2] at h; cases h
  · rw [h2] at h; exact .inr (.inr (Option.some.inj h).symm)
theorem countF_err {T : List EntD} {k x s : ByteArray} {g : Int} (h : (countF T k x g).2.1 = some s) : ErrS s := by
  unfold countF at h
  cases hl : (lookK T k 1).2.2 with
  | some e =>
    rw [hl] at h
    have := look_err hl
    simp only at h
    rw [← Option.some.inj h]
    exact .inl this
  | none =>
    rw [hl] at h
    simp only at h
    cases hv : valS x with
    | none => rw [hv] at h; exact .inr (.inl (Option.some.inj h).symm)
    | some m =>
      rw [hv] at h
      simp only at h
      cases hc : cntI (lookK T k 1).1.text (lookK T k 1).2.1 (g * m) with
      | none => rw [hc] at h; exact .inr (.inl (Option.some.inj h).symm)
      | some n =>
        rw [hc] at h
        simp only at h
        cases hi : inLim n with
        | true => rw [hi] at h; exact put_errS h
        | false => rw [hi] at h; exact .inr (.inr (Option.some.inj h).symm)
theorem onINCR_any (T : List EntD) (nm a : ByteArray) (ao : Option Addr) (cap b0 off c0 : Nat) (w : World) (x : Value) (hT : TabR T) (hes : EntriesAt w ao T) (hts : TextsAt w (some ⟨b0, off, none⟩) [nm, a]) (hz : ∀ y ∈ [nm, a], y.size ≤ 1000000) (hc : 2 ≤ c0) (hnm : upT nm = ⟨#[73, 78, 67, 82]⟩) (hx : OthV w x) (hv : RVars w) :
    Calls Tryz.prog 10 #[.slice ao T.length cap, .slice (some ⟨b0, off, none⟩) 2 c0] w (OnP w (outT T (countF T a ⟨#[49]⟩ 1).1 (countF T a ⟨#[49]⟩ 1).2.1 (countF T a ⟨#[49]⟩ 1).2.2)) := by
  have hok : okS [nm, a] = true := by
    show (inB cmdsL (upT nm) && takesK (kindS (upT nm)) (1 : Nat)) = true
    rw [hnm]
    decide +kernel
  refine onTexts_any T [nm, a] ao cap b0 off c0 w x _ _ _ hT hes hts hz (by simp) (by simp) hc hok hx (fun s h => errS_size (countF_err h)) ?_
  intro w1 b hW hB
  exact doINCR_any T (upT nm) [a] (some ⟨b0, off + 1, none⟩) (c0 - 1) w w1 b 61 (by decide) (by decide) hT hW hv hB (textsAt_tail hts) (fun y hy => hz y (List.mem_cons_of_mem _ hy)) (by simp) (by rw [hnm]; decide +kernel) (by rw [hnm]; decide +kernel) (by rw [hnm]; decide +kernel) (by rw [hnm]; decide +kernel) (by rw [hnm]; decide +kernel) (by rw [hnm]; decide +kernel) (by rw [hnm]; decide +kernel)
theorem onDECR_any (T : List EntD) (nm a : ByteArray) (ao : Option Addr) (cap b0 off c0 : Nat) (w : World) (x : Value) (hT : TabR T) (hes : EntriesAt w ao T) (hts : TextsAt w (some ⟨b0, off, none⟩) [nm, a]) (hz : ∀ y ∈ [nm, a], y.size ≤ 1000000) (hc : 2 ≤ c0) (hnm : upT nm = ⟨#[68, 69, 67, 82]⟩) (hx : OthV w x) (hv : RVars w) :
    Calls Tryz.prog 10 #[.slice ao T.length cap, .slice (some ⟨b0, off, none⟩) 2 c0] w (OnP w (outT T (countF T a ⟨#[49]⟩ (-1)).1 (countF T a ⟨#[49]⟩ (-1)).2.1 (countF T a ⟨#[49]⟩ (-1)).2.2)) := by
  have hok : okS [nm, a] = true := by
    show (inB cmdsL (upT nm) && takesK (kindS (upT nm)) (1 : Nat)) = true
    rw [hnm]
    decide +kernel
  refine onTexts_any T [nm, a] ao cap b0 off c0 w x _ _ _ hT hes hts hz (by simp) (by simp) hc hok hx (fun s h => errS_size (countF_err h)) ?_
  intro w1 b hW hB
  exact doDECR_any T (upT nm) [a] (some ⟨b0, off + 1, none⟩) (c0 - 1) w w1 b 61 (by decide) (by decide) hT hW hv hB (textsAt_tail hts) (fun y hy => hz y (List.mem_cons_of_mem _ hy)) (by simp) (by rw [hnm]; decide +kernel) (by rw [hnm]; decide +kernel) (by rw [hnm]; decide +kernel) (by rw [hnm]; decide +kernel) (by rw [hnm]; decide +kernel) (by rw [hnm]; decide +kernel) (by rw [hnm]; decide +kernel) (by rw [hnm]; decide +kernel)
theorem onINCRBY_any (T : List EntD) (nm a c : ByteArray) (ao : Option Addr) (cap b0 off c0 : Nat) (w : World) (x : Value) (hT : TabR T) (hes : EntriesAt w ao T) (hts : TextsAt w (some ⟨b0, off, none⟩) [nm, a, c]) (hz : ∀ y ∈ [nm, a, c], y.size ≤ 1000000) (hc : 3 ≤ c0) (hnm : upT nm = ⟨#[73, 78, 67, 82, 66, 89]⟩) (hx : OthV w x) (hv : RVars w) :
    Calls Tryz.prog 10 #[.slice ao T.length cap, .slice (some ⟨b0, off, none⟩) 3 c0] w (OnP w (outT T (countF T a c 1).1 (countF T a c 1).2.1 (countF T a c 1).2.2)) := by
  have hok : okS [nm, a, c] = true := by
    show (inB cmdsL (upT nm) && takesK (kindS (upT nm)) (2 : Nat)) = true
    rw [hnm]
    decide +kernel
  refine onTexts_any T [nm, a, c] ao cap b0 off c0 w x _ _ _ hT hes hts hz (by simp) (by simp) hc hok hx (fun s h => errS_size (countF_err h)) ?_
  intro w1 b hW hB
  exact doINCRBY_any T (upT nm) [a, c] (some ⟨b0, off + 1, none⟩) (c0 - 1) w w1 b 61 (by decide) (by decide) hT hW hv hB (textsAt_tail hts) (fun y hy => hz y (List.mem_cons_of_mem _ hy)) (by simp) (by rw [hnm]; decide +kernel) (by rw [hnm]; decide +kernel) (by rw [hnm]; decide +kernel) (by rw [hnm]; decide +kernel) (by rw [hnm]; decide +kernel) (by rw [hnm]; decide +kernel) (by rw [hnm]; decide +kernel) (by rw [hnm]; decide +kernel) (by rw [hnm]; decide +kernel)
theorem onDECRBY_any (T : List EntD) (nm a c : ByteArray) (ao : Option Addr) (cap b0 off c0 : Nat) (w : World) (x : Value) (hT : TabR T) (hes : EntriesAt w ao T) (hts : TextsAt w (some ⟨b0, off, none⟩) [nm, a, c]) (hz : ∀ y ∈ [nm, a, c], y.size ≤ 1000000) (hc : 3 ≤ c0) (hnm : upT nm = ⟨#[68, 69, 67, 82, 66, 89]⟩) (hx : OthV w x) (hv : RVars w) :
    Calls Tryz.prog 10 #[.slice ao T.length cap, .slice (some ⟨b0, off, none⟩) 3 c0] w (OnP w (outT T (countF T a c (-1)).1 (countF T a c (-1)).2.1 (countF T a c (-1)).2.2)) := by
  have hok : okS [nm, a, c] = true := by
    show (inB cmdsL (upT nm) && takesK (kindS (upT nm)) (2 : Nat)) = true
    rw [hnm]
    decide +kernel
  refine onTexts_any T [nm, a, c] ao cap b0 off c0 w x _ _ _ hT hes hts hz (by simp) (by simp) hc hok hx (fun s h => errS_size (countF_err h)) ?_
  intro w1 b hW hB
  exact doDECRBY_any T (upT nm) [a, c] (some ⟨b0, off + 1, none⟩) (c0 - 1) w w1 b 61 (by decide) (by decide) hT hW hv hB (textsAt_tail hts) (fun y hy => hz y (List.mem_cons_of_mem _ hy)) (by simp) (by rw [hnm]; decide +kernel) (by rw [hnm]; decide +kernel) (by rw [hnm]; decide +kernel) (by rw [hnm]; decide +kernel) (by rw [hnm]; decide +kernel) (by rw [hnm]; decide +kernel) (by rw [hnm]; decide +kernel) (by rw [hnm]; decide +kernel) (by rw [hnm]; decide +kernel) (by rw [hnm]; decide +kernel)
def qB : ByteArray := ⟨#[113]⟩
def oneT (v : ValD) : List EntD := [⟨qB, v⟩]
theorem one_ok {v : ValD} (h : ValR v) : TabR (oneT v) := by
  rw [tabR_iff]
  refine ⟨by simp [oneT], fun e he => ?_, fun j hj => absurd hj (by simp [oneT])⟩
  rw [List.mem_singleton.1 he]
  exact ⟨by show 1 ≤ qB.size ∧ qB.size ≤ 20; decide, h⟩
theorem nil_ok : TabR [] := by
  rw [tabR_iff]
  exact ⟨by decide, fun e he => (by cases he), fun j hj => absurd hj (by simp)⟩
theorem put_one (v v' : ValD) : putT (oneT v) qB v' = oneT v' := by
  have h : Op.bytesLess qB.toList qB.toList = false := less_irrefl _
  simp [putT, oneT, h]
theorem put_nil (v : ValD) : putT [] qB v = oneT v := by simp [putT, oneT]
theorem find_one (v : ValD) : findE (oneT v) qB = some v := by
  simp [findE, oneT]
theorem look_one (v : ValD) (kind : Int) : lookK (oneT v) qB kind = if v.kind = kind then (v, true, none) else (noVal, true, some wrongK) := by
  unfold lookK
  rw [find_one]
theorem look_nil (kind : Int) : lookK [] qB kind = (⟨kind, 0, ⟨#[]⟩, []⟩, false, none) := rfl
theorem putErr_ok {T : List EntD} (h : TabR T) : putErr T = none := by
  rcases putErr_cases T with ⟨h1, -⟩ | ⟨-, h2⟩
  · exact h1
  · exact absurd h h2
theorem num_ok {n til : Int} (h : -1000000000 ≤ n ∧ n ≤ 1000000000) (ht : 0 ≤ til ∧ til ≤ 100000) : ValR ⟨1, til, numB n, []⟩ := by
  have := numB_size n (by omega) (by omega)
  exact ⟨ht.1, ht.2, .inl ⟨rfl, rfl, by show (numB n).size ≤ 60; omega⟩⟩
theorem inLim_yes {n : Int} (h : -1000000000 ≤ n ∧ n ≤ 1000000000) : inLim n = true := by
  unfold inLim
  simp [h.1, h.2]
theorem count_yes {n m til : Int} {told : ByteArray} {s : Int} (hn : -1000000000 ≤ n ∧ n ≤ 1000000000) (hm : valS told = some m) (hs : -1000000000 ≤ n + s * m ∧ n + s * m ≤ 1000000000) (ht : 0 ≤ til ∧ til ≤ 100000) :
    outT (oneT ⟨1, til, numB n, []⟩) (countF (oneT ⟨1, til, numB n, []⟩) qB told s).1 (countF (oneT ⟨1, til, numB n, []⟩) qB told s).2.1 (countF (oneT ⟨1, til, numB n, []⟩) qB told s).2.2 = (oneT ⟨1, til, numB (n + s * m), []⟩, hdB ⟨#[58]⟩ (n + s * m)) := by
  have hl := look_one ⟨1, til, numB n, []⟩ 1
  rw [if_pos rfl] at hl
  have hc : cntI (numB n) true (s * m) = some (n + s * m) := by
    unfold cntI
    rw [if_pos rfl, valS_num n hn.1 hn.2]
  have e : countF (oneT ⟨1, til, numB n, []⟩) qB told s = (hdB ⟨#[58]⟩ (n + s * m), none, oneT ⟨1, til, numB (n + s * m), []⟩) := by
    unfold countF
    rw [hl]
    simp only [hm, hc, inLim_yes hs, if_true]
    rw [put_one, putErr_ok (one_ok (num_ok hs ht))]
  rw [e]
  rfl
theorem count_new {m : Int} {told : ByteArray} {s : Int} (hm : valS told = some m) (hs : -1000000000 ≤ 0 + s * m ∧ 0 + s * m ≤ 1000000000) :
    outT [] (countF [] qB told s).1 (countF [] qB told s).2.1 (countF [] qB told s).2.2 = (oneT ⟨1, 0, numB (0 + s * m), []⟩, hdB ⟨#[58]⟩ (0 + s * m)) := by
  have hc : cntI ⟨#[]⟩ false (s * m) = some (0 + s * m) := rfl
  have e : countF [] qB told s = (hdB ⟨#[58]⟩ (0 + s * m), none, oneT ⟨1, 0, numB (0 + s * m), []⟩) := by
    unfold countF
    rw [look_nil]
    simp only [hm, hc, inLim_yes hs, if_true]
    rw [put_nil, putErr_ok (one_ok (num_ok hs ⟨by decide, by decide⟩))]
  rw [e]
  rfl
theorem count_bad {n til : Int} {told : ByteArray} {s : Int} (hm : valS told = none) :
    outT (oneT ⟨1, til, numB n, []⟩) (countF (oneT ⟨1, til, numB n, []⟩) qB told s).1 (countF (oneT ⟨1, til, numB n, []⟩) qB told s).2.1 (countF (oneT ⟨1, til, numB n, []⟩) qB told s).2.2 = (oneT ⟨1, til, numB n, []⟩, lineB ⟨#[45]⟩ notInt) := by
  have hl := look_one ⟨1, til, numB n, []⟩ 1
  rw [if_pos rfl] at hl
  have e : countF (oneT ⟨1, til, numB n, []⟩) qB told s = (⟨#[]⟩, some notInt, oneT ⟨1, til, numB n, []⟩) := by
    unfold countF
    rw [hl]
    simp only [hm]
  rw [e]
  rfl
theorem count_full {n m til : Int} {told : ByteArray} {s : Int} (hn : -1000000000 ≤ n ∧ n ≤ 1000000000) (hm : valS told = some m) (hs : inLim (n + s * m) = false) :
    outT (oneT ⟨1, til, numB n, []⟩) (countF (oneT ⟨1, til, numB n, []⟩) qB told s).1 (countF (oneT ⟨1, til, numB n, []⟩) qB told s).2.1 (countF (oneT ⟨1, til, numB n, []⟩) qB told s).2.2 = (oneT ⟨1, til, numB n, []⟩, lineB ⟨#[45]⟩ tooMuch) := by
  have hl := look_one ⟨1, til, numB n, []⟩ 1
  rw [if_pos rfl] at hl
  have hc : cntI (numB n) true (s * m) = some (n + s * m) := by
    unfold cntI
    rw [if_pos rfl, valS_num n hn.1 hn.2]
  have e : countF (oneT ⟨1, til, numB n, []⟩) qB told s = (⟨#[]⟩, some tooMuch, oneT ⟨1, til, numB n, []⟩) := by
    unfold countF
    rw [hl]
    simp only [hm, hc, hs, Bool.false_eq_true, if_false]
  rw [e]
  rfl
theorem count_wrong {v : ValD} {told : ByteArray} {s : Int} (hv : v.kind ≠ 1) :
    outT (oneT v) (countF (oneT v) qB told s).1 (countF (oneT v) qB told s).2.1 (countF (oneT v) qB told s).2.2 = (oneT v, lineB ⟨#[45]⟩ wrongK) := by
  have hl := look_one v 1
  rw [if_neg hv] at hl
  have e : countF (oneT v) qB told s = (⟨#[]⟩, some wrongK, oneT v) := by
    unfold countF
    rw [hl]
  rw [e]
  rfl
theorem entriesAt_box {W : World} {k : Nat} {ky t : ByteArray} {kd u : Int} {a : Option Addr} {ts : List ByteArray} {c : Nat} (h : W.heap[k]? = some (.cells #[.string ky, .int .i64 kd, .int .i64 u, .string t, .slice a ts.length c] 40 (0, 0))) (hts : TextsAt W a ts) : EntriesAt W (some ⟨k, 0, none⟩) [⟨ky, kd, u, t, ts⟩] := by
  obtain ⟨⟨h0, h1, h2, h3, h4⟩, -⟩ := box5h h
  intro j hj
  have hj0 : j = 0 := by simp at hj; omega
  subst hj0
  exact ⟨k, 0, rfl, obj_lt h, h0, h1, h2, h3, a, c, h4, hts⟩
theorem entriesAt_none (W : World) (ao : Option Addr) : EntriesAt W ao [] := fun j hj => absurd hj (by simp)
theorem textsAt_none (W : World) (ao : Option Addr) : TextsAt W ao [] := fun j hj => absurd hj (by simp)
theorem othV_keep {w w' : World} {x : Value} (h : OthV w x) (hb : Below w.heap.size w w') : OthV w' x :=
  ⟨h.1, (hb.cell (p := ⟨0, 0, none⟩) h.2.2).trans h.2.1, Nat.lt_of_lt_of_le h.2.2 hb.size⟩
theorem fresh_any (y : ByteArray) (b off : Nat) (w : World) (hc : w.cell? ⟨b, off, none⟩ = some (.string y)) (hb : b < w.heap.size) :
    Calls Tryz.prog 17 #[.slice (some ⟨b, off, none⟩) 1 1] w fun e w' => (∃ k, e = .returned (.slice (some ⟨k, 0, none⟩) 1 1) ∧ EntriesAt w' (some ⟨k, 0, none⟩) (oneT ⟨2, 0, ⟨#[]⟩, [y]⟩)) ∧ Below w.heap.size w w' := by
  obtain ⟨i0, hi, hz0, hz1, hz2⟩ := info_parts Tryz.infoText
  have H0 : Hid ((w.alloc (.cells #[] 9)).ownsRow w.heap.size 9 1 (.slice (some ⟨w.heap.size, 0, none⟩) 0 0) 0 []) := ⟨rfl, .inr ⟨w.heap.size, 0, #[], rfl, Nat.le_refl _, heap_alloc_new _ _, Nat.le_refl _, Nat.zero_le _, rfl, rfl⟩⟩
  have HB : Hid (Below w.heap.size w (w.alloc (.cells #[] 9))) := (Below.refl _ w).alloc (Nat.le_refl _) _
  have HN : Hid (∀ j u, ([Value.string y] : List Value)[j]? = some u → (w.alloc (.cells #[] 9)).cell? ((⟨b, off, none⟩ : Addr).add j) = some u) := fun j u hj => by
    rw [Addr.add_lit]
    have hj0 : j = 0 := by
      rcases j with - | j
      · rfl
      · simp at hj
    subst hj0
    rw [Nat.add_zero]
    have hu : Value.string y = u := by simpa using hj
    rw [← hu]
    exact (HB.out.cell (p := ⟨b, off, none⟩) hb).trans hc
  clear hc hb
  go_enter Tryz.func17, Tryz.ntmps17
  go_wp2_with (at_builtin; go_loud (refine wpList_append_own_at _ (by rfl) _ _ 25 (by rfl) w.heap.size 9 i0 (.string ⟨#[]⟩) 1 16 Tryz.underlying25 hi hz0 hz1 hz2 rfl (by decide) (.slice (some ⟨w.heap.size, 0, none⟩) 0 0) 0 [] (by rfl) H0.out ⟨b, off, none⟩ 1 1 [.string y] (by rfl) rfl HN.out (fun u hu => by rw [List.mem_singleton.1 hu]; rfl) (by decide) (by decide) HB.out.size ?_; intro v9 w9 ho hg _ _; have HR := hide (rowText_own (ts := [y]) ho); have HG := hide (HB.out.trans ((Below.refl w.heap.size _).grown hg HB.out.size (fun k hk => by cases hk; exact Nat.le_refl _))); obtain ⟨a9, c9, e9⟩ := slice_form ho; subst e9; clear ho hg))
  refine bodyPost_ret (v := .slice (some ⟨w9.heap.size, 0, none⟩) 1 1) (by simp [results, Tryz.results17, go_sem]) rfl ?_
  refine ⟨⟨w9.heap.size, rfl, entriesAt_box (c := c9) (a := a9) (heap_alloc_new w9 _) (textsAt_keep (rowText_rows HR.out) ((Below.refl _ w9).alloc (Nat.le_refl _) _))⟩, HG.out.alloc HG.out.size _⟩
theorem i64_and255 (n : Int) : bits .and .i64 n 255 = n % 256 := by
  have h255 : (BitVec.ofInt 64 255).toNat = 2 ^ 8 - 1 := by decide
  have key : (BitVec.ofInt 64 n &&& BitVec.ofInt 64 255).toNat = (n % ((2 ^ 64 : Nat) : Int)).toNat % 2 ^ 8 := by
    rw [BitVec.toNat_and, BitVec.toNat_ofInt, h255, Nat.and_two_pow_sub_one_eq_mod]
  show IntKind.i64.wrap ((BitVec.ofInt 64 n &&& BitVec.ofInt 64 255).toNat : Nat) = n % 256
  rw [key, IntKind.wrap_i64]
  omega
def Code (w0 : World) (ao : Option Addr) (len : Nat) : Prop := ∀ j, j < len → ∃ b off z : Nat, ao = some ⟨b, off, none⟩ ∧ b < w0.heap.size ∧ w0.cell? ⟨b, off + j, none⟩ = some (.int .u8 z) ∧ z < 256
def CurAt (w0 w : World) (g : Nat) (ao : Option Addr) (len cap : Nat) : Prop :=
  Below w0.heap.size w0 w ∧ w0.heap.size ≤ g ∧ ∃ (i : Nat) (h : Int) (T : TypeId), i ≤ len ∧ w.heap[g]? = some (.cells #[.slice ao len cap, .int .i64 i, .int .i64 h] T (0, 0))
theorem cur_cell {w : World} {g : Nat} {cs : Array Value} {T : TypeId} (h : w.heap[g]? = some (.cells cs T (0, 0))) (j : Nat) (v : Value) (hj : cs[j]? = some v) : w.cell? ⟨g, j, none⟩ = some v := by
  rw [cell_of_row w g j cs T (0, 0) h, hj]
theorem ret_i {k : IntKind} {a b : Int} (h : a = b) : Ending.returned (.int k a) = .returned (.int k b) := by rw [h]
theorem byte_any (w0 w : World) (g : Nat) (ao : Option Addr) (len cap : Nat) (hlen : len ≤ 1048576) (hcode : Code w0 ao len) (hc : CurAt w0 w g ao len cap) :
    Calls Tryz.prog 39 #[.pointer (some ⟨g, 0, none⟩)] w fun e w' => ∃ x : Nat, e = .returned (.int .i64 x) ∧ x < 256 ∧ CurAt w0 w' g ao len cap ∧ w.grownBy w' (some g) := by
  obtain ⟨hb, hg, i, h, T, hi, hh⟩ := hc
  have hc0 := cur_cell hh 0 _ rfl
  have hc1 := cur_cell hh 1 _ rfl
  have hc2 := cur_cell hh 2 _ rfl
  have hf1 := frozen_of_row w g 1 _ T hh
  have hf2 := frozen_of_row w g 2 _ T hh
  have hand := i64_and255
  have KH : Hid (∀ H1 : Int, (w.setCell ⟨g, 2, none⟩ (.int .i64 H1)).heap[g]? = some (.cells #[.slice ao len cap, .int .i64 i, .int .i64 H1] T (0, 0)) ∧ w.grownBy (w.setCell ⟨g, 2, none⟩ (.int .i64 H1)) (some g)) :=
    fun H1 => ⟨(heap_setCell_same w g 2 _ T (.int .i64 H1) hh).trans rfl, grownBy_store (World.grownBy.refl _ _) 2 _⟩
  have HB := hide hb
  have HC := hide hcode
  clear hh hb hcode
  go_enter Tryz.func39, Tryz.ntmps39
  go_wp2
  clear hc0 hc1 hc2 hf1 hf2
  generalize wrap64 (wrap64 (h * 6364136223846793005) + 1442695040888963407) = H1
  obtain ⟨hh1, g1⟩ := KH.out H1
  generalize w.setCell ⟨g, 2, none⟩ (.int .i64 H1) = W1 at hh1 g1 ⊢
  have hc0 := cur_cell hh1 0 _ rfl
  have hc1 := cur_cell hh1 1 _ rfl
  have hc2 := cur_cell hh1 2 _ rfl
  have hf1 := frozen_of_row W1 g 1 _ T hh1
  have HH1 := hide hh1
  have G1 := hide g1
  have HB1 : Hid (Below w0.heap.size w0 W1) := HB.out.grown g1 HB.out.size (fun k hk => by cases hk; exact hg)
  clear hh1 g1
  by_cases hlt : i < len
  · have hlt' : decide ((i : Int) < (len : Int)) = true := by simp; omega
    obtain ⟨b, off, z, rfl, hbl, hz, hz256⟩ := HC.out i hlt
    have hcz : W1.cell? ⟨b, off + i, none⟩ = some (.int .u8 z) := (HB1.out.cell (p := ⟨b, off + i, none⟩) hbl).trans hz
    have hi0 : (0 : Int) ≤ (i : Int) := by omega
    have hi1 : (i : Int) < (len : Int) := by omega
    clear hz
    go_quiet (fail)
    go_wp2
    generalize bits BinOp.xor IntKind.i64 (H1 / 8589934592) (H1 / 35184372088832) = Y
    go_quiet (fail)
    go_wp2
    go_quiet (fail)
    go_wp2
    go_ret
    have hs : ∀ q, Below w0.heap.size w0 ((W1.drewN q).setCell ⟨g, 1, none⟩ (.int .i64 ((i : Int) + 1))) := fun q => (below_drewN HB1.out q).setCell (p := ⟨g, 1, none⟩) hg _
    have hr : ∀ q, ((W1.drewN q).setCell ⟨g, 1, none⟩ (.int .i64 ((i : Int) + 1))).heap[g]? = some (.cells #[.slice (some ⟨b, off, none⟩) len cap, .int .i64 ((i + 1 : Nat) : Int), .int .i64 H1] T (0, 0)) :=
      fun q => (heap_setCell_same (W1.drewN q) g 1 _ T (.int .i64 ((i : Int) + 1)) HH1.out).trans rfl
    exact ⟨((Y + z) % 256).toNat, ret_i (by omega), by omega, ⟨hs _, hg, i + 1, H1, T, by omega, hr _⟩, grownBy_store (grownBy_trans G1.out (grownBy_below _ (drewN_below _ _))) 1 _⟩
  · have hlt' : decide ((i : Int) < (len : Int)) = false := by simp; omega
    go_quiet (fail)
    go_wp2
    generalize bits BinOp.xor IntKind.i64 (H1 / 8589934592) (H1 / 35184372088832) = Y
    go_quiet (fail)
    go_wp2
    go_ret
    exact ⟨(Y % 256).toNat, ret_i (by omega), by omega, ⟨below_drewN (below_drewN HB1.out _) _, hg, i, H1, T, hi, HH1.out⟩, grownBy_trans G1.out (grownBy_trans (grownBy_below _ (drewN_below _ _)) (grownBy_below _ (drewN_below _ _)))⟩
theorem below_any (w0 w : World) (g : Nat) (ao : Option Addr) (len cap : Nat) (n : Int) (hlen : len ≤ 1048576) (hn : n ≤ 4611686018427387904) (hcode : Code w0 ao len) (hc : CurAt w0 w g ao len cap) :
    Calls Tryz.prog 32 #[.pointer (some ⟨g, 0, none⟩), .int .i64 n] w fun e w' => ∃ x : Nat, e = .returned (.int .i64 x) ∧ (0 < n → (x : Int) < n) ∧ (n ≤ 0 → x = 0) ∧ CurAt w0 w' g ao len cap ∧ w.grownBy w' (some g) := by
  have HC := hide hcode
  have HU := hide hc
  clear hcode hc
  by_cases h0 : n ≤ 0
  · go_enter Tryz.func32, Tryz.ntmps32
    go_wp2
    go_ret
    exact ⟨0, rfl, fun h => absurd h (by omega), fun _ => rfl, HU.out, World.grownBy.refl _ _⟩
  · by_cases h1 : n ≤ 256
    · go_enter Tryz.func32, Tryz.ntmps32
      go_wp2_with fail
      refine (byte_any w0 _ g ao len cap hlen HC.out HU.out).mono ?_
      rintro e w1 ⟨x, rfl, hx, hc1, g1⟩
      go_wp2
      go_ret
      have hb := Int.emod_lt_of_pos (x : Int) (show 0 < n by omega)
      have hp := Int.emod_nonneg (x : Int) (show n ≠ 0 by omega)
      exact ⟨((x : Int) % n).toNat, ret_i (by omega), fun _ => by omega, fun h => absurd h (by omega), hc1, g1⟩
    · go_enter Tryz.func32, Tryz.ntmps32
      go_wp2_with fail
      refine (byte_any w0 _ g ao len cap hlen HC.out HU.out).mono ?_
      rintro e w1 ⟨x, rfl, hx, hc1, g1⟩
      have HU1 := hide hc1
      have G1 := hide g1
      clear hc1 g1
      go_wp2_with fail
      refine (byte_any w0 _ g ao len cap hlen HC.out HU1.out).mono ?_
      rintro e w2 ⟨y, rfl, hy, hc2, g2⟩
      have HU2 := hide hc2
      have G2 := hide g2
      clear hc2 g2
      go_wp2_with fail
      refine (byte_any w0 _ g ao len cap hlen HC.out HU2.out).mono ?_
      rintro e w3 ⟨z, rfl, hz, hc3, g3⟩
      have HU3 := hide hc3
      have G3 := hide g3
      clear hc3 g3
      go_wp2_with fail
      refine (byte_any w0 _ g ao len cap hlen HC.out HU3.out).mono ?_
      rintro e w4 ⟨u, rfl, hu, hc4, g4⟩
      go_wp2
      go_ret
      have hb := Int.emod_lt_of_pos ((x : Int) * 16777216 + (y : Int) * 65536 + (z : Int) * 256 + (u : Int)) (show 0 < n by omega)
      have hp := Int.emod_nonneg ((x : Int) * 16777216 + (y : Int) * 65536 + (z : Int) * 256 + (u : Int)) (show n ≠ 0 by omega)
      exact ⟨(((x : Int) * 16777216 + (y : Int) * 65536 + (z : Int) * 256 + (u : Int)) % n).toNat, ret_i (by omega), fun _ => by omega, fun h => absurd h (by omega), hc4, grownBy_trans G1.out (grownBy_trans G2.out (grownBy_trans G3.out g4))⟩
theorem i64_and30 (n : Int) : bits .and .i64 n 1073741823 = n % 1073741824 := by
  have h30 : (BitVec.ofInt 64 1073741823).toNat = 2 ^ 30 - 1 := by decide
  have key : (BitVec.ofInt 64 n &&& BitVec.ofInt 64 1073741823).toNat = (n % ((2 ^ 64 : Nat) : Int)).toNat % 2 ^ 30 := by
    rw [BitVec.toNat_and, BitVec.toNat_ofInt, h30, Nat.and_two_pow_sub_one_eq_mod]
  show IntKind.i64.wrap ((BitVec.ofInt 64 n &&& BitVec.ofInt 64 1073741823).toNat : Nat) = n % 1073741824
  rw [key, IntKind.wrap_i64]
  omega
theorem new_any (w : World) (ao : Option Addr) (len cap : Nat) (hlen : len ≤ 1048576) (hcode : Code w ao len) :
    Calls Tryz.prog 30 #[.slice ao len cap] w fun e w' => ∃ g, e = .returned (.pointer (some ⟨g, 0, none⟩)) ∧ CurAt w w' g ao len cap := by
  have hand := i64_and30
  have HC := hide hcode
  clear hcode
  go_enter Tryz.func30, Tryz.ntmps30
  go_wp2
  go_loop [3, 4] (fun hh ii => ∃ (k : Nat) (h : Int), k ≤ len ∧ ii = .int .i64 k ∧ hh = .int .i64 h ∧ 0 ≤ h ∧ h ≤ 1073741824) (fun _ ii => len - (intOf ii).toNat)
  case atStart => exact ⟨0, _, Nat.zero_le _, rfl, rfl, by omega, by omega⟩
  case round =>
    obtain ⟨k, h, hk, rfl, rfl, h0, h1⟩ := hrel
    by_cases hlt : k < len
    · have hlt' : decide ((k : Int) < (len : Int)) = true := by simp; omega
      by_cases h4 : k < 4000
      · have h4' : decide ((k : Int) < 4000) = true := by simp; omega
        obtain ⟨b, off, z, rfl, hbl, hz, hz256⟩ := HC.out k hlt
        have hi0 : (0 : Int) ≤ (k : Int) := by omega
        have hi1 : (k : Int) < (len : Int) := by omega
        go_wp2
        go_round
        case rel => exact ⟨k + 1, _, by omega, by go_num, rfl, by omega, by omega⟩
        case measure => simp [intOf]; omega
      · have h4' : decide ((k : Int) < 4000) = false := by simp; omega
        go_wp2
        go_ret
        exact ⟨w.heap.size, rfl, (Below.refl _ _).alloc (Nat.le_refl _) _, Nat.le_refl _, 0, h, _, Nat.zero_le _, heap_alloc_new w _⟩
    · have hlt' : decide ((k : Int) < (len : Int)) = false := by simp; omega
      go_wp2
      go_ret
      exact ⟨w.heap.size, rfl, (Below.refl _ _).alloc (Nat.le_refl _) _, Nat.le_refl _, 0, h, _, Nat.zero_le _, heap_alloc_new w _⟩
theorem cur_keep {w0 w w' : World} {g : Nat} {ao : Option Addr} {len cap B : Nat} (h : CurAt w0 w g ao len cap) (hb : Below B w w') (hB : g < B) : CurAt w0 w' g ao len cap := by
  obtain ⟨h1, h2, i, x, T, hi, hh⟩ := h
  exact ⟨h1.trans (hb.mono (by omega)), h2, i, x, T, hi, by rw [hb.block g hB]; exact hh⟩
theorem cur_lt {w0 w : World} {g : Nat} {ao : Option Addr} {len cap : Nat} (h : CurAt w0 w g ao len cap) : g < w.heap.size := by
  obtain ⟨_, _, i, x, T, _, hh⟩ := h
  rcases Nat.lt_or_ge g w.heap.size with h | h
  · exact h
  · rw [Array.getElem?_eq_none h] at hh; cases hh
theorem row_keep {w w' : World} {B g n : Nat} {e : TypeId} {size : Nat} {v : Value} {xs : List Value} (h : w.ownsRow B e size v n xs) (hg : w.grownBy w' (some g)) (hB : g < B) : w'.ownsRow B e size v n xs := by
  refine h.kept hg ?_
  cases hv : v.ownBlock with
  | none => exact .inl rfl
  | some k =>
    right
    intro e
    have := (h.lt k hv).1
    simp at e
    omega
theorem big_any (w : World) (ao : Option Addr) (len cap : Nat) :
    Calls Tryz.prog 7 #[.slice ao len cap] w fun e w' => e = .returned (.bool (decide (1048576 < (len : Int)))) ∧ w' = w := by
  go_enter Tryz.func7, Tryz.ntmps7
  go_wp2
  go_ret
  exact ⟨rfl, rfl⟩
structure ChangeD where
  key : ByteArray
  value : ByteArray
  gone : Bool
theorem sameTexts_same (ts : List ByteArray) (ao ao2 : Option Addr) (cap cap2 : Nat) (w : World) (hl : ts.length ≤ maxLen) (h1 : TextsAt w ao ts) (h2 : TextsAt w ao2 ts) :
    Calls Tryz.prog 78 #[.slice ao ts.length cap, .slice ao2 ts.length cap2] w fun e w' => e = .returned (.bool true) ∧ Below w.heap.size w w' := by
  have H1 := hide h1
  have H2 := hide h2
  clear h1 h2
  unfold maxLen at hl
  have hne : (!((ts.length : Int) == (ts.length : Int))) = false := by simp
  go_enter Tryz.func78, Tryz.ntmps78
  go_wp2
  go_loopw [5] (fun ii wr => ∃ (k q : Nat), ii = .int .i64 k ∧ k ≤ ts.length ∧ wr = w.drewN q) (fun ii _ => ts.length - (intOf ii).toNat)
  case atStart => exact ⟨0, 0, rfl, Nat.zero_le _, rfl⟩
  case round =>
    obtain ⟨k, q, rfl, hk, rfl⟩ := hrel
    by_cases hlt : k < ts.length
    · have hlt' : decide ((k : Int) < (ts.length : Int)) = true := by simp; omega
      obtain ⟨b, off, rfl, hbw, hc0⟩ := H1.out k hlt
      obtain ⟨b', off', rfl, hbw', hd0⟩ := H2.out k hlt
      generalize ts[k] = F at hc0 hd0
      have hi0 : (0 : Int) ≤ (k : Int) := by omega
      have hi1 : (k : Int) < (ts.length : Int) := by omega
      have hee : (F.toList == F.toList) = true := beq_self_eq_true _
      go_wp2
      go_quiet (fail)
      go_wp2
      go_roundw
      case rel => exact ⟨k + 1, q + nq, by go_num, by omega, rfl⟩
      case measure => simp [intOf]; omega
    · have hlt' : decide ((k : Int) < (ts.length : Int)) = false := by simp; omega
      go_wp2
      go_ret
      exact ⟨rfl, drewN_below w q⟩
theorem sameVal_same (v : ValD) (ao ao2 : Option Addr) (cap cap2 : Nat) (w : World) (hl : v.items.length ≤ maxLen) (h1 : TextsAt w ao v.items) (h2 : TextsAt w ao2 v.items) :
    Calls Tryz.prog 38 #[.agg #[.int .i64 v.kind, .int .i64 v.til, .string v.text, .slice ao v.items.length cap], .agg #[.int .i64 v.kind, .int .i64 v.til, .string v.text, .slice ao2 v.items.length cap2]] w fun e w' => e = .returned (.bool true) ∧ Below w.heap.size w w' := by
  obtain ⟨k, u, t, ts⟩ := v
  simp only at hl h1 h2 ⊢
  have H1 := hide h1
  have H2 := hide h2
  clear h1 h2
  have e0 : (k == k) = true := beq_self_eq_true _
  have e1 : (u == u) = true := beq_self_eq_true _
  have e2 : (t.toList == t.toList) = true := beq_self_eq_true _
  have H0 : Hid (Below w.heap.size w ((w.alloc (.cells #[.int .i64 k, .int .i64 u, .string t, .slice ao ts.length cap] 38)).alloc (.cells #[.int .i64 k, .int .i64 u, .string t, .slice ao2 ts.length cap2] 38))) := ((Below.refl _ w).alloc (Nat.le_refl _) _).alloc (by simp) _
  go_enter Tryz.func38, Tryz.ntmps38
  go_wp2_with fail
  refine (sameTexts_same ts ao ao2 cap cap2 _ hl (textsAt_keep H1.out H0.out) (textsAt_keep H2.out H0.out)).mono ?_
  rintro e w1 ⟨rfl, b1⟩
  have HB : Hid (Below w.heap.size w w1) := H0.out.trans (b1.mono H0.out.size)
  clear b1
  go_wp2
  go_ret
  exact ⟨rfl, HB.out⟩
end Go.Proofs.YtifjneldjjmeaaaGreatDoor
