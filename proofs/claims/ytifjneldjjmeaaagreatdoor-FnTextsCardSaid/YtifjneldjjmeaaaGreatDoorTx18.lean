import Derived.Test.YtifjneldjjmeaaaGreatDoorTx16
import Derived.Test.YtifjneldjjmeaaaGreatDoorTx17
set_option maxRecDepth 100000
set_option maxHeartbeats 6400000
namespace Go.Proofs.YtifjneldjjmeaaaGreatDoor
open Go.RowKit
theorem rep_ok : lineB ⟨#[43]⟩ ⟨#[79, 75]⟩ = ⟨#[43, 79, 75, 13, 10]⟩ := by decide +kernel
theorem rep_zero : hdB ⟨#[58]⟩ 0 = ⟨#[58, 48, 13, 10]⟩ := by decide +kernel
theorem rep_one : hdB ⟨#[58]⟩ 1 = ⟨#[58, 49, 13, 10]⟩ := by decide +kernel
theorem same_right {T : List EntD} (h : TabR T) : SameC T := same_tabs (by have := h.1; omega) (fun e he => by
  have := (tab_ents h e he).2.2.1
  unfold maxLen
  omega)
theorem cmT_set (w : World) (x : Value) (hv : RVars w) (hx : OthV w x) {T : List EntD} (hT : TabR T) {y : ByteArray} (hy60 : y.size ≤ 60) (hR : TabR (putT T qB (txt y))) : OnC w T [⟨#[83, 69, 84]⟩, ⟨#[113]⟩, y] (putT T qB (txt y)) (⟨#[43, 79, 75, 13, 10]⟩) := by
  rintro W v b0 ⟨a, c, rfl, hes⟩ hts hB
  have h := onSET_any T ⟨#[83, 69, 84]⟩ ⟨#[113]⟩ y a c b0 0 3 W x hT hes hts (fun y hy => by simp at hy; rcases hy with rfl | rfl | rfl <;> first | decide | omega) (by decide) (by decide +kernel) (othV_keep hx hB) (rvars_below hv hB)
  rw [show outT T (setR T ⟨#[113]⟩ y).1 (setR T ⟨#[113]⟩ y).2.1 (setR T ⟨#[113]⟩ y).2.2 = (putT T qB (txt y), ⟨#[43, 79, 75, 13, 10]⟩) from (set_out hR).trans (by rw [rep_ok])] at h
  exact h.mono (fun e w' hh => onP_Q hh)
theorem cmT_get (w : World) (x : Value) (hv : RVars w) (hx : OthV w x) {T : List EntD} (hT : TabR T) {v0 : ValD} (hf : findE T qB = some v0) (hk : v0.kind = 1) : OnC w T [⟨#[71, 69, 84]⟩, ⟨#[113]⟩] (T) (bulkB v0.text) := by
  rintro W v b0 ⟨a, c, rfl, hes⟩ hts hB
  have h := onGET_any T ⟨#[71, 69, 84]⟩ ⟨#[113]⟩ a c b0 0 2 W x hT hes hts (fun y hy => by simp at hy; rcases hy with rfl | rfl <;> first | decide | omega) (by decide) (by decide +kernel) (othV_keep hx hB) (rvars_below hv hB)
  rw [show outT T (getR T ⟨#[113]⟩).1 (getR T ⟨#[113]⟩).2.1 (getR T ⟨#[113]⟩).2.2 = (T, bulkB v0.text) from get_out hf hk] at h
  exact h.mono (fun e w' hh => onP_Q hh)
theorem cmT_add (w : World) (x : Value) (hv : RVars w) (hx : OthV w x) {T : List EntD} (hT : TabR T) {v0 : ValD} (hf : findE T qB = some v0) (hk : v0.kind = 1) (hR : TabR (putT T qB ⟨v0.kind, v0.til, v0.text ++ ⟨#[33, 33]⟩, v0.items⟩)) : OnC w T [⟨#[97, 112, 112, 101, 110, 100]⟩, ⟨#[113]⟩, ⟨#[33, 33]⟩] (putT T qB ⟨v0.kind, v0.til, v0.text ++ ⟨#[33, 33]⟩, v0.items⟩) (hdB ⟨#[58]⟩ (v0.text ++ ⟨#[33, 33]⟩ : ByteArray).size) := by
  rintro W v b0 ⟨a, c, rfl, hes⟩ hts hB
  have h := onAPPEND_any T ⟨#[97, 112, 112, 101, 110, 100]⟩ ⟨#[113]⟩ ⟨#[33, 33]⟩ a c b0 0 3 W x hT hes hts (fun y hy => by simp at hy; rcases hy with rfl | rfl | rfl <;> first | decide | omega) (by decide) (by decide +kernel) (othV_keep hx hB) (rvars_below hv hB)
  rw [show outT T (addF T ⟨#[113]⟩ ⟨#[33, 33]⟩).1 (addF T ⟨#[113]⟩ ⟨#[33, 33]⟩).2.1 (addF T ⟨#[113]⟩ ⟨#[33, 33]⟩).2.2 = (putT T qB ⟨v0.kind, v0.til, v0.text ++ ⟨#[33, 33]⟩, v0.items⟩, hdB ⟨#[58]⟩ (v0.text ++ ⟨#[33, 33]⟩ : ByteArray).size) from add_out hf hk hR] at h
  exact h.mono (fun e w' hh => onP_Q hh)
theorem cmT_getset (w : World) (x : Value) (hv : RVars w) (hx : OthV w x) {T : List EntD} (hT : TabR T) {v0 : ValD} (hf : findE T qB = some v0) (hk : v0.kind = 1) (hR : TabR (putT T qB (txt ⟨#[122]⟩))) : OnC w T [⟨#[71, 69, 84, 83, 69, 84]⟩, ⟨#[113]⟩, ⟨#[122]⟩] (putT T qB (txt ⟨#[122]⟩)) (bulkB v0.text) := by
  rintro W v b0 ⟨a, c, rfl, hes⟩ hts hB
  have h := onGETSET_any T ⟨#[71, 69, 84, 83, 69, 84]⟩ ⟨#[113]⟩ ⟨#[122]⟩ a c b0 0 3 W x hT hes hts (fun y hy => by simp at hy; rcases hy with rfl | rfl | rfl <;> first | decide | omega) (by decide) (by decide +kernel) (othV_keep hx hB) (rvars_below hv hB)
  rw [show outT T (getSetF T ⟨#[113]⟩ ⟨#[122]⟩).1 (getSetF T ⟨#[113]⟩ ⟨#[122]⟩).2.1 (getSetF T ⟨#[113]⟩ ⟨#[122]⟩).2.2 = (putT T qB (txt ⟨#[122]⟩), bulkB v0.text) from getSet_out hf hk hR] at h
  exact h.mono (fun e w' hh => onP_Q hh)
theorem cmT_setnx (w : World) (x : Value) (hv : RVars w) (hx : OthV w x) {T : List EntD} (hT : TabR T) {v0 : ValD} (hf : findE T qB = some v0) : OnC w T [⟨#[83, 69, 84, 78, 88]⟩, ⟨#[113]⟩, ⟨#[122]⟩] (T) (⟨#[58, 48, 13, 10]⟩) := by
  rintro W v b0 ⟨a, c, rfl, hes⟩ hts hB
  have h := onSETNX_any T ⟨#[83, 69, 84, 78, 88]⟩ ⟨#[113]⟩ ⟨#[122]⟩ a c b0 0 3 W x hT hes hts (fun y hy => by simp at hy; rcases hy with rfl | rfl | rfl <;> first | decide | omega) (by decide) (by decide +kernel) (othV_keep hx hB) (rvars_below hv hB)
  rw [show outT T (setNewF T ⟨#[113]⟩ ⟨#[122]⟩).1 (setNewF T ⟨#[113]⟩ ⟨#[122]⟩).2.1 (setNewF T ⟨#[113]⟩ ⟨#[122]⟩).2.2 = (T, ⟨#[58, 48, 13, 10]⟩) from (setNew_there hf).trans (by rw [rep_zero])] at h
  exact h.mono (fun e w' hh => onP_Q hh)
theorem cmT_len (w : World) (x : Value) (hv : RVars w) (hx : OthV w x) {T : List EntD} (hT : TabR T) {v0 : ValD} (hf : findE T qB = some v0) (hk : v0.kind = 1) : OnC w T [⟨#[83, 84, 82, 76, 69, 78]⟩, ⟨#[113]⟩] (T) (hdB ⟨#[58]⟩ v0.text.size) := by
  rintro W v b0 ⟨a, c, rfl, hes⟩ hts hB
  have h := onSTRLEN_any T ⟨#[83, 84, 82, 76, 69, 78]⟩ ⟨#[113]⟩ a c b0 0 2 W x hT hes hts (fun y hy => by simp at hy; rcases hy with rfl | rfl <;> first | decide | omega) (by decide) (by decide +kernel) (othV_keep hx hB) (rvars_below hv hB)
  rw [show outT T (lenR T ⟨#[113]⟩).1 (lenR T ⟨#[113]⟩).2.1 (lenR T ⟨#[113]⟩).2.2 = (T, hdB ⟨#[58]⟩ v0.text.size) from len_out hf hk] at h
  exact h.mono (fun e w' hh => onP_Q hh)
theorem cmT_new (w : World) (x : Value) (hv : RVars w) (hx : OthV w x) {T : List EntD} (hT : TabR T) (hf : findE T qqB = none) (hR : TabR (putT T qqB (txt ⟨#[122]⟩))) : OnC w T [⟨#[83, 69, 84, 78, 88]⟩, ⟨#[113, 113]⟩, ⟨#[122]⟩] (putT T qqB (txt ⟨#[122]⟩)) (⟨#[58, 49, 13, 10]⟩) := by
  rintro W v b0 ⟨a, c, rfl, hes⟩ hts hB
  have h := onSETNX_any T ⟨#[83, 69, 84, 78, 88]⟩ ⟨#[113, 113]⟩ ⟨#[122]⟩ a c b0 0 3 W x hT hes hts (fun y hy => by simp at hy; rcases hy with rfl | rfl | rfl <;> first | decide | omega) (by decide) (by decide +kernel) (othV_keep hx hB) (rvars_below hv hB)
  rw [show outT T (setNewF T ⟨#[113, 113]⟩ ⟨#[122]⟩).1 (setNewF T ⟨#[113, 113]⟩ ⟨#[122]⟩).2.1 (setNewF T ⟨#[113, 113]⟩ ⟨#[122]⟩).2.2 = (putT T qqB (txt ⟨#[122]⟩), ⟨#[58, 49, 13, 10]⟩) from (setNew_new hf hR).trans (by rw [rep_one])] at h
  exact h.mono (fun e w' hh => onP_Q hh)
theorem cmT_mset (w : World) (x : Value) (hv : RVars w) (hx : OthV w x) {T : List EntD} (hT : TabR T) (h1 : TabR (putT T qB (txt ⟨#[49]⟩))) (h2 : TabR (putT (putT T qB (txt ⟨#[49]⟩)) qqB (txt ⟨#[50]⟩))) : OnC w T [⟨#[77, 83, 69, 84]⟩, ⟨#[113]⟩, ⟨#[49]⟩, ⟨#[113, 113]⟩, ⟨#[50]⟩] (putT (putT T qB (txt ⟨#[49]⟩)) qqB (txt ⟨#[50]⟩)) ⟨#[43, 79, 75, 13, 10]⟩ := by
  rintro W v b0 ⟨a, c, rfl, hes⟩ hts hB
  have h := onMSET_any T ⟨#[77, 83, 69, 84]⟩ [⟨#[113]⟩, ⟨#[49]⟩, ⟨#[113, 113]⟩, ⟨#[50]⟩] 2 a c b0 0 5 W x hT hes hts (fun y hy => by simp at hy; rcases hy with rfl | rfl | rfl | rfl | rfl <;> decide) rfl (by decide) (by decide) (by decide) (by decide +kernel) (othV_keep hx hB) (rvars_below hv hB)
  rw [show outT T (msetR T [⟨#[113]⟩, ⟨#[49]⟩, ⟨#[113, 113]⟩, ⟨#[50]⟩]).1 (msetR T [⟨#[113]⟩, ⟨#[49]⟩, ⟨#[113, 113]⟩, ⟨#[50]⟩]).2.1 (msetR T [⟨#[113]⟩, ⟨#[49]⟩, ⟨#[113, 113]⟩, ⟨#[50]⟩]).2.2 = (putT (putT T qB (txt ⟨#[49]⟩)) qqB (txt ⟨#[50]⟩), ⟨#[43, 79, 75, 13, 10]⟩) from (mset_out h1 h2).trans (by rw [rep_ok])] at h
  exact h.mono (fun e w' hh => onP_Q hh)
theorem cmT_mget (w : World) (x : Value) (hv : RVars w) (hx : OthV w x) {T : List EntD} (hT : TabR T) (h1 : findE T qqB = some (txt ⟨#[50]⟩)) (h2 : findE T noneB = none) (h3 : findE T qB = some (txt ⟨#[49]⟩)) : OnC w T [⟨#[77, 71, 69, 84]⟩, ⟨#[113, 113]⟩, ⟨#[110, 111, 110, 101]⟩, ⟨#[113]⟩] T (arrB [bulkB ⟨#[50]⟩, nilB, bulkB ⟨#[49]⟩]) := by
  rintro W v b0 ⟨a, c, rfl, hes⟩ hts hB
  have h := onMGET_any T ⟨#[77, 71, 69, 84]⟩ [⟨#[113, 113]⟩, ⟨#[110, 111, 110, 101]⟩, ⟨#[113]⟩] a c b0 0 4 W x hT hes hts (fun y hy => by simp at hy; rcases hy with rfl | rfl | rfl | rfl <;> decide) (by decide) (by decide) (by decide) (by decide +kernel) (othV_keep hx hB) (rvars_below hv hB)
  rw [show [⟨#[113, 113]⟩, ⟨#[110, 111, 110, 101]⟩, ⟨#[113]⟩].map (tellF T) = [bulkB ⟨#[50]⟩, nilB, bulkB ⟨#[49]⟩] from by
    show [tellF T qqB, tellF T noneB, tellF T qB] = _
    rw [tell_at h1 rfl, tell_none h2, tell_at h3 rfl]
    rfl] at h
  exact h.mono (fun e w' hh => onP_Q hh)
def OthC (w : World) (T : List EntD) (ts : List ByteArray) : Prop := ∀ (W : World) (v : Value) (b0 : Nat), TabAt W v T → TextsAt W (some ⟨b0, 0, none⟩) ts → Below w.heap.size w W → Calls Tryz.prog 10 #[v, .slice (some ⟨b0, 0, none⟩) ts.length ts.length] W (fun e w' => e = .returned (.tuple #[.slice none 0 0, .string ⟨#[]⟩, .bool false]) ∧ Below W.heap.size W w')
theorem cmT_oth (w : World) (x : Value) (hx : OthV w x) {T : List EntD} (hT : TabR T) : OthC w T [⟨#[76, 76, 69, 78]⟩, ⟨#[113]⟩] := by
  rintro W v b0 ⟨a, c, rfl, hes⟩ hts hB
  exact onLLEN_any T ⟨#[76, 76, 69, 78]⟩ ⟨#[113]⟩ a c b0 0 2 W x hT hes hts (fun y hy => by simp at hy; rcases hy with rfl | rfl <;> decide) (by decide) (by decide +kernel) (othV_keep hx hB)
theorem arr_three {a b c : ByteArray} (ha : a.size ≤ 1048576) (hb : b.size ≤ 1048576) (hc : c.size ≤ 1048576) {W : World} {k : Nat} (h : W.heap[k]? = some (.cells #[.string a, .string b, .string c] 9 (0, 0))) :
    Calls Tryz.prog 14 #[.slice (some ⟨k, 0, none⟩) 3 3] W fun e w' => e = .returned (.string (arrB [a, b, c])) ∧ Below W.heap.size W w' := by
  have hts : TextsAt W (some ⟨k, 0, none⟩) [a, b, c] := textsAt_in h (fun j hj _ => by
    have hj3 : j < 3 := hj
    rcases (by omega : j = 0 ∨ j = 1 ∨ j = 2) with rfl | rfl | rfl <;> rfl)
  exact specArray_any [a, b, c] (some ⟨k, 0, none⟩) 3 W (show 3 ≤ 1048576 by decide) hts (fun y hy => by
    simp only [List.mem_cons, List.not_mem_nil, or_false] at hy
    rcases hy with rfl | rfl | rfl
    · exact ha
    · exact hb
    · exact hc)
theorem texts_facts (w : World) (x : Value) (hv : RVars w) (hx : OthV w x) {T : List EntD} (hF : FreeT T) {y : Nat} (hy : y < 30) :
    ∃ (DN X : ByteArray) (A B Z D E : List EntD) (G1 N1 G2 AR b2 b1 nb : ByteArray),
      ((∀ W, Calls Tryz.prog 9 #[.int .i64 (y : Int)] W fun e w' => e = .returned (.string DN) ∧ Below W.heap.size W w') ∧ DN.size ≤ 21 ∧ Hid ((⟨#[118]⟩ : ByteArray) ++ DN = X) ∧ X.size ≤ 58) ∧
      (OnC w T [⟨#[83, 69, 84]⟩, ⟨#[113]⟩, X] A ⟨#[43, 79, 75, 13, 10]⟩ ∧ OnC w A [⟨#[71, 69, 84]⟩, ⟨#[113]⟩] A G1 ∧ OnC w A [⟨#[97, 112, 112, 101, 110, 100]⟩, ⟨#[113]⟩, ⟨#[33, 33]⟩] B N1 ∧ OnC w B [⟨#[71, 69, 84, 83, 69, 84]⟩, ⟨#[113]⟩, ⟨#[122]⟩] Z G2 ∧ OnC w B [⟨#[83, 69, 84, 78, 88]⟩, ⟨#[113]⟩, ⟨#[122]⟩] B ⟨#[58, 48, 13, 10]⟩ ∧ OnC w B [⟨#[83, 84, 82, 76, 69, 78]⟩, ⟨#[113]⟩] B N1 ∧ OnC w T [⟨#[83, 69, 84, 78, 88]⟩, ⟨#[113, 113]⟩, ⟨#[122]⟩] D ⟨#[58, 49, 13, 10]⟩ ∧ OnC w T [⟨#[77, 83, 69, 84]⟩, ⟨#[113]⟩, ⟨#[49]⟩, ⟨#[113, 113]⟩, ⟨#[50]⟩] E ⟨#[43, 79, 75, 13, 10]⟩ ∧ OnC w E [⟨#[77, 71, 69, 84]⟩, ⟨#[113, 113]⟩, ⟨#[110, 111, 110, 101]⟩, ⟨#[113]⟩] E AR ∧ OthC w T [⟨#[76, 76, 69, 78]⟩, ⟨#[113]⟩]) ∧
      (D.length = T.length + 1 ∧ SameC B) ∧
      ((∀ W, Calls Tryz.prog 11 #[.string X] W fun e w' => e = .returned (.string G1) ∧ Below W.heap.size W w') ∧ (∀ W, Calls Tryz.prog 12 #[.int .i64 ((X.size : Int) + 2)] W fun e w' => e = .returned (.string N1) ∧ Below W.heap.size W w') ∧ (∀ W, Calls Tryz.prog 11 #[.string (X ++ ⟨#[33, 33]⟩)] W fun e w' => e = .returned (.string G2) ∧ Below W.heap.size W w') ∧ (∀ W, Calls Tryz.prog 11 #[.string ⟨#[50]⟩] W fun e w' => e = .returned (.string b2) ∧ Below W.heap.size W w') ∧ (∀ W, Calls Tryz.prog 11 #[.string ⟨#[49]⟩] W fun e w' => e = .returned (.string b1) ∧ Below W.heap.size W w') ∧ (∀ W, Calls Tryz.prog 15 #[] W fun e w' => e = .returned (.string nb) ∧ Below W.heap.size W w') ∧
       (∀ (W : World) (k : Nat), W.heap[k]? = some (.cells #[.string b2, .string nb, .string b1] 9 (0, 0)) → Calls Tryz.prog 14 #[.slice (some ⟨k, 0, none⟩) 3 3] W fun e w' => e = .returned (.string AR) ∧ Below W.heap.size W w')) := by
  have hDz := numB_size (y : Int) (by omega) (by omega)
  obtain ⟨DN, hDN⟩ : ∃ DN, DN = numB (y : Int) := ⟨_, rfl⟩
  rw [← hDN] at hDz
  obtain ⟨X, hX⟩ : ∃ X, (⟨#[118]⟩ : ByteArray) ++ DN = X := ⟨_, rfl⟩
  have hXz : X.size ≤ 58 := by
    rw [← hX, ByteArray.size_append]
    have : (⟨#[118]⟩ : ByteArray).size = 1 := rfl
    omega
  obtain ⟨A, B, D, E, hA, hB, hD, hE, eA, eB, eD, lD, eE, h1, hBZ, fA, fB, fqq, fE1, fE2, fE3⟩ := free_facts hF hXz
  have hT := hF.1
  have cS := cmT_set w x hv hx hT (y := X) (by omega) (by rw [← eA]; exact hA)
  have cA := cmT_add w x hv hx hA fA rfl (by show TabR (putT A qB ⟨1, 0, X ++ ⟨#[33, 33]⟩, []⟩); rw [← eB]; exact hB)
  have cD := cmT_new w x hv hx hT fqq (by rw [← eD]; exact hD)
  have cM := cmT_mset w x hv hx hT h1 (by rw [← eE]; exact hE)
  rw [← eA] at cS
  rw [← show B = putT A qB ⟨(txt X).kind, (txt X).til, (txt X).text ++ ⟨#[33, 33]⟩, (txt X).items⟩ from eB] at cA
  rw [← eD] at cD
  rw [← eE] at cM
  have hsz : (X ++ ⟨#[33, 33]⟩ : ByteArray).size = X.size + 2 := by rw [ByteArray.size_append]; rfl
  have sN : ∀ W, Calls Tryz.prog 12 #[.int .i64 ((X.size : Int) + 2)] W fun e w' => e = .returned (.string (hdB ⟨#[58]⟩ (X ++ ⟨#[33, 33]⟩ : ByteArray).size)) ∧ Below W.heap.size W w' := fun W => by
    rw [hsz, show ((X.size + 2 : Nat) : Int) = (X.size : Int) + 2 from by omega]
    exact specNumber_any ((X.size : Int) + 2) W (by omega) (by omega)
  have sD : ∀ W, Calls Tryz.prog 9 #[.int .i64 (y : Int)] W fun e w' => e = .returned (.string DN) ∧ Below W.heap.size W w' := fun W => by
    rw [hDN]
    exact decimal_any (y : Int) W (by omega) (by omega)
  have sB : SameC B := same_right hB
  have g1 := cmT_get w x hv hx hA fA rfl
  have g2 := cmT_getset w x hv hx hB fB rfl hBZ
  have g3 := cmT_setnx w x hv hx hB fB
  have g4 := cmT_len w x hv hx hB fB rfl
  have g5 := cmT_mget w x hv hx hE fE1 fE2 fE3
  have g6 := cmT_oth w x hx hT
  have t1 := fun W => specBulk_any X W (by omega)
  have t2 := fun W => specBulk_any (X ++ ⟨#[33, 33]⟩) W (by omega)
  have t3 := fun W => specBulk_any ⟨#[50]⟩ W (by decide)
  have t4 := fun W => specBulk_any ⟨#[49]⟩ W (by decide)
  have t5 := fun W => (specNil_any W).mono (fun e w' h => (⟨h.1, by rw [h.2]; exact Below.refl _ _⟩ : e = .returned (.string nilB) ∧ Below W.heap.size W w'))
  refine ⟨DN, X, A, B, putT B qB (txt ⟨#[122]⟩), D, E, bulkB X, hdB ⟨#[58]⟩ (X ++ ⟨#[33, 33]⟩ : ByteArray).size, bulkB (X ++ ⟨#[33, 33]⟩), arrB [bulkB ⟨#[50]⟩, nilB, bulkB ⟨#[49]⟩], bulkB ⟨#[50]⟩, bulkB ⟨#[49]⟩, nilB,
    ⟨sD, hDz, hX, hXz⟩, ⟨?_, ?_, ?_, ?_, ?_, ?_, ?_, ?_, ?_, ?_⟩, ⟨lD, sB⟩, ?_, ?_, ?_, ?_, ?_, ?_, ?_⟩
  · exact cS
  · exact g1
  · exact cA
  · exact g2
  · exact g3
  · exact g4
  · exact cD
  · exact cM
  · exact g5
  · exact g6
  · exact t1
  · exact sN
  · exact t2
  · exact t3
  · exact t4
  · exact t5
  · exact fun W k h => arr_three (bulkB_size (by decide)) (by decide : nilB.size ≤ 1048576) (bulkB_size (by decide)) h
theorem texts_walk (w : World) (x : Value) (ao : Option Addr) (len cap : Nat) (hv : RVars w) (hx : OthV w x) (hcode : len ≤ 1048576 → Code w ao len) :
    Calls Tryz.prog 3 #[.slice ao len cap] w fun e w' => e = .returned (.bool true) ∧ Below w.heap.size w w' := by
  by_cases hlen : len ≤ 1048576
  case neg =>
    have hbig : decide (1048576 < (len : Int)) = true := by simp; omega
    clear hv hx
    go_enter Tryz.func3, Tryz.ntmps3
    go_wp2_with fail
    refine (big_any _ ao len cap).mono ?_
    rintro e w1 ⟨rfl, rfl⟩
    rw [hbig]
    go_wp2
    go_ret
    exact ⟨rfl, Below.refl _ _⟩
  have hbig : decide (1048576 < (len : Int)) = false := by simp; omega
  have HDA := hide (drawArgs_any w ao len cap hlen (hcode hlen))
  have HFA := hide (fun (T : List EntD) (y : Nat) hF hy => texts_facts w x hv hx (T := T) hF (y := y) hy)
  clear hcode hv hx
  go_enter Tryz.func3, Tryz.ntmps3
  go_wp2_with fail
  refine (big_any _ ao len cap).mono ?_
  rintro e w1 ⟨rfl, e1⟩
  obtain rfl := e1.symm
  rw [hbig]
  clear hbig
  go_wp2_with fail
  refine HDA.out.mono ?_
  rintro e w2 ⟨⟨T0, ta, tc, y, aa, an, ac, rfl, hcap, hy, hT0, hk0, he0⟩, b2⟩
  have B2 := hide b2
  have HT0 := hide (And.intro hT0 hk0)
  have HE0 := hide he0
  have hl20 : T0.length ≤ 20 := hT0.1
  clear b2 hT0 hk0 he0 HDA
  have hnn : (0 : Int) ≤ (an : Int) := by omega
  by_cases h18 : 18 < T0.length
  · have h18' : decide (18 < (T0.length : Int)) = true := by simp; omega
    obtain ⟨T, hTT⟩ : ∃ T, Hid (T0.take 5 = T) := ⟨_, rfl⟩
    have hTl : T.length = 5 := by rw [← hTT.out, List.length_take]; omega
    have HFT := hide (show FreeT T from by rw [← hTT.out]; exact free_of (tab_take HT0.out.1 5) (fun e he => HT0.out.2 e (List.mem_of_mem_take he)) (by rw [List.length_take]; omega))
    have TT_w2 : Hid (TabAt w2 (.slice ta 5 tc) T) := ⟨ta, tc, by rw [hTl], by rw [← hTT.out]; exact entriesAt_take HE0.out 5⟩
    have hN18 : (T.length : Int) = 5 := by omega
    have hc5 : (5 : Int) ≤ (tc : Int) := by omega
    obtain ⟨DN, X, A, B, Z, D, E, G1, N1, G2, AR, b2, b1, nb, ⟨cN, hDz, hX, hXz⟩, ⟨c1, c2, c3, c4, c5, c6, c7, c8, c9, c10⟩, ⟨lD, sB⟩, s1, s2, s3, s4, s5, s6, s7⟩ := HFA.out T y HFT.out hy
    have CN := hide cN
    have C1 := hide c1
    have C2 := hide c2
    have C3 := hide c3
    have C4 := hide c4
    have C5 := hide c5
    have C6 := hide c6
    have C7 := hide c7
    have C8 := hide c8
    have C9 := hide c9
    have C10 := hide c10
    have LD := hide lD
    have SB := hide sB
    have S1 := hide s1
    have S2 := hide s2
    have S3 := hide s3
    have S4 := hide s4
    have S5 := hide s5
    have S6 := hide s6
    have S7 := hide s7
    have q1 : (G1.toList != G1.toList) = false := by simp
    have q2 : (N1.toList != N1.toList) = false := by simp
    have q3 : (G2.toList != G2.toList) = false := by simp
    have q4 : (AR.toList == AR.toList) = true := beq_self_eq_true _
    have hl1 : (⟨#[118]⟩ : ByteArray).size + DN.size ≤ 9223372036854775807 := by
      have : (⟨#[118]⟩ : ByteArray).size = 1 := rfl
      omega
    have hw2 : IntKind.i64.wrap ((X.size : Int) + 2) = (X.size : Int) + 2 := by rw [IntKind.wrap_i64]; omega
    have hw3 : IntKind.i64.wrap ((5 : Int) + 1) = (5 : Int) + 1 := by rw [IntKind.wrap_i64]; omega
    clear cN c1 c2 c3 c4 c5 c6 c7 c8 c9 c10 lD sB s1 s2 s3 s4 s5 s6 s7 HFA HFT HT0 HE0
    go_upto_region 6 with fail
    clear h18 h18'
    go_wp2_with fail
    refine (CN.out _).mono ?_
    rintro e w3 ⟨rfl, b3⟩
    have B3 := hide (B2.out.trans (b3.mono B2.out.size))
    have TT_w3 := hide (tabAt_keep TT_w2.out b3)
    clear b3 TT_w2
    go_upto_region 7 with fail
    rw [hX]
    clear hX
    have BW4 : Hid (Below w3.heap.size w3 (w3.alloc (.cells #[.string ⟨#[83, 69, 84]⟩, .string ⟨#[113]⟩, .string X] 9))) := (Below.refl w3.heap.size w3).alloc (Nat.le_refl _) _
    have HC4 := hide (C1.out (w3.alloc (.cells #[.string ⟨#[83, 69, 84]⟩, .string ⟨#[113]⟩, .string X] 9)) _ w3.heap.size (tabAt_keep TT_w3.out BW4.out) (textsAt_lit w3 [⟨#[83, 69, 84]⟩, ⟨#[113]⟩, X]) (B3.out.trans (BW4.out.mono B3.out.size)))
    go_wp2_with fail
    refine HC4.out.mono ?_
    rintro e w4 ⟨⟨a4, n4, c4, rfl, ht4⟩, b4⟩
    have M4 := hide ht4
    have bb4 := BW4.out.trans (b4.mono BW4.out.size)
    have B4 := hide (B3.out.trans (bb4.mono B3.out.size))
    have TT_w4 := hide (tabAt_keep TT_w3.out bb4)
    clear TT_w3
    clear b4 bb4 ht4 BW4 HC4
    have BW5 : Hid (Below w4.heap.size w4 (w4.alloc (.cells #[.string ⟨#[71, 69, 84]⟩, .string ⟨#[113]⟩] 9))) := (Below.refl w4.heap.size w4).alloc (Nat.le_refl _) _
    have HC5 := hide (C2.out (w4.alloc (.cells #[.string ⟨#[71, 69, 84]⟩, .string ⟨#[113]⟩] 9)) _ w4.heap.size (tabAt_keep M4.out BW5.out) (textsAt_lit w4 [⟨#[71, 69, 84]⟩, ⟨#[113]⟩]) (B4.out.trans (BW5.out.mono B4.out.size)))
    go_wp2_with fail
    refine HC5.out.mono ?_
    rintro e w5 ⟨⟨a5, n5, c5, rfl, ht5⟩, b5⟩
    have M5 := hide ht5
    have bb5 := BW5.out.trans (b5.mono BW5.out.size)
    have B5 := hide (B4.out.trans (bb5.mono B4.out.size))
    have TT_w5 := hide (tabAt_keep TT_w4.out bb5)
    clear TT_w4
    have M4_w5 := hide (tabAt_keep M4.out bb5)
    clear M4
    clear b5 bb5 ht5 BW5 HC5
    have BW6 : Hid (Below w5.heap.size w5 (w5.alloc (.cells #[.string ⟨#[97, 112, 112, 101, 110, 100]⟩, .string ⟨#[113]⟩, .string ⟨#[33, 33]⟩] 9))) := (Below.refl w5.heap.size w5).alloc (Nat.le_refl _) _
    have HC6 := hide (C3.out (w5.alloc (.cells #[.string ⟨#[97, 112, 112, 101, 110, 100]⟩, .string ⟨#[113]⟩, .string ⟨#[33, 33]⟩] 9)) _ w5.heap.size (tabAt_keep M4_w5.out BW6.out) (textsAt_lit w5 [⟨#[97, 112, 112, 101, 110, 100]⟩, ⟨#[113]⟩, ⟨#[33, 33]⟩]) (B5.out.trans (BW6.out.mono B5.out.size)))
    go_wp2_with fail
    refine HC6.out.mono ?_
    rintro e w6 ⟨⟨a6, n6, c6, rfl, ht6⟩, b6⟩
    have M6 := hide ht6
    have bb6 := BW6.out.trans (b6.mono BW6.out.size)
    have B6 := hide (B5.out.trans (bb6.mono B5.out.size))
    have TT_w6 := hide (tabAt_keep TT_w5.out bb6)
    clear TT_w5
    have M4_w6 := hide (tabAt_keep M4_w5.out bb6)
    clear M4_w5
    have M5_w6 := hide (tabAt_keep M5.out bb6)
    clear M5
    clear b6 bb6 ht6 BW6 HC6
    have BW7 : Hid (Below w6.heap.size w6 (w6.alloc (.cells #[.string ⟨#[71, 69, 84, 83, 69, 84]⟩, .string ⟨#[113]⟩, .string ⟨#[122]⟩] 9))) := (Below.refl w6.heap.size w6).alloc (Nat.le_refl _) _
    have HC7 := hide (C4.out (w6.alloc (.cells #[.string ⟨#[71, 69, 84, 83, 69, 84]⟩, .string ⟨#[113]⟩, .string ⟨#[122]⟩] 9)) _ w6.heap.size (tabAt_keep M6.out BW7.out) (textsAt_lit w6 [⟨#[71, 69, 84, 83, 69, 84]⟩, ⟨#[113]⟩, ⟨#[122]⟩]) (B6.out.trans (BW7.out.mono B6.out.size)))
    go_wp2_with fail
    refine HC7.out.mono ?_
    rintro e w7 ⟨⟨a7, n7, c7, rfl, ht7⟩, b7⟩
    have M7 := hide ht7
    have bb7 := BW7.out.trans (b7.mono BW7.out.size)
    have B7 := hide (B6.out.trans (bb7.mono B6.out.size))
    have TT_w7 := hide (tabAt_keep TT_w6.out bb7)
    clear TT_w6
    have M4_w7 := hide (tabAt_keep M4_w6.out bb7)
    clear M4_w6
    have M5_w7 := hide (tabAt_keep M5_w6.out bb7)
    clear M5_w6
    have M6_w7 := hide (tabAt_keep M6.out bb7)
    clear M6
    clear b7 bb7 ht7 BW7 HC7
    have BW8 : Hid (Below w7.heap.size w7 (w7.alloc (.cells #[.string ⟨#[83, 69, 84, 78, 88]⟩, .string ⟨#[113]⟩, .string ⟨#[122]⟩] 9))) := (Below.refl w7.heap.size w7).alloc (Nat.le_refl _) _
    have HC8 := hide (C5.out (w7.alloc (.cells #[.string ⟨#[83, 69, 84, 78, 88]⟩, .string ⟨#[113]⟩, .string ⟨#[122]⟩] 9)) _ w7.heap.size (tabAt_keep M6_w7.out BW8.out) (textsAt_lit w7 [⟨#[83, 69, 84, 78, 88]⟩, ⟨#[113]⟩, ⟨#[122]⟩]) (B7.out.trans (BW8.out.mono B7.out.size)))
    go_wp2_with fail
    refine HC8.out.mono ?_
    rintro e w8 ⟨⟨a8, n8, c8, rfl, ht8⟩, b8⟩
    have M8 := hide ht8
    have bb8 := BW8.out.trans (b8.mono BW8.out.size)
    have B8 := hide (B7.out.trans (bb8.mono B7.out.size))
    have TT_w8 := hide (tabAt_keep TT_w7.out bb8)
    clear TT_w7
    have M4_w8 := hide (tabAt_keep M4_w7.out bb8)
    clear M4_w7
    have M5_w8 := hide (tabAt_keep M5_w7.out bb8)
    clear M5_w7
    have M6_w8 := hide (tabAt_keep M6_w7.out bb8)
    clear M6_w7
    have M7_w8 := hide (tabAt_keep M7.out bb8)
    clear M7
    clear b8 bb8 ht8 BW8 HC8
    have BW9 : Hid (Below w8.heap.size w8 (w8.alloc (.cells #[.string ⟨#[83, 84, 82, 76, 69, 78]⟩, .string ⟨#[113]⟩] 9))) := (Below.refl w8.heap.size w8).alloc (Nat.le_refl _) _
    have HC9 := hide (C6.out (w8.alloc (.cells #[.string ⟨#[83, 84, 82, 76, 69, 78]⟩, .string ⟨#[113]⟩] 9)) _ w8.heap.size (tabAt_keep M6_w8.out BW9.out) (textsAt_lit w8 [⟨#[83, 84, 82, 76, 69, 78]⟩, ⟨#[113]⟩]) (B8.out.trans (BW9.out.mono B8.out.size)))
    go_wp2_with fail
    refine HC9.out.mono ?_
    rintro e w9 ⟨⟨a9, n9, c9, rfl, ht9⟩, b9⟩
    have M9 := hide ht9
    have bb9 := BW9.out.trans (b9.mono BW9.out.size)
    have B9 := hide (B8.out.trans (bb9.mono B8.out.size))
    have TT_w9 := hide (tabAt_keep TT_w8.out bb9)
    clear TT_w8
    have M4_w9 := hide (tabAt_keep M4_w8.out bb9)
    clear M4_w8
    have M5_w9 := hide (tabAt_keep M5_w8.out bb9)
    clear M5_w8
    have M6_w9 := hide (tabAt_keep M6_w8.out bb9)
    clear M6_w8
    have M7_w9 := hide (tabAt_keep M7_w8.out bb9)
    clear M7_w8
    have M8_w9 := hide (tabAt_keep M8.out bb9)
    clear M8
    clear b9 bb9 ht9 BW9 HC9
    have BW10 : Hid (Below w9.heap.size w9 (w9.alloc (.cells #[.string ⟨#[83, 69, 84, 78, 88]⟩, .string ⟨#[113, 113]⟩, .string ⟨#[122]⟩] 9))) := (Below.refl w9.heap.size w9).alloc (Nat.le_refl _) _
    have HC10 := hide (C7.out (w9.alloc (.cells #[.string ⟨#[83, 69, 84, 78, 88]⟩, .string ⟨#[113, 113]⟩, .string ⟨#[122]⟩] 9)) _ w9.heap.size (tabAt_keep TT_w9.out BW10.out) (textsAt_lit w9 [⟨#[83, 69, 84, 78, 88]⟩, ⟨#[113, 113]⟩, ⟨#[122]⟩]) (B9.out.trans (BW10.out.mono B9.out.size)))
    go_wp2_with fail
    refine HC10.out.mono ?_
    rintro e w10 ⟨⟨a10, n10, c10, rfl, ht10⟩, b10⟩
    have M10 := hide ht10
    have bb10 := BW10.out.trans (b10.mono BW10.out.size)
    have B10 := hide (B9.out.trans (bb10.mono B9.out.size))
    have TT_w10 := hide (tabAt_keep TT_w9.out bb10)
    clear TT_w9
    have M4_w10 := hide (tabAt_keep M4_w9.out bb10)
    clear M4_w9
    have M5_w10 := hide (tabAt_keep M5_w9.out bb10)
    clear M5_w9
    have M6_w10 := hide (tabAt_keep M6_w9.out bb10)
    clear M6_w9
    have M7_w10 := hide (tabAt_keep M7_w9.out bb10)
    clear M7_w9
    have M8_w10 := hide (tabAt_keep M8_w9.out bb10)
    clear M8_w9
    have M9_w10 := hide (tabAt_keep M9.out bb10)
    clear M9
    clear b10 bb10 ht10 BW10 HC10
    have BW11 : Hid (Below w10.heap.size w10 (w10.alloc (.cells #[.string ⟨#[77, 83, 69, 84]⟩, .string ⟨#[113]⟩, .string ⟨#[49]⟩, .string ⟨#[113, 113]⟩, .string ⟨#[50]⟩] 9))) := (Below.refl w10.heap.size w10).alloc (Nat.le_refl _) _
    have HC11 := hide (C8.out (w10.alloc (.cells #[.string ⟨#[77, 83, 69, 84]⟩, .string ⟨#[113]⟩, .string ⟨#[49]⟩, .string ⟨#[113, 113]⟩, .string ⟨#[50]⟩] 9)) _ w10.heap.size (tabAt_keep TT_w10.out BW11.out) (textsAt_lit w10 [⟨#[77, 83, 69, 84]⟩, ⟨#[113]⟩, ⟨#[49]⟩, ⟨#[113, 113]⟩, ⟨#[50]⟩]) (B10.out.trans (BW11.out.mono B10.out.size)))
    go_wp2_with fail
    refine HC11.out.mono ?_
    rintro e w11 ⟨⟨a11, n11, c11, rfl, ht11⟩, b11⟩
    have M11 := hide ht11
    have bb11 := BW11.out.trans (b11.mono BW11.out.size)
    have B11 := hide (B10.out.trans (bb11.mono B10.out.size))
    have TT_w11 := hide (tabAt_keep TT_w10.out bb11)
    clear TT_w10
    have M4_w11 := hide (tabAt_keep M4_w10.out bb11)
    clear M4_w10
    have M5_w11 := hide (tabAt_keep M5_w10.out bb11)
    clear M5_w10
    have M6_w11 := hide (tabAt_keep M6_w10.out bb11)
    clear M6_w10
    have M7_w11 := hide (tabAt_keep M7_w10.out bb11)
    clear M7_w10
    have M8_w11 := hide (tabAt_keep M8_w10.out bb11)
    clear M8_w10
    have M9_w11 := hide (tabAt_keep M9_w10.out bb11)
    clear M9_w10
    have M10_w11 := hide (tabAt_keep M10.out bb11)
    clear M10
    clear b11 bb11 ht11 BW11 HC11
    have BW12 : Hid (Below w11.heap.size w11 (w11.alloc (.cells #[.string ⟨#[77, 71, 69, 84]⟩, .string ⟨#[113, 113]⟩, .string ⟨#[110, 111, 110, 101]⟩, .string ⟨#[113]⟩] 9))) := (Below.refl w11.heap.size w11).alloc (Nat.le_refl _) _
    have HC12 := hide (C9.out (w11.alloc (.cells #[.string ⟨#[77, 71, 69, 84]⟩, .string ⟨#[113, 113]⟩, .string ⟨#[110, 111, 110, 101]⟩, .string ⟨#[113]⟩] 9)) _ w11.heap.size (tabAt_keep M11.out BW12.out) (textsAt_lit w11 [⟨#[77, 71, 69, 84]⟩, ⟨#[113, 113]⟩, ⟨#[110, 111, 110, 101]⟩, ⟨#[113]⟩]) (B11.out.trans (BW12.out.mono B11.out.size)))
    go_wp2_with fail
    refine HC12.out.mono ?_
    rintro e w12 ⟨⟨a12, n12, c12, rfl, ht12⟩, b12⟩
    have M12 := hide ht12
    have bb12 := BW12.out.trans (b12.mono BW12.out.size)
    have B12 := hide (B11.out.trans (bb12.mono B11.out.size))
    have TT_w12 := hide (tabAt_keep TT_w11.out bb12)
    clear TT_w11
    have M4_w12 := hide (tabAt_keep M4_w11.out bb12)
    clear M4_w11
    have M5_w12 := hide (tabAt_keep M5_w11.out bb12)
    clear M5_w11
    have M6_w12 := hide (tabAt_keep M6_w11.out bb12)
    clear M6_w11
    have M7_w12 := hide (tabAt_keep M7_w11.out bb12)
    clear M7_w11
    have M8_w12 := hide (tabAt_keep M8_w11.out bb12)
    clear M8_w11
    have M9_w12 := hide (tabAt_keep M9_w11.out bb12)
    clear M9_w11
    have M10_w12 := hide (tabAt_keep M10_w11.out bb12)
    clear M10_w11
    have M11_w12 := hide (tabAt_keep M11.out bb12)
    clear M11
    clear b12 bb12 ht12 BW12 HC12
    have hnD : n10 = D.length := by
      obtain ⟨_, _, e, -⟩ := M10_w12.out
      cases e
      rfl
    have hne : (D.length : Int) = 6 := by
      have := LD.out
      omega
    go_wp2_with fail
    refine (S1.out _).mono ?_
    rintro e w13 ⟨rfl, b13⟩
    have B13 := hide (B12.out.trans (b13.mono B12.out.size))
    have TT_w13 := hide (tabAt_keep TT_w12.out b13)
    clear TT_w12
    have M4_w13 := hide (tabAt_keep M4_w12.out b13)
    clear M4_w12
    have M5_w13 := hide (tabAt_keep M5_w12.out b13)
    clear M5_w12
    have M6_w13 := hide (tabAt_keep M6_w12.out b13)
    clear M6_w12
    have M7_w13 := hide (tabAt_keep M7_w12.out b13)
    clear M7_w12
    have M8_w13 := hide (tabAt_keep M8_w12.out b13)
    clear M8_w12
    have M9_w13 := hide (tabAt_keep M9_w12.out b13)
    clear M9_w12
    have M10_w13 := hide (tabAt_keep M10_w12.out b13)
    clear M10_w12
    have M11_w13 := hide (tabAt_keep M11_w12.out b13)
    clear M11_w12
    have M12_w13 := hide (tabAt_keep M12.out b13)
    clear M12
    clear b13
    go_wp2_with fail
    refine (S2.out _).mono ?_
    rintro e w14 ⟨rfl, b14⟩
    have B14 := hide (B13.out.trans (b14.mono B13.out.size))
    have TT_w14 := hide (tabAt_keep TT_w13.out b14)
    clear TT_w13
    have M4_w14 := hide (tabAt_keep M4_w13.out b14)
    clear M4_w13
    have M5_w14 := hide (tabAt_keep M5_w13.out b14)
    clear M5_w13
    have M6_w14 := hide (tabAt_keep M6_w13.out b14)
    clear M6_w13
    have M7_w14 := hide (tabAt_keep M7_w13.out b14)
    clear M7_w13
    have M8_w14 := hide (tabAt_keep M8_w13.out b14)
    clear M8_w13
    have M9_w14 := hide (tabAt_keep M9_w13.out b14)
    clear M9_w13
    have M10_w14 := hide (tabAt_keep M10_w13.out b14)
    clear M10_w13
    have M11_w14 := hide (tabAt_keep M11_w13.out b14)
    clear M11_w13
    have M12_w14 := hide (tabAt_keep M12_w13.out b14)
    clear M12_w13
    clear b14
    go_wp2_with fail
    refine (S3.out _).mono ?_
    rintro e w15 ⟨rfl, b15⟩
    have B15 := hide (B14.out.trans (b15.mono B14.out.size))
    have TT_w15 := hide (tabAt_keep TT_w14.out b15)
    clear TT_w14
    have M4_w15 := hide (tabAt_keep M4_w14.out b15)
    clear M4_w14
    have M5_w15 := hide (tabAt_keep M5_w14.out b15)
    clear M5_w14
    have M6_w15 := hide (tabAt_keep M6_w14.out b15)
    clear M6_w14
    have M7_w15 := hide (tabAt_keep M7_w14.out b15)
    clear M7_w14
    have M8_w15 := hide (tabAt_keep M8_w14.out b15)
    clear M8_w14
    have M9_w15 := hide (tabAt_keep M9_w14.out b15)
    clear M9_w14
    have M10_w15 := hide (tabAt_keep M10_w14.out b15)
    clear M10_w14
    have M11_w15 := hide (tabAt_keep M11_w14.out b15)
    clear M11_w14
    have M12_w15 := hide (tabAt_keep M12_w14.out b15)
    clear M12_w14
    clear b15
    go_wp2_with fail
    refine (SB.out _ _ _ M8_w15.out M6_w15.out).mono ?_
    rintro e w16 ⟨rfl, b16⟩
    have B16 := hide (B15.out.trans (b16.mono B15.out.size))
    have TT_w16 := hide (tabAt_keep TT_w15.out b16)
    clear TT_w15
    have M4_w16 := hide (tabAt_keep M4_w15.out b16)
    clear M4_w15
    have M5_w16 := hide (tabAt_keep M5_w15.out b16)
    clear M5_w15
    have M6_w16 := hide (tabAt_keep M6_w15.out b16)
    clear M6_w15
    have M7_w16 := hide (tabAt_keep M7_w15.out b16)
    clear M7_w15
    have M8_w16 := hide (tabAt_keep M8_w15.out b16)
    clear M8_w15
    have M9_w16 := hide (tabAt_keep M9_w15.out b16)
    clear M9_w15
    have M10_w16 := hide (tabAt_keep M10_w15.out b16)
    clear M10_w15
    have M11_w16 := hide (tabAt_keep M11_w15.out b16)
    clear M11_w15
    have M12_w16 := hide (tabAt_keep M12_w15.out b16)
    clear M12_w15
    clear b16
    have BW17 : Hid (Below w16.heap.size w16 (w16.alloc (.cells #[.string ⟨#[76, 76, 69, 78]⟩, .string ⟨#[113]⟩] 9))) := (Below.refl w16.heap.size w16).alloc (Nat.le_refl _) _
    have HC17 := hide (C10.out (w16.alloc (.cells #[.string ⟨#[76, 76, 69, 78]⟩, .string ⟨#[113]⟩] 9)) _ w16.heap.size (tabAt_keep TT_w16.out BW17.out) (textsAt_lit w16 [⟨#[76, 76, 69, 78]⟩, ⟨#[113]⟩]) (B16.out.trans (BW17.out.mono B16.out.size)))
    go_wp2_with fail
    refine HC17.out.mono ?_
    rintro e w17 ⟨rfl, b17⟩
    have bb17 := BW17.out.trans (b17.mono BW17.out.size)
    have B17 := hide (B16.out.trans (bb17.mono B16.out.size))
    have TT_w17 := hide (tabAt_keep TT_w16.out bb17)
    clear TT_w16
    have M4_w17 := hide (tabAt_keep M4_w16.out bb17)
    clear M4_w16
    have M5_w17 := hide (tabAt_keep M5_w16.out bb17)
    clear M5_w16
    have M6_w17 := hide (tabAt_keep M6_w16.out bb17)
    clear M6_w16
    have M7_w17 := hide (tabAt_keep M7_w16.out bb17)
    clear M7_w16
    have M8_w17 := hide (tabAt_keep M8_w16.out bb17)
    clear M8_w16
    have M9_w17 := hide (tabAt_keep M9_w16.out bb17)
    clear M9_w16
    have M10_w17 := hide (tabAt_keep M10_w16.out bb17)
    clear M10_w16
    have M11_w17 := hide (tabAt_keep M11_w16.out bb17)
    clear M11_w16
    have M12_w17 := hide (tabAt_keep M12_w16.out bb17)
    clear M12_w16
    clear b17 bb17 BW17 HC17
    go_wp2_with fail
    refine (S4.out _).mono ?_
    rintro e w18 ⟨rfl, b18⟩
    have B18 := hide (B17.out.trans (b18.mono B17.out.size))
    have TT_w18 := hide (tabAt_keep TT_w17.out b18)
    clear TT_w17
    have M4_w18 := hide (tabAt_keep M4_w17.out b18)
    clear M4_w17
    have M5_w18 := hide (tabAt_keep M5_w17.out b18)
    clear M5_w17
    have M6_w18 := hide (tabAt_keep M6_w17.out b18)
    clear M6_w17
    have M7_w18 := hide (tabAt_keep M7_w17.out b18)
    clear M7_w17
    have M8_w18 := hide (tabAt_keep M8_w17.out b18)
    clear M8_w17
    have M9_w18 := hide (tabAt_keep M9_w17.out b18)
    clear M9_w17
    have M10_w18 := hide (tabAt_keep M10_w17.out b18)
    clear M10_w17
    have M11_w18 := hide (tabAt_keep M11_w17.out b18)
    clear M11_w17
    have M12_w18 := hide (tabAt_keep M12_w17.out b18)
    clear M12_w17
    clear b18
    go_wp2_with fail
    refine (S6.out _).mono ?_
    rintro e w19 ⟨rfl, b19⟩
    have B19 := hide (B18.out.trans (b19.mono B18.out.size))
    have TT_w19 := hide (tabAt_keep TT_w18.out b19)
    clear TT_w18
    have M4_w19 := hide (tabAt_keep M4_w18.out b19)
    clear M4_w18
    have M5_w19 := hide (tabAt_keep M5_w18.out b19)
    clear M5_w18
    have M6_w19 := hide (tabAt_keep M6_w18.out b19)
    clear M6_w18
    have M7_w19 := hide (tabAt_keep M7_w18.out b19)
    clear M7_w18
    have M8_w19 := hide (tabAt_keep M8_w18.out b19)
    clear M8_w18
    have M9_w19 := hide (tabAt_keep M9_w18.out b19)
    clear M9_w18
    have M10_w19 := hide (tabAt_keep M10_w18.out b19)
    clear M10_w18
    have M11_w19 := hide (tabAt_keep M11_w18.out b19)
    clear M11_w18
    have M12_w19 := hide (tabAt_keep M12_w18.out b19)
    clear M12_w18
    clear b19
    go_wp2_with fail
    refine (S5.out _).mono ?_
    rintro e w20 ⟨rfl, b20⟩
    have B20 := hide (B19.out.trans (b20.mono B19.out.size))
    have TT_w20 := hide (tabAt_keep TT_w19.out b20)
    clear TT_w19
    have M4_w20 := hide (tabAt_keep M4_w19.out b20)
    clear M4_w19
    have M5_w20 := hide (tabAt_keep M5_w19.out b20)
    clear M5_w19
    have M6_w20 := hide (tabAt_keep M6_w19.out b20)
    clear M6_w19
    have M7_w20 := hide (tabAt_keep M7_w19.out b20)
    clear M7_w19
    have M8_w20 := hide (tabAt_keep M8_w19.out b20)
    clear M8_w19
    have M9_w20 := hide (tabAt_keep M9_w19.out b20)
    clear M9_w19
    have M10_w20 := hide (tabAt_keep M10_w19.out b20)
    clear M10_w19
    have M11_w20 := hide (tabAt_keep M11_w19.out b20)
    clear M11_w19
    have M12_w20 := hide (tabAt_keep M12_w19.out b20)
    clear M12_w19
    clear b20
    have HCA := hide (S7.out (w20.alloc (.cells #[.string b2, .string nb, .string b1] 9)) w20.heap.size (heap_alloc_new w20 _))
    have BW21 : Hid (Below w20.heap.size w20 (w20.alloc (.cells #[.string b2, .string nb, .string b1] 9))) := (Below.refl w20.heap.size w20).alloc (Nat.le_refl _) _
    go_wp2_with fail
    refine HCA.out.mono ?_
    rintro e w21 ⟨rfl, b21⟩
    have B21 := hide (B20.out.trans ((BW21.out.trans (b21.mono BW21.out.size)).mono B20.out.size))
    clear b21
    go_wp2
    go_ret
    exact ⟨rfl, B21.out⟩
  · have h18' : decide (18 < (T0.length : Int)) = false := by simp; omega
    have HFT := hide (free_of HT0.out.1 HT0.out.2 (by omega))
    have TT_w2 : Hid (TabAt w2 (.slice ta T0.length tc) T0) := ⟨ta, tc, rfl, HE0.out⟩
    obtain ⟨T, hTT⟩ : ∃ T, T0 = T := ⟨_, rfl⟩
    subst hTT
    obtain ⟨DN, X, A, B, Z, D, E, G1, N1, G2, AR, b2, b1, nb, ⟨cN, hDz, hX, hXz⟩, ⟨c1, c2, c3, c4, c5, c6, c7, c8, c9, c10⟩, ⟨lD, sB⟩, s1, s2, s3, s4, s5, s6, s7⟩ := HFA.out T0 y HFT.out hy
    have CN := hide cN
    have C1 := hide c1
    have C2 := hide c2
    have C3 := hide c3
    have C4 := hide c4
    have C5 := hide c5
    have C6 := hide c6
    have C7 := hide c7
    have C8 := hide c8
    have C9 := hide c9
    have C10 := hide c10
    have LD := hide lD
    have SB := hide sB
    have S1 := hide s1
    have S2 := hide s2
    have S3 := hide s3
    have S4 := hide s4
    have S5 := hide s5
    have S6 := hide s6
    have S7 := hide s7
    have q1 : (G1.toList != G1.toList) = false := by simp
    have q2 : (N1.toList != N1.toList) = false := by simp
    have q3 : (G2.toList != G2.toList) = false := by simp
    have q4 : (AR.toList == AR.toList) = true := beq_self_eq_true _
    have hl1 : (⟨#[118]⟩ : ByteArray).size + DN.size ≤ 9223372036854775807 := by
      have : (⟨#[118]⟩ : ByteArray).size = 1 := rfl
      omega
    have hw2 : IntKind.i64.wrap ((X.size : Int) + 2) = (X.size : Int) + 2 := by rw [IntKind.wrap_i64]; omega
    have hw3 : IntKind.i64.wrap ((T0.length : Int) + 1) = (T0.length : Int) + 1 := by rw [IntKind.wrap_i64]; omega
    clear cN c1 c2 c3 c4 c5 c6 c7 c8 c9 c10 lD sB s1 s2 s3 s4 s5 s6 s7 HFA HFT HT0 HE0
    go_upto_region 6 with fail
    clear h18 h18'
    go_wp2_with fail
    refine (CN.out _).mono ?_
    rintro e w3 ⟨rfl, b3⟩
    have B3 := hide (B2.out.trans (b3.mono B2.out.size))
    have TT_w3 := hide (tabAt_keep TT_w2.out b3)
    clear b3 TT_w2
    go_upto_region 7 with fail
    rw [hX]
    clear hX
    have BW4 : Hid (Below w3.heap.size w3 (w3.alloc (.cells #[.string ⟨#[83, 69, 84]⟩, .string ⟨#[113]⟩, .string X] 9))) := (Below.refl w3.heap.size w3).alloc (Nat.le_refl _) _
    have HC4 := hide (C1.out (w3.alloc (.cells #[.string ⟨#[83, 69, 84]⟩, .string ⟨#[113]⟩, .string X] 9)) _ w3.heap.size (tabAt_keep TT_w3.out BW4.out) (textsAt_lit w3 [⟨#[83, 69, 84]⟩, ⟨#[113]⟩, X]) (B3.out.trans (BW4.out.mono B3.out.size)))
    go_wp2_with fail
    refine HC4.out.mono ?_
    rintro e w4 ⟨⟨a4, n4, c4, rfl, ht4⟩, b4⟩
    have M4 := hide ht4
    have bb4 := BW4.out.trans (b4.mono BW4.out.size)
    have B4 := hide (B3.out.trans (bb4.mono B3.out.size))
    have TT_w4 := hide (tabAt_keep TT_w3.out bb4)
    clear TT_w3
    clear b4 bb4 ht4 BW4 HC4
    have BW5 : Hid (Below w4.heap.size w4 (w4.alloc (.cells #[.string ⟨#[71, 69, 84]⟩, .string ⟨#[113]⟩] 9))) := (Below.refl w4.heap.size w4).alloc (Nat.le_refl _) _
    have HC5 := hide (C2.out (w4.alloc (.cells #[.string ⟨#[71, 69, 84]⟩, .string ⟨#[113]⟩] 9)) _ w4.heap.size (tabAt_keep M4.out BW5.out) (textsAt_lit w4 [⟨#[71, 69, 84]⟩, ⟨#[113]⟩]) (B4.out.trans (BW5.out.mono B4.out.size)))
    go_wp2_with fail
    refine HC5.out.mono ?_
    rintro e w5 ⟨⟨a5, n5, c5, rfl, ht5⟩, b5⟩
    have M5 := hide ht5
    have bb5 := BW5.out.trans (b5.mono BW5.out.size)
    have B5 := hide (B4.out.trans (bb5.mono B4.out.size))
    have TT_w5 := hide (tabAt_keep TT_w4.out bb5)
    clear TT_w4
    have M4_w5 := hide (tabAt_keep M4.out bb5)
    clear M4
    clear b5 bb5 ht5 BW5 HC5
    have BW6 : Hid (Below w5.heap.size w5 (w5.alloc (.cells #[.string ⟨#[97, 112, 112, 101, 110, 100]⟩, .string ⟨#[113]⟩, .string ⟨#[33, 33]⟩] 9))) := (Below.refl w5.heap.size w5).alloc (Nat.le_refl _) _
    have HC6 := hide (C3.out (w5.alloc (.cells #[.string ⟨#[97, 112, 112, 101, 110, 100]⟩, .string ⟨#[113]⟩, .string ⟨#[33, 33]⟩] 9)) _ w5.heap.size (tabAt_keep M4_w5.out BW6.out) (textsAt_lit w5 [⟨#[97, 112, 112, 101, 110, 100]⟩, ⟨#[113]⟩, ⟨#[33, 33]⟩]) (B5.out.trans (BW6.out.mono B5.out.size)))
    go_wp2_with fail
    refine HC6.out.mono ?_
    rintro e w6 ⟨⟨a6, n6, c6, rfl, ht6⟩, b6⟩
    have M6 := hide ht6
    have bb6 := BW6.out.trans (b6.mono BW6.out.size)
    have B6 := hide (B5.out.trans (bb6.mono B5.out.size))
    have TT_w6 := hide (tabAt_keep TT_w5.out bb6)
    clear TT_w5
    have M4_w6 := hide (tabAt_keep M4_w5.out bb6)
    clear M4_w5
    have M5_w6 := hide (tabAt_keep M5.out bb6)
    clear M5
    clear b6 bb6 ht6 BW6 HC6
    have BW7 : Hid (Below w6.heap.size w6 (w6.alloc (.cells #[.string ⟨#[71, 69, 84, 83, 69, 84]⟩, .string ⟨#[113]⟩, .string ⟨#[122]⟩] 9))) := (Below.refl w6.heap.size w6).alloc (Nat.le_refl _) _
    have HC7 := hide (C4.out (w6.alloc (.cells #[.string ⟨#[71, 69, 84, 83, 69, 84]⟩, .string ⟨#[113]⟩, .string ⟨#[122]⟩] 9)) _ w6.heap.size (tabAt_keep M6.out BW7.out) (textsAt_lit w6 [⟨#[71, 69, 84, 83, 69, 84]⟩, ⟨#[113]⟩, ⟨#[122]⟩]) (B6.out.trans (BW7.out.mono B6.out.size)))
    go_wp2_with fail
    refine HC7.out.mono ?_
    rintro e w7 ⟨⟨a7, n7, c7, rfl, ht7⟩, b7⟩
    have M7 := hide ht7
    have bb7 := BW7.out.trans (b7.mono BW7.out.size)
    have B7 := hide (B6.out.trans (bb7.mono B6.out.size))
    have TT_w7 := hide (tabAt_keep TT_w6.out bb7)
    clear TT_w6
    have M4_w7 := hide (tabAt_keep M4_w6.out bb7)
    clear M4_w6
    have M5_w7 := hide (tabAt_keep M5_w6.out bb7)
    clear M5_w6
    have M6_w7 := hide (tabAt_keep M6.out bb7)
    clear M6
    clear b7 bb7 ht7 BW7 HC7
    have BW8 : Hid (Below w7.heap.size w7 (w7.alloc (.cells #[.string ⟨#[83, 69, 84, 78, 88]⟩, .string ⟨#[113]⟩, .string ⟨#[122]⟩] 9))) := (Below.refl w7.heap.size w7).alloc (Nat.le_refl _) _
    have HC8 := hide (C5.out (w7.alloc (.cells #[.string ⟨#[83, 69, 84, 78, 88]⟩, .string ⟨#[113]⟩, .string ⟨#[122]⟩] 9)) _ w7.heap.size (tabAt_keep M6_w7.out BW8.out) (textsAt_lit w7 [⟨#[83, 69, 84, 78, 88]⟩, ⟨#[113]⟩, ⟨#[122]⟩]) (B7.out.trans (BW8.out.mono B7.out.size)))
    go_wp2_with fail
    refine HC8.out.mono ?_
    rintro e w8 ⟨⟨a8, n8, c8, rfl, ht8⟩, b8⟩
    have M8 := hide ht8
    have bb8 := BW8.out.trans (b8.mono BW8.out.size)
    have B8 := hide (B7.out.trans (bb8.mono B7.out.size))
    have TT_w8 := hide (tabAt_keep TT_w7.out bb8)
    clear TT_w7
    have M4_w8 := hide (tabAt_keep M4_w7.out bb8)
    clear M4_w7
    have M5_w8 := hide (tabAt_keep M5_w7.out bb8)
    clear M5_w7
    have M6_w8 := hide (tabAt_keep M6_w7.out bb8)
    clear M6_w7
    have M7_w8 := hide (tabAt_keep M7.out bb8)
    clear M7
    clear b8 bb8 ht8 BW8 HC8
    have BW9 : Hid (Below w8.heap.size w8 (w8.alloc (.cells #[.string ⟨#[83, 84, 82, 76, 69, 78]⟩, .string ⟨#[113]⟩] 9))) := (Below.refl w8.heap.size w8).alloc (Nat.le_refl _) _
    have HC9 := hide (C6.out (w8.alloc (.cells #[.string ⟨#[83, 84, 82, 76, 69, 78]⟩, .string ⟨#[113]⟩] 9)) _ w8.heap.size (tabAt_keep M6_w8.out BW9.out) (textsAt_lit w8 [⟨#[83, 84, 82, 76, 69, 78]⟩, ⟨#[113]⟩]) (B8.out.trans (BW9.out.mono B8.out.size)))
    go_wp2_with fail
    refine HC9.out.mono ?_
    rintro e w9 ⟨⟨a9, n9, c9, rfl, ht9⟩, b9⟩
    have M9 := hide ht9
    have bb9 := BW9.out.trans (b9.mono BW9.out.size)
    have B9 := hide (B8.out.trans (bb9.mono B8.out.size))
    have TT_w9 := hide (tabAt_keep TT_w8.out bb9)
    clear TT_w8
    have M4_w9 := hide (tabAt_keep M4_w8.out bb9)
    clear M4_w8
    have M5_w9 := hide (tabAt_keep M5_w8.out bb9)
    clear M5_w8
    have M6_w9 := hide (tabAt_keep M6_w8.out bb9)
    clear M6_w8
    have M7_w9 := hide (tabAt_keep M7_w8.out bb9)
    clear M7_w8
    have M8_w9 := hide (tabAt_keep M8.out bb9)
    clear M8
    clear b9 bb9 ht9 BW9 HC9
    have BW10 : Hid (Below w9.heap.size w9 (w9.alloc (.cells #[.string ⟨#[83, 69, 84, 78, 88]⟩, .string ⟨#[113, 113]⟩, .string ⟨#[122]⟩] 9))) := (Below.refl w9.heap.size w9).alloc (Nat.le_refl _) _
    have HC10 := hide (C7.out (w9.alloc (.cells #[.string ⟨#[83, 69, 84, 78, 88]⟩, .string ⟨#[113, 113]⟩, .string ⟨#[122]⟩] 9)) _ w9.heap.size (tabAt_keep TT_w9.out BW10.out) (textsAt_lit w9 [⟨#[83, 69, 84, 78, 88]⟩, ⟨#[113, 113]⟩, ⟨#[122]⟩]) (B9.out.trans (BW10.out.mono B9.out.size)))
    go_wp2_with fail
    refine HC10.out.mono ?_
    rintro e w10 ⟨⟨a10, n10, c10, rfl, ht10⟩, b10⟩
    have M10 := hide ht10
    have bb10 := BW10.out.trans (b10.mono BW10.out.size)
    have B10 := hide (B9.out.trans (bb10.mono B9.out.size))
    have TT_w10 := hide (tabAt_keep TT_w9.out bb10)
    clear TT_w9
    have M4_w10 := hide (tabAt_keep M4_w9.out bb10)
    clear M4_w9
    have M5_w10 := hide (tabAt_keep M5_w9.out bb10)
    clear M5_w9
    have M6_w10 := hide (tabAt_keep M6_w9.out bb10)
    clear M6_w9
    have M7_w10 := hide (tabAt_keep M7_w9.out bb10)
    clear M7_w9
    have M8_w10 := hide (tabAt_keep M8_w9.out bb10)
    clear M8_w9
    have M9_w10 := hide (tabAt_keep M9.out bb10)
    clear M9
    clear b10 bb10 ht10 BW10 HC10
    have BW11 : Hid (Below w10.heap.size w10 (w10.alloc (.cells #[.string ⟨#[77, 83, 69, 84]⟩, .string ⟨#[113]⟩, .string ⟨#[49]⟩, .string ⟨#[113, 113]⟩, .string ⟨#[50]⟩] 9))) := (Below.refl w10.heap.size w10).alloc (Nat.le_refl _) _
    have HC11 := hide (C8.out (w10.alloc (.cells #[.string ⟨#[77, 83, 69, 84]⟩, .string ⟨#[113]⟩, .string ⟨#[49]⟩, .string ⟨#[113, 113]⟩, .string ⟨#[50]⟩] 9)) _ w10.heap.size (tabAt_keep TT_w10.out BW11.out) (textsAt_lit w10 [⟨#[77, 83, 69, 84]⟩, ⟨#[113]⟩, ⟨#[49]⟩, ⟨#[113, 113]⟩, ⟨#[50]⟩]) (B10.out.trans (BW11.out.mono B10.out.size)))
    go_wp2_with fail
    refine HC11.out.mono ?_
    rintro e w11 ⟨⟨a11, n11, c11, rfl, ht11⟩, b11⟩
    have M11 := hide ht11
    have bb11 := BW11.out.trans (b11.mono BW11.out.size)
    have B11 := hide (B10.out.trans (bb11.mono B10.out.size))
    have TT_w11 := hide (tabAt_keep TT_w10.out bb11)
    clear TT_w10
    have M4_w11 := hide (tabAt_keep M4_w10.out bb11)
    clear M4_w10
    have M5_w11 := hide (tabAt_keep M5_w10.out bb11)
    clear M5_w10
    have M6_w11 := hide (tabAt_keep M6_w10.out bb11)
    clear M6_w10
    have M7_w11 := hide (tabAt_keep M7_w10.out bb11)
    clear M7_w10
    have M8_w11 := hide (tabAt_keep M8_w10.out bb11)
    clear M8_w10
    have M9_w11 := hide (tabAt_keep M9_w10.out bb11)
    clear M9_w10
    have M10_w11 := hide (tabAt_keep M10.out bb11)
    clear M10
    clear b11 bb11 ht11 BW11 HC11
    have BW12 : Hid (Below w11.heap.size w11 (w11.alloc (.cells #[.string ⟨#[77, 71, 69, 84]⟩, .string ⟨#[113, 113]⟩, .string ⟨#[110, 111, 110, 101]⟩, .string ⟨#[113]⟩] 9))) := (Below.refl w11.heap.size w11).alloc (Nat.le_refl _) _
    have HC12 := hide (C9.out (w11.alloc (.cells #[.string ⟨#[77, 71, 69, 84]⟩, .string ⟨#[113, 113]⟩, .string ⟨#[110, 111, 110, 101]⟩, .string ⟨#[113]⟩] 9)) _ w11.heap.size (tabAt_keep M11.out BW12.out) (textsAt_lit w11 [⟨#[77, 71, 69, 84]⟩, ⟨#[113, 113]⟩, ⟨#[110, 111, 110, 101]⟩, ⟨#[113]⟩]) (B11.out.trans (BW12.out.mono B11.out.size)))
    go_wp2_with fail
    refine HC12.out.mono ?_
    rintro e w12 ⟨⟨a12, n12, c12, rfl, ht12⟩, b12⟩
    have M12 := hide ht12
    have bb12 := BW12.out.trans (b12.mono BW12.out.size)
    have B12 := hide (B11.out.trans (bb12.mono B11.out.size))
    have TT_w12 := hide (tabAt_keep TT_w11.out bb12)
    clear TT_w11
    have M4_w12 := hide (tabAt_keep M4_w11.out bb12)
    clear M4_w11
    have M5_w12 := hide (tabAt_keep M5_w11.out bb12)
    clear M5_w11
    have M6_w12 := hide (tabAt_keep M6_w11.out bb12)
    clear M6_w11
    have M7_w12 := hide (tabAt_keep M7_w11.out bb12)
    clear M7_w11
    have M8_w12 := hide (tabAt_keep M8_w11.out bb12)
    clear M8_w11
    have M9_w12 := hide (tabAt_keep M9_w11.out bb12)
    clear M9_w11
    have M10_w12 := hide (tabAt_keep M10_w11.out bb12)
    clear M10_w11
    have M11_w12 := hide (tabAt_keep M11.out bb12)
    clear M11
    clear b12 bb12 ht12 BW12 HC12
    have hnD : n10 = D.length := by
      obtain ⟨_, _, e, -⟩ := M10_w12.out
      cases e
      rfl
    have hne : (D.length : Int) = (T0.length : Int) + 1 := by
      have := LD.out
      omega
    go_wp2_with fail
    refine (S1.out _).mono ?_
    rintro e w13 ⟨rfl, b13⟩
    have B13 := hide (B12.out.trans (b13.mono B12.out.size))
    have TT_w13 := hide (tabAt_keep TT_w12.out b13)
    clear TT_w12
    have M4_w13 := hide (tabAt_keep M4_w12.out b13)
    clear M4_w12
    have M5_w13 := hide (tabAt_keep M5_w12.out b13)
    clear M5_w12
    have M6_w13 := hide (tabAt_keep M6_w12.out b13)
    clear M6_w12
    have M7_w13 := hide (tabAt_keep M7_w12.out b13)
    clear M7_w12
    have M8_w13 := hide (tabAt_keep M8_w12.out b13)
    clear M8_w12
    have M9_w13 := hide (tabAt_keep M9_w12.out b13)
    clear M9_w12
    have M10_w13 := hide (tabAt_keep M10_w12.out b13)
    clear M10_w12
    have M11_w13 := hide (tabAt_keep M11_w12.out b13)
    clear M11_w12
    have M12_w13 := hide (tabAt_keep M12.out b13)
    clear M12
    clear b13
    go_wp2_with fail
    refine (S2.out _).mono ?_
    rintro e w14 ⟨rfl, b14⟩
    have B14 := hide (B13.out.trans (b14.mono B13.out.size))
    have TT_w14 := hide (tabAt_keep TT_w13.out b14)
    clear TT_w13
    have M4_w14 := hide (tabAt_keep M4_w13.out b14)
    clear M4_w13
    have M5_w14 := hide (tabAt_keep M5_w13.out b14)
    clear M5_w13
    have M6_w14 := hide (tabAt_keep M6_w13.out b14)
    clear M6_w13
    have M7_w14 := hide (tabAt_keep M7_w13.out b14)
    clear M7_w13
    have M8_w14 := hide (tabAt_keep M8_w13.out b14)
    clear M8_w13
    have M9_w14 := hide (tabAt_keep M9_w13.out b14)
    clear M9_w13
    have M10_w14 := hide (tabAt_keep M10_w13.out b14)
    clear M10_w13
    have M11_w14 := hide (tabAt_keep M11_w13.out b14)
    clear M11_w13
    have M12_w14 := hide (tabAt_keep M12_w13.out b14)
    clear M12_w13
    clear b14
    go_wp2_with fail
    refine (S3.out _).mono ?_
    rintro e w15 ⟨rfl, b15⟩
    have B15 := hide (B14.out.trans (b15.mono B14.out.size))
    have TT_w15 := hide (tabAt_keep TT_w14.out b15)
    clear TT_w14
    have M4_w15 := hide (tabAt_keep M4_w14.out b15)
    clear M4_w14
    have M5_w15 := hide (tabAt_keep M5_w14.out b15)
    clear M5_w14
    have M6_w15 := hide (tabAt_keep M6_w14.out b15)
    clear M6_w14
    have M7_w15 := hide (tabAt_keep M7_w14.out b15)
    clear M7_w14
    have M8_w15 := hide (tabAt_keep M8_w14.out b15)
    clear M8_w14
    have M9_w15 := hide (tabAt_keep M9_w14.out b15)
    clear M9_w14
    have M10_w15 := hide (tabAt_keep M10_w14.out b15)
    clear M10_w14
    have M11_w15 := hide (tabAt_keep M11_w14.out b15)
    clear M11_w14
    have M12_w15 := hide (tabAt_keep M12_w14.out b15)
    clear M12_w14
    clear b15
    go_wp2_with fail
    refine (SB.out _ _ _ M8_w15.out M6_w15.out).mono ?_
    rintro e w16 ⟨rfl, b16⟩
    have B16 := hide (B15.out.trans (b16.mono B15.out.size))
    have TT_w16 := hide (tabAt_keep TT_w15.out b16)
    clear TT_w15
    have M4_w16 := hide (tabAt_keep M4_w15.out b16)
    clear M4_w15
    have M5_w16 := hide (tabAt_keep M5_w15.out b16)
    clear M5_w15
    have M6_w16 := hide (tabAt_keep M6_w15.out b16)
    clear M6_w15
    have M7_w16 := hide (tabAt_keep M7_w15.out b16)
    clear M7_w15
    have M8_w16 := hide (tabAt_keep M8_w15.out b16)
    clear M8_w15
    have M9_w16 := hide (tabAt_keep M9_w15.out b16)
    clear M9_w15
    have M10_w16 := hide (tabAt_keep M10_w15.out b16)
    clear M10_w15
    have M11_w16 := hide (tabAt_keep M11_w15.out b16)
    clear M11_w15
    have M12_w16 := hide (tabAt_keep M12_w15.out b16)
    clear M12_w15
    clear b16
    have BW17 : Hid (Below w16.heap.size w16 (w16.alloc (.cells #[.string ⟨#[76, 76, 69, 78]⟩, .string ⟨#[113]⟩] 9))) := (Below.refl w16.heap.size w16).alloc (Nat.le_refl _) _
    have HC17 := hide (C10.out (w16.alloc (.cells #[.string ⟨#[76, 76, 69, 78]⟩, .string ⟨#[113]⟩] 9)) _ w16.heap.size (tabAt_keep TT_w16.out BW17.out) (textsAt_lit w16 [⟨#[76, 76, 69, 78]⟩, ⟨#[113]⟩]) (B16.out.trans (BW17.out.mono B16.out.size)))
    go_wp2_with fail
    refine HC17.out.mono ?_
    rintro e w17 ⟨rfl, b17⟩
    have bb17 := BW17.out.trans (b17.mono BW17.out.size)
    have B17 := hide (B16.out.trans (bb17.mono B16.out.size))
    have TT_w17 := hide (tabAt_keep TT_w16.out bb17)
    clear TT_w16
    have M4_w17 := hide (tabAt_keep M4_w16.out bb17)
    clear M4_w16
    have M5_w17 := hide (tabAt_keep M5_w16.out bb17)
    clear M5_w16
    have M6_w17 := hide (tabAt_keep M6_w16.out bb17)
    clear M6_w16
    have M7_w17 := hide (tabAt_keep M7_w16.out bb17)
    clear M7_w16
    have M8_w17 := hide (tabAt_keep M8_w16.out bb17)
    clear M8_w16
    have M9_w17 := hide (tabAt_keep M9_w16.out bb17)
    clear M9_w16
    have M10_w17 := hide (tabAt_keep M10_w16.out bb17)
    clear M10_w16
    have M11_w17 := hide (tabAt_keep M11_w16.out bb17)
    clear M11_w16
    have M12_w17 := hide (tabAt_keep M12_w16.out bb17)
    clear M12_w16
    clear b17 bb17 BW17 HC17
    go_wp2_with fail
    refine (S4.out _).mono ?_
    rintro e w18 ⟨rfl, b18⟩
    have B18 := hide (B17.out.trans (b18.mono B17.out.size))
    have TT_w18 := hide (tabAt_keep TT_w17.out b18)
    clear TT_w17
    have M4_w18 := hide (tabAt_keep M4_w17.out b18)
    clear M4_w17
    have M5_w18 := hide (tabAt_keep M5_w17.out b18)
    clear M5_w17
    have M6_w18 := hide (tabAt_keep M6_w17.out b18)
    clear M6_w17
    have M7_w18 := hide (tabAt_keep M7_w17.out b18)
    clear M7_w17
    have M8_w18 := hide (tabAt_keep M8_w17.out b18)
    clear M8_w17
    have M9_w18 := hide (tabAt_keep M9_w17.out b18)
    clear M9_w17
    have M10_w18 := hide (tabAt_keep M10_w17.out b18)
    clear M10_w17
    have M11_w18 := hide (tabAt_keep M11_w17.out b18)
    clear M11_w17
    have M12_w18 := hide (tabAt_keep M12_w17.out b18)
    clear M12_w17
    clear b18
    go_wp2_with fail
    refine (S6.out _).mono ?_
    rintro e w19 ⟨rfl, b19⟩
    have B19 := hide (B18.out.trans (b19.mono B18.out.size))
    have TT_w19 := hide (tabAt_keep TT_w18.out b19)
    clear TT_w18
    have M4_w19 := hide (tabAt_keep M4_w18.out b19)
    clear M4_w18
    have M5_w19 := hide (tabAt_keep M5_w18.out b19)
    clear M5_w18
    have M6_w19 := hide (tabAt_keep M6_w18.out b19)
    clear M6_w18
    have M7_w19 := hide (tabAt_keep M7_w18.out b19)
    clear M7_w18
    have M8_w19 := hide (tabAt_keep M8_w18.out b19)
    clear M8_w18
    have M9_w19 := hide (tabAt_keep M9_w18.out b19)
    clear M9_w18
    have M10_w19 := hide (tabAt_keep M10_w18.out b19)
    clear M10_w18
    have M11_w19 := hide (tabAt_keep M11_w18.out b19)
    clear M11_w18
    have M12_w19 := hide (tabAt_keep M12_w18.out b19)
    clear M12_w18
    clear b19
    go_wp2_with fail
    refine (S5.out _).mono ?_
    rintro e w20 ⟨rfl, b20⟩
    have B20 := hide (B19.out.trans (b20.mono B19.out.size))
    have TT_w20 := hide (tabAt_keep TT_w19.out b20)
    clear TT_w19
    have M4_w20 := hide (tabAt_keep M4_w19.out b20)
    clear M4_w19
    have M5_w20 := hide (tabAt_keep M5_w19.out b20)
    clear M5_w19
    have M6_w20 := hide (tabAt_keep M6_w19.out b20)
    clear M6_w19
    have M7_w20 := hide (tabAt_keep M7_w19.out b20)
    clear M7_w19
    have M8_w20 := hide (tabAt_keep M8_w19.out b20)
    clear M8_w19
    have M9_w20 := hide (tabAt_keep M9_w19.out b20)
    clear M9_w19
    have M10_w20 := hide (tabAt_keep M10_w19.out b20)
    clear M10_w19
    have M11_w20 := hide (tabAt_keep M11_w19.out b20)
    clear M11_w19
    have M12_w20 := hide (tabAt_keep M12_w19.out b20)
    clear M12_w19
    clear b20
    have HCA := hide (S7.out (w20.alloc (.cells #[.string b2, .string nb, .string b1] 9)) w20.heap.size (heap_alloc_new w20 _))
    have BW21 : Hid (Below w20.heap.size w20 (w20.alloc (.cells #[.string b2, .string nb, .string b1] 9))) := (Below.refl w20.heap.size w20).alloc (Nat.le_refl _) _
    go_wp2_with fail
    refine HCA.out.mono ?_
    rintro e w21 ⟨rfl, b21⟩
    have B21 := hide (B20.out.trans ((BW21.out.trans (b21.mono BW21.out.size)).mono B20.out.size))
    clear b21
    go_wp2
    go_ret
    exact ⟨rfl, B21.out⟩
end Go.Proofs.YtifjneldjjmeaaaGreatDoor
