/- Of: ActL1 ActsL ActRow. -/
import Derived.Test.YtijmlgdeeodehamGreatDoorEngA
import Derived.Lib.SmallJoins
import Derived.OpenShut
import Derived.Test.YtijmlgdeeodehamGreatDoorMarkText
import Derived.Laws.MakeOwn
/- An act as the laws hold it. -/
namespace Go.Proofs.YtijmlgdeeodehamGreatDoor
open Go.RowKit

/-- What an act leaves of a measure. -/
def szA (A : ActD) (n : Int) : Int := if n < A.name.size then -1 else if n < A.name.size + A.text.size then -1 else if n < A.name.size + A.text.size + A.toN.size then -1 else n - A.name.size - A.text.size - A.toN.size

theorem szA_small {A : ActD} {n : Int} (h0 : n ≤ 1048576) (h : 0 ≤ szA A n) : A.name.size ≤ 1048576 ∧ A.text.size ≤ 1048576 ∧ A.toN.size ≤ 1048576 := by
  unfold szA at h
  split at h
  · omega
  · split at h
    · omega
    · split at h <;> omega

end Go.Proofs.YtijmlgdeeodehamGreatDoor

/- Rows of Act as the laws hold them (written by tools/gen_struct.py). -/
namespace Go.Proofs.YtijmlgdeeodehamGreatDoor
open Go.RowKit

theorem szA_le (A : ActD) (n : Int) (h : 0 ≤ n) : szA A n ≤ n := by
  unfold szA
  repeat' split
  all_goals omega

/-- What a row leaves of a measure. -/
def szAs : List ActD → Int → Int
  | [], n => n
  | A :: r, n => if szA A n < 0 then -1 else szAs r (szA A n)

theorem szAs_small : ∀ (fs : List ActD) (n : Int), n ≤ 1048576 → 0 ≤ n → 0 ≤ szAs fs n → ∀ A ∈ fs, A.name.size ≤ 1048576 ∧ A.text.size ≤ 1048576 ∧ A.toN.size ≤ 1048576
  | [], _, _, _, _, _, h => absurd h List.not_mem_nil
  | F :: r, n, h0, h1, h2, A, hA => by
    unfold szAs at h2
    split at h2
    · omega
    · rcases List.mem_cons.1 hA with rfl | hA
      · exact szA_small h0 (by omega)
      · have := szA_le F n h1
        exact szAs_small r _ (by omega) (by omega) h2 A hA
theorem szAs_le : ∀ (fs : List ActD) (n : Int), 0 ≤ n → szAs fs n ≤ n
  | [], _, _ => Int.le_refl _
  | F :: r, n, h => by
    unfold szAs
    split
    · omega
    · have := szA_le F n h
      have := szAs_le r (szA F n) (by omega)
      omega

set_option maxRecDepth 100000 in
set_option maxHeartbeats 400000 in
theorem eqAct_same (A : ActD) (w : World) :
    Calls Tryz.prog 49 #[.agg #[.int .i64 A.kind, .string A.name, .string A.text, .string A.toN], .agg #[.int .i64 A.kind, .string A.name, .string A.text, .string A.toN]] w fun e w' => e = .returned (.bool true) ∧ Below w.heap.size w w' := by
  obtain ⟨a0, a1, a2, a3⟩ := A
  have h0 : (a0 == a0) = true := beq_self_eq_true _
  have h1 : (a1.toList == a1.toList) = true := beq_self_eq_true _
  have h2 : (a2.toList == a2.toList) = true := beq_self_eq_true _
  have h3 : (a3.toList == a3.toList) = true := beq_self_eq_true _
  go_enter Tryz.func49, Tryz.ntmps49
  go_wp2
  go_ret
  exact ⟨rfl, ((Below.refl _ w).alloc (Nat.le_refl _) _).alloc (by simp) _⟩

/-- The first k of these stand in these cells. -/
def ActsIn (C : Array Value) (fs : List ActD) (k : Nat) : Prop := ∀ j (h : j < fs.length), j < k → C[j * 4]? = some (.int .i64 fs[j].kind) ∧ C[j * 4 + 1]? = some (.string fs[j].name) ∧ C[j * 4 + 2]? = some (.string fs[j].text) ∧ C[j * 4 + 3]? = some (.string fs[j].toN)
theorem Tryz.infoAct : (Tryz.prog.info? 94).map (fun i => (i.zero, i.size, i.bytes)) = some (some (.agg #[.int .i64 0, .string ⟨#[]⟩, .string ⟨#[]⟩, .string ⟨#[]⟩]), 4, 56) := by kernel_rfl
/-- One is put into its cells. -/
def putAct (C : Array Value) (k : Nat) (A : ActD) : Array Value := (((C.setIfInBounds (k * 4) (.int .i64 A.kind)).setIfInBounds (k * 4 + 1) (.string A.name)).setIfInBounds (k * 4 + 2) (.string A.text)).setIfInBounds (k * 4 + 3) (.string A.toN)
theorem putAct_size (C : Array Value) (k : Nat) (A : ActD) : (putAct C k A).size = C.size := by simp [putAct]
theorem actsIn_put {C : Array Value} {fs : List ActD} {k : Nat} (h : ActsIn C fs k) (hk : k < fs.length) (hs : fs.length * 4 ≤ C.size) : ActsIn (putAct C k fs[k]) fs (k + 1) := by
  intro j hj hjk
  unfold putAct
  by_cases e : j = k
  · subst e
    refine ⟨?_, ?_, ?_, ?_⟩ <;> simp [Array.getElem?_setIfInBounds] <;> omega
  · obtain ⟨h0, h1, h2, h3⟩ := h j hj (by omega)
    refine ⟨?_, ?_, ?_, ?_⟩
    · rw [Array.getElem?_setIfInBounds_ne (by omega), Array.getElem?_setIfInBounds_ne (by omega), Array.getElem?_setIfInBounds_ne (by omega), Array.getElem?_setIfInBounds_ne (by omega)]; exact h0
    · rw [Array.getElem?_setIfInBounds_ne (by omega), Array.getElem?_setIfInBounds_ne (by omega), Array.getElem?_setIfInBounds_ne (by omega), Array.getElem?_setIfInBounds_ne (by omega)]; exact h1
    · rw [Array.getElem?_setIfInBounds_ne (by omega), Array.getElem?_setIfInBounds_ne (by omega), Array.getElem?_setIfInBounds_ne (by omega), Array.getElem?_setIfInBounds_ne (by omega)]; exact h2
    · rw [Array.getElem?_setIfInBounds_ne (by omega), Array.getElem?_setIfInBounds_ne (by omega), Array.getElem?_setIfInBounds_ne (by omega), Array.getElem?_setIfInBounds_ne (by omega)]; exact h3
theorem act_stored {w : World} {g k : Nat} {C : Array Value} {t : TypeId} (A : ActD) (h : w.heap[g]? = some (.cells C t (0, 0))) :
    ((((w.setCell ⟨g, k * 4, none⟩ (.int .i64 A.kind)).setCell ⟨g, k * 4 + 1, none⟩ (.string A.name)).setCell ⟨g, k * 4 + 2, none⟩ (.string A.text)).setCell ⟨g, k * 4 + 3, none⟩ (.string A.toN)).heap[g]? = some (.cells (putAct C k A) t (0, 0)) := heap_setCell_same _ g _ _ t _ (heap_setCell_same _ g _ _ t _ (heap_setCell_same _ g _ _ t _ (heap_setCell_same w g _ C t _ h)))
theorem actsAt_own {w : World} {g : Nat} {C : Array Value} {t : TypeId} {fs : List ActD} (h : w.heap[g]? = some (.cells C t (0, 0))) (hC : ActsIn C fs fs.length) : ActsAt w (some ⟨g, 0, none⟩) fs := by
  intro j hj
  obtain ⟨h0, h1, h2, h3⟩ := hC j hj hj
  have hg : g < w.heap.size := (Array.getElem?_eq_some_iff.1 h).1
  refine ⟨g, 0, rfl, hg, ?_, ?_, ?_, ?_⟩
  · rw [Nat.zero_add, cell_of_row w g _ C t (0, 0) h, h0]
  · rw [Nat.zero_add, cell_of_row w g _ C t (0, 0) h, h1]
  · rw [Nat.zero_add, cell_of_row w g _ C t (0, 0) h, h2]
  · rw [Nat.zero_add, cell_of_row w g _ C t (0, 0) h, h3]

set_option maxRecDepth 100000 in
set_option maxHeartbeats 1600000 in
theorem eqActS_same (fs : List ActD) (ao ao2 : Option Addr) (cap cap2 : Nat) (w : World) (hl : fs.length ≤ maxLen) (h1 : ActsAt w ao fs) (h2 : ActsAt w ao2 fs) :
    Calls Tryz.prog 17 #[.slice ao fs.length cap, .slice ao2 fs.length cap2] w fun e w' => e = .returned (.bool true) ∧ Below w.heap.size w w' := by
  have H1 := hide h1
  have H2 := hide h2
  clear h1 h2
  unfold maxLen at hl
  have hne : (!((fs.length : Int) == (fs.length : Int))) = false := by simp
  go_enter Tryz.func17, Tryz.ntmps17
  go_wp2
  go_loopw [5] (fun ii wr => ∃ (k : Nat), ii = .int .i64 k ∧ k ≤ fs.length ∧ Hid (Below w.heap.size w wr)) (fun ii _ => fs.length - (intOf ii).toNat)
  case atStart => exact ⟨0, rfl, Nat.zero_le _, Below.refl _ _⟩
  case round =>
    obtain ⟨k, rfl, hk, HB⟩ := hrel
    by_cases hlt : k < fs.length
    · have hlt' : decide ((k : Int) < (fs.length : Int)) = true := by simp; omega
      obtain ⟨b, off, rfl, hbw, hc0, hc1, hc2, hc3⟩ := actsAt_keep H1.out HB.out k hlt
      obtain ⟨b', off', rfl, hbw', hd0, hd1, hd2, hd3⟩ := actsAt_keep H2.out HB.out k hlt
      generalize fs[k] = F at hc0 hc1 hc2 hc3 hd0 hd1 hd2 hd3
      have hi0 : (0 : Int) ≤ (k : Int) := by omega
      have hi1 : (k : Int) < (fs.length : Int) := by omega
      have HBw := hide hbw
      have HBw' := hide hbw'
      clear hbw hbw'
      go_wp2_with fail
      go_region_held3 (fun w' => w'.cell? ⟨b, off + k * 4, none⟩ = some (.int .i64 F.kind) ∧ w'.cell? ⟨b, off + k * 4 + 1, none⟩ = some (.string F.name) ∧ w'.cell? ⟨b, off + k * 4 + 2, none⟩ = some (.string F.text) ∧ w'.cell? ⟨b, off + k * 4 + 3, none⟩ = some (.string F.toN) ∧ w'.cell? ⟨b', off' + k * 4, none⟩ = some (.int .i64 F.kind) ∧ w'.cell? ⟨b', off' + k * 4 + 1, none⟩ = some (.string F.name) ∧ w'.cell? ⟨b', off' + k * 4 + 2, none⟩ = some (.string F.text) ∧ w'.cell? ⟨b', off' + k * 4 + 3, none⟩ = some (.string F.toN)) (first | go_keep | (exact ⟨(b1.cell (p := ⟨b, off + k * 4, none⟩) HBw.out).trans hc0, (b1.cell (p := ⟨b, off + k * 4 + 1, none⟩) HBw.out).trans hc1, (b1.cell (p := ⟨b, off + k * 4 + 2, none⟩) HBw.out).trans hc2, (b1.cell (p := ⟨b, off + k * 4 + 3, none⟩) HBw.out).trans hc3, (b1.cell (p := ⟨b', off' + k * 4, none⟩) HBw'.out).trans hd0, (b1.cell (p := ⟨b', off' + k * 4 + 1, none⟩) HBw'.out).trans hd1, (b1.cell (p := ⟨b', off' + k * 4 + 2, none⟩) HBw'.out).trans hd2, (b1.cell (p := ⟨b', off' + k * 4 + 3, none⟩) HBw'.out).trans hd3⟩)) ((go_at_call 49; refine (eqAct_same F _).mono ?_; rintro e w1 ⟨rfl, b1⟩))
      go_wp2
      go_roundw
      case rel => exact ⟨k + 1, by go_num, by omega, HB.out.trans (((Below.refl _ _).drew.trans b1).mono HB.out.size)⟩
      case measure => simp [intOf]; omega
    · have hlt' : decide ((k : Int) < (fs.length : Int)) = false := by simp; omega
      go_wp2
      go_ret
      exact ⟨rfl, HB.out⟩

/-- The one that is marked from k on. -/
def markActD (k : Nat) : ActD := ⟨((k : Nat) : Int), ⟨(mk (k + 1)).toArray⟩, ⟨(mk (k + 2)).toArray⟩, ⟨(mk (k + 3)).toArray⟩⟩
/-- n of them, marked from k on. -/
def markActDs (k n : Nat) : List ActD := (List.range n).map (fun j => markActD (k + 4 * j))
theorem markActDs_length (k n : Nat) : (markActDs k n).length = n := by simp [markActDs]
theorem markActDs_get (k n j : Nat) (h : j < (markActDs k n).length) : (markActDs k n)[j] = markActD (k + 4 * j) := by simp [markActDs]
theorem markAct_1 (K : Nat) (w : World) (h : K ≤ 20000000) : Calls Tryz.prog 52 #[.int .i64 ((K : Int) + 1)] w fun e w' => e = .returned (.string ⟨(mk (K + 1)).toArray⟩) ∧ Below w.heap.size w w' := by
  have h := mark_any (K + 1) w (by omega) (by omega)
  rw [show (((K + 1 : Nat)) : Int) = (K : Int) + 1 from by omega] at h
  exact h
theorem markAct_2 (K : Nat) (w : World) (h : K ≤ 20000000) : Calls Tryz.prog 52 #[.int .i64 ((K : Int) + 1 + 1)] w fun e w' => e = .returned (.string ⟨(mk (K + 2)).toArray⟩) ∧ Below w.heap.size w w' := by
  have h := mark_any (K + 2) w (by omega) (by omega)
  rw [show (((K + 2 : Nat)) : Int) = (K : Int) + 1 + 1 from by omega] at h
  exact h
theorem markAct_3 (K : Nat) (w : World) (h : K ≤ 20000000) : Calls Tryz.prog 52 #[.int .i64 ((K : Int) + 1 + 1 + 1)] w fun e w' => e = .returned (.string ⟨(mk (K + 3)).toArray⟩) ∧ Below w.heap.size w w' := by
  have h := mark_any (K + 3) w (by omega) (by omega)
  rw [show (((K + 3 : Nat)) : Int) = (K : Int) + 1 + 1 + 1 from by omega] at h
  exact h

set_option maxRecDepth 100000 in
set_option maxHeartbeats 1600000 in
theorem markActS_row (g cap n : Nat) (C0 : Array Value) (k : Nat) (w : World) (hn : n ≤ 1048576) (hk0 : 0 < k) (hk : k ≤ 10000000) (hC : w.heap[g]? = some (.cells C0 94 (0, 0))) (hs : n * 4 ≤ C0.size) :
    Calls Tryz.prog 20 #[.slice (some ⟨g, 0, none⟩) n cap, .int .i64 (k : Int)] w fun e w' => e = .returned (.int .i64 ((k + 4 * n : Nat) : Int)) ∧ (∃ C : Array Value, w'.heap[g]? = some (.cells C 94 (0, 0)) ∧ C.size = C0.size ∧ ActsIn C (markActDs k n) n) ∧ w.grownBy w' (some g) := by
  have HC0 := hide hC
  clear hC
  go_enter Tryz.func20, Tryz.ntmps20
  go_wp2
  go_loopw [1, 5] (fun kk ii wr => ∃ (j : Nat) (C : Array Value), kk = .int .i64 ((k + 4 * j : Nat) : Int) ∧ ii = .int .i64 j ∧ j ≤ n ∧ Hid (wr.heap[g]? = some (.cells C 94 (0, 0))) ∧ C.size = C0.size ∧ Hid (ActsIn C (markActDs k n) j) ∧ Hid (w.grownBy wr (some g))) (fun _ ii _ => n - (intOf ii).toNat)
  case atStart => exact ⟨0, C0, rfl, rfl, Nat.zero_le _, HC0, rfl, fun j _ hj => absurd hj (by omega), World.grownBy.refl _ _⟩
  case round =>
    obtain ⟨j, C, rfl, rfl, hj, HC, hCs, HI, HG⟩ := hrel
    by_cases hlt : j < n
    · have hlt' : decide ((j : Int) < (n : Int)) = true := by simp; omega
      have hi0 : (0 : Int) ≤ (j : Int) := by omega
      have hi1 : (j : Int) < (n : Int) := by omega
      have hgw : g < wr.heap.size := (Array.getElem?_eq_some_iff.1 HC.out).1
      obtain ⟨K, HK⟩ : ∃ K : Nat, Hid (K = k + 4 * j) := ⟨_, hide rfl⟩
      have hKb : 0 < K ∧ K ≤ 15000000 := by have := HK.out; omega
      rw [← HK.out]
      have hq0 := cell_of_row wr g (j * 4) _ _ (0, 0) HC.out
      have hf0 := frozen_of_row wr g (j * 4) _ _ HC.out
      rw [Array.getElem?_eq_getElem (by first | omega | (simp; omega))] at hq0
      go_wp2_with fail
      refine (markAct_1 K _ (by omega)).mono ?_
      rintro e w1 ⟨rfl, b1⟩
      have HC1 : Hid (w1.heap[g]? = some (.cells (C.setIfInBounds (j * 4) (.int .i64 ((K : Nat) : Int))) 94 (0, 0))) := (b1.block g (by simpa [World.setCell] using hgw)).trans (heap_setCell_same _ g _ _ _ _ HC.out)
      have hgw1 : g < w1.heap.size := (Array.getElem?_eq_some_iff.1 HC1.out).1
      have HG1 : Hid (w.grownBy w1 (some g)) := grownBy_trans (grownBy_store HG.out (j * 4) _) (grownBy_below _ b1)
      clear hq0 hf0
      have hq1 := cell_of_row w1 g (j * 4 + 1) _ _ (0, 0) HC1.out
      have hf1 := frozen_of_row w1 g (j * 4 + 1) _ _ HC1.out
      rw [Array.getElem?_eq_getElem (by first | omega | (simp; omega))] at hq1
      go_wp2_with fail
      refine (markAct_2 K _ (by omega)).mono ?_
      rintro e w2 ⟨rfl, b2⟩
      have HC2 : Hid (w2.heap[g]? = some (.cells ((C.setIfInBounds (j * 4) (.int .i64 ((K : Nat) : Int))).setIfInBounds (j * 4 + 1) (.string ⟨(mk (K + 1)).toArray⟩)) 94 (0, 0))) := (b2.block g (by have := b1.size; simp [World.setCell] at *; omega)).trans (heap_setCell_same _ g _ _ _ _ HC1.out)
      have hgw2 : g < w2.heap.size := (Array.getElem?_eq_some_iff.1 HC2.out).1
      have HG2 : Hid (w.grownBy w2 (some g)) := grownBy_trans (grownBy_store HG1.out (j * 4 + 1) _) (grownBy_below _ b2)
      clear hq1 hf1
      have hq2 := cell_of_row w2 g (j * 4 + 2) _ _ (0, 0) HC2.out
      have hf2 := frozen_of_row w2 g (j * 4 + 2) _ _ HC2.out
      rw [Array.getElem?_eq_getElem (by first | omega | (simp; omega))] at hq2
      go_wp2_with fail
      refine (markAct_3 K _ (by omega)).mono ?_
      rintro e w3 ⟨rfl, b3⟩
      have HC3 : Hid (w3.heap[g]? = some (.cells (((C.setIfInBounds (j * 4) (.int .i64 ((K : Nat) : Int))).setIfInBounds (j * 4 + 1) (.string ⟨(mk (K + 1)).toArray⟩)).setIfInBounds (j * 4 + 2) (.string ⟨(mk (K + 2)).toArray⟩)) 94 (0, 0))) := (b3.block g (by have := b2.size; simp [World.setCell] at *; omega)).trans (heap_setCell_same _ g _ _ _ _ HC2.out)
      have hgw3 : g < w3.heap.size := (Array.getElem?_eq_some_iff.1 HC3.out).1
      have HG3 : Hid (w.grownBy w3 (some g)) := grownBy_trans (grownBy_store HG2.out (j * 4 + 2) _) (grownBy_below _ b3)
      clear hq2 hf2
      have hq3 := cell_of_row w3 g (j * 4 + 3) _ _ (0, 0) HC3.out
      have hf3 := frozen_of_row w3 g (j * 4 + 3) _ _ HC3.out
      rw [Array.getElem?_eq_getElem (by first | omega | (simp; omega))] at hq3
      go_wp2_with fail
      go_roundw
      case rel =>
        have hl := markActDs_length k n
        have HP := actsIn_put HI.out (by omega) (by omega)
        rw [markActDs_get, ← HK.out] at HP
        refine ⟨j + 1, putAct C j (markActD K), ?_, by go_num, by omega, heap_setCell_same _ g _ _ _ _ HC3.out, by rw [putAct_size]; exact hCs, HP, grownBy_store HG3.out (j * 4 + 3) _⟩
        have := HK.out
        congr 1
        omega
      case measure => simp [intOf]; omega
    · have hlt' : decide ((j : Int) < (n : Int)) = false := by simp; omega
      have hje : j = n := by omega
      subst hje
      go_wp2
      go_ret
      exact ⟨rfl, ⟨C, HC.out, hCs, HI.out⟩, HG.out⟩

end Go.Proofs.YtijmlgdeeodehamGreatDoor

/- Rows of Act as the laws hold them (written by tools/gen_struct.py). -/
namespace Go.Proofs.YtijmlgdeeodehamGreatDoor
open Go.RowKit

/-- The cells of a row. -/
def cellsAct : List ActD → List Value
  | [] => []
  | A :: r => .int .i64 A.kind :: .string A.name :: .string A.text :: .string A.toN :: cellsAct r
theorem cellsAct_append : ∀ (a b : List ActD), cellsAct (a ++ b) = cellsAct a ++ cellsAct b
  | [], _ => rfl
  | A :: r, b => by simp [cellsAct, cellsAct_append r b]
theorem cellsAct_length : ∀ a : List ActD, (cellsAct a).length = a.length * 4
  | [] => rfl
  | A :: r => by simp [cellsAct, cellsAct_length r]; omega
theorem cellsAct_one : ∀ (a : List ActD), ∀ u ∈ cellsAct a, u.oneCell' = true
  | [], u, h => absurd h List.not_mem_nil
  | A :: r, u, h => by
    simp only [cellsAct, List.mem_cons] at h
    rcases h with rfl | rfl | rfl | rfl | h
    · rfl
    · rfl
    · rfl
    · rfl
    · exact cellsAct_one r u h
theorem cellsAct_get : ∀ (a : List ActD) (j : Nat) (h : j < a.length), (cellsAct a)[j * 4]? = some (.int .i64 a[j].kind) ∧ (cellsAct a)[j * 4 + 1]? = some (.string a[j].name) ∧ (cellsAct a)[j * 4 + 2]? = some (.string a[j].text) ∧ (cellsAct a)[j * 4 + 3]? = some (.string a[j].toN)
  | [], _, h => absurd h (by simp)
  | A :: r, 0, _ => by simp [cellsAct]
  | A :: r, j + 1, h => by
    have := cellsAct_get r j (by simpa using h)
    have e : (j + 1) * 4 = j * 4 + 4 := by omega
    simp only [cellsAct, e]
    simpa using this

/-- A row of a call's own. -/
def RowAct (w : World) (B : Nat) (v : Value) (fs : List ActD) : Prop := (v = .slice none 0 0 ∧ fs = []) ∨
  ∃ (g cap : Nat) (C : Array Value), v = .slice (some ⟨g, 0, none⟩) fs.length cap ∧ B ≤ g ∧ w.heap[g]? = some (.cells C 94 (0, 0)) ∧ fs.length * 4 ≤ C.size ∧ ActsIn C fs fs.length
theorem rowAct_at {w : World} {B : Nat} {v : Value} {fs : List ActD} (h : RowAct w B v fs) : ∃ ao cap, v = .slice ao fs.length cap ∧ ActsAt w ao fs := by
  rcases h with ⟨rfl, rfl⟩ | ⟨g, cap, C, rfl, _, hC, _, hI⟩
  · exact ⟨none, 0, rfl, fun j hj => absurd hj (by simp)⟩
  · exact ⟨_, cap, rfl, actsAt_own hC hI⟩
theorem rowAct_lt {w : World} {B : Nat} {v : Value} {fs : List ActD} (h : RowAct w B v fs) : ∀ g, v.ownBlock = some g → B ≤ g ∧ g < w.heap.size := by
  rcases h with ⟨rfl, rfl⟩ | ⟨g, cap, C, rfl, hB, hC, _, hI⟩
  · intro g h; cases h
  · intro g' h
    obtain rfl : g = g' := by simpa [Value.ownBlock] using h
    exact ⟨hB, (Array.getElem?_eq_some_iff.1 hC).1⟩
theorem rowAct_keep {w w' : World} {B : Nat} {v : Value} {fs : List ActD} (h : RowAct w B v fs) (hk : ∀ g, v.ownBlock = some g → w'.heap[g]? = w.heap[g]?) : RowAct w' B v fs := by
  rcases h with ⟨rfl, rfl⟩ | ⟨g, cap, C, rfl, hB, hC, hs, hI⟩
  · exact .inl ⟨rfl, rfl⟩
  · exact .inr ⟨g, cap, C, rfl, hB, (hk g rfl).trans hC, hs, hI⟩
theorem rowAct_below {w w' : World} {B : Nat} {v : Value} {fs : List ActD} (h : RowAct w B v fs) (hb : Below w.heap.size w w') : RowAct w' B v fs :=
  rowAct_keep h (fun g hg => hb.block g (rowAct_lt h g hg).2)
theorem rowAct_grown {w w' : World} {B : Nat} {v : Value} {fs : List ActD} {r : Option Nat} (h : RowAct w B v fs) (hb : w.grownBy w' r) (hr : ∀ g, v.ownBlock = some g → some g ≠ r) : RowAct w' B v fs :=
  rowAct_keep h (fun g hg => hb.block g (rowAct_lt h g hg).2 (hr g hg))
theorem rowAct_le {w : World} {B B' : Nat} {v : Value} {fs : List ActD} (h : RowAct w B v fs) (hB : B' ≤ B) : RowAct w B' v fs := by
  rcases h with h | ⟨g, cap, C, h1, h2, h3⟩
  · exact .inl h
  · exact .inr ⟨g, cap, C, h1, by omega, h3⟩
theorem rowAct_rows {w : World} {B n c : Nat} {a : Option Addr} {fs : List ActD} (h : RowAct w B (.slice a n c) fs) : ActsAt w a fs := by
  obtain ⟨ao, cap, e, hf⟩ := rowAct_at h
  cases e
  exact hf
theorem take_getAct {C : Array Value} {xs : List Value} {n : Nat} (h : C.toList.take n = xs) {j : Nat} {u : Value} (hj : j < n) (hu : xs[j]? = some u) : C[j]? = some u := by
  rw [← h, List.getElem?_take_of_lt hj] at hu
  simpa using hu
theorem rowAct_own {w : World} {B : Nat} {v : Value} {fs : List ActD} (h : w.ownsRow B 94 4 v fs.length (cellsAct fs)) : RowAct w B v fs := by
  rcases h.2 with ⟨rfl, hn⟩ | ⟨g, cap, cur, rfl, hB, hC, hle, _, hs, ht⟩
  · exact .inl ⟨rfl, List.eq_nil_of_length_eq_zero hn⟩
  · refine .inr ⟨g, cap, cur, rfl, hB, hC, by omega, ?_⟩
    intro j hj _
    obtain ⟨h0, h1, h2, h3⟩ := cellsAct_get fs j hj
    exact ⟨take_getAct ht (by omega) h0, take_getAct ht (by omega) h1, take_getAct ht (by omega) h2, take_getAct ht (by omega) h3⟩

/-- One is put behind a row of the call's own, at a step of a region that draws its order. -/
theorem step_app_act {ops : Array Oper} {o : Oper} {a : Act} {K : Act → World → Prop} {Q : Exit → Act → World → Prop} {E : Prop} (W : World) (B : Nat) (hgd : o.guard = none) (s y : Operand)
    (ho : o.op = .call { callee := .builtin .append, args := #[s, y], argTypes := #[37, 37] }) (v : Value) (l : List ActD) (F : ActD) (hs : a.eval s = v)
    (hown : W.ownsRow B 94 4 v l.length (cellsAct l)) (k : Nat) (hx : a.eval y = .slice (some ⟨k, 0, none⟩) 1 1) (hblk : W.heap[k]? = some (.cells #[.int .i64 F.kind, .string F.name, .string F.text, .string F.toN] 94 (0, 0)))
    (hlen : l.length ≤ 1048576) (hbase : B ≤ W.heap.size)
    (h : ∀ g cap w', w'.ownsRow B 94 4 (.slice (some ⟨g, 0, none⟩) (l.length + 1) cap) (l ++ [F]).length (cellsAct (l ++ [F])) → Below B W w' → B ≤ g → g < w'.heap.size → K (a.put o.dst (.slice (some ⟨g, 0, none⟩) (l.length + 1) cap)) w') :
    if Region.wanted o (yielded ops a.tmps) = true then Oper.wp Tryz.prog o a W K Q else E := by
  obtain ⟨i0, hi, hz0, hz1, hz2⟩ := info_parts Tryz.infoAct
  refine step_append_lies W hgd s y 37 ho B 94 i0 (.agg #[.int .i64 0, .string ⟨#[]⟩, .string ⟨#[]⟩, .string ⟨#[]⟩]) 4 56 Tryz.underlying37 hi hz0 hz1 hz2 rfl (by decide) v l.length (cellsAct l) hs hown ⟨k, 0, none⟩ 1 1 (cellsAct [F]) hx (by rw [cellsAct_length]; rfl)
    (fun j u hj => World.news_of_block hblk j u hj) (cellsAct_one [F]) (by omega) (by unfold maxLen; omega) (by omega) hbase W.heap.size rfl ?_
  intro g cap w' hown' hgrow hg hgl
  have hlt := hown.lt
  refine h g cap w' ?_ ((Below.refl B W).grown hgrow hbase (fun k hk => (hlt k hk).1)) ?_ hgl
  · rw [cellsAct_append, List.length_append]
    exact hown'
  · rcases hg with hg | rfl
    · exact (hlt g hg).1
    · exact hbase
/-- The same in a plain region. -/
theorem app_act {ops : Array Oper} {rest : List Oper} {o : Oper} {a : Act} {Q : Exit → Act → World → Prop} (W : World) (B : Nat) (hgd : o.guard = none) (s y : Operand)
    (ho : o.op = .call { callee := .builtin .append, args := #[s, y], argTypes := #[37, 37] }) (v : Value) (l : List ActD) (F : ActD) (hs : a.eval s = v)
    (hown : W.ownsRow B 94 4 v l.length (cellsAct l)) (k : Nat) (hx : a.eval y = .slice (some ⟨k, 0, none⟩) 1 1) (hblk : W.heap[k]? = some (.cells #[.int .i64 F.kind, .string F.name, .string F.text, .string F.toN] 94 (0, 0)))
    (hlen : l.length ≤ 1048576) (hbase : B ≤ W.heap.size)
    (h : ∀ g cap w', w'.ownsRow B 94 4 (.slice (some ⟨g, 0, none⟩) (l.length + 1) cap) (l ++ [F]).length (cellsAct (l ++ [F])) → Below B W w' → B ≤ g → g < w'.heap.size → wpList Tryz.prog ops Q rest (a.put o.dst (.slice (some ⟨g, 0, none⟩) (l.length + 1) cap)) w') :
    wpList Tryz.prog ops Q (o :: rest) a W := by
  obtain ⟨i0, hi, hz0, hz1, hz2⟩ := info_parts Tryz.infoAct
  refine wpList_append_lies W hgd s y 37 ho B 94 i0 (.agg #[.int .i64 0, .string ⟨#[]⟩, .string ⟨#[]⟩, .string ⟨#[]⟩]) 4 56 Tryz.underlying37 hi hz0 hz1 hz2 rfl (by decide) v l.length (cellsAct l) hs hown ⟨k, 0, none⟩ 1 1 (cellsAct [F]) hx (by rw [cellsAct_length]; rfl)
    (fun j u hj => World.news_of_block hblk j u hj) (cellsAct_one [F]) (by omega) (by unfold maxLen; omega) (by omega) hbase W.heap.size rfl ?_
  intro g cap w' hown' hgrow hg hgl
  have hlt := hown.lt
  refine h g cap w' ?_ ((Below.refl B W).grown hgrow hbase (fun k hk => (hlt k hk).1)) ?_ hgl
  · rw [cellsAct_append, List.length_append]
    exact hown'
  · rcases hg with hg | rfl
    · exact (hlt g hg).1
    · exact hbase

/-- Several are put behind a row of the call's own, in a plain region. -/
theorem app_acts {ops : Array Oper} {rest : List Oper} {o : Oper} {a : Act} {Q : Exit → Act → World → Prop} (W : World) (B : Nat) (hgd : o.guard = none) (s y : Operand)
    (ho : o.op = .call { callee := .builtin .append, args := #[s, y], argTypes := #[37, 37] }) (v : Value) (l rs : List ActD) (hs : a.eval s = v)
    (hown : W.ownsRow B 94 4 v l.length (cellsAct l)) (k n : Nat) (hn : rs.length = n) (hx : a.eval y = .slice (some ⟨k, 0, none⟩) n n) (hblk : W.heap[k]? = some (.cells (cellsAct rs).toArray 94 (0, 0)))
    (hlen : l.length ≤ 1048576) (hn0 : 0 < n) (hn1 : n ≤ 1000) (hbase : B ≤ W.heap.size)
    (h : ∀ g cap w', w'.ownsRow B 94 4 (.slice (some ⟨g, 0, none⟩) (l.length + n) cap) (l ++ rs).length (cellsAct (l ++ rs)) → Below B W w' → B ≤ g → g < w'.heap.size → wpList Tryz.prog ops Q rest (a.put o.dst (.slice (some ⟨g, 0, none⟩) (l.length + n) cap)) w') :
    wpList Tryz.prog ops Q (o :: rest) a W := by
  subst hn
  obtain ⟨i0, hi, hz0, hz1, hz2⟩ := info_parts Tryz.infoAct
  refine wpList_append_lies W hgd s y 37 ho B 94 i0 (.agg #[.int .i64 0, .string ⟨#[]⟩, .string ⟨#[]⟩, .string ⟨#[]⟩]) 4 56 Tryz.underlying37 hi hz0 hz1 hz2 rfl (by decide) v l.length (cellsAct l) hs hown ⟨k, 0, none⟩ rs.length rs.length (cellsAct rs) hx (by rw [cellsAct_length])
    (fun j u hj => World.news_of_block hblk j u (by simpa using hj)) (cellsAct_one rs) (by omega) (by unfold maxLen; omega) (by omega) hbase W.heap.size rfl ?_
  intro g cap w' hown' hgrow hg hgl
  have hlt := hown.lt
  refine h g cap w' ?_ ((Below.refl B W).grown hgrow hbase (fun k hk => (hlt k hk).1)) ?_ hgl
  · rw [cellsAct_append, List.length_append]
    exact hown'
  · rcases hg with hg | rfl
    · exact (hlt g hg).1
    · exact hbase
end Go.Proofs.YtijmlgdeeodehamGreatDoor
