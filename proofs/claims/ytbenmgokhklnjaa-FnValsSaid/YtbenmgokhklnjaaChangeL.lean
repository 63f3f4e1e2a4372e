/- Rows of Change as the laws hold them (written by tools/gen_struct.py). -/
import Derived.Test.YtbenmgokhklnjaaBase
import Derived.Test.YtbenmgokhklnjaaMarkText
import Derived.Laws.MakeOwn
import Derived.Lib.SmallJoins
import Derived.OpenShut
namespace Go.Proofs.Ytbenmgokhklnjaa
open Go.RowKit

structure ChangeD where
  key : ByteArray
  value : ByteArray
  gone : Bool

/-- A row of these in memory. -/
def ChangesAt (w : World) (ao : Option Addr) (fs : List ChangeD) : Prop := ∀ j (h : j < fs.length), ∃ b off : Nat, ao = some ⟨b, off, none⟩ ∧ b < w.heap.size ∧
  w.cell? ⟨b, off + j * 3, none⟩ = some (.string fs[j].key) ∧ w.cell? ⟨b, off + j * 3 + 1, none⟩ = some (.string fs[j].value) ∧ w.cell? ⟨b, off + j * 3 + 2, none⟩ = some (.bool fs[j].gone)
theorem changesAt_keep {w w' : World} {ao : Option Addr} {fs : List ChangeD} (h : ChangesAt w ao fs) (hb : Below w.heap.size w w') : ChangesAt w' ao fs := by
  intro j hj
  obtain ⟨b, off, h1, h2, h3, h4, h5⟩ := h j hj
  exact ⟨b, off, h1, Nat.lt_of_lt_of_le h2 hb.size, (hb.cell (p := ⟨b, off + j * 3, none⟩) h2).trans h3, (hb.cell (p := ⟨b, off + j * 3 + 1, none⟩) h2).trans h4, (hb.cell (p := ⟨b, off + j * 3 + 2, none⟩) h2).trans h5⟩

/-- What one leaves of a measure; below 0: it is too great. -/
def szChangeD (A : ChangeD) (n : Int) : Int := if n < (A.key.size : Int) then -1 else if n < (A.key.size : Int) + (A.value.size : Int) then -1 else n - A.key.size - A.value.size

theorem szChangeD_small {A : ChangeD} {n : Int} (h0 : n ≤ 1048576) (h : 0 ≤ szChangeD A n) : A.key.size ≤ 1048576 ∧ A.value.size ≤ 1048576 := by
  unfold szChangeD at h
  repeat' split at h
  all_goals omega

theorem szChangeD_le (A : ChangeD) (n : Int) (h : 0 ≤ n) : szChangeD A n ≤ n := by
  unfold szChangeD
  repeat' split
  all_goals omega

/-- What a row leaves of a measure. -/
def szChangeDs : List ChangeD → Int → Int
  | [], n => n
  | A :: r, n => if szChangeD A n < 0 then -1 else szChangeDs r (szChangeD A n)

theorem szChangeDs_small : ∀ (fs : List ChangeD) (n : Int), n ≤ 1048576 → 0 ≤ n → 0 ≤ szChangeDs fs n → ∀ A ∈ fs, A.key.size ≤ 1048576 ∧ A.value.size ≤ 1048576
  | [], _, _, _, _, _, h => absurd h List.not_mem_nil
  | F :: r, n, h0, h1, h2, A, hA => by
    unfold szChangeDs at h2
    split at h2
    · omega
    · rcases List.mem_cons.1 hA with rfl | hA
      · exact szChangeD_small h0 (by omega)
      · have := szChangeD_le F n h1
        exact szChangeDs_small r _ (by omega) (by omega) h2 A hA
theorem szChangeDs_le : ∀ (fs : List ChangeD) (n : Int), 0 ≤ n → szChangeDs fs n ≤ n
  | [], _, _ => Int.le_refl _
  | F :: r, n, h => by
    unfold szChangeDs
    split
    · omega
    · have := szChangeD_le F n h
      have := szChangeDs_le r (szChangeD F n) (by omega)
      omega

set_option maxRecDepth 100000 in
set_option maxHeartbeats 400000 in
theorem eqChange_same (A : ChangeD) (w : World) :
    Calls Try.prog 58 #[.agg #[.string A.key, .string A.value, .bool A.gone], .agg #[.string A.key, .string A.value, .bool A.gone]] w fun e w' => e = .returned (.bool true) ∧ Below w.heap.size w w' := by
  obtain ⟨a0, a1, a2⟩ := A
  have h0 : (a0.toList == a0.toList) = true := beq_self_eq_true _
  have h1 : (a1.toList == a1.toList) = true := beq_self_eq_true _
  have h2 : (a2 == a2) = true := beq_self_eq_true _
  go_enter Try.func58, Try.ntmps58
  go_wp2
  go_ret
  exact ⟨rfl, ((Below.refl _ w).alloc (Nat.le_refl _) _).alloc (by simp) _⟩

/-- The first k of these stand in these cells. -/
def ChangesIn (C : Array Value) (fs : List ChangeD) (k : Nat) : Prop := ∀ j (h : j < fs.length), j < k → C[j * 3]? = some (.string fs[j].key) ∧ C[j * 3 + 1]? = some (.string fs[j].value) ∧ C[j * 3 + 2]? = some (.bool fs[j].gone)
theorem Try.infoChange : (Try.prog.info? 86).map (fun i => (i.zero, i.size, i.bytes)) = some (some (.agg #[.string ⟨#[]⟩, .string ⟨#[]⟩, .bool false]), 3, 40) := by kernel_rfl
/-- One is put into its cells. -/
def putChange (C : Array Value) (k : Nat) (A : ChangeD) : Array Value := ((C.setIfInBounds (k * 3) (.string A.key)).setIfInBounds (k * 3 + 1) (.string A.value)).setIfInBounds (k * 3 + 2) (.bool A.gone)
theorem putChange_size (C : Array Value) (k : Nat) (A : ChangeD) : (putChange C k A).size = C.size := by simp [putChange]
theorem changesIn_put {C : Array Value} {fs : List ChangeD} {k : Nat} (h : ChangesIn C fs k) (hk : k < fs.length) (hs : fs.length * 3 ≤ C.size) : ChangesIn (putChange C k fs[k]) fs (k + 1) := by
  intro j hj hjk
  unfold putChange
  by_cases e : j = k
  · subst e
    refine ⟨?_, ?_, ?_⟩ <;> simp [Array.getElem?_setIfInBounds] <;> omega
  · obtain ⟨h0, h1, h2⟩ := h j hj (by omega)
    refine ⟨?_, ?_, ?_⟩
    · rw [Array.getElem?_setIfInBounds_ne (by omega), Array.getElem?_setIfInBounds_ne (by omega), Array.getElem?_setIfInBounds_ne (by omega)]; exact h0
    · rw [Array.getElem?_setIfInBounds_ne (by omega), Array.getElem?_setIfInBounds_ne (by omega), Array.getElem?_setIfInBounds_ne (by omega)]; exact h1
    · rw [Array.getElem?_setIfInBounds_ne (by omega), Array.getElem?_setIfInBounds_ne (by omega), Array.getElem?_setIfInBounds_ne (by omega)]; exact h2
theorem change_stored {w : World} {g k : Nat} {C : Array Value} {t : TypeId} (A : ChangeD) (h : w.heap[g]? = some (.cells C t (0, 0))) :
    (((w.setCell ⟨g, k * 3, none⟩ (.string A.key)).setCell ⟨g, k * 3 + 1, none⟩ (.string A.value)).setCell ⟨g, k * 3 + 2, none⟩ (.bool A.gone)).heap[g]? = some (.cells (putChange C k A) t (0, 0)) := heap_setCell_same _ g _ _ t _ (heap_setCell_same _ g _ _ t _ (heap_setCell_same w g _ C t _ h))
theorem changesAt_own {w : World} {g : Nat} {C : Array Value} {t : TypeId} {fs : List ChangeD} (h : w.heap[g]? = some (.cells C t (0, 0))) (hC : ChangesIn C fs fs.length) : ChangesAt w (some ⟨g, 0, none⟩) fs := by
  intro j hj
  obtain ⟨h0, h1, h2⟩ := hC j hj hj
  have hg : g < w.heap.size := (Array.getElem?_eq_some_iff.1 h).1
  refine ⟨g, 0, rfl, hg, ?_, ?_, ?_⟩
  · rw [Nat.zero_add, cell_of_row w g _ C t (0, 0) h, h0]
  · rw [Nat.zero_add, cell_of_row w g _ C t (0, 0) h, h1]
  · rw [Nat.zero_add, cell_of_row w g _ C t (0, 0) h, h2]

set_option maxRecDepth 100000 in
set_option maxHeartbeats 1600000 in
theorem eqChangeS_same (fs : List ChangeD) (ao ao2 : Option Addr) (cap cap2 : Nat) (w : World) (hl : fs.length ≤ maxLen) (h1 : ChangesAt w ao fs) (h2 : ChangesAt w ao2 fs) :
    Calls Try.prog 24 #[.slice ao fs.length cap, .slice ao2 fs.length cap2] w fun e w' => e = .returned (.bool true) ∧ Below w.heap.size w w' := by
  have H1 := hide h1
  have H2 := hide h2
  clear h1 h2
  unfold maxLen at hl
  have hne : (!((fs.length : Int) == (fs.length : Int))) = false := by simp
  go_enter Try.func24, Try.ntmps24
  go_wp2
  go_loopw [5] (fun ii wr => ∃ (k : Nat), ii = .int .i64 k ∧ k ≤ fs.length ∧ Hid (Below w.heap.size w wr)) (fun ii _ => fs.length - (intOf ii).toNat)
  case atStart => exact ⟨0, rfl, Nat.zero_le _, Below.refl _ _⟩
  case round =>
    obtain ⟨k, rfl, hk, HB⟩ := hrel
    by_cases hlt : k < fs.length
    · have hlt' : decide ((k : Int) < (fs.length : Int)) = true := by simp; omega
      obtain ⟨b, off, rfl, hbw, hc0, hc1, hc2⟩ := changesAt_keep H1.out HB.out k hlt
      obtain ⟨b', off', rfl, hbw', hd0, hd1, hd2⟩ := changesAt_keep H2.out HB.out k hlt
      generalize fs[k] = F at hc0 hc1 hc2 hd0 hd1 hd2
      have hi0 : (0 : Int) ≤ (k : Int) := by omega
      have hi1 : (k : Int) < (fs.length : Int) := by omega
      have HBw := hide hbw
      have HBw' := hide hbw'
      clear hbw hbw'
      go_wp2_with fail
      go_region_held3 (fun w' => w'.cell? ⟨b, off + k * 3, none⟩ = some (.string F.key) ∧ w'.cell? ⟨b, off + k * 3 + 1, none⟩ = some (.string F.value) ∧ w'.cell? ⟨b, off + k * 3 + 2, none⟩ = some (.bool F.gone) ∧ w'.cell? ⟨b', off' + k * 3, none⟩ = some (.string F.key) ∧ w'.cell? ⟨b', off' + k * 3 + 1, none⟩ = some (.string F.value) ∧ w'.cell? ⟨b', off' + k * 3 + 2, none⟩ = some (.bool F.gone)) (first | go_keep | (exact ⟨(b1.cell (p := ⟨b, off + k * 3, none⟩) HBw.out).trans hc0, (b1.cell (p := ⟨b, off + k * 3 + 1, none⟩) HBw.out).trans hc1, (b1.cell (p := ⟨b, off + k * 3 + 2, none⟩) HBw.out).trans hc2, (b1.cell (p := ⟨b', off' + k * 3, none⟩) HBw'.out).trans hd0, (b1.cell (p := ⟨b', off' + k * 3 + 1, none⟩) HBw'.out).trans hd1, (b1.cell (p := ⟨b', off' + k * 3 + 2, none⟩) HBw'.out).trans hd2⟩)) ((go_at_call 58; refine (eqChange_same F _).mono ?_; rintro e w1 ⟨rfl, b1⟩))
      go_wp2
      go_roundw
      case rel => exact ⟨k + 1, by go_num, by omega, HB.out.trans (((Below.refl _ _).drew.trans b1).mono HB.out.size)⟩
      case measure => simp [intOf]; omega
    · have hlt' : decide ((k : Int) < (fs.length : Int)) = false := by simp; omega
      go_wp2
      go_ret
      exact ⟨rfl, HB.out⟩

/-- The one that is marked from k on. -/
def markChangeD (k : Nat) : ChangeD := ⟨⟨(mk (k)).toArray⟩, ⟨(mk (k + 1)).toArray⟩, (((k + 2 : Nat) : Int) % 3 == 0)⟩
/-- n of them, marked from k on. -/
def markChangeDs (k n : Nat) : List ChangeD := (List.range n).map (fun j => markChangeD (k + 3 * j))
theorem markChangeDs_length (k n : Nat) : (markChangeDs k n).length = n := by simp [markChangeDs]
theorem markChangeDs_get (k n j : Nat) (h : j < (markChangeDs k n).length) : (markChangeDs k n)[j] = markChangeD (k + 3 * j) := by simp [markChangeDs]
theorem markChange_0 (K : Nat) (w : World) (h0 : 0 < K) (h : K ≤ 20000000) : Calls Try.prog 60 #[.int .i64 (K : Int)] w fun e w' => e = .returned (.string ⟨(mk K).toArray⟩) ∧ Below w.heap.size w w' := mark_any K w (by omega) (by omega)
theorem markChange_1 (K : Nat) (w : World) (h : K ≤ 20000000) : Calls Try.prog 60 #[.int .i64 ((K : Int) + 1)] w fun e w' => e = .returned (.string ⟨(mk (K + 1)).toArray⟩) ∧ Below w.heap.size w w' := by
  have h := mark_any (K + 1) w (by omega) (by omega)
  rw [show (((K + 1 : Nat)) : Int) = (K : Int) + 1 from by omega] at h
  exact h

set_option maxRecDepth 100000 in
set_option maxHeartbeats 1600000 in
theorem markChangeS_row (g cap n : Nat) (C0 : Array Value) (k : Nat) (w : World) (hn : n ≤ 1048576) (hk0 : 0 < k) (hk : k ≤ 10000000) (hC : w.heap[g]? = some (.cells C0 86 (0, 0))) (hs : n * 3 ≤ C0.size) :
    Calls Try.prog 27 #[.slice (some ⟨g, 0, none⟩) n cap, .int .i64 (k : Int)] w fun e w' => e = .returned (.int .i64 ((k + 3 * n : Nat) : Int)) ∧ (∃ C : Array Value, w'.heap[g]? = some (.cells C 86 (0, 0)) ∧ C.size = C0.size ∧ ChangesIn C (markChangeDs k n) n) ∧ w.grownBy w' (some g) := by
  have HC0 := hide hC
  clear hC
  go_enter Try.func27, Try.ntmps27
  go_wp2
  go_loopw [1, 5] (fun kk ii wr => ∃ (j : Nat) (C : Array Value), kk = .int .i64 ((k + 3 * j : Nat) : Int) ∧ ii = .int .i64 j ∧ j ≤ n ∧ Hid (wr.heap[g]? = some (.cells C 86 (0, 0))) ∧ C.size = C0.size ∧ Hid (ChangesIn C (markChangeDs k n) j) ∧ Hid (w.grownBy wr (some g))) (fun _ ii _ => n - (intOf ii).toNat)
  case atStart => exact ⟨0, C0, rfl, rfl, Nat.zero_le _, HC0, rfl, fun j _ hj => absurd hj (by omega), World.grownBy.refl _ _⟩
  case round =>
    obtain ⟨j, C, rfl, rfl, hj, HC, hCs, HI, HG⟩ := hrel
    by_cases hlt : j < n
    · have hlt' : decide ((j : Int) < (n : Int)) = true := by simp; omega
      have hi0 : (0 : Int) ≤ (j : Int) := by omega
      have hi1 : (j : Int) < (n : Int) := by omega
      have hgw : g < wr.heap.size := (Array.getElem?_eq_some_iff.1 HC.out).1
      obtain ⟨K, HK⟩ : ∃ K : Nat, Hid (K = k + 3 * j) := ⟨_, hide rfl⟩
      have hKb : 0 < K ∧ K ≤ 15000000 := by have := HK.out; omega
      rw [← HK.out]
      go_wp2_with fail
      refine (markChange_0 K _ hKb.1 (by omega)).mono ?_
      rintro e w1 ⟨rfl, b1⟩
      have HC1 : Hid (w1.heap[g]? = some (.cells (C) 86 (0, 0))) := (b1.block g (by exact hgw)).trans HC.out
      have hgw1 : g < w1.heap.size := (Array.getElem?_eq_some_iff.1 HC1.out).1
      have HG1 : Hid (w.grownBy w1 (some g)) := grownBy_trans (HG.out) (grownBy_below _ b1)
      have hq0 := cell_of_row w1 g (j * 3) _ _ (0, 0) HC1.out
      have hf0 := frozen_of_row w1 g (j * 3) _ _ HC1.out
      rw [Array.getElem?_eq_getElem (by first | omega | (simp; omega))] at hq0
      go_wp2_with fail
      refine (markChange_1 K _ (by omega)).mono ?_
      rintro e w2 ⟨rfl, b2⟩
      have HC2 : Hid (w2.heap[g]? = some (.cells (C.setIfInBounds (j * 3) (.string ⟨(mk (K)).toArray⟩)) 86 (0, 0))) := (b2.block g (by have := b1.size; simp [World.setCell] at *; omega)).trans (heap_setCell_same _ g _ _ _ _ HC1.out)
      have hgw2 : g < w2.heap.size := (Array.getElem?_eq_some_iff.1 HC2.out).1
      have HG2 : Hid (w.grownBy w2 (some g)) := grownBy_trans (grownBy_store HG1.out (j * 3) _) (grownBy_below _ b2)
      clear hq0 hf0
      have hq1 := cell_of_row w2 g (j * 3 + 1) _ _ (0, 0) HC2.out
      have hf1 := frozen_of_row w2 g (j * 3 + 1) _ _ HC2.out
      have hq2 := cell_of_row w2 g (j * 3 + 2) _ _ (0, 0) HC2.out
      have hf2 := frozen_of_row w2 g (j * 3 + 2) _ _ HC2.out
      rw [Array.getElem?_eq_getElem (by first | omega | (simp; omega))] at hq1 hq2
      go_wp2_with fail
      go_roundw
      case rel =>
        have hl := markChangeDs_length k n
        have HP := changesIn_put HI.out (by omega) (by omega)
        rw [markChangeDs_get, ← HK.out] at HP
        refine ⟨j + 1, putChange C j (markChangeD K), ?_, by go_num, by omega, heap_setCell_same _ g _ _ _ _ (heap_setCell_same _ g _ _ _ _ HC2.out), by rw [putChange_size]; exact hCs, HP, grownBy_store (grownBy_store HG2.out (j * 3 + 1) _) (j * 3 + 2) _⟩
        have := HK.out
        congr 1
        omega
      case measure => simp [intOf]; omega
    · have hlt' : decide ((j : Int) < (n : Int)) = false := by simp; omega
      have hje : j = n := by omega
      subst hje
      go_wp2
      go_ret
      exact ⟨rfl, ⟨C, HC.out, hCs, HI.out⟩, HG.out⟩


set_option maxRecDepth 100000 in
set_option maxHeartbeats 1600000 in
theorem heldChangeS_any (ao : Option Addr) (cap n k : Nat) (w : World) (hn : n ≤ 1048576) (hk0 : 0 < k) (hk : k ≤ 10000000) (h : ChangesAt w ao (markChangeDs k n)) :
    Calls Try.prog 28 #[.slice ao n cap, .int .i64 (k : Int)] w fun e w' => e = .returned (.int .i64 ((k + 3 * n : Nat) : Int)) ∧ Below w.heap.size w w' := by
  have HF := hide h
  clear h
  go_enter Try.func28, Try.ntmps28
  go_wp2
  go_loopw [1, 5] (fun kk ii wr => ∃ (j : Nat), kk = .int .i64 ((k + 3 * j : Nat) : Int) ∧ ii = .int .i64 j ∧ j ≤ n ∧ Hid (Below w.heap.size w wr)) (fun _ ii _ => n - (intOf ii).toNat)
  case atStart => exact ⟨0, rfl, rfl, Nat.zero_le _, Below.refl _ _⟩
  case round =>
    obtain ⟨j, rfl, rfl, hj, HB⟩ := hrel
    by_cases hlt : j < n
    · have hlt' : decide ((j : Int) < (n : Int)) = true := by simp; omega
      have hi0 : (0 : Int) ≤ (j : Int) := by omega
      have hi1 : (j : Int) < (n : Int) := by omega
      obtain ⟨b, off, rfl, hbw, hc0, hc1, hc2⟩ := changesAt_keep HF.out HB.out j (by rw [markChangeDs_length]; exact hlt)
      rw [markChangeDs_get] at hc0 hc1 hc2
      obtain ⟨K, HK⟩ : ∃ K : Nat, Hid (K = k + 3 * j) := ⟨_, hide rfl⟩
      have hKb : 0 < K ∧ K ≤ 15000000 := by have := HK.out; omega
      rw [← HK.out] at hc0 hc1 hc2 ⊢
      obtain ⟨s0, hs0⟩ : ∃ s0 : ByteArray, s0 = ⟨(mk (K)).toArray⟩ := ⟨_, rfl⟩
      have hd0 : wr.cell? ⟨b, off + j * 3, none⟩ = some (.string s0) := by rw [hs0]; exact hc0
      have he0 : (s0.toList == s0.toList) = true := beq_self_eq_true _
      have HM0 : Hid (∀ W, Calls Try.prog 60 #[.int .i64 ((K : Int))] W fun e w' => e = .returned (.string s0) ∧ Below W.heap.size W w') := fun W => by rw [hs0]; exact markChange_0 K W hKb.1 (by omega)
      obtain ⟨s1, hs1⟩ : ∃ s1 : ByteArray, s1 = ⟨(mk (K + 1)).toArray⟩ := ⟨_, rfl⟩
      have hd1 : wr.cell? ⟨b, off + j * 3 + 1, none⟩ = some (.string s1) := by rw [hs1]; exact hc1
      have he1 : (s1.toList == s1.toList) = true := beq_self_eq_true _
      have HM1 : Hid (∀ W, Calls Try.prog 60 #[.int .i64 ((K : Int) + 1)] W fun e w' => e = .returned (.string s1) ∧ Below W.heap.size W w') := fun W => by rw [hs1]; exact markChange_1 K W (by omega)
      obtain ⟨q2, hq2⟩ : ∃ q : Bool, (((K : Int) + 1 + 1) % 3 == 0) = q := ⟨_, rfl⟩
      have hd2 : wr.cell? ⟨b, off + j * 3 + 2, none⟩ = some (.bool q2) := by rw [← hq2]; exact hc2
      have he2 : (q2 == q2) = true := beq_self_eq_true _
      clear hc0 hc1 hc2 hs0 hs1
      have HBW := hide hbw
      clear hbw
      have B0 : Hid (Below wr.heap.size wr wr) := Below.refl _ _
      go_wp2_with fail
      go_region_held3 (fun w' => w'.cell? ⟨b, off + j * 3, none⟩ = some (.string s0)) (first | go_keep | (exact (b1.cell (p := ⟨b, off + j * 3, none⟩) HBW.out).trans hd0)) ((go_at_call 60; refine (HM0.out _).mono ?_; rintro e v1 ⟨rfl, b1⟩))
      have B1 : Hid (Below wr.heap.size wr v1) := B0.out.trans (((Below.refl _ _).drew.trans b1).mono B0.out.size)
      clear b1
      have hx1_1 := (B1.out.cell (p := ⟨b, off + j * 3 + 1, none⟩) HBW.out).trans hd1
      have hx1_2 := (B1.out.cell (p := ⟨b, off + j * 3 + 2, none⟩) HBW.out).trans hd2
      have hw2 : b < v1.heap.size := Nat.lt_of_lt_of_le HBW.out B1.out.size
      go_wp2_with fail
      go_region_held3 (fun w' => w'.cell? ⟨b, off + j * 3 + 1, none⟩ = some (.string s1)) (first | go_keep | (exact (b2.cell (p := ⟨b, off + j * 3 + 1, none⟩) hw2).trans hx1_1)) ((go_at_call 60; refine (HM1.out _).mono ?_; rintro e v2 ⟨rfl, b2⟩))
      have B2 : Hid (Below wr.heap.size wr v2) := B1.out.trans (((Below.refl _ _).drew.trans b2).mono B1.out.size)
      clear b2
      have hx2_2 := (B2.out.cell (p := ⟨b, off + j * 3 + 2, none⟩) HBW.out).trans hd2
      go_wp2
      go_roundw
      case rel =>
        refine ⟨j + 1, ?_, by go_num, by omega, HB.out.trans (B2.out.mono HB.out.size)⟩
        have := HK.out
        congr 1
        omega
      case measure => simp [intOf]; omega
    · have hlt' : decide ((j : Int) < (n : Int)) = false := by simp; omega
      have hje : j = n := by omega
      subst hje
      go_wp2
      go_ret
      exact ⟨rfl, HB.out⟩

/-- The cells of a row. -/
def cellsChange : List ChangeD → List Value
  | [] => []
  | A :: r => .string A.key :: .string A.value :: .bool A.gone :: cellsChange r
theorem cellsChange_append : ∀ (a b : List ChangeD), cellsChange (a ++ b) = cellsChange a ++ cellsChange b
  | [], _ => rfl
  | A :: r, b => by simp [cellsChange, cellsChange_append r b]
theorem cellsChange_length : ∀ a : List ChangeD, (cellsChange a).length = a.length * 3
  | [] => rfl
  | A :: r => by simp [cellsChange, cellsChange_length r]; omega
theorem cellsChange_one : ∀ (a : List ChangeD), ∀ u ∈ cellsChange a, u.oneCell' = true
  | [], u, h => absurd h List.not_mem_nil
  | A :: r, u, h => by
    simp only [cellsChange, List.mem_cons] at h
    rcases h with rfl | rfl | rfl | h
    · rfl
    · rfl
    · rfl
    · exact cellsChange_one r u h
theorem cellsChange_get : ∀ (a : List ChangeD) (j : Nat) (h : j < a.length), (cellsChange a)[j * 3]? = some (.string a[j].key) ∧ (cellsChange a)[j * 3 + 1]? = some (.string a[j].value) ∧ (cellsChange a)[j * 3 + 2]? = some (.bool a[j].gone)
  | [], _, h => absurd h (by simp)
  | A :: r, 0, _ => by simp [cellsChange]
  | A :: r, j + 1, h => by
    have := cellsChange_get r j (by simpa using h)
    have e : (j + 1) * 3 = j * 3 + 3 := by omega
    simp only [cellsChange, e]
    simpa using this

/-- A row of a call's own. -/
def RowChange (w : World) (B : Nat) (v : Value) (fs : List ChangeD) : Prop := (v = .slice none 0 0 ∧ fs = []) ∨
  ∃ (g cap : Nat) (C : Array Value), v = .slice (some ⟨g, 0, none⟩) fs.length cap ∧ B ≤ g ∧ w.heap[g]? = some (.cells C 86 (0, 0)) ∧ fs.length * 3 ≤ C.size ∧ ChangesIn C fs fs.length
theorem rowChange_at {w : World} {B : Nat} {v : Value} {fs : List ChangeD} (h : RowChange w B v fs) : ∃ ao cap, v = .slice ao fs.length cap ∧ ChangesAt w ao fs := by
  rcases h with ⟨rfl, rfl⟩ | ⟨g, cap, C, rfl, _, hC, _, hI⟩
  · exact ⟨none, 0, rfl, fun j hj => absurd hj (by simp)⟩
  · exact ⟨_, cap, rfl, changesAt_own hC hI⟩
theorem rowChange_lt {w : World} {B : Nat} {v : Value} {fs : List ChangeD} (h : RowChange w B v fs) : ∀ g, v.ownBlock = some g → B ≤ g ∧ g < w.heap.size := by
  rcases h with ⟨rfl, rfl⟩ | ⟨g, cap, C, rfl, hB, hC, _, hI⟩
  · intro g h; cases h
  · intro g' h
    obtain rfl : g = g' := by simpa [Value.ownBlock] using h
    exact ⟨hB, (Array.getElem?_eq_some_iff.1 hC).1⟩
theorem rowChange_keep {w w' : World} {B : Nat} {v : Value} {fs : List ChangeD} (h : RowChange w B v fs) (hk : ∀ g, v.ownBlock = some g → w'.heap[g]? = w.heap[g]?) : RowChange w' B v fs := by
  rcases h with ⟨rfl, rfl⟩ | ⟨g, cap, C, rfl, hB, hC, hs, hI⟩
  · exact .inl ⟨rfl, rfl⟩
  · exact .inr ⟨g, cap, C, rfl, hB, (hk g rfl).trans hC, hs, hI⟩
theorem rowChange_below {w w' : World} {B : Nat} {v : Value} {fs : List ChangeD} (h : RowChange w B v fs) (hb : Below w.heap.size w w') : RowChange w' B v fs :=
  rowChange_keep h (fun g hg => hb.block g (rowChange_lt h g hg).2)
theorem rowChange_grown {w w' : World} {B : Nat} {v : Value} {fs : List ChangeD} {r : Option Nat} (h : RowChange w B v fs) (hb : w.grownBy w' r) (hr : ∀ g, v.ownBlock = some g → some g ≠ r) : RowChange w' B v fs :=
  rowChange_keep h (fun g hg => hb.block g (rowChange_lt h g hg).2 (hr g hg))
theorem rowChange_le {w : World} {B B' : Nat} {v : Value} {fs : List ChangeD} (h : RowChange w B v fs) (hB : B' ≤ B) : RowChange w B' v fs := by
  rcases h with h | ⟨g, cap, C, h1, h2, h3⟩
  · exact .inl h
  · exact .inr ⟨g, cap, C, h1, by omega, h3⟩
theorem rowChange_rows {w : World} {B n c : Nat} {a : Option Addr} {fs : List ChangeD} (h : RowChange w B (.slice a n c) fs) : ChangesAt w a fs := by
  obtain ⟨ao, cap, e, hf⟩ := rowChange_at h
  cases e
  exact hf
theorem take_getChange {C : Array Value} {xs : List Value} {n : Nat} (h : C.toList.take n = xs) {j : Nat} {u : Value} (hj : j < n) (hu : xs[j]? = some u) : C[j]? = some u := by
  rw [← h, List.getElem?_take_of_lt hj] at hu
  simpa using hu
theorem rowChange_own {w : World} {B : Nat} {v : Value} {fs : List ChangeD} (h : w.ownsRow B 86 3 v fs.length (cellsChange fs)) : RowChange w B v fs := by
  rcases h.2 with ⟨rfl, hn⟩ | ⟨g, cap, cur, rfl, hB, hC, hle, _, hs, ht⟩
  · exact .inl ⟨rfl, List.eq_nil_of_length_eq_zero hn⟩
  · refine .inr ⟨g, cap, cur, rfl, hB, hC, by omega, ?_⟩
    intro j hj _
    obtain ⟨h0, h1, h2⟩ := cellsChange_get fs j hj
    exact ⟨take_getChange ht (by omega) h0, take_getChange ht (by omega) h1, take_getChange ht (by omega) h2⟩

/-- One is put behind a row of the call's own, at a step of a region that draws its order. -/
theorem step_app_change {ops : Array Oper} {o : Oper} {a : Act} {K : Act → World → Prop} {Q : Exit → Act → World → Prop} {E : Prop} (W : World) (B : Nat) (hgd : o.guard = none) (s y : Operand)
    (ho : o.op = .call { callee := .builtin .append, args := #[s, y], argTypes := #[47, 47] }) (v : Value) (l : List ChangeD) (F : ChangeD) (hs : a.eval s = v)
    (hown : W.ownsRow B 86 3 v l.length (cellsChange l)) (k : Nat) (hx : a.eval y = .slice (some ⟨k, 0, none⟩) 1 1) (hblk : W.heap[k]? = some (.cells #[.string F.key, .string F.value, .bool F.gone] 86 (0, 0)))
    (hlen : l.length ≤ 1048576) (hbase : B ≤ W.heap.size)
    (h : ∀ g cap w', w'.ownsRow B 86 3 (.slice (some ⟨g, 0, none⟩) (l.length + 1) cap) (l ++ [F]).length (cellsChange (l ++ [F])) → Below B W w' → B ≤ g → g < w'.heap.size → K (a.put o.dst (.slice (some ⟨g, 0, none⟩) (l.length + 1) cap)) w') :
    if Region.wanted o (yielded ops a.tmps) = true then Oper.wp Try.prog o a W K Q else E := by
  obtain ⟨i0, hi, hz0, hz1, hz2⟩ := info_parts Try.infoChange
  refine step_append_lies W hgd s y 47 ho B 86 i0 (.agg #[.string ⟨#[]⟩, .string ⟨#[]⟩, .bool false]) 3 40 Try.underlying47 hi hz0 hz1 hz2 rfl (by decide) v l.length (cellsChange l) hs hown ⟨k, 0, none⟩ 1 1 (cellsChange [F]) hx (by rw [cellsChange_length]; rfl)
    (fun j u hj => World.news_of_block hblk j u hj) (cellsChange_one [F]) (by omega) (by unfold maxLen; omega) (by omega) hbase W.heap.size rfl ?_
  intro g cap w' hown' hgrow hg hgl
  have hlt := hown.lt
  refine h g cap w' ?_ ((Below.refl B W).grown hgrow hbase (fun k hk => (hlt k hk).1)) ?_ hgl
  · rw [cellsChange_append, List.length_append]
    exact hown'
  · rcases hg with hg | rfl
    · exact (hlt g hg).1
    · exact hbase
/-- The same in a plain region. -/
theorem app_change {ops : Array Oper} {rest : List Oper} {o : Oper} {a : Act} {Q : Exit → Act → World → Prop} (W : World) (B : Nat) (hgd : o.guard = none) (s y : Operand)
    (ho : o.op = .call { callee := .builtin .append, args := #[s, y], argTypes := #[47, 47] }) (v : Value) (l : List ChangeD) (F : ChangeD) (hs : a.eval s = v)
    (hown : W.ownsRow B 86 3 v l.length (cellsChange l)) (k : Nat) (hx : a.eval y = .slice (some ⟨k, 0, none⟩) 1 1) (hblk : W.heap[k]? = some (.cells #[.string F.key, .string F.value, .bool F.gone] 86 (0, 0)))
    (hlen : l.length ≤ 1048576) (hbase : B ≤ W.heap.size)
    (h : ∀ g cap w', w'.ownsRow B 86 3 (.slice (some ⟨g, 0, none⟩) (l.length + 1) cap) (l ++ [F]).length (cellsChange (l ++ [F])) → Below B W w' → B ≤ g → g < w'.heap.size → wpList Try.prog ops Q rest (a.put o.dst (.slice (some ⟨g, 0, none⟩) (l.length + 1) cap)) w') :
    wpList Try.prog ops Q (o :: rest) a W := by
  obtain ⟨i0, hi, hz0, hz1, hz2⟩ := info_parts Try.infoChange
  refine wpList_append_lies W hgd s y 47 ho B 86 i0 (.agg #[.string ⟨#[]⟩, .string ⟨#[]⟩, .bool false]) 3 40 Try.underlying47 hi hz0 hz1 hz2 rfl (by decide) v l.length (cellsChange l) hs hown ⟨k, 0, none⟩ 1 1 (cellsChange [F]) hx (by rw [cellsChange_length]; rfl)
    (fun j u hj => World.news_of_block hblk j u hj) (cellsChange_one [F]) (by omega) (by unfold maxLen; omega) (by omega) hbase W.heap.size rfl ?_
  intro g cap w' hown' hgrow hg hgl
  have hlt := hown.lt
  refine h g cap w' ?_ ((Below.refl B W).grown hgrow hbase (fun k hk => (hlt k hk).1)) ?_ hgl
  · rw [cellsChange_append, List.length_append]
    exact hown'
  · rcases hg with hg | rfl
    · exact (hlt g hg).1
    · exact hbase

end Go.Proofs.Ytbenmgokhklnjaa
