import Derived.Laws.MakeOwn
import Derived.Lib.SmallJoins
import Derived.OpenShut
import Derived.Lib.ConvBytes
import Derived.Deep.AppendLies
import Derived.Deep.RegionHeld3
import Derived.Deep.CutRange
import Derived.Deep.RegionLaw
import Derived.Test.YtfgammkmkhfbpaaDf0
import Derived.Test.YtfgammkmkhfbpaaDf2
set_option maxRecDepth 100000
set_option maxHeartbeats 1600000
namespace Go.Proofs.Ytfgammkmkhfbpaa
open Go.RowKit
structure ChangeD where
  key : ByteArray
  value : ByteArray
  gone : Bool
def ChangesAt (w : World) (ao : Option Addr) (fs : List ChangeD) : Prop := ∀ j (h : j < fs.length), ∃ b off : Nat, ao = some ⟨b, off, none⟩ ∧ b < w.heap.size ∧
  w.cell? ⟨b, off + j * 3, none⟩ = some (.string fs[j].key) ∧ w.cell? ⟨b, off + j * 3 + 1, none⟩ = some (.string fs[j].value) ∧ w.cell? ⟨b, off + j * 3 + 2, none⟩ = some (.bool fs[j].gone)
theorem changesAt_keep {w w' : World} {ao : Option Addr} {fs : List ChangeD} (h : ChangesAt w ao fs) (hb : Below w.heap.size w w') : ChangesAt w' ao fs := by
  intro j hj
  obtain ⟨b, off, h1, h2, h3, h4, h5⟩ := h j hj
  exact ⟨b, off, h1, Nat.lt_of_lt_of_le h2 hb.size, (hb.cell (p := ⟨b, off + j * 3, none⟩) h2).trans h3, (hb.cell (p := ⟨b, off + j * 3 + 1, none⟩) h2).trans h4, (hb.cell (p := ⟨b, off + j * 3 + 2, none⟩) h2).trans h5⟩
theorem eqChange_same (A : ChangeD) (w : World) :
    Calls Try.prog 25 #[.agg #[.string A.key, .string A.value, .bool A.gone], .agg #[.string A.key, .string A.value, .bool A.gone]] w fun e w' => e = .returned (.bool true) ∧ Below w.heap.size w w' := by
  obtain ⟨a0, a1, a2⟩ := A
  have h0 : (a0.toList == a0.toList) = true := beq_self_eq_true _
  have h1 : (a1.toList == a1.toList) = true := beq_self_eq_true _
  have h2 : (a2 == a2) = true := beq_self_eq_true _
  go_enter Try.func25, Try.ntmps25
  go_wp2
  go_ret
  exact ⟨rfl, ((Below.refl _ w).alloc (Nat.le_refl _) _).alloc (by simp) _⟩
def ChangesIn (C : Array Value) (fs : List ChangeD) (k : Nat) : Prop := ∀ j (h : j < fs.length), j < k → C[j * 3]? = some (.string fs[j].key) ∧ C[j * 3 + 1]? = some (.string fs[j].value) ∧ C[j * 3 + 2]? = some (.bool fs[j].gone)
theorem Try.infoChange : (Try.prog.info? 44).map (fun i => (i.zero, i.size, i.bytes)) = some (some (.agg #[.string ⟨#[]⟩, .string ⟨#[]⟩, .bool false]), 3, 40) := by kernel_rfl
def putChange (C : Array Value) (k : Nat) (A : ChangeD) : Array Value := ((C.setIfInBounds (k * 3) (.string A.key)).setIfInBounds (k * 3 + 1) (.string A.value)).setIfInBounds (k * 3 + 2) (.bool A.gone)
theorem putChange_size (C : Array Value) (k : Nat) (A : ChangeD) : (putChange C k A).size = C.size := by simp [putChange]
theorem changesIn_put {C : Array Value} {fs : List ChangeD} {k : Nat} (h : ChangesIn C fs k) (hk : k < fs.length) (hs : fs.length * 3 ≤ C.size) : ChangesIn (putChange C k fs[k]) fs (k + 1) := by
  intro j hj hjk
  unfold putChange
  by_cases e : j = k
  · subst e
    refine ⟨?_, ?_, ?_⟩ <;> simp [Array.getElem?_setIfInBounds] <;> omega
  · obtain ⟨h0, h1, h2⟩ := h j hj (by omega)
    refine ⟨?_, ?_, ?_⟩
    · rw [Array.getElem?_setIfInBounds_ne (by omega), Array.getElem?_setIfInBounds_ne (by omega), Array.getElem?_setIfInBounds_ne (by omega)]; exact h0
    · rw [Array.getElem?_setIfInBounds_ne (by omega), Array.getElem?_setIfInBounds_ne (by omega), Array.getElem?_setIfInBounds_ne (by omega)]; exact h1
    · rw [Array.getElem?_setIfInBounds_ne (by omega), Array.getElem?_setIfInBounds_ne (by omega), Array.getElem?_setIfInBounds_ne (by omega)]; exact h2
theorem changesAt_own {w : World} {g : Nat} {C : Array Value} {t : TypeId} {fs : List ChangeD} (h : w.heap[g]? = some (.cells C t (0, 0))) (hC : ChangesIn C fs fs.length) : ChangesAt w (some ⟨g, 0, none⟩) fs := by
  intro j hj
  obtain ⟨h0, h1, h2⟩ := hC j hj hj
  have hg : g < w.heap.size := (Array.getElem?_eq_some_iff.1 h).1
  refine ⟨g, 0, rfl, hg, ?_, ?_, ?_⟩
  · rw [Nat.zero_add, cell_of_row w g _ C t (0, 0) h, h0]
  · rw [Nat.zero_add, cell_of_row w g _ C t (0, 0) h, h1]
  · rw [Nat.zero_add, cell_of_row w g _ C t (0, 0) h, h2]
theorem eqChangeS_same (fs : List ChangeD) (ao ao2 : Option Addr) (cap cap2 : Nat) (w : World) (hl : fs.length ≤ maxLen) (h1 : ChangesAt w ao fs) (h2 : ChangesAt w ao2 fs) :
    Calls Try.prog 8 #[.slice ao fs.length cap, .slice ao2 fs.length cap2] w fun e w' => e = .returned (.bool true) ∧ Below w.heap.size w w' := by
  have H1 := hide h1
  have H2 := hide h2
  clear h1 h2
  unfold maxLen at hl
  have hne : (!((fs.length : Int) == (fs.length : Int))) = false := by simp
  go_enter Try.func8, Try.ntmps8
  go_wp2
  go_loopw [5] (fun ii wr => ∃ (k : Nat), ii = .int .i64 k ∧ k ≤ fs.length ∧ Hid (Below w.heap.size w wr)) (fun ii _ => fs.length - (intOf ii).toNat)
  case atStart => exact ⟨0, rfl, Nat.zero_le _, Below.refl _ _⟩
  case round =>
    obtain ⟨k, rfl, hk, HB⟩ := hrel
    by_cases hlt : k < fs.length
    · have hlt' : decide ((k : Int) < (fs.length : Int)) = true := by simp; omega
      obtain ⟨b, off, rfl, hbw, hc0, hc1, hc2⟩ := changesAt_keep H1.out HB.out k hlt
      obtain ⟨b', off', rfl, hbw', hd0, hd1, hd2⟩ := changesAt_keep H2.out HB.out k hlt
      generalize fs[k] = F at hc0 hc1 hc2 hd0 hd1 hd2
      have hi0 : (0 : Int) ≤ (k : Int) := by omega
      have hi1 : (k : Int) < (fs.length : Int) := by omega
      have HBw := hide hbw
      have HBw' := hide hbw'
      clear hbw hbw'
      go_wp2_with fail
      go_region_held3 (fun w' => w'.cell? ⟨b, off + k * 3, none⟩ = some (.string F.key) ∧ w'.cell? ⟨b, off + k * 3 + 1, none⟩ = some (.string F.value) ∧ w'.cell? ⟨b, off + k * 3 + 2, none⟩ = some (.bool F.gone) ∧ w'.cell? ⟨b', off' + k * 3, none⟩ = some (.string F.key) ∧ w'.cell? ⟨b', off' + k * 3 + 1, none⟩ = some (.string F.value) ∧ w'.cell? ⟨b', off' + k * 3 + 2, none⟩ = some (.bool F.gone)) (first | go_keep | (exact ⟨(b1.cell (p := ⟨b, off + k * 3, none⟩) HBw.out).trans hc0, (b1.cell (p := ⟨b, off + k * 3 + 1, none⟩) HBw.out).trans hc1, (b1.cell (p := ⟨b, off + k * 3 + 2, none⟩) HBw.out).trans hc2, (b1.cell (p := ⟨b', off' + k * 3, none⟩) HBw'.out).trans hd0, (b1.cell (p := ⟨b', off' + k * 3 + 1, none⟩) HBw'.out).trans hd1, (b1.cell (p := ⟨b', off' + k * 3 + 2, none⟩) HBw'.out).trans hd2⟩)) ((go_at_call 25; refine (eqChange_same F _).mono ?_; rintro e w1 ⟨rfl, b1⟩))
      go_wp2
      go_roundw
      case rel => exact ⟨k + 1, by go_num, by omega, HB.out.trans (((Below.refl _ _).drew.trans b1).mono HB.out.size)⟩
      case measure => simp [intOf]; omega
    · have hlt' : decide ((k : Int) < (fs.length : Int)) = false := by simp; omega
      go_wp2
      go_ret
      exact ⟨rfl, HB.out⟩
def markChangeD (k : Nat) : ChangeD := ⟨⟨(mk (k)).toArray⟩, ⟨(mk (k + 1)).toArray⟩, (((k + 2 : Nat) : Int) % 3 == 0)⟩
def markChangeDs (k n : Nat) : List ChangeD := (List.range n).map (fun j => markChangeD (k + 3 * j))
theorem markChangeDs_length (k n : Nat) : (markChangeDs k n).length = n := by simp [markChangeDs]
theorem markChangeDs_get (k n j : Nat) (h : j < (markChangeDs k n).length) : (markChangeDs k n)[j] = markChangeD (k + 3 * j) := by simp [markChangeDs]
theorem markChange_0 (K : Nat) (w : World) (h0 : 0 < K) (h : K ≤ 20000000) : Calls Try.prog 27 #[.int .i64 (K : Int)] w fun e w' => e = .returned (.string ⟨(mk K).toArray⟩) ∧ Below w.heap.size w w' := mark_any K w (by omega) (by omega)
theorem markChange_1 (K : Nat) (w : World) (h : K ≤ 20000000) : Calls Try.prog 27 #[.int .i64 ((K : Int) + 1)] w fun e w' => e = .returned (.string ⟨(mk (K + 1)).toArray⟩) ∧ Below w.heap.size w w' := by
  have h := mark_any (K + 1) w (by omega) (by omega)
  rw [show (((K + 1 : Nat)) : Int) = (K : Int) + 1 from by omega] at h
  exact h
theorem markChangeS_row (g cap n : Nat) (C0 : Array Value) (k : Nat) (w : World) (hn : n ≤ 1048576) (hk0 : 0 < k) (hk : k ≤ 10000000) (hC : w.heap[g]? = some (.cells C0 44 (0, 0))) (hs : n * 3 ≤ C0.size) :
    Calls Try.prog 11 #[.slice (some ⟨g, 0, none⟩) n cap, .int .i64 (k : Int)] w fun e w' => e = .returned (.int .i64 ((k + 3 * n : Nat) : Int)) ∧ (∃ C : Array Value, w'.heap[g]? = some (.cells C 44 (0, 0)) ∧ C.size = C0.size ∧ ChangesIn C (markChangeDs k n) n) ∧ w.grownBy w' (some g) := by
  have HC0 := hide hC
  clear hC
  go_enter Try.func11, Try.ntmps11
  go_wp2
  go_loopw [1, 5] (fun kk ii wr => ∃ (j : Nat) (C : Array Value), kk = .int .i64 ((k + 3 * j : Nat) : Int) ∧ ii = .int .i64 j ∧ j ≤ n ∧ Hid (wr.heap[g]? = some (.cells C 44 (0, 0))) ∧ C.size = C0.size ∧ Hid (ChangesIn C (markChangeDs k n) j) ∧ Hid (w.grownBy wr (some g))) (fun _ ii _ => n - (intOf ii).toNat)
  case atStart => exact ⟨0, C0, rfl, rfl, Nat.zero_le _, HC0, rfl, fun j _ hj => absurd hj (by omega), World.grownBy.refl _ _⟩
  case round =>
    obtain ⟨j, C, rfl, rfl, hj, HC, hCs, HI, HG⟩ := hrel
    by_cases hlt : j < n
    · have hlt' : decide ((j : Int) < (n : Int)) = true := by simp; omega
      have hi0 : (0 : Int) ≤ (j : Int) := by omega
      have hi1 : (j : Int) < (n : Int) := by omega
      have hgw : g < wr.heap.size := (Array.getElem?_eq_some_iff.1 HC.out).1
      obtain ⟨K, HK⟩ : ∃ K : Nat, Hid (K = k + 3 * j) := ⟨_, hide rfl⟩
      have hKb : 0 < K ∧ K ≤ 15000000 := by have := HK.out; omega
      rw [← HK.out]
      go_wp2_with fail
      refine (markChange_0 K _ hKb.1 (by omega)).mono ?_
      rintro e w1 ⟨rfl, b1⟩
      have HC1 : Hid (w1.heap[g]? = some (.cells (C) 44 (0, 0))) := (b1.block g (by exact hgw)).trans HC.out
      have hgw1 : g < w1.heap.size := (Array.getElem?_eq_some_iff.1 HC1.out).1
      have HG1 : Hid (w.grownBy w1 (some g)) := grownBy_trans (HG.out) (grownBy_below _ b1)
      have hq0 := cell_of_row w1 g (j * 3) _ _ (0, 0) HC1.out
      have hf0 := frozen_of_row w1 g (j * 3) _ _ HC1.out
      rw [Array.getElem?_eq_getElem (by first | omega | (simp; omega))] at hq0
      go_wp2_with fail
      refine (markChange_1 K _ (by omega)).mono ?_
      rintro e w2 ⟨rfl, b2⟩
      have HC2 : Hid (w2.heap[g]? = some (.cells (C.setIfInBounds (j * 3) (.string ⟨(mk (K)).toArray⟩)) 44 (0, 0))) := (b2.block g (by have := b1.size; simp [World.setCell] at *; omega)).trans (heap_setCell_same _ g _ _ _ _ HC1.out)
      have hgw2 : g < w2.heap.size := (Array.getElem?_eq_some_iff.1 HC2.out).1
      have HG2 : Hid (w.grownBy w2 (some g)) := grownBy_trans (grownBy_store HG1.out (j * 3) _) (grownBy_below _ b2)
      clear hq0 hf0
      have hq1 := cell_of_row w2 g (j * 3 + 1) _ _ (0, 0) HC2.out
      have hf1 := frozen_of_row w2 g (j * 3 + 1) _ _ HC2.out
      have hq2 := cell_of_row w2 g (j * 3 + 2) _ _ (0, 0) HC2.out
      have hf2 := frozen_of_row w2 g (j * 3 + 2) _ _ HC2.out
      rw [Array.getElem?_eq_getElem (by first | omega | (simp; omega))] at hq1 hq2
      go_wp2_with fail
      go_roundw
      case rel =>
        have hl := markChangeDs_length k n
        have HP := changesIn_put HI.out (by omega) (by omega)
        rw [markChangeDs_get, ← HK.out] at HP
        refine ⟨j + 1, putChange C j (markChangeD K), ?_, by go_num, by omega, heap_setCell_same _ g _ _ _ _ (heap_setCell_same _ g _ _ _ _ HC2.out), by rw [putChange_size]; exact hCs, HP, grownBy_store (grownBy_store HG2.out (j * 3 + 1) _) (j * 3 + 2) _⟩
        have := HK.out
        congr 1
        omega
      case measure => simp [intOf]; omega
    · have hlt' : decide ((j : Int) < (n : Int)) = false := by simp; omega
      have hje : j = n := by omega
      subst hje
      go_wp2
      go_ret
      exact ⟨rfl, ⟨C, HC.out, hCs, HI.out⟩, HG.out⟩
theorem heldChangeS_any (ao : Option Addr) (cap n k : Nat) (w : World) (hn : n ≤ 1048576) (hk0 : 0 < k) (hk : k ≤ 10000000) (h : ChangesAt w ao (markChangeDs k n)) :
    Calls Try.prog 12 #[.slice ao n cap, .int .i64 (k : Int)] w fun e w' => e = .returned (.int .i64 ((k + 3 * n : Nat) : Int)) ∧ Below w.heap.size w w' := by
  have HF := hide h
  clear h
  go_enter Try.func12, Try.ntmps12
  go_wp2
  go_loopw [1, 5] (fun kk ii wr => ∃ (j : Nat), kk = .int .i64 ((k + 3 * j : Nat) : Int) ∧ ii = .int .i64 j ∧ j ≤ n ∧ Hid (Below w.heap.size w wr)) (fun _ ii _ => n - (intOf ii).toNat)
  case atStart => exact ⟨0, rfl, rfl, Nat.zero_le _, Below.refl _ _⟩
  case round =>
    obtain ⟨j, rfl, rfl, hj, HB⟩ := hrel
    by_cases hlt : j < n
    · have hlt' : decide ((j : Int) < (n : Int)) = true := by simp; omega
      have hi0 : (0 : Int) ≤ (j : Int) := by omega
      have hi1 : (j : Int) < (n : Int) := by omega
      obtain ⟨b, off, rfl, hbw, hc0, hc1, hc2⟩ := changesAt_keep HF.out HB.out j (by rw [markChangeDs_length]; exact hlt)
      rw [markChangeDs_get] at hc0 hc1 hc2
      obtain ⟨K, HK⟩ : ∃ K : Nat, Hid (K = k + 3 * j) := ⟨_, hide rfl⟩
      have hKb : 0 < K ∧ K ≤ 15000000 := by have := HK.out; omega
      rw [← HK.out] at hc0 hc1 hc2 ⊢
      obtain ⟨s0, hs0⟩ : ∃ s0 : ByteArray, s0 = ⟨(mk (K)).toArray⟩ := ⟨_, rfl⟩
      have hd0 : wr.cell? ⟨b, off + j * 3, none⟩ = some (.string s0) := by rw [hs0]; exact hc0
      have he0 : (s0.toList == s0.toList) = true := beq_self_eq_true _
      have HM0 : Hid (∀ W, Calls Try.prog 27 #[.int .i64 ((K : Int))] W fun e w' => e = .returned (.string s0) ∧ Below W.heap.size W w') := fun W => by rw [hs0]; exact markChange_0 K W hKb.1 (by omega)
      obtain ⟨s1, hs1⟩ : ∃ s1 : ByteArray, s1 = ⟨(mk (K + 1)).toArray⟩ := ⟨_, rfl⟩
      have hd1 : wr.cell? ⟨b, off + j * 3 + 1, none⟩ = some (.string s1) := by rw [hs1]; exact hc1
      have he1 : (s1.toList == s1.toList) = true := beq_self_eq_true _
      have HM1 : Hid (∀ W, Calls Try.prog 27 #[.int .i64 ((K : Int) + 1)] W fun e w' => e = .returned (.string s1) ∧ Below W.heap.size W w') := fun W => by rw [hs1]; exact markChange_1 K W (by omega)
      obtain ⟨q2, hq2⟩ : ∃ q : Bool, (((K : Int) + 1 + 1) % 3 == 0) = q := ⟨_, rfl⟩
      have hd2 : wr.cell? ⟨b, off + j * 3 + 2, none⟩ = some (.bool q2) := by rw [← hq2]; exact hc2
      have he2 : (q2 == q2) = true := beq_self_eq_true _
      clear hc0 hc1 hc2 hs0 hs1
      have HBW := hide hbw
      clear hbw
      have B0 : Hid (Below wr.heap.size wr wr) := Below.refl _ _
      go_wp2_with fail
      go_region_held3 (fun w' => w'.cell? ⟨b, off + j * 3, none⟩ = some (.string s0)) (first | go_keep | (exact (b1.cell (p := ⟨b, off + j * 3, none⟩) HBW.out).trans hd0)) ((go_at_call 27; refine (HM0.out _).mono ?_; rintro e v1 ⟨rfl, b1⟩))
      have B1 : Hid (Below wr.heap.size wr v1) := B0.out.trans (((Below.refl _ _).drew.trans b1).mono B0.out.size)
      clear b1
      have hx1_1 := (B1.out.cell (p := ⟨b, off + j * 3 + 1, none⟩) HBW.out).trans hd1
      have hx1_2 := (B1.out.cell (p := ⟨b, off + j * 3 + 2, none⟩) HBW.out).trans hd2
      have hw2 : b < v1.heap.size := Nat.lt_of_lt_of_le HBW.out B1.out.size
      go_wp2_with fail
      go_region_held3 (fun w' => w'.cell? ⟨b, off + j * 3 + 1, none⟩ = some (.string s1)) (first | go_keep | (exact (b2.cell (p := ⟨b, off + j * 3 + 1, none⟩) hw2).trans hx1_1)) ((go_at_call 27; refine (HM1.out _).mono ?_; rintro e v2 ⟨rfl, b2⟩))
      have B2 : Hid (Below wr.heap.size wr v2) := B1.out.trans (((Below.refl _ _).drew.trans b2).mono B1.out.size)
      clear b2
      have hx2_2 := (B2.out.cell (p := ⟨b, off + j * 3 + 2, none⟩) HBW.out).trans hd2
      go_wp2
      go_roundw
      case rel =>
        refine ⟨j + 1, ?_, by go_num, by omega, HB.out.trans (B2.out.mono HB.out.size)⟩
        have := HK.out
        congr 1
        omega
      case measure => simp [intOf]; omega
    · have hlt' : decide ((j : Int) < (n : Int)) = false := by simp; omega
      have hje : j = n := by omega
      subst hje
      go_wp2
      go_ret
      exact ⟨rfl, HB.out⟩
def cellsChange : List ChangeD → List Value
  | [] => []
  | A :: r => .string A.key :: .string A.value :: .bool A.gone :: cellsChange r
theorem cellsChange_append : ∀ (a b : List ChangeD), cellsChange (a ++ b) = cellsChange a ++ cellsChange b
  | [], _ => rfl
  | A :: r, b => by simp [cellsChange, cellsChange_append r b]
theorem cellsChange_length : ∀ a : List ChangeD, (cellsChange a).length = a.length * 3
  | [] => rfl
  | A :: r => by simp [cellsChange, cellsChange_length r]; omega
theorem cellsChange_one : ∀ (a : List ChangeD), ∀ u ∈ cellsChange a, u.oneCell' = true
  | [], u, h => absurd h List.not_mem_nil
  | A :: r, u, h => by
    simp only [cellsChange, List.mem_cons] at h
    rcases h with rfl | rfl | rfl | h
    · rfl
    · rfl
    · rfl
    · exact cellsChange_one r u h
theorem cellsChange_get : ∀ (a : List ChangeD) (j : Nat) (h : j < a.length), (cellsChange a)[j * 3]? = some (.string a[j].key) ∧ (cellsChange a)[j * 3 + 1]? = some (.string a[j].value) ∧ (cellsChange a)[j * 3 + 2]? = some (.bool a[j].gone)
  | [], _, h => absurd h (by simp)
  | A :: r, 0, _ => by simp [cellsChange]
  | A :: r, j + 1, h => by
    have := cellsChange_get r j (by simpa using h)
    have e : (j + 1) * 3 = j * 3 + 3 := by omega
    simp only [cellsChange, e]
    simpa using this
def RowChange (w : World) (B : Nat) (v : Value) (fs : List ChangeD) : Prop := (v = .slice none 0 0 ∧ fs = []) ∨
  ∃ (g cap : Nat) (C : Array Value), v = .slice (some ⟨g, 0, none⟩) fs.length cap ∧ B ≤ g ∧ w.heap[g]? = some (.cells C 44 (0, 0)) ∧ fs.length * 3 ≤ C.size ∧ ChangesIn C fs fs.length
theorem rowChange_at {w : World} {B : Nat} {v : Value} {fs : List ChangeD} (h : RowChange w B v fs) : ∃ ao cap, v = .slice ao fs.length cap ∧ ChangesAt w ao fs := by
  rcases h with ⟨rfl, rfl⟩ | ⟨g, cap, C, rfl, _, hC, _, hI⟩
  · exact ⟨none, 0, rfl, fun j hj => absurd hj (by simp)⟩
  · exact ⟨_, cap, rfl, changesAt_own hC hI⟩
theorem rowChange_lt {w : World} {B : Nat} {v : Value} {fs : List ChangeD} (h : RowChange w B v fs) : ∀ g, v.ownBlock = some g → B ≤ g ∧ g < w.heap.size := by
  rcases h with ⟨rfl, rfl⟩ | ⟨g, cap, C, rfl, hB, hC, _, hI⟩
  · intro g h; cases h
  · intro g' h
    obtain rfl : g = g' := by simpa [Value.ownBlock] using h
    exact ⟨hB, (Array.getElem?_eq_some_iff.1 hC).1⟩
theorem rowChange_keep {w w' : World} {B : Nat} {v : Value} {fs : List ChangeD} (h : RowChange w B v fs) (hk : ∀ g, v.ownBlock = some g → w'.heap[g]? = w.heap[g]?) : RowChange w' B v fs := by
  rcases h with ⟨rfl, rfl⟩ | ⟨g, cap, C, rfl, hB, hC, hs, hI⟩
  · exact .inl ⟨rfl, rfl⟩
  · exact .inr ⟨g, cap, C, rfl, hB, (hk g rfl).trans hC, hs, hI⟩
theorem rowChange_below {w w' : World} {B : Nat} {v : Value} {fs : List ChangeD} (h : RowChange w B v fs) (hb : Below w.heap.size w w') : RowChange w' B v fs :=
  rowChange_keep h (fun g hg => hb.block g (rowChange_lt h g hg).2)
theorem rowChange_le {w : World} {B B' : Nat} {v : Value} {fs : List ChangeD} (h : RowChange w B v fs) (hB : B' ≤ B) : RowChange w B' v fs := by
  rcases h with h | ⟨g, cap, C, h1, h2, h3⟩
  · exact .inl h
  · exact .inr ⟨g, cap, C, h1, by omega, h3⟩
theorem rowChange_rows {w : World} {B n c : Nat} {a : Option Addr} {fs : List ChangeD} (h : RowChange w B (.slice a n c) fs) : ChangesAt w a fs := by
  obtain ⟨ao, cap, e, hf⟩ := rowChange_at h
  cases e
  exact hf
theorem take_getChange {C : Array Value} {xs : List Value} {n : Nat} (h : C.toList.take n = xs) {j : Nat} {u : Value} (hj : j < n) (hu : xs[j]? = some u) : C[j]? = some u := by
  rw [← h, List.getElem?_take_of_lt hj] at hu
  simpa using hu
theorem rowChange_own {w : World} {B : Nat} {v : Value} {fs : List ChangeD} (h : w.ownsRow B 44 3 v fs.length (cellsChange fs)) : RowChange w B v fs := by
  rcases h.2 with ⟨rfl, hn⟩ | ⟨g, cap, cur, rfl, hB, hC, hle, _, hs, ht⟩
  · exact .inl ⟨rfl, List.eq_nil_of_length_eq_zero hn⟩
  · refine .inr ⟨g, cap, cur, rfl, hB, hC, by omega, ?_⟩
    intro j hj _
    obtain ⟨h0, h1, h2⟩ := cellsChange_get fs j hj
    exact ⟨take_getChange ht (by omega) h0, take_getChange ht (by omega) h1, take_getChange ht (by omega) h2⟩
theorem app_change {ops : Array Oper} {rest : List Oper} {o : Oper} {a : Act} {Q : Exit → Act → World → Prop} (W : World) (B : Nat) (hgd : o.guard = none) (s y : Operand)
    (ho : o.op = .call { callee := .builtin .append, args := #[s, y], argTypes := #[24, 24] }) (v : Value) (l : List ChangeD) (F : ChangeD) (hs : a.eval s = v)
    (hown : W.ownsRow B 44 3 v l.length (cellsChange l)) (k : Nat) (hx : a.eval y = .slice (some ⟨k, 0, none⟩) 1 1) (hblk : W.heap[k]? = some (.cells #[.string F.key, .string F.value, .bool F.gone] 44 (0, 0)))
    (hlen : l.length ≤ 1048576) (hbase : B ≤ W.heap.size)
    (h : ∀ g cap w', w'.ownsRow B 44 3 (.slice (some ⟨g, 0, none⟩) (l.length + 1) cap) (l ++ [F]).length (cellsChange (l ++ [F])) → Below B W w' → B ≤ g → g < w'.heap.size → wpList Try.prog ops Q rest (a.put o.dst (.slice (some ⟨g, 0, none⟩) (l.length + 1) cap)) w') :
    wpList Try.prog ops Q (o :: rest) a W := by
  obtain ⟨i0, hi, hz0, hz1, hz2⟩ := info_parts Try.infoChange
  refine wpList_append_lies W hgd s y 24 ho B 44 i0 (.agg #[.string ⟨#[]⟩, .string ⟨#[]⟩, .bool false]) 3 40 Try.underlying24 hi hz0 hz1 hz2 rfl (by decide) v l.length (cellsChange l) hs hown ⟨k, 0, none⟩ 1 1 (cellsChange [F]) hx (by rw [cellsChange_length]; rfl)
    (fun j u hj => World.news_of_block hblk j u hj) (cellsChange_one [F]) (by omega) (by unfold maxLen; omega) (by omega) hbase W.heap.size rfl ?_
  intro g cap w' hown' hgrow hg hgl
  have hlt := hown.lt
  refine h g cap w' ?_ ((Below.refl B W).grown hgrow hbase (fun k hk => (hlt k hk).1)) ?_ hgl
  · rw [cellsChange_append, List.length_append]
    exact hown'
  · rcases hg with hg | rfl
    · exact (hlt g hg).1
    · exact hbase
theorem Wd.varF_length : ∀ f n, (Wd.varF f n).length ≤ f
  | 0, _ => by simp [Wd.varF]
  | f + 1, n => by
    have := Wd.varF_length f (n / 128)
    by_cases h : n < 128
    · rw [Wd.varF_low f n h]; simp
    · rw [Wd.varF_high f n h]; simp; omega
def shortB (s : ByteArray) : ByteArray := ⟨(Wd.varF 5 s.size).toArray⟩ ++ s
theorem size_of_list (l : List UInt8) : (⟨l.toArray⟩ : ByteArray).size = l.length := rfl
theorem shortB_size (s : ByteArray) : (shortB s).size ≤ s.size + 5 := by
  have h := Wd.varF_length 5 s.size
  rw [shortB, ByteArray.size_append, size_of_list]
  omega
theorem l05Short_any (s : ByteArray) (w : World) (hs : s.size ≤ 1048576) :
    Calls Try.prog 33 #[.string s] w fun e w' => e = .returned (.string (shortB s)) ∧ Below w.heap.size w w' := by
  have HE : Hid (shortB s = ⟨(Wd.varF 5 s.size).toArray⟩ ++ s) := rfl
  have hv := Wd.varF_length 5 s.size
  go_enter Try.func33, Try.ntmps33
  go_wp2_with (first | (go_at_call 32; refine (l01Var_any s.size _ (by omega)).mono ?_; rintro e w1 ⟨rfl, b1⟩))
  go_ret
  rw [HE.out]
  exact ⟨rfl, b1⟩
theorem bt_list (L : List UInt8) (p : Nat) (h : p < L.length) : Wd.bt ⟨L.toArray⟩ p = L[p].toNat := by
  unfold Wd.bt
  rw [dif_pos (show p < (⟨L.toArray⟩ : ByteArray).size from h)]
  rfl
theorem bt_here (L : List UInt8) (p : Nat) (b : UInt8) (h : L[p]? = some b) : Wd.bt ⟨L.toArray⟩ p = b.toNat := by
  obtain ⟨hp, e⟩ := List.getElem?_eq_some_iff.1 h
  rw [bt_list L p hp, e]
theorem rvF_varF (s : ByteArray) : ∀ f n p k q acc, n < 128 ^ (f + 1) → acc + n * q ≤ 1000000000 → (0 < n ∨ k = 0) →
    (∀ j b, (Wd.varF (f + 1) n)[j]? = some b → p + j < s.size ∧ Wd.bt s (p + j) = b.toNat) → Wd.rvF s (f + 1) p k q acc = some (acc + n * q, p + (Wd.varF (f + 1) n).length)
  | f, n, p, k, q, acc, hn, hb, hk, hs => by
    by_cases h : n < 128
    · rw [Wd.varF_low f n h] at hs ⊢
      have h0 := hs 0 (UInt8.ofNat n) rfl
      have hbt : Wd.bt s p = n := by have := h0.2; simpa [Nat.mod_eq_of_lt (show n < 256 by omega)] using this
      have := Wd.rvF_lastB (f := f) (q := q) (n := acc) (k := k) hbt h0.1 h (by rw [Nat.mod_eq_of_lt h]; exact hb) hk
      rw [this, Nat.mod_eq_of_lt h]
      rfl
    · rw [Wd.varF_high f n h] at hs ⊢
      have h0 := hs 0 (UInt8.ofNat (n % 128 + 128)) rfl
      have hbt : Wd.bt s p = n % 128 + 128 := by have := h0.2; simpa [Nat.mod_eq_of_lt (show n % 128 + 128 < 256 by omega)] using this
      rw [Wd.rvF_moreB (f := f) (q := q) (n := acc) (k := k) hbt h0.1 (by omega)]
      cases f with
      | zero => simp at hn; omega
      | succ f =>
        have e : acc + n * q = acc + (n % 128 + 128) % 128 * q + n / 128 * (q * 128) := by
          have e1 : (n % 128 + 128) % 128 = n % 128 := by omega
          have e2 : n * q = (n % 128 + 128 * (n / 128)) * q := by rw [Nat.mod_add_div]
          rw [e1, e2, Nat.add_mul, Nat.add_assoc, Nat.mul_comm q 128, ← Nat.mul_assoc, Nat.mul_comm 128 (n / 128)]
        have ih := rvF_varF s f (n / 128) (p + 1) (k + 1) (q * 128) (acc + (n % 128 + 128) % 128 * q) (Wd.div_lt_pow _ _ hn) (by rw [← e]; exact hb) (.inl (by omega))
          (fun j b hj => by
            have := hs (j + 1) b (by simpa using hj)
            rw [show p + 1 + j = p + (j + 1) by omega]
            exact this)
        rw [ih, ← e, List.length_cons]
        congr 2
        omega
theorem rvI_at (a b : List UInt8) (n : Nat) (hn : n ≤ 1000000000) (i : Int) (hi : i = (a.length : Int)) : Wd.rvI ⟨(a ++ Wd.varF 5 n ++ b).toArray⟩ i = some (n, a.length + (Wd.varF 5 n).length) := by
  subst hi
  unfold Wd.rvI
  have hsz : (⟨(a ++ Wd.varF 5 n ++ b).toArray⟩ : ByteArray).size = a.length + (Wd.varF 5 n).length + b.length := by
    show (a ++ Wd.varF 5 n ++ b).length = _
    rw [List.length_append, List.length_append]
  rw [if_neg (by rw [hsz]; omega), Int.toNat_natCast]
  unfold Wd.rv
  have := rvF_varF ⟨(a ++ Wd.varF 5 n ++ b).toArray⟩ 4 n a.length 0 1 0 (by omega) (by omega) (.inr rfl) (fun j x hj => by
    have hj' : j < (Wd.varF 5 n).length := (List.getElem?_eq_some_iff.1 hj).1
    refine ⟨by rw [hsz]; omega, bt_here _ _ _ ?_⟩
    rw [List.append_assoc, List.getElem?_append_right (by omega), Nat.add_sub_cancel_left, List.getElem?_append_left hj', hj])
  rw [this]
  simp
theorem varC_at {t : ByteArray} (a b : List UInt8) (n : Nat) (hn : n ≤ 1000000000) (ht : t = ⟨(a ++ Wd.varF 5 n ++ b).toArray⟩) : varC t a.length false = (n, a.length + (Wd.varF 5 n).length, false) := by
  have h := rvI_at a b n hn (a.length : Int) rfl
  have hs : (⟨(a ++ Wd.varF 5 n ++ b).toArray⟩ : ByteArray).size = a.length + (Wd.varF 5 n).length + b.length := by
    show (a ++ Wd.varF 5 n ++ b).length = _
    rw [List.length_append, List.length_append]
  unfold Wd.rvI at h
  rw [if_neg (by rw [hs]; omega), Int.toNat_natCast, ← ht] at h
  unfold varC
  rw [h]
theorem takeC_at {t : ByteArray} (a b : List UInt8) (s : ByteArray) (ht : t = ⟨(a ++ s.data.toList ++ b).toArray⟩) : takeC t s.size a.length false = (s, a.length + s.size, false) := by
  have hl : s.data.toList.length = s.size := rfl
  have hs : t.size = a.length + s.size + b.length := by
    rw [ht]
    show (a ++ s.data.toList ++ b).length = _
    rw [List.length_append, List.length_append, hl]
  unfold takeC
  rw [if_neg (by simp; omega)]
  have e : t.extract a.length (a.length + s.size) = s := by
    apply ByteArray.ext
    rw [ByteArray.data_extract, ht]
    apply Array.toList_inj.1
    rw [Array.toList_extract, List.extract_eq_take_drop]
    simp only [List.append_assoc]
    rw [List.drop_left, show a.length + s.size - a.length = s.data.toList.length from by omega, List.take_left]
  rw [e]
theorem shortB_list (s : ByteArray) : (shortB s).data.toList = Wd.varF 5 s.size ++ s.data.toList := by
  unfold shortB
  rw [ByteArray.data_append, Array.toList_append]
theorem shortB_len (s : ByteArray) : (shortB s).size = (Wd.varF 5 s.size).length + s.size := by
  unfold shortB
  rw [ByteArray.size_append, size_of_list]
theorem shortC_at {t : ByteArray} (a b : List UInt8) (s : ByteArray) (hs : s.size ≤ 1000000000) (ht : t = ⟨(a ++ (shortB s).data.toList ++ b).toArray⟩) : shortC t a.length false = (s, a.length + (shortB s).size, false) := by
  rw [shortB_list] at ht
  unfold shortC
  rw [varC_at a (s.data.toList ++ b) s.size hs (by rw [ht]; simp only [List.append_assoc])]
  have h := takeC_at (t := t) (a ++ Wd.varF 5 s.size) b s (by rw [ht]; simp only [List.append_assoc])
  rw [List.length_append] at h
  simp only
  rw [h, shortB_len, Nat.add_assoc]
def shI (t : ByteArray) (i : Nat) : Option (ByteArray × Nat) :=
  match Wd.rv t i with
  | none => none
  | some (n, p) => if n ≤ 20000 ∧ p + n ≤ t.size then some (t.extract p (p + n), p + n) else none
theorem shI_yes {t : ByteArray} {i n p : Nat} (h : Wd.rv t i = some (n, p)) (h1 : n ≤ 20000) (h2 : p + n ≤ t.size) : shI t i = some (t.extract p (p + n), p + n) := by
  unfold shI; rw [h]; simp only; rw [if_pos ⟨h1, h2⟩]
theorem rv_at {t : ByteArray} (a b : List UInt8) (n : Nat) (hn : n ≤ 1000000000) (ht : t = ⟨(a ++ Wd.varF 5 n ++ b).toArray⟩) : Wd.rv t a.length = some (n, a.length + (Wd.varF 5 n).length) := by
  have h := rvI_at a b n hn (a.length : Int) rfl
  have hs : (⟨(a ++ Wd.varF 5 n ++ b).toArray⟩ : ByteArray).size = a.length + (Wd.varF 5 n).length + b.length := by
    show (a ++ Wd.varF 5 n ++ b).length = _
    rw [List.length_append, List.length_append]
  unfold Wd.rvI at h
  rw [if_neg (by rw [hs]; omega), Int.toNat_natCast, ← ht] at h
  exact h
theorem cut_list {t : ByteArray} (a b : List UInt8) (s : ByteArray) (ht : t = ⟨(a ++ s.data.toList ++ b).toArray⟩) : t.extract a.length (a.length + s.size) = s ∧ a.length + s.size ≤ t.size := by
  have hl : s.data.toList.length = s.size := rfl
  have hs : t.size = a.length + s.size + b.length := by
    rw [ht]
    show (a ++ s.data.toList ++ b).length = _
    rw [List.length_append, List.length_append, hl]
  have h := takeC_at a b s ht
  unfold takeC at h
  rw [if_neg (by simp; omega)] at h
  exact ⟨(Prod.mk.inj h).1, by omega⟩
theorem shI_at {t : ByteArray} (a b : List UInt8) (s : ByteArray) (hs : s.size ≤ 20000) (ht : t = ⟨(a ++ (shortB s).data.toList ++ b).toArray⟩) : shI t a.length = some (s, a.length + (shortB s).size) := by
  rw [shortB_list] at ht
  have h1 := rv_at (t := t) a (s.data.toList ++ b) s.size (by omega) (by rw [ht]; simp only [List.append_assoc])
  obtain ⟨h2, h3⟩ := cut_list (t := t) (a ++ Wd.varF 5 s.size) b s (by rw [ht]; simp only [List.append_assoc])
  rw [List.length_append] at h2 h3
  rw [shI_yes h1 hs h3, h2, shortB_len, Nat.add_assoc]
def textsL : List ByteArray → List UInt8
  | [] => []
  | s :: r => (shortB s).data.toList ++ textsL r
theorem textsL_snoc : ∀ (a : List ByteArray) (s : ByteArray), textsL (a ++ [s]) = textsL a ++ (shortB s).data.toList
  | [], s => by simp [textsL]
  | A :: r, s => by simp [textsL, textsL_snoc r s]
theorem textsL_take {L : List ByteArray} {k : Nat} (h : k < L.length) : textsL (L.take (k + 1)) = textsL (L.take k) ++ (shortB L[k]).data.toList := by
  rw [List.take_succ_eq_append_getElem h, textsL_snoc]
theorem textsL_len : ∀ (L : List ByteArray), (∀ s ∈ L, s.size ≤ 60) → (textsL L).length ≤ 65 * L.length
  | [], _ => by simp [textsL]
  | s :: r, h => by
    have h1 := h s (List.mem_cons_self ..)
    have h2 := textsL_len r (fun x hx => h x (List.mem_cons_of_mem _ hx))
    have h3 := shortB_size s
    have e : (shortB s).data.toList.length = (shortB s).size := rfl
    rw [textsL, List.length_append, e, List.length_cons]
    omega
def headV (v : ValD) : ByteArray := ⟨#[UInt8.ofNat v.kind.toNat]⟩ ++ ⟨(Wd.varF 5 v.til.toNat).toArray⟩ ++ shortB v.text ++ ⟨(Wd.varF 5 v.items.length).toArray⟩
def valT (v : ValD) : ByteArray := ⟨((headV v).data.toList ++ textsL v.items).toArray⟩
theorem headV_size (v : ValD) : (headV v).size ≤ v.text.size + 16 := by
  have h1 := Wd.varF_length 5 v.til.toNat
  have h2 := Wd.varF_length 5 v.items.length
  have h3 := shortB_size v.text
  have e : (⟨#[UInt8.ofNat v.kind.toNat]⟩ : ByteArray).size = 1 := rfl
  rw [headV, ByteArray.size_append, ByteArray.size_append, ByteArray.size_append, e, size_of_list (Wd.varF 5 v.til.toNat), size_of_list (Wd.varF 5 v.items.length)]
  omega
theorem kindR_one {v : ValD} (h : KindR v) : 1 ≤ v.kind ∧ v.kind ≤ 4 := by
  rcases h with h | h | h | h
  all_goals (have := h.1; omega)
theorem valR_bounds {v : ValD} (h : ValR v) : 1 ≤ v.kind ∧ v.kind ≤ 4 ∧ 0 ≤ v.til ∧ v.til ≤ 100000 ∧ v.text.size ≤ 60 ∧ v.items.length ≤ 24 ∧ ∀ s ∈ v.items, s.size ≤ 60 := by
  obtain ⟨h1, h2, h3⟩ := h
  have h4 := kindR_one h3
  refine ⟨h4.1, h4.2, h1, h2, ?_⟩
  rcases h3 with h | h | h | h
  · refine ⟨h.2.2, by omega, fun s hs => ?_⟩
    rw [List.eq_nil_of_length_eq_zero h.2.1] at hs
    exact absurd hs List.not_mem_nil
  · exact ⟨by omega, h.2.2.2.1, h.2.2.2.2⟩
  · exact ⟨by omega, h.2.2.1.2.1, h.2.2.1.2.2⟩
  · exact ⟨by omega, h.2.2.1.2.1, h.2.2.1.2.2⟩
theorem kind_byte {k : Int} (h0 : 1 ≤ k) (h1 : k ≤ 4) : bv (UInt8.ofNat k.toNat) = .int .u8 k := by
  unfold bv
  congr 1
  simp only [UInt8.toNat_ofNat']
  omega
def itsC (t : ByteArray) : Nat → Nat → Bool → List ByteArray → List ByteArray × Bool
  | 0, _, bad, acc => (acc, bad)
  | _ + 1, _, true, acc => (acc, true)
  | f + 1, i, false, acc => itsC t f (shortC t i false).2.1 (shortC t i false).2.2 (acc ++ [(shortC t i false).1])
def rvRaw (t : ByteArray) : ValD × Bool :=
  let b := varC t 1 false
  let c := shortC t b.2.1 b.2.2
  let d := varC t c.2.1 c.2.2
  let r := itsC t (min d.1 100) d.2.1 d.2.2 []
  (⟨(Wd.bt t 0 : Nat), (b.1 : Nat), c.1, r.1⟩, r.2)
def itI (t : ByteArray) : Nat → Nat → List ByteArray → Option (List ByteArray × Nat)
  | 0, i, acc => some (acc, i)
  | n + 1, i, acc =>
    match shI t i with
    | none => none
    | some (s, p) => itI t n p (acc ++ [s])
def itsI (t : ByteArray) (i : Nat) : Option (List ByteArray × Nat) :=
  match Wd.rv t i with
  | none => none
  | some (n, p) => if n ≤ 24 then itI t n p [] else none
def looI (t : ByteArray) : Option ValD :=
  if 0 < t.size then
    (match Wd.rv t 1 with
    | none => none
    | some (u, p) =>
      match shI t p with
      | none => none
      | some (s, p2) =>
        match itsI t p2 with
        | none => none
        | some (ts, e) => if e = t.size then some ⟨(Wd.bt t 0 : Nat), (u : Nat), s, ts⟩ else none)
  else none
theorem headV_list (v : ValD) : (headV v).data.toList = [UInt8.ofNat v.kind.toNat] ++ Wd.varF 5 v.til.toNat ++ (shortB v.text).data.toList ++ Wd.varF 5 v.items.length := by
  unfold headV
  rw [ByteArray.data_append, ByteArray.data_append, ByteArray.data_append, Array.toList_append, Array.toList_append, Array.toList_append]
theorem itI_at {t : ByteArray} : ∀ (fs : List ByteArray) (a b : List UInt8) (acc : List ByteArray), (∀ s ∈ fs, s.size ≤ 20000) → t = ⟨(a ++ textsL fs ++ b).toArray⟩ → itI t fs.length a.length acc = some (acc ++ fs, a.length + (textsL fs).length)
  | [], a, b, acc, _, _ => by simp [itI, textsL]
  | A :: r, a, b, acc, hs, ht => by
    have hA := hs A (List.mem_cons_self ..)
    have h1 := shI_at (t := t) a (textsL r ++ b) A hA (by rw [ht]; simp only [textsL, List.append_assoc])
    have h2 := itI_at (t := t) r (a ++ (shortB A).data.toList) b (acc ++ [A]) (fun B hB => hs B (List.mem_cons_of_mem _ hB)) (by rw [ht]; simp only [textsL, List.append_assoc])
    have e1 : (shortB A).data.toList.length = (shortB A).size := rfl
    rw [List.length_append, e1] at h2
    rw [List.length_cons]
    simp only [itI, h1]
    rw [h2]
    simp [textsL, e1, Nat.add_assoc]
theorem itsC_at {t : ByteArray} : ∀ (fs : List ByteArray) (a b : List UInt8) (acc : List ByteArray), (∀ s ∈ fs, s.size ≤ 20000) → t = ⟨(a ++ textsL fs ++ b).toArray⟩ → itsC t fs.length a.length false acc = (acc ++ fs, false)
  | [], a, b, acc, _, _ => by simp [itsC]
  | A :: r, a, b, acc, hs, ht => by
    have hA := hs A (List.mem_cons_self ..)
    have h1 := shortC_at (t := t) a (textsL r ++ b) A (by omega) (by rw [ht]; simp only [textsL, List.append_assoc])
    have h2 := itsC_at (t := t) r (a ++ (shortB A).data.toList) b (acc ++ [A]) (fun B hB => hs B (List.mem_cons_of_mem _ hB)) (by rw [ht]; simp only [textsL, List.append_assoc])
    have e1 : (shortB A).data.toList.length = (shortB A).size := rfl
    rw [List.length_append, e1] at h2
    rw [List.length_cons]
    simp only [itsC, h1]
    rw [h2]
    simp
theorem valT_read {v : ValD} (h : ValR v) : looI (valT v) = some v ∧ rvRaw (valT v) = (v, false) ∧ 0 < (valT v).size := by
  obtain ⟨g0, g1, g2, g3, g4, g5, g6⟩ := valR_bounds h
  obtain ⟨kd, u, tx, ts⟩ := v
  simp only at g0 g1 g2 g3 g4 g5 g6
  obtain ⟨m, rfl⟩ := Int.eq_ofNat_of_zero_le g2
  obtain ⟨q, rfl⟩ := Int.eq_ofNat_of_zero_le (show 0 ≤ kd by omega)
  obtain ⟨t, ht0⟩ : ∃ t, t = valT ⟨(q : Int), (m : Int), tx, ts⟩ := ⟨_, rfl⟩
  rw [← ht0]
  have ht := ht0
  unfold valT at ht
  rw [headV_list] at ht
  simp only [Int.toNat_natCast] at ht
  have k1 : Wd.bt t 0 = q := by
    rw [ht]
    rw [bt_here _ 0 (UInt8.ofNat q) rfl]
    simp only [UInt8.toNat_ofNat']
    omega
  have hpos : 0 < t.size := by rw [ht]; show 0 < ([UInt8.ofNat q] ++ Wd.varF 5 m ++ (shortB tx).data.toList ++ Wd.varF 5 ts.length ++ textsL ts).length; simp
  have hend : t.size = ([UInt8.ofNat q] ++ Wd.varF 5 m ++ (shortB tx).data.toList ++ Wd.varF 5 ts.length).length + (textsL ts).length := by
    rw [ht, ← List.length_append]; rfl
  have a2 := rv_at (t := t) [UInt8.ofNat q] ((shortB tx).data.toList ++ Wd.varF 5 ts.length ++ textsL ts) m (by omega) (by rw [ht]; simp only [List.append_assoc])
  have a3 := shI_at (t := t) ([UInt8.ofNat q] ++ Wd.varF 5 m) (Wd.varF 5 ts.length ++ textsL ts) tx (by omega) (by rw [ht]; simp only [List.append_assoc])
  have a4 := rv_at (t := t) ([UInt8.ofNat q] ++ Wd.varF 5 m ++ (shortB tx).data.toList) (textsL ts) ts.length (by omega) (by rw [ht])
  have a5 := itI_at (t := t) ts ([UInt8.ofNat q] ++ Wd.varF 5 m ++ (shortB tx).data.toList ++ Wd.varF 5 ts.length) [] [] (fun s hs => by have := g6 s hs; omega) (by rw [ht, List.append_nil])
  have b2 := varC_at (t := t) [UInt8.ofNat q] ((shortB tx).data.toList ++ Wd.varF 5 ts.length ++ textsL ts) m (by omega) (by rw [ht]; simp only [List.append_assoc])
  have b3 := shortC_at (t := t) ([UInt8.ofNat q] ++ Wd.varF 5 m) (Wd.varF 5 ts.length ++ textsL ts) tx (by omega) (by rw [ht]; simp only [List.append_assoc])
  have b4 := varC_at (t := t) ([UInt8.ofNat q] ++ Wd.varF 5 m ++ (shortB tx).data.toList) (textsL ts) ts.length (by omega) (by rw [ht])
  have b5 := itsC_at (t := t) ts ([UInt8.ofNat q] ++ Wd.varF 5 m ++ (shortB tx).data.toList ++ Wd.varF 5 ts.length) [] [] (fun s hs => by have := g6 s hs; omega) (by rw [ht, List.append_nil])
  rw [← hend] at a5
  have e1 : (shortB tx).data.toList.length = (shortB tx).size := rfl
  simp only [List.length_append, List.length_cons, List.length_nil, Nat.zero_add, List.nil_append, e1] at a2 a3 a4 a5 b2 b3 b4 b5
  refine ⟨?_, ?_, hpos⟩
  · unfold looI itsI
    rw [if_pos hpos, a2]
    simp only
    rw [a3]
    simp only
    rw [a4]
    simp only
    rw [if_pos g5, a5]
    simp only [k1, if_true]
  · unfold rvRaw
    simp only [b2, b3, b4]
    rw [Nat.min_eq_left (by omega), b5, k1]
end Go.Proofs.Ytfgammkmkhfbpaa
