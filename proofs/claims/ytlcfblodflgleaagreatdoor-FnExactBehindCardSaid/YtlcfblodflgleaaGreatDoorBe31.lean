import Derived.Laws.MakeOwn
import Derived.Lib.SmallJoins
import Derived.OpenShut
import Derived.Test.YtlcfblodflgleaaGreatDoorBe6
import Derived.Test.YtlcfblodflgleaaGreatDoorBe30
set_option maxRecDepth 100000
set_option maxHeartbeats 1600000
namespace Go.Proofs.YtlcfblodflgleaaGreatDoor
open Go.RowKit
theorem szA_le (A : ActD) (n : Int) (h : 0 ≤ n) : szA A n ≤ n := by
  unfold szA
  repeat' split
  all_goals omega
def szAs : List ActD → Int → Int
  | [], n => n
  | A :: r, n => if szA A n < 0 then -1 else szAs r (szA A n)
theorem szAs_small : ∀ (fs : List ActD) (n : Int), n ≤ 1048576 → 0 ≤ n → 0 ≤ szAs fs n → ∀ A ∈ fs, A.name.size ≤ 1048576 ∧ A.text.size ≤ 1048576 ∧ A.toN.size ≤ 1048576
  | [], _, _, _, _, _, h => absurd h List.not_mem_nil
  | F :: r, n, h0, h1, h2, A, hA => by
    unfold szAs at h2
    split at h2
    · omega
    · rcases List.mem_cons.1 hA with rfl | hA
      · exact szA_small h0 (by omega)
      · have := szA_le F n h1
        exact szAs_small r _ (by omega) (by omega) h2 A hA
theorem szActS_any (fs : List ActD) (ao : Option Addr) (cap : Nat) (n : Int) (w : World) (h0 : 0 ≤ n) (h1 : n ≤ 1048576) (hl : fs.length ≤ maxLen) (hfs : ActsAt w ao fs) (hsz : ∀ A ∈ fs, A.name.size ≤ maxLen ∧ A.text.size ≤ maxLen ∧ A.toN.size ≤ maxLen) :
    Calls Tryz.prog 15 #[.slice ao fs.length cap, .int .i64 n] w fun e w' => e = .returned (.int .i64 (if n < fs.length then -1 else szAs fs (n - fs.length))) ∧ Below w.heap.size w w' := by
  have HF := hide hfs
  have HS := hide hsz
  clear hfs hsz
  unfold maxLen at hl
  by_cases hn : n < fs.length
  · have hn' : decide (n - (fs.length : Int) < 0) = true := by simp; omega
    rw [if_pos hn]
    go_enter Tryz.func15, Tryz.ntmps15
    go_wp2
    go_ret
    exact ⟨rfl, Below.refl _ _⟩
  · have hn' : decide (n - (fs.length : Int) < 0) = false := by simp; omega
    rw [if_neg hn]
    obtain ⟨R, HR⟩ : ∃ R, Hid (szAs fs (n - fs.length) = R) := ⟨_, rfl⟩
    rw [HR.out]
    go_enter Tryz.func15, Tryz.ntmps15
    go_wp2
    go_loopw [1, 5] (fun m ii wr => ∃ (k : Nat) (x : Int), ii = .int .i64 k ∧ m = .int .i64 x ∧ k ≤ fs.length ∧ 0 ≤ x ∧ x ≤ 1048576 ∧ Hid (szAs (fs.drop k) x = R) ∧ Hid (Below w.heap.size w wr)) (fun _ ii _ => fs.length - (intOf ii).toNat)
    case atStart => exact ⟨0, n - fs.length, rfl, rfl, Nat.zero_le _, by omega, by omega, HR.out, Below.refl _ _⟩
    case round =>
      obtain ⟨k, x, rfl, rfl, hk, hx0, hx1, HX, HB⟩ := hrel
      by_cases hlt : k < fs.length
      · have hlt' : decide ((k : Int) < (fs.length : Int)) = true := by simp; omega
        obtain ⟨b, off, rfl, hbw, hc0, hc1, hc2, hc3⟩ := actsAt_keep HF.out HB.out k hlt
        have hsA := HS.out fs[k] (List.getElem_mem hlt)
        have HD : Hid (szAs (fs.drop k) x = if szA fs[k] x < 0 then -1 else szAs (fs.drop (k + 1)) (szA fs[k] x)) := by show _ = _; rw [List.drop_eq_getElem_cons hlt]; rfl
        have hle := szA_le fs[k] x hx0
        generalize fs[k] = F at hc0 hc1 hc2 hc3 hsA HD hle
        have hi0 : (0 : Int) ≤ (k : Int) := by omega
        have hi1 : (k : Int) < (fs.length : Int) := by omega
        go_wp2_with fail
        refine (szAct_any F x _ hx0 hx1 hsA.1 hsA.2.1 hsA.2.2).mono ?_
        rintro e w1 ⟨rfl, b1⟩
        have HB1 := hide (HB.out.trans (b1.mono HB.out.size))
        clear b1 hc0 hc1 hc2 hc3
        generalize szA F x = y at HD hle
        by_cases hneg : y < 0
        · have hneg' : decide (y < 0) = true := by simp; omega
          have hR : Hid (R = -1) := by show _ = _; rw [← HX.out, HD.out, if_pos hneg]
          go_wp2
          go_ret
          rw [hR.out]
          exact ⟨rfl, HB1.out⟩
        · have hneg' : decide (y < 0) = false := by simp; omega
          have hR : Hid (szAs (fs.drop (k + 1)) y = R) := by show _ = _; rw [← HX.out, HD.out, if_neg hneg]
          go_wp2
          go_roundw
          case rel => exact ⟨k + 1, y, by go_num, rfl, by omega, by omega, by omega, hR, HB1⟩
          case measure => simp [intOf]; omega
      · have hlt' : decide ((k : Int) < (fs.length : Int)) = false := by simp; omega
        have hR : Hid (x = R) := by show _ = _; rw [← HX.out, List.drop_eq_nil_of_le (by omega)]; rfl
        go_wp2
        go_ret
        rw [← hR.out]
        exact ⟨rfl, HB.out⟩
theorem eqAct_same (A : ActD) (w : World) :
    Calls Tryz.prog 34 #[.agg #[.int .i64 A.kind, .string A.name, .string A.text, .string A.toN], .agg #[.int .i64 A.kind, .string A.name, .string A.text, .string A.toN]] w fun e w' => e = .returned (.bool true) ∧ Below w.heap.size w w' := by
  obtain ⟨a0, a1, a2, a3⟩ := A
  have h0 : (a0 == a0) = true := beq_self_eq_true _
  have h1 : (a1.toList == a1.toList) = true := beq_self_eq_true _
  have h2 : (a2.toList == a2.toList) = true := beq_self_eq_true _
  have h3 : (a3.toList == a3.toList) = true := beq_self_eq_true _
  go_enter Tryz.func34, Tryz.ntmps34
  go_wp2
  go_ret
  exact ⟨rfl, ((Below.refl _ w).alloc (Nat.le_refl _) _).alloc (by simp) _⟩
def ActsIn (C : Array Value) (fs : List ActD) (k : Nat) : Prop := ∀ j (h : j < fs.length), j < k → C[j * 4]? = some (.int .i64 fs[j].kind) ∧ C[j * 4 + 1]? = some (.string fs[j].name) ∧ C[j * 4 + 2]? = some (.string fs[j].text) ∧ C[j * 4 + 3]? = some (.string fs[j].toN)
theorem Tryz.infoAct : (Tryz.prog.info? 61).map (fun i => (i.zero, i.size, i.bytes)) = some (some (.agg #[.int .i64 0, .string ⟨#[]⟩, .string ⟨#[]⟩, .string ⟨#[]⟩]), 4, 56) := by kernel_rfl
def putAct (C : Array Value) (k : Nat) (A : ActD) : Array Value := (((C.setIfInBounds (k * 4) (.int .i64 A.kind)).setIfInBounds (k * 4 + 1) (.string A.name)).setIfInBounds (k * 4 + 2) (.string A.text)).setIfInBounds (k * 4 + 3) (.string A.toN)
theorem putAct_size (C : Array Value) (k : Nat) (A : ActD) : (putAct C k A).size = C.size := by simp [putAct]
theorem actsIn_put {C : Array Value} {fs : List ActD} {k : Nat} (h : ActsIn C fs k) (hk : k < fs.length) (hs : fs.length * 4 ≤ C.size) : ActsIn (putAct C k fs[k]) fs (k + 1) := by
  intro j hj hjk
  unfold putAct
  by_cases e : j = k
  · subst e
    refine ⟨?_, ?_, ?_, ?_⟩ <;> simp [Array.getElem?_setIfInBounds] <;> omega
  · obtain ⟨h0, h1, h2, h3⟩ := h j hj (by omega)
    refine ⟨?_, ?_, ?_, ?_⟩
    · rw [Array.getElem?_setIfInBounds_ne (by omega), Array.getElem?_setIfInBounds_ne (by omega), Array.getElem?_setIfInBounds_ne (by omega), Array.getElem?_setIfInBounds_ne (by omega)]; exact h0
    · rw [Array.getElem?_setIfInBounds_ne (by omega), Array.getElem?_setIfInBounds_ne (by omega), Array.getElem?_setIfInBounds_ne (by omega), Array.getElem?_setIfInBounds_ne (by omega)]; exact h1
    · rw [Array.getElem?_setIfInBounds_ne (by omega), Array.getElem?_setIfInBounds_ne (by omega), Array.getElem?_setIfInBounds_ne (by omega), Array.getElem?_setIfInBounds_ne (by omega)]; exact h2
    · rw [Array.getElem?_setIfInBounds_ne (by omega), Array.getElem?_setIfInBounds_ne (by omega), Array.getElem?_setIfInBounds_ne (by omega), Array.getElem?_setIfInBounds_ne (by omega)]; exact h3
theorem act_stored {w : World} {g k : Nat} {C : Array Value} {t : TypeId} (A : ActD) (h : w.heap[g]? = some (.cells C t (0, 0))) :
    ((((w.setCell ⟨g, k * 4, none⟩ (.int .i64 A.kind)).setCell ⟨g, k * 4 + 1, none⟩ (.string A.name)).setCell ⟨g, k * 4 + 2, none⟩ (.string A.text)).setCell ⟨g, k * 4 + 3, none⟩ (.string A.toN)).heap[g]? = some (.cells (putAct C k A) t (0, 0)) := heap_setCell_same _ g _ _ t _ (heap_setCell_same _ g _ _ t _ (heap_setCell_same _ g _ _ t _ (heap_setCell_same w g _ C t _ h)))
theorem actsAt_own {w : World} {g : Nat} {C : Array Value} {t : TypeId} {fs : List ActD} (h : w.heap[g]? = some (.cells C t (0, 0))) (hC : ActsIn C fs fs.length) : ActsAt w (some ⟨g, 0, none⟩) fs := by
  intro j hj
  obtain ⟨h0, h1, h2, h3⟩ := hC j hj hj
  have hg : g < w.heap.size := (Array.getElem?_eq_some_iff.1 h).1
  refine ⟨g, 0, rfl, hg, ?_, ?_, ?_, ?_⟩
  · rw [Nat.zero_add, cell_of_row w g _ C t (0, 0) h, h0]
  · rw [Nat.zero_add, cell_of_row w g _ C t (0, 0) h, h1]
  · rw [Nat.zero_add, cell_of_row w g _ C t (0, 0) h, h2]
  · rw [Nat.zero_add, cell_of_row w g _ C t (0, 0) h, h3]
theorem toActS_any (fs : List ActD) (ao : Option Addr) (cap : Nat) (w : World) (hl : fs.length ≤ 1048576) (hfs : ActsAt w ao fs) :
    Calls Tryz.prog 17 #[.slice ao fs.length cap] w fun e w' => (∃ C : Array Value, e = .returned (.slice (some ⟨w.heap.size, 0, none⟩) fs.length fs.length) ∧ w'.heap[w.heap.size]? = some (.cells C 61 (0, 0)) ∧ C.size = fs.length * 4 ∧ ActsIn C fs fs.length) ∧ Below w.heap.size w w' := by
  have HF := hide hfs
  clear hfs
  obtain ⟨i0, hi, hz0, hz1, hz2⟩ := info_parts Tryz.infoAct
  obtain ⟨M, hM⟩ : ∃ M, M = madeCells (Value.agg #[.int .i64 0, .string ⟨#[]⟩, .string ⟨#[]⟩, .string ⟨#[]⟩]).cells (((fs.length : Nat) : Int).toNat * i0.size) := ⟨_, rfl⟩
  have hmk : ∀ W : World, (Instr.makeSlice 35 (.int .i64 (fs.length : Int)) (.int .i64 (fs.length : Int))).run Tryz.prog W = .ok (.slice (some ⟨W.heap.size, 0, none⟩) fs.length fs.length) (W.alloc (.cells M 61)) := fun W => by
    have h := run_make (P := Tryz.prog) W 35 61 i0 (.agg #[.int .i64 0, .string ⟨#[]⟩, .string ⟨#[]⟩, .string ⟨#[]⟩]) Tryz.underlying35 hi hz0 .i64 .i64 (fs.length : Int) (fs.length : Int) (by omega) (by omega) (by rw [hz2]; omega) (by omega)
    rw [← hM] at h
    simpa using h
  have hMs : M.size = fs.length * 4 := by rw [hM, size_madeCells, hz1]; simp
  clear hM
  go_enter Tryz.func17, Tryz.ntmps17
  go_wp2
  go_loopw [4] (fun ii wr => ∃ (k : Nat) (C : Array Value), ii = .int .i64 k ∧ k ≤ fs.length ∧ Hid (wr.heap[w.heap.size]? = some (.cells C 61 (0, 0))) ∧ C.size = fs.length * 4 ∧ Hid (ActsIn C fs k) ∧ Hid (Below w.heap.size w wr)) (fun ii _ => fs.length - (intOf ii).toNat)
  case atStart => exact ⟨0, M, rfl, Nat.zero_le _, heap_alloc_new w _, hMs, fun j _ hj => absurd hj (by omega), (Below.refl _ w).alloc (Nat.le_refl _) _⟩
  case round =>
    obtain ⟨k, C, rfl, hk, HC, hCs, HI, HB⟩ := hrel
    by_cases hlt : k < fs.length
    · have hlt' : decide ((k : Int) < (fs.length : Int)) = true := by simp; omega
      obtain ⟨b, off, rfl, hbw, hc0, hc1, hc2, hc3⟩ := actsAt_keep HF.out HB.out k hlt
      obtain ⟨F, HFk⟩ : ∃ F, Hid (fs[k] = F) := ⟨fs[k], hide rfl⟩
      rw [HFk.out] at hc0 hc1 hc2 hc3
      have hi0 : (0 : Int) ≤ (k : Int) := by omega
      have hi1 : (k : Int) < (fs.length : Int) := by omega
      go_wp2_with fail
      refine (toAct_any F _).mono ?_
      rintro e w1 ⟨rfl, b1⟩
      have HB1 := hide (HB.out.trans (b1.mono HB.out.size))
      have hlt1 : w.heap.size < wr.heap.size := by
        rcases Nat.lt_or_ge w.heap.size wr.heap.size with h | h
        · exact h
        · have := HC.out; rw [Array.getElem?_eq_none h] at this; cases this
      have hC1 : w1.heap[w.heap.size]? = some (.cells C 61 (0, 0)) := (b1.block _ hlt1).trans HC.out
      clear b1 hc0 hc1 hc2 hc3
      have hq0 := cell_of_row w1 w.heap.size (k * 4) C 61 (0, 0) hC1
      have hq1 := cell_of_row w1 w.heap.size (k * 4 + 1) C 61 (0, 0) hC1
      have hq2 := cell_of_row w1 w.heap.size (k * 4 + 2) C 61 (0, 0) hC1
      have hq3 := cell_of_row w1 w.heap.size (k * 4 + 3) C 61 (0, 0) hC1
      have hf0 := frozen_of_row w1 w.heap.size (k * 4) C 61 hC1
      have hf1 := frozen_of_row w1 w.heap.size (k * 4 + 1) C 61 hC1
      have hf2 := frozen_of_row w1 w.heap.size (k * 4 + 2) C 61 hC1
      have hf3 := frozen_of_row w1 w.heap.size (k * 4 + 3) C 61 hC1
      rw [Array.getElem?_eq_getElem (by omega)] at hq0 hq1 hq2 hq3
      have HC1 := hide hC1
      clear hC1
      have HN : Hid (ActsIn (putAct C k F) fs (k + 1)) := by have := actsIn_put HI.out hlt (by omega); rw [HFk.out] at this; exact this
      have HC2 := hide (act_stored (k := k) F HC1.out)
      have HB2 := hide ((((HB1.out.setCell (p := ⟨w.heap.size, k * 4, none⟩) (Nat.le_refl _) (.int .i64 F.kind)).setCell (p := ⟨w.heap.size, k * 4 + 1, none⟩) (Nat.le_refl _) (.string F.name)).setCell (p := ⟨w.heap.size, k * 4 + 2, none⟩) (Nat.le_refl _) (.string F.text)).setCell (p := ⟨w.heap.size, k * 4 + 3, none⟩) (Nat.le_refl _) (.string F.toN))
      go_wp2_with fail
      go_roundw
      case rel => exact ⟨k + 1, putAct C k F, by go_num, by omega, HC2, by rw [putAct_size]; exact hCs, HN, HB2⟩
      case measure => simp [intOf]; omega
    · have hlt' : decide ((k : Int) < (fs.length : Int)) = false := by simp; omega
      have hke : k = fs.length := by omega
      subst hke
      go_wp2
      go_ret
      exact ⟨⟨C, rfl, HC.out, hCs, HI.out⟩, HB.out⟩
theorem eqActS_same (fs : List ActD) (ao ao2 : Option Addr) (cap cap2 : Nat) (w : World) (hl : fs.length ≤ maxLen) (h1 : ActsAt w ao fs) (h2 : ActsAt w ao2 fs) :
    Calls Tryz.prog 10 #[.slice ao fs.length cap, .slice ao2 fs.length cap2] w fun e w' => e = .returned (.bool true) ∧ Below w.heap.size w w' := by
  have H1 := hide h1
  have H2 := hide h2
  clear h1 h2
  unfold maxLen at hl
  have hne : (!((fs.length : Int) == (fs.length : Int))) = false := by simp
  go_enter Tryz.func10, Tryz.ntmps10
  go_wp2
  go_loopw [5] (fun ii wr => ∃ (k : Nat), ii = .int .i64 k ∧ k ≤ fs.length ∧ Hid (Below w.heap.size w wr)) (fun ii _ => fs.length - (intOf ii).toNat)
  case atStart => exact ⟨0, rfl, Nat.zero_le _, Below.refl _ _⟩
  case round =>
    obtain ⟨k, rfl, hk, HB⟩ := hrel
    by_cases hlt : k < fs.length
    · have hlt' : decide ((k : Int) < (fs.length : Int)) = true := by simp; omega
      obtain ⟨b, off, rfl, hbw, hc0, hc1, hc2, hc3⟩ := actsAt_keep H1.out HB.out k hlt
      obtain ⟨b', off', rfl, hbw', hd0, hd1, hd2, hd3⟩ := actsAt_keep H2.out HB.out k hlt
      generalize fs[k] = F at hc0 hc1 hc2 hc3 hd0 hd1 hd2 hd3
      have hi0 : (0 : Int) ≤ (k : Int) := by omega
      have hi1 : (k : Int) < (fs.length : Int) := by omega
      have HBw := hide hbw
      have HBw' := hide hbw'
      clear hbw hbw'
      go_wp2_with fail
      go_region_held3 (fun w' => w'.cell? ⟨b, off + k * 4, none⟩ = some (.int .i64 F.kind) ∧ w'.cell? ⟨b, off + k * 4 + 1, none⟩ = some (.string F.name) ∧ w'.cell? ⟨b, off + k * 4 + 2, none⟩ = some (.string F.text) ∧ w'.cell? ⟨b, off + k * 4 + 3, none⟩ = some (.string F.toN) ∧ w'.cell? ⟨b', off' + k * 4, none⟩ = some (.int .i64 F.kind) ∧ w'.cell? ⟨b', off' + k * 4 + 1, none⟩ = some (.string F.name) ∧ w'.cell? ⟨b', off' + k * 4 + 2, none⟩ = some (.string F.text) ∧ w'.cell? ⟨b', off' + k * 4 + 3, none⟩ = some (.string F.toN)) (first | go_keep | (exact ⟨(b1.cell (p := ⟨b, off + k * 4, none⟩) HBw.out).trans hc0, (b1.cell (p := ⟨b, off + k * 4 + 1, none⟩) HBw.out).trans hc1, (b1.cell (p := ⟨b, off + k * 4 + 2, none⟩) HBw.out).trans hc2, (b1.cell (p := ⟨b, off + k * 4 + 3, none⟩) HBw.out).trans hc3, (b1.cell (p := ⟨b', off' + k * 4, none⟩) HBw'.out).trans hd0, (b1.cell (p := ⟨b', off' + k * 4 + 1, none⟩) HBw'.out).trans hd1, (b1.cell (p := ⟨b', off' + k * 4 + 2, none⟩) HBw'.out).trans hd2, (b1.cell (p := ⟨b', off' + k * 4 + 3, none⟩) HBw'.out).trans hd3⟩)) ((go_at_call 34; refine (eqAct_same F _).mono ?_; rintro e w1 ⟨rfl, b1⟩))
      go_wp2
      go_roundw
      case rel => exact ⟨k + 1, by go_num, by omega, HB.out.trans (((Below.refl _ _).drew.trans b1).mono HB.out.size)⟩
      case measure => simp [intOf]; omega
    · have hlt' : decide ((k : Int) < (fs.length : Int)) = false := by simp; omega
      go_wp2
      go_ret
      exact ⟨rfl, HB.out⟩
def markActD (k : Nat) : ActD := ⟨((k : Nat) : Int), ⟨(mk (k + 1)).toArray⟩, ⟨(mk (k + 2)).toArray⟩, ⟨(mk (k + 3)).toArray⟩⟩
def markActDs (k n : Nat) : List ActD := (List.range n).map (fun j => markActD (k + 4 * j))
theorem markActDs_length (k n : Nat) : (markActDs k n).length = n := by simp [markActDs]
theorem markActDs_get (k n j : Nat) (h : j < (markActDs k n).length) : (markActDs k n)[j] = markActD (k + 4 * j) := by simp [markActDs]
theorem markAct_1 (K : Nat) (w : World) (h : K ≤ 20000000) : Calls Tryz.prog 37 #[.int .i64 ((K : Int) + 1)] w fun e w' => e = .returned (.string ⟨(mk (K + 1)).toArray⟩) ∧ Below w.heap.size w w' := by
  have h := mark_any (K + 1) w (by omega) (by omega)
  rw [show (((K + 1 : Nat)) : Int) = (K : Int) + 1 from by omega] at h
  exact h
theorem markAct_2 (K : Nat) (w : World) (h : K ≤ 20000000) : Calls Tryz.prog 37 #[.int .i64 ((K : Int) + 1 + 1)] w fun e w' => e = .returned (.string ⟨(mk (K + 2)).toArray⟩) ∧ Below w.heap.size w w' := by
  have h := mark_any (K + 2) w (by omega) (by omega)
  rw [show (((K + 2 : Nat)) : Int) = (K : Int) + 1 + 1 from by omega] at h
  exact h
theorem markAct_3 (K : Nat) (w : World) (h : K ≤ 20000000) : Calls Tryz.prog 37 #[.int .i64 ((K : Int) + 1 + 1 + 1)] w fun e w' => e = .returned (.string ⟨(mk (K + 3)).toArray⟩) ∧ Below w.heap.size w w' := by
  have h := mark_any (K + 3) w (by omega) (by omega)
  rw [show (((K + 3 : Nat)) : Int) = (K : Int) + 1 + 1 + 1 from by omega] at h
  exact h
theorem markActS_row (g cap n : Nat) (C0 : Array Value) (k : Nat) (w : World) (hn : n ≤ 1048576) (hk0 : 0 < k) (hk : k ≤ 10000000) (hC : w.heap[g]? = some (.cells C0 61 (0, 0))) (hs : n * 4 ≤ C0.size) :
    Calls Tryz.prog 12 #[.slice (some ⟨g, 0, none⟩) n cap, .int .i64 (k : Int)] w fun e w' => e = .returned (.int .i64 ((k + 4 * n : Nat) : Int)) ∧ (∃ C : Array Value, w'.heap[g]? = some (.cells C 61 (0, 0)) ∧ C.size = C0.size ∧ ActsIn C (markActDs k n) n) ∧ w.grownBy w' (some g) := by
  have HC0 := hide hC
  clear hC
  go_enter Tryz.func12, Tryz.ntmps12
  go_wp2
  go_loopw [1, 5] (fun kk ii wr => ∃ (j : Nat) (C : Array Value), kk = .int .i64 ((k + 4 * j : Nat) : Int) ∧ ii = .int .i64 j ∧ j ≤ n ∧ Hid (wr.heap[g]? = some (.cells C 61 (0, 0))) ∧ C.size = C0.size ∧ Hid (ActsIn C (markActDs k n) j) ∧ Hid (w.grownBy wr (some g))) (fun _ ii _ => n - (intOf ii).toNat)
  case atStart => exact ⟨0, C0, rfl, rfl, Nat.zero_le _, HC0, rfl, fun j _ hj => absurd hj (by omega), World.grownBy.refl _ _⟩
  case round =>
    obtain ⟨j, C, rfl, rfl, hj, HC, hCs, HI, HG⟩ := hrel
    by_cases hlt : j < n
    · have hlt' : decide ((j : Int) < (n : Int)) = true := by simp; omega
      have hi0 : (0 : Int) ≤ (j : Int) := by omega
      have hi1 : (j : Int) < (n : Int) := by omega
      have hgw : g < wr.heap.size := (Array.getElem?_eq_some_iff.1 HC.out).1
      obtain ⟨K, HK⟩ : ∃ K : Nat, Hid (K = k + 4 * j) := ⟨_, hide rfl⟩
      have hKb : 0 < K ∧ K ≤ 15000000 := by have := HK.out; omega
      rw [← HK.out]
      have hq0 := cell_of_row wr g (j * 4) _ _ (0, 0) HC.out
      have hf0 := frozen_of_row wr g (j * 4) _ _ HC.out
      rw [Array.getElem?_eq_getElem (by first | omega | (simp; omega))] at hq0
      go_wp2_with fail
      refine (markAct_1 K _ (by omega)).mono ?_
      rintro e w1 ⟨rfl, b1⟩
      have HC1 : Hid (w1.heap[g]? = some (.cells (C.setIfInBounds (j * 4) (.int .i64 ((K : Nat) : Int))) 61 (0, 0))) := (b1.block g (by simpa [World.setCell] using hgw)).trans (heap_setCell_same _ g _ _ _ _ HC.out)
      have hgw1 : g < w1.heap.size := (Array.getElem?_eq_some_iff.1 HC1.out).1
      have HG1 : Hid (w.grownBy w1 (some g)) := grownBy_trans (grownBy_store HG.out (j * 4) _) (grownBy_below _ b1)
      clear hq0 hf0
      have hq1 := cell_of_row w1 g (j * 4 + 1) _ _ (0, 0) HC1.out
      have hf1 := frozen_of_row w1 g (j * 4 + 1) _ _ HC1.out
      rw [Array.getElem?_eq_getElem (by first | omega | (simp; omega))] at hq1
      go_wp2_with fail
      refine (markAct_2 K _ (by omega)).mono ?_
      rintro e w2 ⟨rfl, b2⟩
      have HC2 : Hid (w2.heap[g]? = some (.cells ((C.setIfInBounds (j * 4) (.int .i64 ((K : Nat) : Int))).setIfInBounds (j * 4 + 1) (.string ⟨(mk (K + 1)).toArray⟩)) 61 (0, 0))) := (b2.block g (by have := b1.size; simp [World.setCell] at *; omega)).trans (heap_setCell_same _ g _ _ _ _ HC1.out)
      have hgw2 : g < w2.heap.size := (Array.getElem?_eq_some_iff.1 HC2.out).1
      have HG2 : Hid (w.grownBy w2 (some g)) := grownBy_trans (grownBy_store HG1.out (j * 4 + 1) _) (grownBy_below _ b2)
      clear hq1 hf1
      have hq2 := cell_of_row w2 g (j * 4 + 2) _ _ (0, 0) HC2.out
      have hf2 := frozen_of_row w2 g (j * 4 + 2) _ _ HC2.out
      rw [Array.getElem?_eq_getElem (by first | omega | (simp; omega))] at hq2
      go_wp2_with fail
      refine (markAct_3 K _ (by omega)).mono ?_
      rintro e w3 ⟨rfl, b3⟩
      have HC3 : Hid (w3.heap[g]? = some (.cells (((C.setIfInBounds (j * 4) (.int .i64 ((K : Nat) : Int))).setIfInBounds (j * 4 + 1) (.string ⟨(mk (K + 1)).toArray⟩)).setIfInBounds (j * 4 + 2) (.string ⟨(mk (K + 2)).toArray⟩)) 61 (0, 0))) := (b3.block g (by have := b2.size; simp [World.setCell] at *; omega)).trans (heap_setCell_same _ g _ _ _ _ HC2.out)
      have hgw3 : g < w3.heap.size := (Array.getElem?_eq_some_iff.1 HC3.out).1
      have HG3 : Hid (w.grownBy w3 (some g)) := grownBy_trans (grownBy_store HG2.out (j * 4 + 2) _) (grownBy_below _ b3)
      clear hq2 hf2
      have hq3 := cell_of_row w3 g (j * 4 + 3) _ _ (0, 0) HC3.out
      have hf3 := frozen_of_row w3 g (j * 4 + 3) _ _ HC3.out
      rw [Array.getElem?_eq_getElem (by first | omega | (simp; omega))] at hq3
      go_wp2_with fail
      go_roundw
      case rel =>
        have hl := markActDs_length k n
        have HP := actsIn_put HI.out (by omega) (by omega)
        rw [markActDs_get, ← HK.out] at HP
        refine ⟨j + 1, putAct C j (markActD K), ?_, by go_num, by omega, heap_setCell_same _ g _ _ _ _ HC3.out, by rw [putAct_size]; exact hCs, HP, grownBy_store HG3.out (j * 4 + 3) _⟩
        have := HK.out
        congr 1
        omega
      case measure => simp [intOf]; omega
    · have hlt' : decide ((j : Int) < (n : Int)) = false := by simp; omega
      have hje : j = n := by omega
      subst hje
      go_wp2
      go_ret
      exact ⟨rfl, ⟨C, HC.out, hCs, HI.out⟩, HG.out⟩
open Go.ChangeShapes Go.WideShapes Go.Deep Go.Joins in
theorem act_in {H : Type} {enc : TypeId × Value → H} {w : World} {fuel : Nat} {cs : List Value} {z : DataW H × List MemPlace} (h : DataW.trod enc Tryz.prog w 0 (fun _ => true) true fuel 80 cs = some z) :
    ∃ A : ActD, cs = [.int .i64 A.kind, .string A.name, .string A.text, .string A.toN] ∧ A.name.size ≤ maxLen ∧ A.text.size ≤ maxLen ∧ A.toN.size ≤ maxLen := by
  obtain ⟨y0, y1, y2, y3, n, hx, hl, h0, h1, h2, h3⟩ := trod_struct4 Tryz.underlying80 h
  have hc : Tryz.prog.cellsOf 80 = 4 := by kernel_rfl
  have ki : Tryz.prog.cellsOf 3 = 1 := by kernel_rfl
  have ks : Tryz.prog.cellsOf 9 = 1 := by kernel_rfl
  rw [hc] at hl
  match cs, hl with
  | [v0, v1, v2, v3], _ =>
    simp only [ki, ks] at h0 h1 h2 h3
    obtain ⟨s0, e0, _, _⟩ := DataW.trod_int Tryz.underlying3 h0
    obtain ⟨s1, e1, _, z1⟩ := DataW.trod_string Tryz.underlying9 h1
    obtain ⟨s2, e2, _, z2⟩ := DataW.trod_string Tryz.underlying9 h2
    obtain ⟨s3, e3, _, z3⟩ := DataW.trod_string Tryz.underlying9 h3
    simp at e0 e1 e2 e3
    subst e0 e1 e2 e3
    exact ⟨⟨s0, s1, s2, s3⟩, rfl, z1, z2, z3⟩
open Go.ChangeShapes Go.WideShapes Go.Deep Go.Joins in
theorem acts_of {H : Type} {enc : TypeId × Value → H} {w : World} {base : Nat} {v : Value} {d : DataW H} {p : List MemPlace} (hv : Value.okWide Tryz.prog w .any base 44 v)
    (h : DataW.Trod enc Tryz.prog w 0 (fun _ => true) true 44 v d p) :
    ∃ (ao : Option Addr) (fs : List ActD) (cap : Nat), v = .slice ao fs.length cap ∧ fs.length ≤ maxLen ∧ ActsAt w ao fs ∧ ∀ A ∈ fs, A.name.size ≤ maxLen ∧ A.text.size ≤ maxLen ∧ A.toN.size ≤ maxLen := by
  have hc : Tryz.prog.cellsOf 80 = 4 := by kernel_rfl
  obtain ⟨a0, l0, c0, rfl⟩ := okWide_slice Tryz.underlying44 hv
  obtain ⟨fuel, hf⟩ := h
  have h0' : DataW.trod enc Tryz.prog w 0 (fun _ => true) true fuel 44 [.slice a0 l0 c0] = some (d, p) := by simpa [Value.cells] using hf
  rcases open_slice Tryz.underlying44 h0' with ⟨e, _⟩ | ⟨a, len, cap, m, n', D, Pl, e, _, hle, hmx, hm, _, hel⟩
  · simp at e
    obtain ⟨rfl, rfl, rfl⟩ := e
    exact ⟨none, [], 0, rfl, by unfold maxLen; simp, fun j hj => absurd hj (by simp), fun F hF => absurd hF List.not_mem_nil⟩
  · simp at e
    obtain ⟨rfl, rfl, rfl⟩ := e
    rw [hc] at hel
    have hm' : l0 ≤ m := by rw [hm]; simpa using hle
    have hch : ∀ i, i < l0 → ∃ A : ActD, w.cells? 0 (a.add (i * 4)) 4 = some [.int .i64 A.kind, .string A.name, .string A.text, .string A.toN] ∧ A.name.size ≤ maxLen ∧ A.text.size ≤ maxLen ∧ A.toN.size ≤ maxLen := by
      intro i hi
      obtain ⟨cs', g1, g2⟩ := hel i (by omega)
      obtain ⟨A, rfl, z1, z2, z3⟩ := act_in g2
      exact ⟨A, g1, z1, z2, z3⟩
    haveI : Inhabited ActD := ⟨⟨0, ⟨#[]⟩, ⟨#[]⟩, ⟨#[]⟩⟩⟩
    obtain ⟨G, hG⟩ := choose_lt hch
    refine ⟨some a, (List.range l0).map G, c0, by simp, by simp; omega, ?_, ?_⟩
    · intro j hj
      have hj' : j < l0 := by simpa using hj
      have g1 := (hG j hj').1
      obtain ⟨_, _, hcell⟩ := World.cells?_some g1
      have q0 := hcell 0 (by omega)
      have q1 := hcell 1 (by omega)
      have q2 := hcell 2 (by omega)
      have q3 := hcell 3 (by omega)
      obtain ⟨b, off, spot⟩ := a
      have hspot : spot = none := by
        obtain ⟨_, _, hcell0⟩ := World.cells?_some (hG 0 (by omega)).1
        have q := hcell0 0 (by omega)
        simpa [Addr.add] using World.cell?_spot q
      subst hspot
      have ha : ∀ o i, ((⟨b, o, none⟩ : Addr).add i) = ⟨b, o + i, none⟩ := by intro o i; cases i <;> simp [Addr.add]
      simp only [ha] at q0 q1 q2 q3
      refine ⟨b, off, rfl, ?_, ?_, ?_, ?_, ?_⟩
      · rcases Nat.lt_or_ge b w.heap.size with h | h
        · exact h
        · unfold World.cell? at q0
          rw [show w.heap[(⟨b, off + j * 4 + 0, none⟩ : Addr).block]? = none from Array.getElem?_eq_none h] at q0
          cases q0
      · simpa using q0
      · simpa using q1
      · simpa using q2
      · simpa using q3
    · intro A hA
      obtain ⟨i, hi, rfl⟩ := List.mem_map.1 hA
      exact (hG i (by simpa using hi)).2
end Go.Proofs.YtlcfblodflgleaaGreatDoor
