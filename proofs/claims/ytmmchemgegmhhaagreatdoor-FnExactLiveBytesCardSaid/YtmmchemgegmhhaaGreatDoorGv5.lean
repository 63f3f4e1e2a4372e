import Derived.Deep.RegionHeld3
import Derived.Laws.MakeOwn
import Derived.Lib.SmallJoins
import Derived.OpenShut
import Derived.Test.YtmmchemgegmhhaaGreatDoorGv0
import Derived.Test.YtmmchemgegmhhaaGreatDoorGv4
import Derived.Test.YtmmchemgegmhhaaGreatDoorGv2
set_option maxRecDepth 100000
set_option maxHeartbeats 1600000
namespace Go.Proofs.YtmmchemgegmhhaaGreatDoor
open Go.RowKit
theorem cut_at (s : ByteArray) (a b : Nat) (ai bi : Int) (R : ByteArray) (ha : ai = a) (hb : bi = b) (h1 : a ≤ b) (h2 : b ≤ s.size) (hR : s.extract a b = R) :
    ∀ W : World, (Instr.slice 9 (.string s) (some (.int .i64 ai)) (some (.int .i64 bi)) none).run Tryz.prog W = .ok (.string R) W := by
  intro W
  subst ha hb hR
  have := run_slice_string (P := Tryz.prog) W 9 s .i64 .i64 (a : Int) (b : Int) Tryz.underlying9 (by omega) (by omega) (by omega)
  rw [this, Int.toNat_natCast, Int.toNat_natCast]
theorem txt_eq {a b : ByteArray} (h : a = b) : (a.toList == b.toList) = true := by rw [h]; exact beq_self_eq_true _
theorem txt_ne {a b : ByteArray} (h : a ≠ b) : (a.toList == b.toList) = false := by
  rw [beq_eq_false_iff_ne, ByteArray.toList_eq, ByteArray.toList_eq]
  intro e
  exact h (ByteArray.ext (Array.toList_inj.1 e))
def CurB (w : World) (g : Nat) (t : ByteArray) (i : Nat) (bad : Bool) : Prop := w.heap[g]? = some (.cells #[.string t, .int .i64 (i : Int), .bool bad] 205 (0, 0))
def varC (t : ByteArray) (i : Nat) (bad : Bool) : Nat × Nat × Bool :=
  match bad, Wd.rv t i with
  | false, some (n, p) => (n, p, false)
  | _, _ => (0, i, true)
def takeC (t : ByteArray) (n i : Nat) (bad : Bool) : ByteArray × Nat × Bool :=
  if bad = true ∨ t.size < i + n then (⟨#[]⟩, i, true) else (t.extract i (i + n), i + n, false)
def shortC (t : ByteArray) (i : Nat) (bad : Bool) : ByteArray × Nat × Bool := takeC t (varC t i bad).1 (varC t i bad).2.1 (varC t i bad).2.2
theorem varC_le {t : ByteArray} {i : Nat} (bad : Bool) (h : i ≤ t.size) : (varC t i bad).2.1 ≤ t.size ∧ (varC t i bad).1 ≤ 1000000000 := by
  unfold varC
  split
  · rename_i n p hr
    have := Wd.rv_bounds t i n p hr
    exact ⟨this.2.2, this.1⟩
  · exact ⟨h, Nat.zero_le _⟩
theorem takeC_le {t : ByteArray} {n i : Nat} (bad : Bool) (h : i ≤ t.size) : (takeC t n i bad).2.1 ≤ t.size ∧ (takeC t n i bad).1.size ≤ t.size := by
  unfold takeC
  split
  · exact ⟨h, Nat.zero_le _⟩
  · rename_i hc
    rw [ByteArray.size_extract]
    exact ⟨show i + n ≤ t.size by omega, by omega⟩
theorem curB_cells {w : World} {g : Nat} {t : ByteArray} {i : Nat} {bad : Bool} (h : CurB w g t i bad) : w.cell? ⟨g, 0, none⟩ = some (.string t) ∧ w.cell? ⟨g, 1, none⟩ = some (.int .i64 (i : Int)) ∧ w.cell? ⟨g, 2, none⟩ = some (.bool bad) :=
  ⟨(cell_of_row w g 0 _ _ (0, 0) h).trans rfl, (cell_of_row w g 1 _ _ (0, 0) h).trans rfl, (cell_of_row w g 2 _ _ (0, 0) h).trans rfl⟩
theorem curB_lt {w : World} {g : Nat} {t : ByteArray} {i : Nat} {bad : Bool} (h : CurB w g t i bad) : g < w.heap.size := (Array.getElem?_eq_some_iff.1 h).1
theorem curB_below {w w' : World} {g : Nat} {t : ByteArray} {i : Nat} {bad : Bool} (h : CurB w g t i bad) (hb : Below w.heap.size w w') : CurB w' g t i bad := (hb.block g (curB_lt h)).trans h
theorem l05Var_any (t : ByteArray) (g i : Nat) (bad : Bool) (w : World) (ht : t.size ≤ 1048576) (hi : i ≤ t.size) (h : CurB w g t i bad) :
    Calls Tryz.prog 149 #[.pointer (some ⟨g, 0, none⟩)] w fun e w' => e = .returned (.int .i64 ((varC t i bad).1 : Int)) ∧ CurB w' g t (varC t i bad).2.1 (varC t i bad).2.2 ∧ w.grownBy w' (some g) := by
  have HC := hide h
  have hg := curB_lt h
  obtain ⟨hc0, hc1, hc2⟩ := curB_cells h
  clear h
  cases hr : Wd.rv t i with
  | none =>
    have HV : Hid (varC t i bad = (0, i, true)) := by show _ = _; unfold varC; rw [hr]; cases bad <;> rfl
    have HR : Hid (∀ W, Calls Tryz.prog 147 #[.string t, .int .i64 (i : Int)] W fun e w' => e = .returned (.tuple #[.int .i64 0, .int .i64 0, .bool false]) ∧ Below W.heap.size W w') := fun W => by have h := specRead_in t i W ht hi; rw [hr] at h; exact h
    rw [HV.out]
    clear hr
    cases bad <;>
    · go_enter Tryz.func149, Tryz.ntmps149
      go_wp2_with fail
      go_region_held3 (fun w' => w'.cell? ⟨g, 0, none⟩ = some (.string t) ∧ w'.cell? ⟨g, 1, none⟩ = some (.int .i64 (i : Int))) (first | (go_keep; done) | (exact ⟨(B2.out.cell (p := ⟨g, 0, none⟩) hg).trans hc0, (B2.out.cell (p := ⟨g, 1, none⟩) hg).trans hc1⟩) | fail) ((first | (go_at_call 147; refine (HR.out _).mono ?_; rintro e w2 ⟨rfl, b2⟩; have B2 : Hid (Below w.heap.size w w2) := (Below.refl _ _).drew.trans b2; clear b2) | fail))
      have HC2 := hide (curB_below HC.out B2.out)
      obtain ⟨_, _, hd2⟩ := curB_cells HC2.out
      have hf2 := frozen_of_row w2 g 2 _ _ HC2.out
      go_wp2
      go_ret
      exact ⟨rfl, (heap_setCell_same _ g _ _ _ _ HC2.out).trans rfl, grownBy_store (grownBy_below _ B2.out) 2 _⟩
  | some x =>
    obtain ⟨n, p⟩ := x
    have HR : Hid (∀ W, Calls Tryz.prog 147 #[.string t, .int .i64 (i : Int)] W fun e w' => e = .returned (.tuple #[.int .i64 (n : Int), .int .i64 (p : Int), .bool true]) ∧ Below W.heap.size W w') := fun W => by have h := specRead_in t i W ht hi; rw [hr] at h; exact h
    cases bad
    · have HV : Hid (varC t i false = (n, p, false)) := by show _ = _; unfold varC; rw [hr]
      rw [HV.out]
      clear hr
      go_enter Tryz.func149, Tryz.ntmps149
      go_wp2_with fail
      go_region_held3 (fun w' => w'.cell? ⟨g, 0, none⟩ = some (.string t) ∧ w'.cell? ⟨g, 1, none⟩ = some (.int .i64 (i : Int))) (first | (go_keep; done) | (exact ⟨(B2.out.cell (p := ⟨g, 0, none⟩) hg).trans hc0, (B2.out.cell (p := ⟨g, 1, none⟩) hg).trans hc1⟩) | fail) ((first | (go_at_call 147; refine (HR.out _).mono ?_; rintro e w2 ⟨rfl, b2⟩; have B2 : Hid (Below w.heap.size w w2) := (Below.refl _ _).drew.trans b2; clear b2) | fail))
      have HC2 := hide (curB_below HC.out B2.out)
      obtain ⟨_, hd1, hd2⟩ := curB_cells HC2.out
      have hf1 := frozen_of_row w2 g 1 _ _ HC2.out
      go_wp2
      go_ret
      exact ⟨rfl, (heap_setCell_same _ g _ _ _ _ HC2.out).trans rfl, grownBy_store (grownBy_below _ B2.out) 1 _⟩
    · have HV : Hid (varC t i true = (0, i, true)) := by show _ = _; unfold varC; rw [hr]
      rw [HV.out]
      clear hr
      go_enter Tryz.func149, Tryz.ntmps149
      go_wp2_with fail
      go_region_held3 (fun w' => w'.cell? ⟨g, 0, none⟩ = some (.string t) ∧ w'.cell? ⟨g, 1, none⟩ = some (.int .i64 (i : Int))) (first | (go_keep; done) | (exact ⟨(B2.out.cell (p := ⟨g, 0, none⟩) hg).trans hc0, (B2.out.cell (p := ⟨g, 1, none⟩) hg).trans hc1⟩) | fail) ((first | (go_at_call 147; refine (HR.out _).mono ?_; rintro e w2 ⟨rfl, b2⟩; have B2 : Hid (Below w.heap.size w w2) := (Below.refl _ _).drew.trans b2; clear b2) | fail))
      have HC2 := hide (curB_below HC.out B2.out)
      obtain ⟨_, _, hd2⟩ := curB_cells HC2.out
      have hf2 := frozen_of_row w2 g 2 _ _ HC2.out
      go_wp2
      go_ret
      exact ⟨rfl, (heap_setCell_same _ g _ _ _ _ HC2.out).trans rfl, grownBy_store (grownBy_below _ B2.out) 2 _⟩
theorem l05Take_any (t : ByteArray) (g n i : Nat) (bad : Bool) (w : World) (ht : t.size ≤ 1048576) (hi : i ≤ t.size) (hn : n ≤ 1000000000) (h : CurB w g t i bad) :
    Calls Tryz.prog 148 #[.pointer (some ⟨g, 0, none⟩), .int .i64 (n : Int)] w fun e w' => e = .returned (.string (takeC t n i bad).1) ∧ CurB w' g t (takeC t n i bad).2.1 (takeC t n i bad).2.2 ∧ w.grownBy w' (some g) := by
  have HC := hide h
  obtain ⟨hc0, hc1, hc2⟩ := curB_cells h
  have hf1 := frozen_of_row w g 1 _ _ h
  have hf2 := frozen_of_row w g 2 _ _ h
  have hw : IntKind.i64.wrap ((t.size : Int) - (i : Int)) = (t.size : Int) - (i : Int) := by rw [IntKind.wrap_i64]; omega
  clear h
  by_cases hc : bad = true ∨ t.size < i + n
  · have HV : Hid (takeC t n i bad = (⟨#[]⟩, i, true)) := by show _ = _; unfold takeC; rw [if_pos hc]
    rw [HV.out]
    cases bad
    · have hlt : decide ((t.size : Int) - (i : Int) < (n : Int)) = true := by simp at hc; simp; omega
      clear hc
      go_enter Tryz.func148, Tryz.ntmps148
      go_wp2_with fail
      go_quiet (fail)
      go_wp2
      go_ret
      exact ⟨rfl, (heap_setCell_same _ g _ _ _ _ HC.out).trans rfl, grownBy_store (grownBy_below _ (below_drewN (Below.refl _ w) _)) 2 _⟩
    · clear hc
      go_enter Tryz.func148, Tryz.ntmps148
      go_wp2_with fail
      go_quiet (fail)
      go_wp2
      go_ret
      exact ⟨rfl, (heap_setCell_same _ g _ _ _ _ HC.out).trans rfl, grownBy_store (grownBy_below _ (below_drewN (Below.refl _ w) _)) 2 _⟩
  · have HV : Hid (takeC t n i bad = (t.extract i (i + n), i + n, false)) := by show _ = _; unfold takeC; rw [if_neg hc]
    rw [HV.out]
    obtain rfl : bad = false := by cases bad <;> simp at hc ⊢
    obtain ⟨P, hP⟩ : ∃ P : Nat, P = i + n := ⟨_, rfl⟩
    rw [← hP]
    have hlt : decide ((t.size : Int) - (i : Int) < (n : Int)) = false := by simp at hc; simp; omega
    have hw2 : IntKind.i64.wrap ((i : Int) + (n : Int)) = (P : Int) := by rw [IntKind.wrap_i64]; omega
    have hw3 : IntKind.i64.wrap ((P : Int) - (n : Int)) = (i : Int) := by rw [IntKind.wrap_i64]; omega
    obtain ⟨R, hR⟩ : ∃ R, t.extract i P = R := ⟨_, rfl⟩
    have hcut := cut_at t i P (i : Int) (P : Int) R rfl rfl (by omega) (by simp at hc; omega) hR
    rw [hR]
    have HP := hide hP
    clear hc hP hR
    go_enter Tryz.func148, Tryz.ntmps148
    go_wp2_with fail
    go_quiet (fail)
    go_wp2_with fail
    go_quiet (fail)
    go_wp2
    go_ret
    exact ⟨rfl, (heap_setCell_same _ g _ _ _ _ HC.out).trans rfl, grownBy_trans (grownBy_store (grownBy_below _ (below_drewN (Below.refl _ w) _)) 1 _) (grownBy_below _ (below_drewN (Below.refl _ _) _))⟩
theorem l05ReadShort_any (t : ByteArray) (g i : Nat) (bad : Bool) (w : World) (ht : t.size ≤ 1048576) (hi : i ≤ t.size) (h : CurB w g t i bad) :
    Calls Tryz.prog 150 #[.pointer (some ⟨g, 0, none⟩)] w fun e w' => e = .returned (.string (shortC t i bad).1) ∧ CurB w' g t (shortC t i bad).2.1 (shortC t i bad).2.2 ∧ w.grownBy w' (some g) := by
  have HC := hide h
  clear h
  have hv := varC_le bad hi
  have hcall := hide (fun W (hW : CurB W g t i bad) => l05Var_any t g i bad W ht hi hW)
  obtain ⟨x, HX⟩ : ∃ x, Hid (varC t i bad = x) := ⟨_, rfl⟩
  obtain ⟨n, j, b⟩ := x
  have HS : Hid (shortC t i bad = takeC t n j b) := by show _ = _; unfold shortC; rw [HX.out]
  rw [HX.out] at hv hcall
  rw [HS.out]
  go_enter Tryz.func150, Tryz.ntmps150
  go_wp2_with fail
  refine (hcall.out _ HC.out).mono ?_
  rintro e w1 ⟨rfl, hc1, hg1⟩
  have H1 := hide hc1
  have G1 := hide hg1
  clear hc1 hg1
  go_wp2_with fail
  refine (l05Take_any t g n j b _ ht hv.1 hv.2 H1.out).mono ?_
  rintro e w2 ⟨rfl, hc2, hg2⟩
  have H2 := hide hc2
  have G2 := hide hg2
  clear hc2 hg2
  go_wp2
  go_ret
  exact ⟨rfl, H2.out, grownBy_trans G1.out G2.out⟩
structure ChangeD where
  key : ByteArray
  value : ByteArray
  gone : Bool
def ChangesAt (w : World) (ao : Option Addr) (fs : List ChangeD) : Prop := ∀ j (h : j < fs.length), ∃ b off : Nat, ao = some ⟨b, off, none⟩ ∧ b < w.heap.size ∧
  w.cell? ⟨b, off + j * 3, none⟩ = some (.string fs[j].key) ∧ w.cell? ⟨b, off + j * 3 + 1, none⟩ = some (.string fs[j].value) ∧ w.cell? ⟨b, off + j * 3 + 2, none⟩ = some (.bool fs[j].gone)
theorem changesAt_keep {w w' : World} {ao : Option Addr} {fs : List ChangeD} (h : ChangesAt w ao fs) (hb : Below w.heap.size w w') : ChangesAt w' ao fs := by
  intro j hj
  obtain ⟨b, off, h1, h2, h3, h4, h5⟩ := h j hj
  exact ⟨b, off, h1, Nat.lt_of_lt_of_le h2 hb.size, (hb.cell (p := ⟨b, off + j * 3, none⟩) h2).trans h3, (hb.cell (p := ⟨b, off + j * 3 + 1, none⟩) h2).trans h4, (hb.cell (p := ⟨b, off + j * 3 + 2, none⟩) h2).trans h5⟩
def ChangesIn (C : Array Value) (fs : List ChangeD) (k : Nat) : Prop := ∀ j (h : j < fs.length), j < k → C[j * 3]? = some (.string fs[j].key) ∧ C[j * 3 + 1]? = some (.string fs[j].value) ∧ C[j * 3 + 2]? = some (.bool fs[j].gone)
theorem Tryz.infoChange : (Tryz.prog.info? 144).map (fun i => (i.zero, i.size, i.bytes)) = some (some (.agg #[.string ⟨#[]⟩, .string ⟨#[]⟩, .bool false]), 3, 40) := by kernel_rfl
theorem changesAt_own {w : World} {g : Nat} {C : Array Value} {t : TypeId} {fs : List ChangeD} (h : w.heap[g]? = some (.cells C t (0, 0))) (hC : ChangesIn C fs fs.length) : ChangesAt w (some ⟨g, 0, none⟩) fs := by
  intro j hj
  obtain ⟨h0, h1, h2⟩ := hC j hj hj
  have hg : g < w.heap.size := (Array.getElem?_eq_some_iff.1 h).1
  refine ⟨g, 0, rfl, hg, ?_, ?_, ?_⟩
  · rw [Nat.zero_add, cell_of_row w g _ C t (0, 0) h, h0]
  · rw [Nat.zero_add, cell_of_row w g _ C t (0, 0) h, h1]
  · rw [Nat.zero_add, cell_of_row w g _ C t (0, 0) h, h2]
def cellsChange : List ChangeD → List Value
  | [] => []
  | A :: r => .string A.key :: .string A.value :: .bool A.gone :: cellsChange r
theorem cellsChange_append : ∀ (a b : List ChangeD), cellsChange (a ++ b) = cellsChange a ++ cellsChange b
  | [], _ => rfl
  | A :: r, b => by simp [cellsChange, cellsChange_append r b]
theorem cellsChange_length : ∀ a : List ChangeD, (cellsChange a).length = a.length * 3
  | [] => rfl
  | A :: r => by simp [cellsChange, cellsChange_length r]; omega
theorem cellsChange_one : ∀ (a : List ChangeD), ∀ u ∈ cellsChange a, u.oneCell' = true
  | [], u, h => absurd h List.not_mem_nil
  | A :: r, u, h => by
    simp only [cellsChange, List.mem_cons] at h
    rcases h with rfl | rfl | rfl | h
    · rfl
    · rfl
    · rfl
    · exact cellsChange_one r u h
theorem cellsChange_get : ∀ (a : List ChangeD) (j : Nat) (h : j < a.length), (cellsChange a)[j * 3]? = some (.string a[j].key) ∧ (cellsChange a)[j * 3 + 1]? = some (.string a[j].value) ∧ (cellsChange a)[j * 3 + 2]? = some (.bool a[j].gone)
  | [], _, h => absurd h (by simp)
  | A :: r, 0, _ => by simp [cellsChange]
  | A :: r, j + 1, h => by
    have := cellsChange_get r j (by simpa using h)
    have e : (j + 1) * 3 = j * 3 + 3 := by omega
    simp only [cellsChange, e]
    simpa using this
def RowChange (w : World) (B : Nat) (v : Value) (fs : List ChangeD) : Prop := (v = .slice none 0 0 ∧ fs = []) ∨
  ∃ (g cap : Nat) (C : Array Value), v = .slice (some ⟨g, 0, none⟩) fs.length cap ∧ B ≤ g ∧ w.heap[g]? = some (.cells C 144 (0, 0)) ∧ fs.length * 3 ≤ C.size ∧ ChangesIn C fs fs.length
theorem rowChange_at {w : World} {B : Nat} {v : Value} {fs : List ChangeD} (h : RowChange w B v fs) : ∃ ao cap, v = .slice ao fs.length cap ∧ ChangesAt w ao fs := by
  rcases h with ⟨rfl, rfl⟩ | ⟨g, cap, C, rfl, _, hC, _, hI⟩
  · exact ⟨none, 0, rfl, fun j hj => absurd hj (by simp)⟩
  · exact ⟨_, cap, rfl, changesAt_own hC hI⟩
theorem rowChange_lt {w : World} {B : Nat} {v : Value} {fs : List ChangeD} (h : RowChange w B v fs) : ∀ g, v.ownBlock = some g → B ≤ g ∧ g < w.heap.size := by
  rcases h with ⟨rfl, rfl⟩ | ⟨g, cap, C, rfl, hB, hC, _, hI⟩
  · intro g h; cases h
  · intro g' h
    obtain rfl : g = g' := by simpa [Value.ownBlock] using h
    exact ⟨hB, (Array.getElem?_eq_some_iff.1 hC).1⟩
theorem rowChange_keep {w w' : World} {B : Nat} {v : Value} {fs : List ChangeD} (h : RowChange w B v fs) (hk : ∀ g, v.ownBlock = some g → w'.heap[g]? = w.heap[g]?) : RowChange w' B v fs := by
  rcases h with ⟨rfl, rfl⟩ | ⟨g, cap, C, rfl, hB, hC, hs, hI⟩
  · exact .inl ⟨rfl, rfl⟩
  · exact .inr ⟨g, cap, C, rfl, hB, (hk g rfl).trans hC, hs, hI⟩
theorem rowChange_below {w w' : World} {B : Nat} {v : Value} {fs : List ChangeD} (h : RowChange w B v fs) (hb : Below w.heap.size w w') : RowChange w' B v fs :=
  rowChange_keep h (fun g hg => hb.block g (rowChange_lt h g hg).2)
theorem rowChange_grown {w w' : World} {B : Nat} {v : Value} {fs : List ChangeD} {r : Option Nat} (h : RowChange w B v fs) (hb : w.grownBy w' r) (hr : ∀ g, v.ownBlock = some g → some g ≠ r) : RowChange w' B v fs :=
  rowChange_keep h (fun g hg => hb.block g (rowChange_lt h g hg).2 (hr g hg))
theorem rowChange_le {w : World} {B B' : Nat} {v : Value} {fs : List ChangeD} (h : RowChange w B v fs) (hB : B' ≤ B) : RowChange w B' v fs := by
  rcases h with h | ⟨g, cap, C, h1, h2, h3⟩
  · exact .inl h
  · exact .inr ⟨g, cap, C, h1, by omega, h3⟩
theorem rowChange_rows {w : World} {B n c : Nat} {a : Option Addr} {fs : List ChangeD} (h : RowChange w B (.slice a n c) fs) : ChangesAt w a fs := by
  obtain ⟨ao, cap, e, hf⟩ := rowChange_at h
  cases e
  exact hf
theorem take_getChange {C : Array Value} {xs : List Value} {n : Nat} (h : C.toList.take n = xs) {j : Nat} {u : Value} (hj : j < n) (hu : xs[j]? = some u) : C[j]? = some u := by
  rw [← h, List.getElem?_take_of_lt hj] at hu
  simpa using hu
theorem rowChange_own {w : World} {B : Nat} {v : Value} {fs : List ChangeD} (h : w.ownsRow B 144 3 v fs.length (cellsChange fs)) : RowChange w B v fs := by
  rcases h.2 with ⟨rfl, hn⟩ | ⟨g, cap, cur, rfl, hB, hC, hle, _, hs, ht⟩
  · exact .inl ⟨rfl, List.eq_nil_of_length_eq_zero hn⟩
  · refine .inr ⟨g, cap, cur, rfl, hB, hC, by omega, ?_⟩
    intro j hj _
    obtain ⟨h0, h1, h2⟩ := cellsChange_get fs j hj
    exact ⟨take_getChange ht (by omega) h0, take_getChange ht (by omega) h1, take_getChange ht (by omega) h2⟩
theorem step_app_change {ops : Array Oper} {o : Oper} {a : Act} {K : Act → World → Prop} {Q : Exit → Act → World → Prop} {E : Prop} (W : World) (B : Nat) (hgd : o.guard = none) (s y : Operand)
    (ho : o.op = .call { callee := .builtin .append, args := #[s, y], argTypes := #[33, 33] }) (v : Value) (l : List ChangeD) (F : ChangeD) (hs : a.eval s = v)
    (hown : W.ownsRow B 144 3 v l.length (cellsChange l)) (k : Nat) (hx : a.eval y = .slice (some ⟨k, 0, none⟩) 1 1) (hblk : W.heap[k]? = some (.cells #[.string F.key, .string F.value, .bool F.gone] 144 (0, 0)))
    (hlen : l.length ≤ 1048576) (hbase : B ≤ W.heap.size)
    (h : ∀ g cap w', w'.ownsRow B 144 3 (.slice (some ⟨g, 0, none⟩) (l.length + 1) cap) (l ++ [F]).length (cellsChange (l ++ [F])) → Below B W w' → B ≤ g → g < w'.heap.size → K (a.put o.dst (.slice (some ⟨g, 0, none⟩) (l.length + 1) cap)) w') :
    if Region.wanted o (yielded ops a.tmps) = true then Oper.wp Tryz.prog o a W K Q else E := by
  obtain ⟨i0, hi, hz0, hz1, hz2⟩ := info_parts Tryz.infoChange
  refine step_append_lies W hgd s y 33 ho B 144 i0 (.agg #[.string ⟨#[]⟩, .string ⟨#[]⟩, .bool false]) 3 40 Tryz.underlying33 hi hz0 hz1 hz2 rfl (by decide) v l.length (cellsChange l) hs hown ⟨k, 0, none⟩ 1 1 (cellsChange [F]) hx (by rw [cellsChange_length]; rfl)
    (fun j u hj => World.news_of_block hblk j u hj) (cellsChange_one [F]) (by omega) (by unfold maxLen; omega) (by omega) hbase W.heap.size rfl ?_
  intro g cap w' hown' hgrow hg hgl
  have hlt := hown.lt
  refine h g cap w' ?_ ((Below.refl B W).grown hgrow hbase (fun k hk => (hlt k hk).1)) ?_ hgl
  · rw [cellsChange_append, List.length_append]
    exact hown'
  · rcases hg with hg | rfl
    · exact (hlt g hg).1
    · exact hbase
theorem app_change {ops : Array Oper} {rest : List Oper} {o : Oper} {a : Act} {Q : Exit → Act → World → Prop} (W : World) (B : Nat) (hgd : o.guard = none) (s y : Operand)
    (ho : o.op = .call { callee := .builtin .append, args := #[s, y], argTypes := #[33, 33] }) (v : Value) (l : List ChangeD) (F : ChangeD) (hs : a.eval s = v)
    (hown : W.ownsRow B 144 3 v l.length (cellsChange l)) (k : Nat) (hx : a.eval y = .slice (some ⟨k, 0, none⟩) 1 1) (hblk : W.heap[k]? = some (.cells #[.string F.key, .string F.value, .bool F.gone] 144 (0, 0)))
    (hlen : l.length ≤ 1048576) (hbase : B ≤ W.heap.size)
    (h : ∀ g cap w', w'.ownsRow B 144 3 (.slice (some ⟨g, 0, none⟩) (l.length + 1) cap) (l ++ [F]).length (cellsChange (l ++ [F])) → Below B W w' → B ≤ g → g < w'.heap.size → wpList Tryz.prog ops Q rest (a.put o.dst (.slice (some ⟨g, 0, none⟩) (l.length + 1) cap)) w') :
    wpList Tryz.prog ops Q (o :: rest) a W := by
  obtain ⟨i0, hi, hz0, hz1, hz2⟩ := info_parts Tryz.infoChange
  refine wpList_append_lies W hgd s y 33 ho B 144 i0 (.agg #[.string ⟨#[]⟩, .string ⟨#[]⟩, .bool false]) 3 40 Tryz.underlying33 hi hz0 hz1 hz2 rfl (by decide) v l.length (cellsChange l) hs hown ⟨k, 0, none⟩ 1 1 (cellsChange [F]) hx (by rw [cellsChange_length]; rfl)
    (fun j u hj => World.news_of_block hblk j u hj) (cellsChange_one [F]) (by omega) (by unfold maxLen; omega) (by omega) hbase W.heap.size rfl ?_
  intro g cap w' hown' hgrow hg hgl
  have hlt := hown.lt
  refine h g cap w' ?_ ((Below.refl B W).grown hgrow hbase (fun k hk => (hlt k hk).1)) ?_ hgl
  · rw [cellsChange_append, List.length_append]
    exact hown'
  · rcases hg with hg | rfl
    · exact (hlt g hg).1
    · exact hbase
def changeOkD (A : ChangeD) : Bool := (decide (1 ≤ A.key.size) && decide (A.key.size ≤ 20)) && (decide (A.value.size ≤ 2000) && !(A.gone && !decide (A.value.size = 0)))
def okChg : Option ByteArray → List ChangeD → Bool
  | _, [] => true
  | none, A :: r => changeOkD A && okChg (some A.key) r
  | some p, A :: r => changeOkD A && (Op.bytesLess p.toList A.key.toList && okChg (some A.key) r)
def batchOkD (q : Int) (fs : List ChangeD) : Bool := (decide (0 ≤ q) && decide (q ≤ 1000000000)) && ((decide (1 ≤ fs.length) && decide (fs.length ≤ 40)) && okChg none fs)
def prevChg (fs : List ChangeD) : Nat → Option ByteArray
  | 0 => none
  | k + 1 => fs[k]?.map ChangeD.key
theorem okChg_bad {fs : List ChangeD} {k : Nat} (h : k < fs.length) (hF : changeOkD fs[k] = false) : okChg (prevChg fs k) (fs.drop k) = false := by
  rw [List.drop_eq_getElem_cons h]
  cases prevChg fs k <;> simp [okChg, hF]
theorem okChg_first {fs : List ChangeD} (h : 0 < fs.length) (hF : changeOkD fs[0] = true) : okChg (prevChg fs 0) (fs.drop 0) = okChg (prevChg fs 1) (fs.drop 1) := by
  rw [List.drop_eq_getElem_cons h]
  simp [okChg, prevChg, hF, h]
theorem okChg_less {fs : List ChangeD} {k : Nat} (h : k < fs.length) (hk : 0 < k) (hF : Op.bytesLess fs[k - 1].key.toList fs[k].key.toList = false) : okChg (prevChg fs k) (fs.drop k) = false := by
  obtain ⟨j, rfl⟩ : ∃ j, k = j + 1 := ⟨k - 1, by omega⟩
  rw [List.drop_eq_getElem_cons h]
  have e1 : prevChg fs (j + 1) = some fs[j].key := by simp [prevChg, show j < fs.length from by omega]
  simp at hF
  rw [e1]
  simp [okChg, hF]
theorem okChg_more {fs : List ChangeD} {k : Nat} (h : k < fs.length) (hk : 0 < k) (hF : changeOkD fs[k] = true) (hL : Op.bytesLess fs[k - 1].key.toList fs[k].key.toList = true) : okChg (prevChg fs k) (fs.drop k) = okChg (prevChg fs (k + 1)) (fs.drop (k + 1)) := by
  obtain ⟨j, rfl⟩ : ∃ j, k = j + 1 := ⟨k - 1, by omega⟩
  rw [List.drop_eq_getElem_cons h]
  have e1 : prevChg fs (j + 1) = some fs[j].key := by simp [prevChg, show j < fs.length from by omega]
  have e2 : prevChg fs (j + 1 + 1) = some fs[j + 1].key := by simp [prevChg, h]
  simp at hL
  rw [e1, e2]
  simp [okChg, hF, hL]
theorem okChg_end {fs : List ChangeD} {k : Nat} (h : fs.length ≤ k) : okChg (prevChg fs k) (fs.drop k) = true := by
  rw [List.drop_eq_nil_of_le h]
  cases prevChg fs k <;> simp [okChg]
end Go.Proofs.YtmmchemgegmhhaaGreatDoor
