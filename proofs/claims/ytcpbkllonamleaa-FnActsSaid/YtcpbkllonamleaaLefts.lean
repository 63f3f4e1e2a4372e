/- What the law on what is kept calls besides: numbers of what is left; disks that are the same; beginnings. -/
import Derived.Test.YtcpbkllonamleaaAppInt
import Derived.Test.YtcpbkllonamleaaLoseS0
import Derived.Test.YtcpbkllonamleaaBlk
import Derived.Test.YtcpbkllonamleaaKeepsP
import Derived.Laws.StructEq
import Derived.BigQuiet
namespace Go.Proofs.Ytcpbkllonamleaa
open Go.RowKit

theorem place_cell {w : World} {B g n cap : Nat} {L : List Nat} (h : w.ownsRow B 3 1 (.slice (some ⟨g, 0, none⟩) n cap) n (L.map iv)) (j : Nat) (hj : j < n) (x : Nat) (hx : L[j]? = some x) :
    w.cell? ⟨g, j, none⟩ = some (.int .i64 (x : Int)) := by
  rw [h.cellAt j (by omega), List.getElem?_map, hx]; rfl

set_option maxRecDepth 100000 in
set_option maxHeartbeats 1000000 in
theorem lefts_any (w : World) (B : Nat) (v : Value) (zs : List Nat) (hzl : zs.length = 12) (hzs : ∀ z ∈ zs, z < 10000) (hown : w.ownsRow B 3 1 v 12 (zs.map iv)) :
    Calls Try.prog 7 #[v] w fun e w' => ∃ (u : Value) (ys : List Nat), e = .returned u ∧ ys.length = 6 ∧ (∀ y ∈ ys, y < 400) ∧ w'.ownsRow w.heap.size 3 1 u 6 (ys.map iv) ∧ Below w.heap.size w w' := by
  obtain ⟨gp, capp, rfl⟩ : ∃ gp capp, v = .slice (some ⟨gp, 0, none⟩) 12 capp := by
    rcases hown.2 with ⟨h, h'⟩ | ⟨g, c, cur, rfl, _⟩
    · cases h'
    · exact ⟨g, c, rfl⟩
  have hgp := (hown.lt gp rfl).2
  have HO := hide hown
  have HZ := hide hzs
  have HL := hide hzl
  clear hown hzs hzl
  go_enter Try.func7, Try.ntmps7
  go_wp2
  go_loopw [3, 4] (fun u ii wr => ∃ (k : Nat) (ys : List Nat), ii = .int .i64 k ∧ k ≤ 6 ∧ ys.length = k ∧ Hid (∀ y ∈ ys, y < 400) ∧ wr.ownsRow w.heap.size 3 1 u ys.length (ys.map iv) ∧ Below w.heap.size w wr) (fun _ ii _ => 6 - (intOf ii).toNat)
  case atStart =>
    exact ⟨0, [], rfl, by omega, rfl, (fun z hz => by cases hz), World.ownsRow_lit w #[] 0 (Nat.le_refl _) (by unfold maxLen; omega) (by simp), (Below.refl _ _).alloc (Nat.le_refl _) _⟩
  case round =>
    obtain ⟨k, ys, rfl, hk, hyl, HY, hown, hb⟩ := hrel
    have hbs := hb.size
    by_cases hlt : k < 6
    · have hlt' : decide ((k : Int) < 6) = true := by simp; omega
      obtain ⟨z, hz⟩ : ∃ z, zs[k]? = some z := ⟨_, List.getElem?_eq_getElem (by rw [HL.out]; omega)⟩
      have hcell : wr.cell? ⟨gp, k, none⟩ = some (.int .i64 (z : Int)) := (hb.cell (p := ⟨gp, k, none⟩) hgp).trans (place_cell HO.out k (by omega) z hz)
      have hz4 := HZ.out z (List.mem_of_getElem? hz)
      obtain ⟨y, hy, hy4⟩ : ∃ y : Nat, (z : Int) % 400 = (y : Int) ∧ y < 400 := ⟨z % 400, by omega, by omega⟩
      have hi0 : (0 : Int) ≤ (k : Int) := by omega
      have hi1 : (k : Int) < 12 := by omega
      have hyl2 : ys.length ≤ 1000000 := by omega
      have HYL := hide hyl
      clear hz hyl
      go_wp2_with (at_builtin; refine app_int wr w w.heap.size rfl _ _ rfl _ ys rfl hown rfl hyl2 hb hbs ?_; intro v' w4 hown4 hb4 hs4)
      go_roundw
      case rel =>
        refine ⟨k + 1, ys ++ [y], by go_num, by omega, by have := HYL.out; simp; omega, ?_, hown4, hb4⟩
        intro q hq
        rcases List.mem_append.1 hq with h | h
        · exact HY.out q h
        · simp only [List.mem_singleton] at h; omega
      case measure => simp [intOf]; omega
    · have hlt' : decide ((k : Int) < 6) = false := by simp; omega
      have hk6 : k = 6 := by omega
      subst hk6
      go_wp2
      go_ret
      rw [hyl] at hown
      exact ⟨_, ys, rfl, hyl, HY.out, hown, hb⟩

/-- A row of such numbers, as LoseDisk takes it. -/
theorem ints_row {w : World} {B n : Nat} {v : Value} {ys : List Nat} (hl : ys.length = n) (hy : ∀ y ∈ ys, y < 400) (h : w.ownsRow B 3 1 v n (ys.map iv)) (h0 : 0 < n) : ∃ (al : Option Addr) (capl : Nat) (ls : List Int), v = .slice al ls.length capl ∧ IntsAt w al ls := by
  subst hl
  rcases h.2 with ⟨_, h'⟩ | ⟨g, c, cur, rfl, _⟩
  · omega
  · refine ⟨_, c, ys.map (fun y : Nat => (y : Int)), by rw [List.length_map], ?_⟩
    intro j hj
    have hj' : j < ys.length := by simpa using hj
    have hlt := (h.lt g rfl).2
    refine ⟨g, 0, rfl, hlt, ?_, ?_, ?_⟩
    · rw [Nat.zero_add, place_cell h j hj' _ (List.getElem?_eq_getElem hj')]
      simp
    · simp
    · have := hy _ (List.getElem_mem hj')
      simp; omega

/-- Is a text the beginning of another? -/
def beginsB (a b : ByteArray) : Bool := decide (a.size ≤ b.size) && ((b.extract 0 a.size).toList == a.toList)
theorem beginsB_yes {a b : ByteArray} (h : a = b.extract 0 a.size) (hl : a.size ≤ b.size) : beginsB a b = true := by
  unfold beginsB
  rw [← h, beq_self_eq_true, decide_eq_true hl]
  rfl

theorem begins_any (a b : ByteArray) (w : World) :
    Calls Try.prog 13 #[.string a, .string b] w fun e w' => e = .returned (.bool (beginsB a b)) ∧ w' = w := by
  by_cases hl : a.size ≤ b.size
  · have hle : decide ((a.size : Int) ≤ (b.size : Int)) = true := by simp; omega
    have hcut : ∀ W : World, (Instr.slice 9 (.string b) none (some (.int .i64 (a.size : Int))) none).run Try.prog W = .ok (.string (b.extract 0 a.size)) W := by
      intro W
      rw [run_slice_string_to_if W 9 b .i64 (a.size : Int) Try.underlying9, if_pos (by omega), Int.toNat_natCast]
    obtain ⟨X, HX⟩ : ∃ X, Hid (b.extract 0 a.size = X) := ⟨_, hide rfl⟩
    have hR : Hid (beginsB a b = (X.toList == a.toList)) := by show _ = _; unfold beginsB; rw [HX.out, decide_eq_true hl, Bool.true_and]
    rw [HX.out] at hcut
    rw [hR.out]
    go_enter Try.func13, Try.ntmps13
    go_wp2
    go_ret
    exact ⟨rfl, rfl⟩
  · have hle : decide ((a.size : Int) ≤ (b.size : Int)) = false := by simp; omega
    have hR : Hid (beginsB a b = false) := by show _ = _; unfold beginsB; rw [decide_eq_false hl, Bool.false_and]
    rw [hR.out]
    go_enter Try.func13, Try.ntmps13
    go_wp2
    go_ret
    exact ⟨rfl, rfl⟩

theorem neq_file (F : FileD) : ∀ W : World, (binOp .neq 36 (.agg #[.string F.name, .string F.text, .int .i64 F.kept]) (.agg #[.string F.name, .string F.text, .int .i64 F.kept])).run Try.prog W = .ok (.bool false) W := by
  intro W
  have hst : Try.prog.stoodInHeld 36 = false := by kernel_rfl
  have hfl : Try.prog.underlying 36 = some (.struct (Try.prog.fieldsOf 36)) := by kernel_rfl
  rw [run_neq_struct, run_equalIn_struct W 9999 36 _ _ hfl hst]
  clear hfl hst
  simp [go_sem]

set_option maxRecDepth 100000 in
set_option maxHeartbeats 1000000 in
theorem sameDisk_same (fs : List FileD) (ao ao2 : Option Addr) (cap cap2 : Nat) (w : World) (hl : fs.length ≤ 1048576) (h1 : FilesAt w ao fs) (h2 : FilesAt w ao2 fs) :
    Calls Try.prog 10 #[.agg #[.slice ao fs.length cap], .agg #[.slice ao2 fs.length cap2]] w fun e w' => e = .returned (.bool true) ∧ Below w.heap.size w w' := by
  have H1 := hide h1
  have H2 := hide h2
  clear h1 h2
  obtain ⟨wb, hwb⟩ : ∃ wb, wb = (w.alloc (.cells #[.slice ao fs.length cap] 26)).alloc (.cells #[.slice ao2 fs.length cap2] 26) := ⟨_, rfl⟩
  have HB : Hid (Below w.heap.size w wb) := by rw [hwb]; exact ((Below.refl _ w).alloc (Nat.le_refl _) _).alloc (by simp) _
  have A1 : Hid (wb.heap[w.heap.size]? = some (.cells #[.slice ao fs.length cap] 26 (0, 0))) := by rw [hwb]; exact blk_below (heap_alloc_new w _) ((Below.refl _ _).alloc (Nat.le_refl _) _)
  have A2 : Hid (wb.heap[w.heap.size + 1]? = some (.cells #[.slice ao2 fs.length cap2] 26 (0, 0))) := by
    rw [hwb, show w.heap.size + 1 = (w.alloc (.cells #[.slice ao fs.length cap] 26)).heap.size from by simp]
    exact heap_alloc_new _ _
  have hne : (!((fs.length : Int) == (fs.length : Int))) = false := by simp
  go_enter Try.func10, Try.ntmps10
  go_wp2
  rw [← hwb]
  clear hwb
  go_loopw [5] (fun ii wr => ∃ (k q : Nat), ii = .int .i64 k ∧ k ≤ fs.length ∧ wr = wb.drewN q) (fun ii _ => fs.length - (intOf ii).toNat)
  case atStart => exact ⟨0, 0, rfl, Nat.zero_le _, rfl⟩
  case round =>
    obtain ⟨k, q, rfl, hk, rfl⟩ := hrel
    have hb1 : wb.cell? ⟨w.heap.size, 0, none⟩ = some (.slice ao fs.length cap) := box_of A1.out
    have hb2 : wb.cell? ⟨w.heap.size + 1, 0, none⟩ = some (.slice ao2 fs.length cap2) := box_of A2.out
    by_cases hlt : k < fs.length
    · have hlt' : decide ((k : Int) < (fs.length : Int)) = true := by simp; omega
      obtain ⟨b, off, rfl, _, hc0, hc1, hc2⟩ := filesAt_keep H1.out HB.out k hlt
      obtain ⟨b', off', rfl, _, hd0, hd1, hd2⟩ := filesAt_keep H2.out HB.out k hlt
      generalize fs[k] = F at hc0 hc1 hc2 hd0 hd1 hd2
      have hgd : Try.prog.eqGuardType Try.prog.depth 36 = false := by kernel_rfl
      have hneq := neq_file F
      have hi0 : (0 : Int) ≤ (k : Int) := by omega
      have hi1 : (k : Int) < (fs.length : Int) := by omega
      go_wp2
      go_quiet (fail)
      go_wp2
      go_roundw
      case rel => exact ⟨k + 1, q + nq, by go_num, by omega, by simp⟩
      case measure => simp [intOf]; omega
    · have hlt' : decide ((k : Int) < (fs.length : Int)) = false := by simp; omega
      go_wp2
      go_ret
      exact ⟨rfl, HB.out.trans ((drewN_below wb q).mono HB.out.size)⟩
end Go.Proofs.Ytcpbkllonamleaa
