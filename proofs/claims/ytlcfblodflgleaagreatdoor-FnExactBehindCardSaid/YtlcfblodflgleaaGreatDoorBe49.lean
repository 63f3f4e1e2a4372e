import Derived.Laws.MakeOwn
import Derived.Test.YtlcfblodflgleaaGreatDoorBe44
set_option maxRecDepth 100000
set_option maxHeartbeats 800000
namespace Go.Proofs.YtlcfblodflgleaaGreatDoor
open Go.RowKit
def IntsIn (C : Array Value) (ls : List Int) (k : Nat) : Prop := ∀ j (h : j < ls.length), j < k → C[j]? = some (.int .i64 ls[j])
theorem intsIn_put {C : Array Value} {ls : List Int} {k : Nat} (h : IntsIn C ls k) (hk : k < ls.length) (hs : C.size = ls.length) : IntsIn (C.setIfInBounds k (.int .i64 ls[k])) ls (k + 1) := by
  intro j hj hjk
  by_cases e : j = k
  · subst e
    simp [hs, hj]
  · rw [Array.getElem?_setIfInBounds_ne (by omega)]; exact h j hj (by omega)
theorem intsAt_own {w : World} {g : Nat} {C : Array Value} {t : TypeId} {ls : List Int} (h : w.heap[g]? = some (.cells C t (0, 0))) (hC : IntsIn C ls ls.length) (hb : ∀ x ∈ ls, -9223372036854775808 ≤ x ∧ x ≤ 9223372036854775807) : IntsAt w (some ⟨g, 0, none⟩) ls := by
  intro j hj
  have h1 := hC j hj hj
  have hg : g < w.heap.size := (Array.getElem?_eq_some_iff.1 h).1
  exact ⟨g, 0, rfl, hg, by rw [Nat.zero_add, cell_of_row w g _ C t (0, 0) h, h1], hb _ (List.getElem_mem hj)⟩
theorem Tryz.infoInt : (Tryz.prog.info? 3).map (fun i => (i.zero, i.size, i.bytes)) = some (some (.int .i64 0), 1, 8) := by kernel_rfl
theorem toIntS_any (ls : List Int) (ao : Option Addr) (cap : Nat) (w : World) (hl : ls.length ≤ 1048576) (hls : IntsAt w ao ls) :
    Calls Tryz.prog 18 #[.slice ao ls.length cap] w fun e w' => (∃ C : Array Value, e = .returned (.slice (some ⟨w.heap.size, 0, none⟩) ls.length ls.length) ∧ w'.heap[w.heap.size]? = some (.cells C 3 (0, 0)) ∧ C.size = ls.length ∧ IntsIn C ls ls.length) ∧ Below w.heap.size w w' := by
  have HF := hide hls
  clear hls
  obtain ⟨i0, hi, hz0, hz1, hz2⟩ := info_parts Tryz.infoInt
  obtain ⟨M, hM⟩ : ∃ M, M = madeCells (Value.int .i64 0).cells (((ls.length : Nat) : Int).toNat * i0.size) := ⟨_, rfl⟩
  have hmk : ∀ W : World, (Instr.makeSlice 45 (.int .i64 (ls.length : Int)) (.int .i64 (ls.length : Int))).run Tryz.prog W = .ok (.slice (some ⟨W.heap.size, 0, none⟩) ls.length ls.length) (W.alloc (.cells M 3)) := fun W => by
    have h := run_make (P := Tryz.prog) W 45 3 i0 (.int .i64 0) Tryz.underlying45 hi hz0 .i64 .i64 (ls.length : Int) (ls.length : Int) (by omega) (by omega) (by rw [hz2]; omega) (by omega)
    rw [← hM] at h
    simpa using h
  have hMs : M.size = ls.length := by rw [hM, size_madeCells, hz1]; simp
  clear hM
  go_enter Tryz.func18, Tryz.ntmps18
  go_wp2
  go_loopw [4] (fun ii wr => ∃ (k : Nat) (C : Array Value), ii = .int .i64 k ∧ k ≤ ls.length ∧ Hid (wr.heap[w.heap.size]? = some (.cells C 3 (0, 0))) ∧ C.size = ls.length ∧ Hid (IntsIn C ls k) ∧ Hid (Below w.heap.size w wr)) (fun ii _ => ls.length - (intOf ii).toNat)
  case atStart => exact ⟨0, M, rfl, Nat.zero_le _, heap_alloc_new w _, hMs, fun j _ hj => absurd hj (by omega), (Below.refl _ w).alloc (Nat.le_refl _) _⟩
  case round =>
    obtain ⟨k, C, rfl, hk, HC, hCs, HI, HB⟩ := hrel
    by_cases hlt : k < ls.length
    · have hlt' : decide ((k : Int) < (ls.length : Int)) = true := by simp; omega
      obtain ⟨b, off, rfl, hbw, hc0, _, _⟩ := intsAt_keep HF.out HB.out k hlt
      obtain ⟨x, HX⟩ : ∃ x, Hid (ls[k] = x) := ⟨ls[k], hide rfl⟩
      rw [HX.out] at hc0
      have hi0 : (0 : Int) ≤ (k : Int) := by omega
      have hi1 : (k : Int) < (ls.length : Int) := by omega
      have hq0 := cell_of_row wr w.heap.size k C 3 (0, 0) HC.out
      have hf0 := frozen_of_row wr w.heap.size k C 3 HC.out
      rw [Array.getElem?_eq_getElem (by omega)] at hq0
      have HN : Hid (IntsIn (C.setIfInBounds k (.int .i64 x)) ls (k + 1)) := by have := intsIn_put HI.out hlt hCs; rw [HX.out] at this; exact this
      have HC2 := hide (heap_setCell_same wr w.heap.size k C 3 (.int .i64 x) HC.out)
      have HB2 := hide (HB.out.setCell (p := ⟨w.heap.size, k, none⟩) (Nat.le_refl _) (.int .i64 x))
      go_wp2
      go_roundw
      case rel => exact ⟨k + 1, _, by go_num, by omega, HC2, by simpa using hCs, HN, HB2⟩
      case measure => simp [intOf]; omega
    · have hlt' : decide ((k : Int) < (ls.length : Int)) = false := by simp; omega
      have hke : k = ls.length := by omega
      subst hke
      go_wp2
      go_ret
      exact ⟨⟨C, rfl, HC.out, hCs, HI.out⟩, HB.out⟩
theorem eqIntS_same (ls : List Int) (ao ao2 : Option Addr) (cap cap2 : Nat) (w : World) (hl : ls.length ≤ 1048576) (h1 : IntsAt w ao ls) (h2 : IntsAt w ao2 ls) :
    Calls Tryz.prog 20 #[.slice ao ls.length cap, .slice ao2 ls.length cap2] w fun e w' => e = .returned (.bool true) ∧ Below w.heap.size w w' := by
  have H1 := hide h1
  have H2 := hide h2
  clear h1 h2
  have hne : (!((ls.length : Int) == (ls.length : Int))) = false := by simp
  go_enter Tryz.func20, Tryz.ntmps20
  go_wp2
  go_loopw [5] (fun ii wr => ∃ (k : Nat), ii = .int .i64 k ∧ k ≤ ls.length ∧ Hid (∃ q, wr = w.drewN q)) (fun ii _ => ls.length - (intOf ii).toNat)
  case atStart => exact ⟨0, rfl, Nat.zero_le _, ⟨0, rfl⟩⟩
  case round =>
    obtain ⟨k, rfl, hk, HQ⟩ := hrel
    obtain ⟨q, rfl⟩ := HQ.out
    clear HQ
    have HB : Hid (Below w.heap.size w (w.drewN q)) := drewN_below w q
    by_cases hlt : k < ls.length
    · have hlt' : decide ((k : Int) < (ls.length : Int)) = true := by simp; omega
      obtain ⟨b, off, rfl, hbw, hc0, _, _⟩ := H1.out k hlt
      obtain ⟨b', off', rfl, hbw', hd0, _, _⟩ := H2.out k hlt
      generalize ls[k] = x at hc0 hd0
      have hi0 : (0 : Int) ≤ (k : Int) := by omega
      have hi1 : (k : Int) < (ls.length : Int) := by omega
      have hxx : (x == x) = true := beq_self_eq_true _
      go_wp2_with fail
      go_quiet (fail)
      go_wp2
      go_roundw
      case rel => exact ⟨k + 1, by go_num, by omega, ⟨q + nq, by simp⟩⟩
      case measure => simp [intOf]; omega
    · have hlt' : decide ((k : Int) < (ls.length : Int)) = false := by simp; omega
      go_wp2
      go_ret
      exact ⟨rfl, HB.out⟩
theorem markIntS_row (g cap n : Nat) (C0 : Array Value) (k : Nat) (w : World) (hn : n ≤ 1048576) (hk : k ≤ 10000000) (hC : w.heap[g]? = some (.cells C0 3 (0, 0))) (hs : n ≤ C0.size) :
    Calls Tryz.prog 21 #[.slice (some ⟨g, 0, none⟩) n cap, .int .i64 (k : Int)] w fun e w' => e = .returned (.int .i64 ((k + n : Nat) : Int)) ∧ w.grownBy w' (some g) := by
  have HC0 := hide hC
  clear hC
  go_enter Tryz.func21, Tryz.ntmps21
  go_wp2
  go_loopw [1, 5] (fun kk ii wr => ∃ (j : Nat) (C : Array Value), kk = .int .i64 ((k + j : Nat) : Int) ∧ ii = .int .i64 j ∧ j ≤ n ∧ Hid (wr.heap[g]? = some (.cells C 3 (0, 0))) ∧ C.size = C0.size ∧ Hid (w.grownBy wr (some g))) (fun _ ii _ => n - (intOf ii).toNat)
  case atStart => exact ⟨0, C0, rfl, rfl, Nat.zero_le _, HC0, rfl, World.grownBy.refl _ _⟩
  case round =>
    obtain ⟨j, C, rfl, rfl, hj, HC, hCs, HG⟩ := hrel
    by_cases hlt : j < n
    · have hlt' : decide ((j : Int) < (n : Int)) = true := by simp; omega
      have hi0 : (0 : Int) ≤ (j : Int) := by omega
      have hi1 : (j : Int) < (n : Int) := by omega
      have hq0 := cell_of_row wr g j C _ (0, 0) HC.out
      have hf0 := frozen_of_row wr g j C _ HC.out
      rw [Array.getElem?_eq_getElem (by omega)] at hq0
      go_wp2
      go_roundw
      case rel => exact ⟨j + 1, _, by go_num, by go_num, by omega, heap_setCell_same _ g _ _ _ _ HC.out, by simpa using hCs, grownBy_store HG.out j _⟩
      case measure => simp [intOf]; omega
    · have hlt' : decide ((j : Int) < (n : Int)) = false := by simp; omega
      have hje : j = n := by omega
      subst hje
      go_wp2
      go_ret
      exact ⟨rfl, HG.out⟩
end Go.Proofs.YtlcfblodflgleaaGreatDoor
