/- Rows of texts as the laws hold them. -/
import Derived.Test.YtpibnhodlojajaaTxtA
import Derived.Test.YtpibnhodlojajaaMarkText
import Derived.Lib.SmallJoins
import Derived.OpenShut
namespace Go.Proofs.Ytpibnhodlojajaa
open Go.RowKit

/-- What a row leaves of a measure; below 0: it is too great. -/
def szTs : List ByteArray → Int → Int
  | [], n => n
  | s :: r, n => if n < (s.size : Int) then -1 else szTs r (n - s.size)
theorem szTs_small : ∀ (ts : List ByteArray) (n : Int), n ≤ 1048576 → 0 ≤ n → 0 ≤ szTs ts n → ∀ s ∈ ts, s.size ≤ 1048576
  | [], _, _, _, _, _, h => absurd h List.not_mem_nil
  | F :: r, n, h0, h1, h2, A, hA => by
    unfold szTs at h2
    split at h2
    · omega
    · rcases List.mem_cons.1 hA with rfl | hA
      · omega
      · exact szTs_small r _ (by omega) (by omega) h2 A hA
theorem szTs_le : ∀ (ts : List ByteArray) (n : Int), 0 ≤ n → szTs ts n ≤ n
  | [], _, _ => Int.le_refl _
  | F :: r, n, h => by
    unfold szTs
    split
    · omega
    · have := szTs_le r (n - F.size) (by omega)
      omega
/-- The same with the row's length counted. -/
def szTx (ts : List ByteArray) (n : Int) : Int := if n < ts.length then -1 else szTs ts (n - ts.length)
theorem szTx_le (ts : List ByteArray) (n : Int) (h : 0 ≤ n) : szTx ts n ≤ n := by
  unfold szTx
  split
  · omega
  · have := szTs_le ts (n - ts.length) (by omega)
    omega
theorem szTx_small {ts : List ByteArray} {n : Int} (h0 : n ≤ 1048576) (h : 0 ≤ szTx ts n) (hn : 0 ≤ n) : ts.length ≤ 1048576 ∧ ∀ s ∈ ts, s.size ≤ 1048576 := by
  unfold szTx at h
  split at h
  · omega
  · exact ⟨by omega, szTs_small ts _ (by omega) (by omega) h⟩

set_option maxRecDepth 100000 in
set_option maxHeartbeats 400000 in
theorem szStringS_any (ts : List ByteArray) (ao : Option Addr) (cap : Nat) (n : Int) (w : World) (h0 : 0 ≤ n) (h1 : n ≤ 1048576) (hl : ts.length ≤ maxLen) (hts : TextsAt w ao ts) (hsz : ∀ s ∈ ts, s.size ≤ maxLen) :
    Calls Try.prog 41 #[.slice ao ts.length cap, .int .i64 n] w fun e w' => e = .returned (.int .i64 (szTx ts n)) ∧ Below w.heap.size w w' := by
  have HF := hide hts
  have HS := hide hsz
  clear hts hsz
  unfold maxLen at hl
  unfold szTx
  by_cases hn : n < ts.length
  · have hn' : decide (n - (ts.length : Int) < 0) = true := by simp; omega
    rw [if_pos hn]
    go_enter Try.func41, Try.ntmps41
    go_wp2
    go_ret
    exact ⟨rfl, Below.refl _ _⟩
  · have hn' : decide (n - (ts.length : Int) < 0) = false := by simp; omega
    rw [if_neg hn]
    obtain ⟨R, HR⟩ : ∃ R, Hid (szTs ts (n - ts.length) = R) := ⟨_, rfl⟩
    rw [HR.out]
    go_enter Try.func41, Try.ntmps41
    go_wp2
    go_loop [1, 5] (fun m ii => ∃ (k : Nat) (x : Int), ii = .int .i64 k ∧ m = .int .i64 x ∧ k ≤ ts.length ∧ 0 ≤ x ∧ x ≤ 1048576 ∧ Hid (szTs (ts.drop k) x = R)) (fun _ ii => ts.length - (intOf ii).toNat)
    case atStart => exact ⟨0, n - ts.length, rfl, rfl, Nat.zero_le _, by omega, by omega, HR.out⟩
    case round =>
      obtain ⟨k, x, rfl, rfl, hk, hx0, hx1, HX⟩ := hrel
      by_cases hlt : k < ts.length
      · have hlt' : decide ((k : Int) < (ts.length : Int)) = true := by simp; omega
        obtain ⟨b, off, rfl, hbw, hc0⟩ := HF.out k hlt
        have hsA := HS.out ts[k] (List.getElem_mem hlt)
        unfold maxLen at hsA
        have HD : Hid (szTs (ts.drop k) x = if x < (ts[k].size : Int) then -1 else szTs (ts.drop (k + 1)) (x - ts[k].size)) := by show _ = _; rw [List.drop_eq_getElem_cons hlt]; rfl
        generalize ts[k] = F at hc0 hsA HD
        have hi0 : (0 : Int) ≤ (k : Int) := by omega
        have hi1 : (k : Int) < (ts.length : Int) := by omega
        by_cases hneg : x < (F.size : Int)
        · have hneg' : decide (x - (F.size : Int) < 0) = true := by simp; omega
          have hR : Hid (R = -1) := by show _ = _; rw [← HX.out, HD.out, if_pos hneg]
          go_wp2
          go_ret
          rw [hR.out]
          exact ⟨rfl, Below.refl _ _⟩
        · have hneg' : decide (x - (F.size : Int) < 0) = false := by simp; omega
          have hR : Hid (szTs (ts.drop (k + 1)) (x - F.size) = R) := by show _ = _; rw [← HX.out, HD.out, if_neg hneg]
          go_wp2
          go_round
          case rel => exact ⟨k + 1, x - F.size, by go_num, by go_num, by omega, by omega, by omega, hR⟩
          case measure => simp [intOf]; omega
      · have hlt' : decide ((k : Int) < (ts.length : Int)) = false := by simp; omega
        have hR : Hid (x = R) := by show _ = _; rw [← HX.out, List.drop_eq_nil_of_le (by omega)]; rfl
        go_wp2
        go_ret
        rw [← hR.out]
        exact ⟨rfl, Below.refl _ _⟩

set_option maxRecDepth 100000 in
set_option maxHeartbeats 400000 in
theorem toStringS_any (ts : List ByteArray) (ao : Option Addr) (cap : Nat) (w : World) (hl : ts.length ≤ 1048576) (hts : TextsAt w ao ts) :
    Calls Try.prog 42 #[.slice ao ts.length cap] w fun e w' => (∃ v, e = .returned v ∧ RowText w' w.heap.size v ts) ∧ Below w.heap.size w w' := by
  have HF := hide hts
  clear hts
  obtain ⟨i0, hi, hz0, hz1, hz2⟩ := info_parts Try.infoText
  obtain ⟨M, hM⟩ : ∃ M, M = madeCells (Value.string ⟨#[]⟩).cells (((ts.length : Nat) : Int).toNat * i0.size) := ⟨_, rfl⟩
  have hmk : ∀ W : World, (Instr.makeSlice 36 (.int .i64 (ts.length : Int)) (.int .i64 (ts.length : Int))).run Try.prog W = .ok (.slice (some ⟨W.heap.size, 0, none⟩) ts.length ts.length) (W.alloc (.cells M 9)) := fun W => by
    have h := run_make (P := Try.prog) W 36 9 i0 (.string ⟨#[]⟩) Try.underlying36 hi hz0 .i64 .i64 (ts.length : Int) (ts.length : Int) (by omega) (by omega) (by rw [hz2]; omega) (by omega)
    rw [← hM] at h
    simpa using h
  have hMs : M.size = ts.length := by rw [hM, size_madeCells, hz1]; simp
  clear hM
  go_enter Try.func42, Try.ntmps42
  go_wp2
  go_loopw [4] (fun ii wr => ∃ (k : Nat) (C : Array Value), ii = .int .i64 k ∧ k ≤ ts.length ∧ Hid (wr.heap[w.heap.size]? = some (.cells C 9 (0, 0))) ∧ C.size = ts.length ∧ Hid (TextsIn C ts k) ∧ Hid (Below w.heap.size w wr)) (fun ii _ => ts.length - (intOf ii).toNat)
  case atStart => exact ⟨0, M, rfl, Nat.zero_le _, heap_alloc_new w _, hMs, fun j _ hj => absurd hj (by omega), (Below.refl _ w).alloc (Nat.le_refl _) _⟩
  case round =>
    obtain ⟨k, C, rfl, hk, HC, hCs, HI, HB⟩ := hrel
    by_cases hlt : k < ts.length
    · have hlt' : decide ((k : Int) < (ts.length : Int)) = true := by simp; omega
      obtain ⟨b, off, rfl, hbw, hc0⟩ := textsAt_keep HF.out HB.out k hlt
      obtain ⟨F, HFk⟩ : ∃ F, Hid (ts[k] = F) := ⟨ts[k], hide rfl⟩
      rw [HFk.out] at hc0
      have hi0 : (0 : Int) ≤ (k : Int) := by omega
      have hi1 : (k : Int) < (ts.length : Int) := by omega
      have hq0 := cell_of_row wr w.heap.size k C 9 (0, 0) HC.out
      have hf0 := frozen_of_row wr w.heap.size k C 9 HC.out
      rw [Array.getElem?_eq_getElem (by omega)] at hq0
      have HN : Hid (TextsIn (C.setIfInBounds k (.string F)) ts (k + 1)) := by have := textsIn_put HI.out hlt (by omega); rw [HFk.out] at this; exact this
      have HC2 := hide (heap_setCell_same wr w.heap.size k C 9 (.string F) HC.out)
      have HB2 := hide (HB.out.setCell (p := ⟨w.heap.size, k, none⟩) (Nat.le_refl _) (.string F))
      go_wp2_with fail
      go_roundw
      case rel => exact ⟨k + 1, C.setIfInBounds k (.string F), by go_num, by omega, HC2, by simpa using hCs, HN, HB2⟩
      case measure => simp [intOf]; omega
    · have hlt' : decide ((k : Int) < (ts.length : Int)) = false := by simp; omega
      have hke : k = ts.length := by omega
      subst hke
      go_wp2
      go_ret
      exact ⟨⟨_, rfl, .inr ⟨w.heap.size, ts.length, C, rfl, Nat.le_refl _, HC.out, by omega, HI.out⟩⟩, HB.out⟩

set_option maxRecDepth 100000 in
set_option maxHeartbeats 800000 in
theorem eqStringS_same (ts : List ByteArray) (ao ao2 : Option Addr) (cap cap2 : Nat) (w : World) (hl : ts.length ≤ maxLen) (h1 : TextsAt w ao ts) (h2 : TextsAt w ao2 ts) :
    Calls Try.prog 44 #[.slice ao ts.length cap, .slice ao2 ts.length cap2] w fun e w' => e = .returned (.bool true) ∧ Below w.heap.size w w' := by
  have H1 := hide h1
  have H2 := hide h2
  clear h1 h2
  unfold maxLen at hl
  have hne : (!((ts.length : Int) == (ts.length : Int))) = false := by simp
  go_enter Try.func44, Try.ntmps44
  go_wp2
  go_loopw [5] (fun ii wr => ∃ (k q : Nat), ii = .int .i64 k ∧ k ≤ ts.length ∧ wr = w.drewN q) (fun ii _ => ts.length - (intOf ii).toNat)
  case atStart => exact ⟨0, 0, rfl, Nat.zero_le _, rfl⟩
  case round =>
    obtain ⟨k, q, rfl, hk, rfl⟩ := hrel
    by_cases hlt : k < ts.length
    · have hlt' : decide ((k : Int) < (ts.length : Int)) = true := by simp; omega
      obtain ⟨b, off, rfl, hbw, hc0⟩ := H1.out k hlt
      obtain ⟨b', off', rfl, hbw', hd0⟩ := H2.out k hlt
      generalize ts[k] = F at hc0 hd0
      have hi0 : (0 : Int) ≤ (k : Int) := by omega
      have hi1 : (k : Int) < (ts.length : Int) := by omega
      have hee : (F.toList == F.toList) = true := beq_self_eq_true _
      go_wp2
      go_quiet (fail)
      go_wp2
      go_roundw
      case rel => exact ⟨k + 1, q + nq, by go_num, by omega, rfl⟩
      case measure => simp [intOf]; omega
    · have hlt' : decide ((k : Int) < (ts.length : Int)) = false := by simp; omega
      go_wp2
      go_ret
      exact ⟨rfl, drewN_below w q⟩

/-- The marks k, k + 1, .., n of them. -/
def markTs (k n : Nat) : List ByteArray := (List.range n).map (fun j => ⟨(mk (k + j)).toArray⟩)
theorem markTs_length (k n : Nat) : (markTs k n).length = n := by simp [markTs]
theorem markTs_get (k n j : Nat) (h : j < (markTs k n).length) : (markTs k n)[j] = ⟨(mk (k + j)).toArray⟩ := by simp [markTs]

set_option maxRecDepth 100000 in
set_option maxHeartbeats 800000 in
theorem markStringS_row (v : Value) (ts : List ByteArray) (B k : Nat) (w : World) (hn : ts.length ≤ 1048576) (hk0 : 0 < k) (hk : k ≤ 10000000) (h : RowText w B v ts) :
    Calls Try.prog 24 #[v, .int .i64 (k : Int)] w fun e w' => e = .returned (.int .i64 ((k + ts.length : Nat) : Int)) ∧ RowText w' B v (markTs k ts.length) ∧ w.grownBy w' v.ownBlock := by
  rcases h with ⟨rfl, rfl⟩ | ⟨g, cap, C0, rfl, hB, hC, hs, hI⟩
  · go_enter Try.func24, Try.ntmps24
    go_wp2
    go_loop [1, 5] (fun kk ii => kk = .int .i64 k ∧ ii = .int .i64 0) (fun _ _ => 0)
    case atStart => exact ⟨rfl, rfl⟩
    case round =>
      obtain ⟨rfl, rfl⟩ := hrel
      go_wp2
      go_ret
      exact ⟨rfl, .inl ⟨rfl, rfl⟩, World.grownBy.refl _ _⟩
  · have HC0 := hide hC
    clear hC hI
    obtain ⟨n, HN⟩ : ∃ n, Hid (ts.length = n) := ⟨_, hide rfl⟩
    rw [HN.out] at hn hs ⊢
    clear HN
    go_enter Try.func24, Try.ntmps24
    go_wp2
    go_loopw [1, 5] (fun kk ii wr => ∃ (j : Nat) (C : Array Value), kk = .int .i64 ((k + j : Nat) : Int) ∧ ii = .int .i64 j ∧ j ≤ n ∧ Hid (wr.heap[g]? = some (.cells C 9 (0, 0))) ∧ C.size = C0.size ∧ Hid (TextsIn C (markTs k n) j) ∧ Hid (w.grownBy wr (some g))) (fun _ ii _ => n - (intOf ii).toNat)
    case atStart => exact ⟨0, C0, rfl, rfl, Nat.zero_le _, HC0, rfl, fun j _ hj => absurd hj (by omega), World.grownBy.refl _ _⟩
    case round =>
      obtain ⟨j, C, rfl, rfl, hj, HC, hCs, HI, HG⟩ := hrel
      by_cases hlt : j < n
      · have hlt' : decide ((j : Int) < (n : Int)) = true := by simp; omega
        have hi0 : (0 : Int) ≤ (j : Int) := by omega
        have hi1 : (j : Int) < (n : Int) := by omega
        have hgw : g < wr.heap.size := (Array.getElem?_eq_some_iff.1 HC.out).1
        obtain ⟨K, HK⟩ : ∃ K : Nat, Hid (K = k + j) := ⟨_, hide rfl⟩
        have hKb : 0 < K ∧ K ≤ 15000000 := by have := HK.out; omega
        rw [← HK.out]
        go_wp2_with fail
        refine (mark_any K _ hKb.1 (by omega)).mono ?_
        rintro e w1 ⟨rfl, b1⟩
        have HC1 : Hid (w1.heap[g]? = some (.cells C 9 (0, 0))) := (b1.block g hgw).trans HC.out
        have HG1 : Hid (w.grownBy w1 (some g)) := grownBy_trans HG.out (grownBy_below _ b1)
        have hq0 := cell_of_row w1 g j _ _ (0, 0) HC1.out
        have hf0 := frozen_of_row w1 g j _ _ HC1.out
        rw [Array.getElem?_eq_getElem (by omega)] at hq0
        clear b1
        go_wp2_with fail
        go_roundw
        case rel =>
          have hl := markTs_length k n
          have HP := textsIn_put HI.out (by omega) (by omega)
          rw [markTs_get, ← HK.out] at HP
          refine ⟨j + 1, C.setIfInBounds j (.string ⟨(mk K).toArray⟩), ?_, by go_num, by omega, heap_setCell_same _ g _ _ _ _ HC1.out, by simpa using hCs, HP, grownBy_store HG1.out j _⟩
          have := HK.out
          congr 1
          omega
        case measure => simp [intOf]; omega
      · have hlt' : decide ((j : Int) < (n : Int)) = false := by simp; omega
        have hje : j = n := by omega
        subst hje
        go_wp2
        go_ret
        have hl := markTs_length k j
        exact ⟨rfl, .inr ⟨g, cap, C, by rw [hl], hB, HC.out, by omega, by rw [hl]; exact HI.out⟩, HG.out⟩

set_option maxRecDepth 100000 in
set_option maxHeartbeats 800000 in
theorem heldStringS_any (ao : Option Addr) (cap n k : Nat) (w : World) (hn : n ≤ 1048576) (hk0 : 0 < k) (hk : k ≤ 10000000) (h : TextsAt w ao (markTs k n)) :
    Calls Try.prog 25 #[.slice ao n cap, .int .i64 (k : Int)] w fun e w' => e = .returned (.int .i64 ((k + n : Nat) : Int)) ∧ Below w.heap.size w w' := by
  have HF := hide h
  clear h
  go_enter Try.func25, Try.ntmps25
  go_wp2
  go_loopw [1, 5] (fun kk ii wr => ∃ (j : Nat), kk = .int .i64 ((k + j : Nat) : Int) ∧ ii = .int .i64 j ∧ j ≤ n ∧ Hid (Below w.heap.size w wr)) (fun _ ii _ => n - (intOf ii).toNat)
  case atStart => exact ⟨0, rfl, rfl, Nat.zero_le _, Below.refl _ _⟩
  case round =>
    obtain ⟨j, rfl, rfl, hj, HB⟩ := hrel
    by_cases hlt : j < n
    · have hlt' : decide ((j : Int) < (n : Int)) = true := by simp; omega
      have hi0 : (0 : Int) ≤ (j : Int) := by omega
      have hi1 : (j : Int) < (n : Int) := by omega
      obtain ⟨b, off, rfl, hbw, hc0⟩ := textsAt_keep HF.out HB.out j (by rw [markTs_length]; exact hlt)
      rw [markTs_get] at hc0
      obtain ⟨K, HK⟩ : ∃ K : Nat, Hid (K = k + j) := ⟨_, hide rfl⟩
      have hKb : 0 < K ∧ K ≤ 15000000 := by have := HK.out; omega
      rw [← HK.out] at hc0 ⊢
      obtain ⟨s0, hs0⟩ : ∃ s0 : ByteArray, s0 = ⟨(mk K).toArray⟩ := ⟨_, rfl⟩
      have hd0 : wr.cell? ⟨b, off + j, none⟩ = some (.string s0) := by rw [hs0]; exact hc0
      have he0 : (s0.toList == s0.toList) = true := beq_self_eq_true _
      have HM0 : Hid (∀ W, Calls Try.prog 23 #[.int .i64 ((K : Int))] W fun e w' => e = .returned (.string s0) ∧ Below W.heap.size W w') := fun W => by rw [hs0]; exact mark_any K W hKb.1 (by omega)
      clear hc0 hs0
      have HBW := hide hbw
      clear hbw
      have B0 : Hid (Below wr.heap.size wr wr) := Below.refl _ _
      go_wp2_with fail
      go_region_held3 (fun w' => w'.cell? ⟨b, off + j, none⟩ = some (.string s0)) (first | go_keep | (exact (b1.cell (p := ⟨b, off + j, none⟩) HBW.out).trans hd0)) ((go_at_call 23; refine (HM0.out _).mono ?_; rintro e v1 ⟨rfl, b1⟩))
      have B1 : Hid (Below wr.heap.size wr v1) := B0.out.trans (((Below.refl _ _).drew.trans b1).mono B0.out.size)
      clear b1
      go_wp2
      go_roundw
      case rel =>
        refine ⟨j + 1, ?_, by go_num, by omega, HB.out.trans (B1.out.mono HB.out.size)⟩
        have := HK.out
        congr 1
        omega
      case measure => simp [intOf]; omega
    · have hlt' : decide ((j : Int) < (n : Int)) = false := by simp; omega
      have hje : j = n := by omega
      subst hje
      go_wp2
      go_ret
      exact ⟨rfl, HB.out⟩

open Go.ChangeShapes Go.WideShapes Go.Deep Go.Joins in
set_option maxRecDepth 100000 in
/-- A row of texts that came in, opened out of its own cell. -/
theorem texts_in {H : Type} {enc : TypeId × Value → H} {w : World} {fuel : Nat} {v : Value} {z : DataW H × List MemPlace} (h : DataW.trod enc Try.prog w 0 (fun _ => true) true fuel 36 [v] = some z) :
    ∃ (ao : Option Addr) (ts : List ByteArray) (cap : Nat), v = .slice ao ts.length cap ∧ ts.length ≤ maxLen ∧ TextsAt w ao ts ∧ ∀ s ∈ ts, s.size ≤ maxLen := by
  have hc : Try.prog.cellsOf 9 = 1 := by kernel_rfl
  rcases open_slice Try.underlying36 h with ⟨e, _⟩ | ⟨a, l0, c0, m, n', D, Pl, e, _, hle, hmx, hm, _, hel⟩
  · simp at e
    subst e
    exact ⟨none, [], 0, rfl, by unfold maxLen; simp, fun j hj => absurd hj (by simp), fun F hF => absurd hF List.not_mem_nil⟩
  · simp at e
    subst e
    rw [hc] at hel
    have hm' : l0 ≤ m := by rw [hm]; simpa using hle
    have hch : ∀ i, i < l0 → ∃ A : ByteArray, w.cells? 0 (a.add (i * 1)) 1 = some [.string A] ∧ A.size ≤ maxLen := by
      intro i hi
      obtain ⟨cs', g1, g2⟩ := hel i (by omega)
      obtain ⟨s0, e0, _, z0⟩ := DataW.trod_string Try.underlying9 g2
      subst e0
      exact ⟨s0, g1, z0⟩
    haveI : Inhabited ByteArray := ⟨⟨#[]⟩⟩
    obtain ⟨G, hG⟩ := choose_lt hch
    refine ⟨some a, (List.range l0).map G, c0, by simp, by simp; omega, ?_, ?_⟩
    · intro j hj
      have hj' : j < l0 := by simpa using hj
      have g1 := (hG j hj').1
      obtain ⟨_, _, hcell⟩ := World.cells?_some g1
      have q0 := hcell 0 (by omega)
      obtain ⟨b, off, spot⟩ := a
      have hspot : spot = none := by
        obtain ⟨_, _, hcell0⟩ := World.cells?_some (hG 0 (by omega)).1
        have q := hcell0 0 (by omega)
        simpa [Addr.add] using World.cell?_spot q
      subst hspot
      have ha : ∀ o i, ((⟨b, o, none⟩ : Addr).add i) = ⟨b, o + i, none⟩ := by intro o i; cases i <;> simp [Addr.add]
      simp only [ha] at q0
      refine ⟨b, off, rfl, ?_, ?_⟩
      · rcases Nat.lt_or_ge b w.heap.size with h | h
        · exact h
        · unfold World.cell? at q0
          rw [show w.heap[(⟨b, off + j * 1 + 0, none⟩ : Addr).block]? = none from Array.getElem?_eq_none h] at q0
          cases q0
      · simpa using q0
    · intro A hA
      obtain ⟨i, hi, rfl⟩ := List.mem_map.1 hA
      exact (hG i (by simpa using hi)).2
end Go.Proofs.Ytpibnhodlojajaa
