import Derived.Test.YtpibnhodlojajaaFl0
import Derived.Test.YtpibnhodlojajaaFl5
set_option maxRecDepth 100000
set_option maxHeartbeats 3200000
namespace Go.Proofs.Ytpibnhodlojajaa
open Go.RowKit
theorem specTableOk_any (es : List EntD) (ao : Option Addr) (cap : Nat) (w : World) (R : Bool) (hR : R = true ↔ TabR es) (hl : es.length ≤ 1048576) (hes : EntriesAt w ao es) (hsz : ∀ e ∈ es, EntS 1048576 e) :
    Calls Try.prog 17 #[.slice ao es.length cap] w fun e w' => e = .returned (.bool R) ∧ Below w.heap.size w w' := by
  have HF := hide hes
  have HS := hide hsz
  have HR := hide hR
  clear hes hsz hR
  by_cases h1 : 20 < es.length
  · have h1' : decide ((20 : Int) < (es.length : Int)) = true := by simp; omega
    have hF : R = false := by
      cases R
      · rfl
      · have := (HR.out.1 rfl).1; omega
    subst hF
    go_enter Try.func17, Try.ntmps17
    go_wp2
    go_ret
    exact ⟨rfl, Below.refl _ _⟩
  have h1' : decide ((20 : Int) < (es.length : Int)) = false := by simp; omega
  go_enter Try.func17, Try.ntmps17
  go_wp2
  go_loopw [3] (fun ii wr => ∃ (k : Nat), ii = .int .i64 k ∧ k ≤ es.length ∧ Hid (EntsR es k) ∧ Hid (Below w.heap.size w wr)) (fun ii _ => es.length - (intOf ii).toNat)
  case atStart => exact ⟨0, rfl, Nat.zero_le _, entsR_zero es, Below.refl _ _⟩
  case round =>
    obtain ⟨k, rfl, hk, HK, HB⟩ := hrel
    by_cases hlt : k < es.length
    · have hlt' : decide ((k : Int) < (es.length : Int)) = true := by simp; omega
      obtain ⟨b, off, rfl, hbw, hc0, hc1, hc2, hc3, a, c, hc4, hta⟩ := entriesAt_keep HF.out HB.out k hlt
      have hsA := HS.out es[k] (List.getElem_mem hlt)
      have HNX := hide (fun h1 h2 h3 => entsR_next HK.out hlt h1 h2 h3)
      have HNO := hide (fun (h : TabR es) => entsR_of h k hlt)
      obtain ⟨r, Hr⟩ : ∃ r : Bool, Hid (r = true ↔ ValR es[k].val) := by classical exact ⟨decide (ValR es[k].val), by show _ ↔ _; simp⟩
      have HVO := hide (fun W (hW : Below wr.heap.size wr W) => specValOk_any es[k].val a c W r Hr.out hsA.2.2.1 (by have := hsA.2.1; unfold maxLen; omega) (textsAt_keep hta hW) (fun s hs => by have := hsA.2.2.2 s hs; unfold maxLen; omega))
      obtain ⟨F, HFk⟩ : ∃ F, Hid (es[k] = F) := ⟨_, hide rfl⟩
      have hks := hsA.1
      rw [HFk.out] at hc0 hc1 hc2 hc3 hc4 HVO Hr HNX HNO hks
      clear hsA hta
      have HVO2 : Hid (∀ W, Below wr.heap.size wr W → Calls Try.prog 33 #[.agg #[.int .i64 F.val.kind, .int .i64 F.val.til, .string F.val.text, .slice a F.val.items.length c]] W fun e w' => e = .returned (.bool r) ∧ Below wr.heap.size wr w') := fun W hW => (HVO.out W hW).mono (fun e w' h => ⟨h.1, hW.trans (h.2.mono hW.size)⟩)
      obtain ⟨key, kd, u, t, ts⟩ := F
      simp only at hc0 hc1 hc2 hc3 hc4 HVO2 HNX HNO hks
      have hi0 : (0 : Int) ≤ (k : Int) := by omega
      have hi1 : (k : Int) < (es.length : Int) := by omega
      have e1 : (decide ((1 : Int) ≤ (key.size : Int)) && decide ((key.size : Int) ≤ 20)) = (decide (1 ≤ key.size) && decide (key.size ≤ 20)) := by congr 1 <;> rw [decide_eq_decide] <;> omega
      have KS : Hid (∀ X, Below wr.heap.size wr X → X.cell? ⟨b, off + k * 5, none⟩ = some (.string key) ∧ X.cell? ⟨b, off + k * 5 + 1, none⟩ = some (.int .i64 kd) ∧ X.cell? ⟨b, off + k * 5 + 2, none⟩ = some (.int .i64 u) ∧ X.cell? ⟨b, off + k * 5 + 3, none⟩ = some (.string t) ∧ X.cell? ⟨b, off + k * 5 + 4, none⟩ = some (.slice a ts.length c)) :=
        fun X hX => ⟨(hX.cell (p := ⟨b, off + k * 5, none⟩) hbw).trans hc0, (hX.cell (p := ⟨b, off + k * 5 + 1, none⟩) hbw).trans hc1, (hX.cell (p := ⟨b, off + k * 5 + 2, none⟩) hbw).trans hc2, (hX.cell (p := ⟨b, off + k * 5 + 3, none⟩) hbw).trans hc3, (hX.cell (p := ⟨b, off + k * 5 + 4, none⟩) hbw).trans hc4⟩
      cases h1k : (decide (1 ≤ key.size) && decide (key.size ≤ 20))
      · have h1 := e1.trans h1k
        have hR : Hid (R = false) := by
          show _ = _
          cases R
          · rfl
          · have h := (HNO.out (HR.out.1 rfl)).1; have h' : ¬ (1 ≤ key.size ∧ key.size ≤ 20) := (by simpa using h1k); exact absurd h h'
        go_wp2
        go_quiet ((go_at_call 32; exact Calls.quiet_of_same (l01In_val _ _ _ _ _ h1)))
        go_wp2
        go_ret
        rw [hR.out]
        exact ⟨rfl, below_drewN HB.out _⟩
      have hkr : 1 ≤ key.size ∧ key.size ≤ 20 := by simpa using h1k
      have h1 := e1.trans h1k
      have L1 : Hid (∀ W, Below wr.heap.size wr W → Calls Try.prog 32 #[.int .i64 (key.size : Int), .int .i64 1, .int .i64 20] W fun e w' => e = .returned (.bool true) ∧ Below wr.heap.size wr w') := fun W hW => (l01In_val _ _ _ _ W h1).mono (fun e w' h => ⟨h.1, by rw [h.2]; exact hW⟩)
      by_cases hp : 0 < k
      case neg =>
        have hp1 : decide ((0 : Int) < (k : Int)) = false := by simp; omega
        have hp2 : decide (0 < k) = false := by simp; omega
        go_wp2
        refine wp_region_quiet (C := fun W => Below wr.heap.size wr W) (by kernel_rfl) (by kernel_rfl) (Below.refl _ _).drew (WQ.out ?_)
        refine WQ.run (v := .slice (some ⟨b, off, none⟩) es.length cap) (by kernel_rfl) (fun W hW => ?hy) ?_
        case hy => go_simp
        simp only [Act.put, List.setIfInBounds_toArray, List.set_cons_zero, List.set_cons_succ]
        refine WQ.run (v := .int .i64 (k : Int)) (by kernel_rfl) (fun W hW => ?hy) ?_
        case hy => go_simp
        simp only [Act.put, List.setIfInBounds_toArray, List.set_cons_zero, List.set_cons_succ]
        refine WQ.run (v := .pointer (some ⟨b, off + k * 5, none⟩)) (by kernel_rfl) (fun W hW => ?hy) ?_
        case hy => go_simp
        simp only [Act.put, List.setIfInBounds_toArray, List.set_cons_zero, List.set_cons_succ]
        refine WQ.run (v := .pointer (some ⟨b, off + k * 5, none⟩)) (by kernel_rfl) (fun W hW => ?hy) ?_
        case hy => go_simp
        simp only [Act.put, List.setIfInBounds_toArray, List.set_cons_zero, List.set_cons_succ]
        refine WQ.run (v := .string key) (by kernel_rfl) (fun W hW => ?hy) ?_
        case hy => obtain ⟨hx0, hx1, hx2, hx3, hx4⟩ := KS.out W hW; go_simp
        simp only [Act.put, List.setIfInBounds_toArray, List.set_cons_zero, List.set_cons_succ]
        refine WQ.run (v := .int .i64 (key.size : Int)) (by kernel_rfl) (fun W hW => ?hy) ?_
        case hy => go_simp
        simp only [Act.put, List.setIfInBounds_toArray, List.set_cons_zero, List.set_cons_succ]
        refine WQ.call (v := .bool true) (by kernel_rfl) (fun W hW => ?hy) (fun W hW => L1.out W hW) ?_
        case hy => go_simp; (try with_reducible rfl)
        simp only [Act.put, List.setIfInBounds_toArray, List.set_cons_zero, List.set_cons_succ]
        refine WQ.run (v := .bool false) (by kernel_rfl) (fun W hW => ?hy) ?_
        case hy => go_simp
        simp only [Act.put, List.setIfInBounds_toArray, List.set_cons_zero, List.set_cons_succ]
        refine WQ.run (v := .bool false) (by kernel_rfl) (fun W hW => ?hy) ?_
        case hy => go_simp
        simp only [Act.put, List.setIfInBounds_toArray, List.set_cons_zero, List.set_cons_succ]
        refine WQ.run (v := .int .i64 (k : Int)) (by kernel_rfl) (fun W hW => ?hy) ?_
        case hy => go_simp
        simp only [Act.put, List.setIfInBounds_toArray, List.set_cons_zero, List.set_cons_succ]
        refine WQ.run (v := .bool false) (by kernel_rfl) (fun W hW => ?hy) ?_
        case hy => go_simp
        simp only [Act.put, List.setIfInBounds_toArray, List.set_cons_zero, List.set_cons_succ]
        refine WQ.run (v := .bool false) (by kernel_rfl) (fun W hW => ?hy) ?_
        case hy => go_simp
        simp only [Act.put, List.setIfInBounds_toArray, List.set_cons_zero, List.set_cons_succ]
        refine WQ.skip (by kernel_rfl) ?_
        simp only [Act.put, List.setIfInBounds_toArray, List.set_cons_zero, List.set_cons_succ]
        refine WQ.skip (by kernel_rfl) ?_
        simp only [Act.put, List.setIfInBounds_toArray, List.set_cons_zero, List.set_cons_succ]
        refine WQ.skip (by kernel_rfl) ?_
        simp only [Act.put, List.setIfInBounds_toArray, List.set_cons_zero, List.set_cons_succ]
        refine WQ.skip (by kernel_rfl) ?_
        simp only [Act.put, List.setIfInBounds_toArray, List.set_cons_zero, List.set_cons_succ]
        refine WQ.skip (by kernel_rfl) ?_
        simp only [Act.put, List.setIfInBounds_toArray, List.set_cons_zero, List.set_cons_succ]
        refine WQ.skip (by kernel_rfl) ?_
        simp only [Act.put, List.setIfInBounds_toArray, List.set_cons_zero, List.set_cons_succ]
        refine WQ.skip (by kernel_rfl) ?_
        simp only [Act.put, List.setIfInBounds_toArray, List.set_cons_zero, List.set_cons_succ]
        refine WQ.skip (by kernel_rfl) ?_
        simp only [Act.put, List.setIfInBounds_toArray, List.set_cons_zero, List.set_cons_succ]
        refine WQ.skip (by kernel_rfl) ?_
        simp only [Act.put, List.setIfInBounds_toArray, List.set_cons_zero, List.set_cons_succ]
        refine WQ.skip (by kernel_rfl) ?_
        simp only [Act.put, List.setIfInBounds_toArray, List.set_cons_zero, List.set_cons_succ]
        refine WQ.skip (by kernel_rfl) ?_
        simp only [Act.put, List.setIfInBounds_toArray, List.set_cons_zero, List.set_cons_succ]
        refine WQ.skip (by kernel_rfl) ?_
        simp only [Act.put, List.setIfInBounds_toArray, List.set_cons_zero, List.set_cons_succ]
        refine WQ.run (v := .bool false) (by kernel_rfl) (fun W hW => ?hy) ?_
        case hy => go_simp
        simp only [Act.put, List.setIfInBounds_toArray, List.set_cons_zero, List.set_cons_succ]
        refine WQ.run (v := .bool false) (by kernel_rfl) (fun W hW => ?hy) ?_
        case hy => go_simp
        simp only [Act.put, List.setIfInBounds_toArray, List.set_cons_zero, List.set_cons_succ]
        refine WQ.run (v := .bool false) (by kernel_rfl) (fun W hW => ?hy) ?_
        case hy => go_simp
        simp only [Act.put, List.setIfInBounds_toArray, List.set_cons_zero, List.set_cons_succ]
        refine WQ.run (v := .slice (some ⟨b, off, none⟩) es.length cap) (by kernel_rfl) (fun W hW => ?hy) ?_
        case hy => go_simp
        simp only [Act.put, List.setIfInBounds_toArray, List.set_cons_zero, List.set_cons_succ]
        refine WQ.run (v := .int .i64 (k : Int)) (by kernel_rfl) (fun W hW => ?hy) ?_
        case hy => go_simp
        simp only [Act.put, List.setIfInBounds_toArray, List.set_cons_zero, List.set_cons_succ]
        refine WQ.run (v := .pointer (some ⟨b, off + k * 5, none⟩)) (by kernel_rfl) (fun W hW => ?hy) ?_
        case hy => go_simp
        simp only [Act.put, List.setIfInBounds_toArray, List.set_cons_zero, List.set_cons_succ]
        refine WQ.run (v := .pointer (some ⟨b, off + k * 5 + 1, none⟩)) (by kernel_rfl) (fun W hW => ?hy) ?_
        case hy => go_simp
        simp only [Act.put, List.setIfInBounds_toArray, List.set_cons_zero, List.set_cons_succ]
        refine WQ.run (v := .agg #[.int .i64 kd, .int .i64 u, .string t, .slice a ts.length c]) (by kernel_rfl) (fun W hW => ?hy) ?_
        case hy => obtain ⟨hx0, hx1, hx2, hx3, hx4⟩ := KS.out W hW; go_simp; (try with_reducible rfl)
        simp only [Act.put, List.setIfInBounds_toArray, List.set_cons_zero, List.set_cons_succ]
        refine WQ.call (v := .bool r) (by kernel_rfl) (fun W hW => ?hy) (fun W hW => HVO2.out W hW) ?_
        case hy => go_simp; (try with_reducible rfl)
        simp only [Act.put, List.setIfInBounds_toArray, List.set_cons_zero, List.set_cons_succ]
        refine WQ.run (v := .bool (!r)) (by kernel_rfl) (fun W hW => ?hy) ?_
        case hy => go_simp
        simp only [Act.put, List.setIfInBounds_toArray, List.set_cons_zero, List.set_cons_succ]
        refine WQ.run (v := .bool (!r)) (by kernel_rfl) (fun W hW => ?hy) ?_
        case hy => go_simp
        simp only [Act.put, List.setIfInBounds_toArray, List.set_cons_zero, List.set_cons_succ]
        refine WQ.nil ?_
        intro wx hwx
        cases r
        · have hR : Hid (R = false) := by
            show _ = _
            cases R
            · rfl
            · exact absurd (Hr.out.2 (HNO.out (HR.out.1 rfl)).2.1) (by simp)
          go_wp2
          go_ret
          rw [hR.out]
          exact ⟨rfl, HB.out.trans (hwx.mono HB.out.size)⟩
        · have HK1 : Hid (EntsR es (k + 1)) := HNX.out hkr (Hr.out.1 rfl) (fun h => absurd h hp)
          go_wp2
          go_roundw
          case rel => exact ⟨k + 1, by go_num, by omega, HK1, HB.out.trans (hwx.mono HB.out.size)⟩
          case measure => simp [intOf]; omega
      have hp1 : decide ((0 : Int) < (k : Int)) = true := by simp; omega
      have hp2 : decide (0 < k) = true := by simp; omega
      obtain ⟨b', off', hbe, hbw', hd0, -⟩ := entriesAt_keep HF.out HB.out (k - 1) (by omega)
      obtain ⟨rfl, rfl⟩ : b = b' ∧ off = off' := by simpa using hbe
      obtain ⟨G, HG⟩ : ∃ G, Hid (es[k - 1].key = G) := ⟨_, hide rfl⟩
      rw [HG.out] at hd0
      clear hbe
      have hw : IntKind.i64.wrap ((k : Int) - 1) = ((k - 1 : Nat) : Int) := by rw [IntKind.wrap_i64]; omega
      have hj0 : (0 : Int) ≤ ((k - 1 : Nat) : Int) := by omega
      have hj1 : ((k - 1 : Nat) : Int) < (es.length : Int) := by omega
      have KG : Hid (∀ X, Below wr.heap.size wr X → X.cell? ⟨b, off + (k - 1) * 5, none⟩ = some (.string G)) := fun X hX => (hX.cell (p := ⟨b, off + (k - 1) * 5, none⟩) hbw).trans hd0
      cases hless : Op.bytesLess G.toList key.toList
      · have hno := hless
        have hR : Hid (R = false) := by
          show _ = _
          cases R
          · rfl
          · have h := (HNO.out (HR.out.1 rfl)).2.2 hp; rw [HG.out, hless] at h; cases h
        go_wp2
        go_quiet ((go_at_call 32; exact Calls.quiet_of_same (l01In_val _ _ _ _ _ h1)))
        go_wp2
        go_ret
        rw [hR.out]
        exact ⟨rfl, below_drewN HB.out _⟩
      · have hyes := hless
        go_wp2
        refine wp_region_quiet (C := fun W => Below wr.heap.size wr W) (by kernel_rfl) (by kernel_rfl) (Below.refl _ _).drew (WQ.out ?_)
        refine WQ.run (v := .slice (some ⟨b, off, none⟩) es.length cap) (by kernel_rfl) (fun W hW => ?hy) ?_
        case hy => go_simp
        simp only [Act.put, List.setIfInBounds_toArray, List.set_cons_zero, List.set_cons_succ]
        refine WQ.run (v := .int .i64 (k : Int)) (by kernel_rfl) (fun W hW => ?hy) ?_
        case hy => go_simp
        simp only [Act.put, List.setIfInBounds_toArray, List.set_cons_zero, List.set_cons_succ]
        refine WQ.run (v := .pointer (some ⟨b, off + k * 5, none⟩)) (by kernel_rfl) (fun W hW => ?hy) ?_
        case hy => go_simp
        simp only [Act.put, List.setIfInBounds_toArray, List.set_cons_zero, List.set_cons_succ]
        refine WQ.run (v := .pointer (some ⟨b, off + k * 5, none⟩)) (by kernel_rfl) (fun W hW => ?hy) ?_
        case hy => go_simp
        simp only [Act.put, List.setIfInBounds_toArray, List.set_cons_zero, List.set_cons_succ]
        refine WQ.run (v := .string key) (by kernel_rfl) (fun W hW => ?hy) ?_
        case hy => obtain ⟨hx0, hx1, hx2, hx3, hx4⟩ := KS.out W hW; go_simp
        simp only [Act.put, List.setIfInBounds_toArray, List.set_cons_zero, List.set_cons_succ]
        refine WQ.run (v := .int .i64 (key.size : Int)) (by kernel_rfl) (fun W hW => ?hy) ?_
        case hy => go_simp
        simp only [Act.put, List.setIfInBounds_toArray, List.set_cons_zero, List.set_cons_succ]
        refine WQ.call (v := .bool true) (by kernel_rfl) (fun W hW => ?hy) (fun W hW => L1.out W hW) ?_
        case hy => go_simp; (try with_reducible rfl)
        simp only [Act.put, List.setIfInBounds_toArray, List.set_cons_zero, List.set_cons_succ]
        refine WQ.run (v := .bool false) (by kernel_rfl) (fun W hW => ?hy) ?_
        case hy => go_simp
        simp only [Act.put, List.setIfInBounds_toArray, List.set_cons_zero, List.set_cons_succ]
        refine WQ.run (v := .bool false) (by kernel_rfl) (fun W hW => ?hy) ?_
        case hy => go_simp
        simp only [Act.put, List.setIfInBounds_toArray, List.set_cons_zero, List.set_cons_succ]
        refine WQ.run (v := .int .i64 (k : Int)) (by kernel_rfl) (fun W hW => ?hy) ?_
        case hy => go_simp
        simp only [Act.put, List.setIfInBounds_toArray, List.set_cons_zero, List.set_cons_succ]
        refine WQ.run (v := .bool true) (by kernel_rfl) (fun W hW => ?hy) ?_
        case hy => go_simp
        simp only [Act.put, List.setIfInBounds_toArray, List.set_cons_zero, List.set_cons_succ]
        refine WQ.run (v := .bool true) (by kernel_rfl) (fun W hW => ?hy) ?_
        case hy => go_simp
        simp only [Act.put, List.setIfInBounds_toArray, List.set_cons_zero, List.set_cons_succ]
        refine WQ.run (v := .slice (some ⟨b, off, none⟩) es.length cap) (by kernel_rfl) (fun W hW => ?hy) ?_
        case hy => go_simp
        simp only [Act.put, List.setIfInBounds_toArray, List.set_cons_zero, List.set_cons_succ]
        refine WQ.run (v := .int .i64 (k : Int)) (by kernel_rfl) (fun W hW => ?hy) ?_
        case hy => go_simp
        simp only [Act.put, List.setIfInBounds_toArray, List.set_cons_zero, List.set_cons_succ]
        refine WQ.run (v := .int .i64 ((k - 1 : Nat) : Int)) (by kernel_rfl) (fun W hW => ?hy) ?_
        case hy => go_simp
        simp only [Act.put, List.setIfInBounds_toArray, List.set_cons_zero, List.set_cons_succ]
        refine WQ.run (v := .pointer (some ⟨b, off + (k - 1) * 5, none⟩)) (by kernel_rfl) (fun W hW => ?hy) ?_
        case hy => go_simp
        simp only [Act.put, List.setIfInBounds_toArray, List.set_cons_zero, List.set_cons_succ]
        refine WQ.run (v := .pointer (some ⟨b, off + (k - 1) * 5, none⟩)) (by kernel_rfl) (fun W hW => ?hy) ?_
        case hy => go_simp
        simp only [Act.put, List.setIfInBounds_toArray, List.set_cons_zero, List.set_cons_succ]
        refine WQ.run (v := .string G) (by kernel_rfl) (fun W hW => ?hy) ?_
        case hy => have hx := KG.out W hW; go_simp
        simp only [Act.put, List.setIfInBounds_toArray, List.set_cons_zero, List.set_cons_succ]
        refine WQ.run (v := .slice (some ⟨b, off, none⟩) es.length cap) (by kernel_rfl) (fun W hW => ?hy) ?_
        case hy => go_simp
        simp only [Act.put, List.setIfInBounds_toArray, List.set_cons_zero, List.set_cons_succ]
        refine WQ.run (v := .int .i64 (k : Int)) (by kernel_rfl) (fun W hW => ?hy) ?_
        case hy => go_simp
        simp only [Act.put, List.setIfInBounds_toArray, List.set_cons_zero, List.set_cons_succ]
        refine WQ.run (v := .pointer (some ⟨b, off + k * 5, none⟩)) (by kernel_rfl) (fun W hW => ?hy) ?_
        case hy => go_simp
        simp only [Act.put, List.setIfInBounds_toArray, List.set_cons_zero, List.set_cons_succ]
        refine WQ.run (v := .pointer (some ⟨b, off + k * 5, none⟩)) (by kernel_rfl) (fun W hW => ?hy) ?_
        case hy => go_simp
        simp only [Act.put, List.setIfInBounds_toArray, List.set_cons_zero, List.set_cons_succ]
        refine WQ.run (v := .string key) (by kernel_rfl) (fun W hW => ?hy) ?_
        case hy => obtain ⟨hx0, hx1, hx2, hx3, hx4⟩ := KS.out W hW; go_simp
        simp only [Act.put, List.setIfInBounds_toArray, List.set_cons_zero, List.set_cons_succ]
        refine WQ.run (v := .bool false) (by kernel_rfl) (fun W hW => ?hy) ?_
        case hy => go_simp
        simp only [Act.put, List.setIfInBounds_toArray, List.set_cons_zero, List.set_cons_succ]
        refine WQ.run (v := .bool false) (by kernel_rfl) (fun W hW => ?hy) ?_
        case hy => go_simp
        simp only [Act.put, List.setIfInBounds_toArray, List.set_cons_zero, List.set_cons_succ]
        refine WQ.run (v := .bool false) (by kernel_rfl) (fun W hW => ?hy) ?_
        case hy => go_simp
        simp only [Act.put, List.setIfInBounds_toArray, List.set_cons_zero, List.set_cons_succ]
        refine WQ.run (v := .bool false) (by kernel_rfl) (fun W hW => ?hy) ?_
        case hy => go_simp
        simp only [Act.put, List.setIfInBounds_toArray, List.set_cons_zero, List.set_cons_succ]
        refine WQ.run (v := .slice (some ⟨b, off, none⟩) es.length cap) (by kernel_rfl) (fun W hW => ?hy) ?_
        case hy => go_simp
        simp only [Act.put, List.setIfInBounds_toArray, List.set_cons_zero, List.set_cons_succ]
        refine WQ.run (v := .int .i64 (k : Int)) (by kernel_rfl) (fun W hW => ?hy) ?_
        case hy => go_simp
        simp only [Act.put, List.setIfInBounds_toArray, List.set_cons_zero, List.set_cons_succ]
        refine WQ.run (v := .pointer (some ⟨b, off + k * 5, none⟩)) (by kernel_rfl) (fun W hW => ?hy) ?_
        case hy => go_simp
        simp only [Act.put, List.setIfInBounds_toArray, List.set_cons_zero, List.set_cons_succ]
        refine WQ.run (v := .pointer (some ⟨b, off + k * 5 + 1, none⟩)) (by kernel_rfl) (fun W hW => ?hy) ?_
        case hy => go_simp
        simp only [Act.put, List.setIfInBounds_toArray, List.set_cons_zero, List.set_cons_succ]
        refine WQ.run (v := .agg #[.int .i64 kd, .int .i64 u, .string t, .slice a ts.length c]) (by kernel_rfl) (fun W hW => ?hy) ?_
        case hy => obtain ⟨hx0, hx1, hx2, hx3, hx4⟩ := KS.out W hW; go_simp; (try with_reducible rfl)
        simp only [Act.put, List.setIfInBounds_toArray, List.set_cons_zero, List.set_cons_succ]
        refine WQ.call (v := .bool r) (by kernel_rfl) (fun W hW => ?hy) (fun W hW => HVO2.out W hW) ?_
        case hy => go_simp; (try with_reducible rfl)
        simp only [Act.put, List.setIfInBounds_toArray, List.set_cons_zero, List.set_cons_succ]
        refine WQ.run (v := .bool (!r)) (by kernel_rfl) (fun W hW => ?hy) ?_
        case hy => go_simp
        simp only [Act.put, List.setIfInBounds_toArray, List.set_cons_zero, List.set_cons_succ]
        refine WQ.run (v := .bool (!r)) (by kernel_rfl) (fun W hW => ?hy) ?_
        case hy => go_simp
        simp only [Act.put, List.setIfInBounds_toArray, List.set_cons_zero, List.set_cons_succ]
        refine WQ.nil ?_
        intro wx hwx
        cases r
        · have hR : Hid (R = false) := by
            show _ = _
            cases R
            · rfl
            · exact absurd (Hr.out.2 (HNO.out (HR.out.1 rfl)).2.1) (by simp)
          go_wp2
          go_ret
          rw [hR.out]
          exact ⟨rfl, HB.out.trans (hwx.mono HB.out.size)⟩
        · have HK1 : Hid (EntsR es (k + 1)) := HNX.out hkr (Hr.out.1 rfl) (fun _ => by rw [HG.out]; exact hless)
          go_wp2
          go_roundw
          case rel => exact ⟨k + 1, by go_num, by omega, HK1, HB.out.trans (hwx.mono HB.out.size)⟩
          case measure => simp [intOf]; omega
    · have hlt' : decide ((k : Int) < (es.length : Int)) = false := by simp; omega
      have hke : k = es.length := by omega
      subst hke
      have hR : Hid (R = true) := HR.out.2 (tabR_of (by omega) HK.out)
      go_wp2
      go_ret
      rw [hR.out]
      exact ⟨rfl, HB.out⟩
end Go.Proofs.Ytpibnhodlojajaa
