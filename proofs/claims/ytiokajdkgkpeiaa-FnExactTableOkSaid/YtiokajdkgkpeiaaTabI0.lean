/- The program's keysOf and TableOk. -/
import Derived.Test.YtiokajdkgkpeiaaTabP
import Derived.Test.YtiokajdkgkpeiaaValI0
namespace Go.Proofs.Ytiokajdkgkpeiaa
open Go.RowKit

set_option maxRecDepth 100000 in
theorem keyOkT_any (s : ByteArray) (w : World) (R : Bool) (hR : R = true ↔ (1 ≤ s.size ∧ s.size ≤ 20)) (hs : s.size ≤ 1048576) : Calls Try.prog 40 #[.string s] w fun e w' => e = .returned (.bool R) ∧ w' = w := by
  have HR : Hid (R = (decide ((1 : Int) ≤ (s.size : Int)) && decide ((s.size : Int) ≤ 20))) := by
    show _ = _
    rw [Bool.eq_iff_iff, hR, Bool.and_eq_true, decide_eq_true_eq, decide_eq_true_eq]
    omega
  clear hR
  cases h : decide ((1 : Int) ≤ (s.size : Int))
  all_goals
    go_enter Try.func40, Try.ntmps40
    go_wp2
    go_ret
    rw [HR.out, h]
    exact ⟨rfl, rfl⟩

set_option maxRecDepth 100000 in
set_option maxHeartbeats 800000 in
theorem keysOf_any (es : List EntD) (ao : Option Addr) (cap : Nat) (w : World) (hl : es.length ≤ 1048576) (hes : EntriesAt w ao es) :
    Calls Try.prog 42 #[.slice ao es.length cap] w fun e w' => (∃ v, e = .returned v ∧ w'.ownsRow w.heap.size 9 1 v (es.map EntD.key).length ((es.map EntD.key).map Value.string)) ∧ Below w.heap.size w w' := by
  have HT := hide hes
  clear hes
  go_enter Try.func42, Try.ntmps42
  go_wp2
  go_loopw [3, 8] (fun vv ii wr => ∃ (k : Nat), ii = .int .i64 (k : Int) ∧ k ≤ es.length ∧ Hid (wr.ownsRow w.heap.size 9 1 vv ((es.take k).map EntD.key).length (((es.take k).map EntD.key).map Value.string)) ∧ Hid (Below w.heap.size w wr)) (fun _ ii _ => es.length - (intOf ii).toNat)
  case atStart => exact ⟨0, rfl, by omega, World.ownsRow_nil _ _ _ _, Below.refl _ _⟩
  case round =>
    obtain ⟨k, rfl, hk, HO, HB⟩ := hrel
    by_cases hlt : k < es.length
    · have hlt' : decide ((k : Int) < (es.length : Int)) = true := by simp; omega
      obtain ⟨b, off, rfl, hbw, hc0, hc1, hc2, hc3, a, c, hc4, -⟩ := entriesAt_keep HT.out HB.out k hlt
      have hws := HB.out.size
      have HEV : Hid ((es.take (k + 1)).map EntD.key = (es.take k).map EntD.key ++ [es[k].key]) := by show _ = _; rw [List.take_succ_eq_append_getElem hlt, List.map_append]; rfl
      generalize es[k] = F at hc0 hc1 hc2 hc3 hc4 HEV
      obtain ⟨key, kd, u, t, ts⟩ := F
      simp only at hc0 hc1 hc2 hc3 hc4 HEV
      have hi0 : (0 : Int) ≤ (k : Int) := by omega
      have hi1 : (k : Int) < (es.length : Int) := by omega
      obtain ⟨L, HL⟩ : ∃ L, Hid ((es.take k).map EntD.key = L) := ⟨_, hide rfl⟩
      have hel : L.length ≤ 1048576 := by rw [← HL.out]; simp; omega
      rw [HL.out] at HO HEV
      go_wp2_with (at_builtin; refine app_txt _ w.heap.size (by rfl) _ _ (by rfl) _ L key (by rfl) ((HO.out.alloc _).alloc _) (wr.heap.size + 1) (by simp [Act.eval]) (by simpa using heap_alloc_new (wr.alloc (.cells #[.string key, .int .i64 kd, .int .i64 u, .string t, .slice a ts.length c] 64)) (.cells #[.string key] 9)) hel (by simp; omega) ?_; intro g5 cap5 w5 ho5 hb5 hgr5 hg5 hgl5; have HO5 := hide ho5; have HB5 := hide hb5; clear ho5 hb5 hgr5 hg5 hgl5)
      go_roundw
      case rel => exact ⟨k + 1, by go_num, by omega, by show World.ownsRow _ _ _ _ _ _ _; rw [HEV.out]; exact HO5.out, ((HB.out.alloc hws _).alloc (by simp; omega) _).trans HB5.out⟩
      case measure => simp [intOf]; omega
    · have hlt' : decide ((k : Int) < (es.length : Int)) = false := by simp; omega
      have hke : k = es.length := by omega
      subst hke
      have HO2 := HO.out
      rw [List.take_length] at HO2
      have HO3 := hide HO2
      clear HO2
      go_wp2
      go_ret
      exact ⟨⟨_, rfl, HO3.out⟩, HB.out⟩

set_option maxRecDepth 100000 in
set_option maxHeartbeats 800000 in
theorem implTableOk_any (es : List EntD) (ao : Option Addr) (cap : Nat) (w : World) (R : Bool) (hR : R = true ↔ TabR es) (hl : es.length ≤ 1048576) (hes : EntriesAt w ao es) (hsz : ∀ e ∈ es, EntS 1048576 e) :
    Calls Try.prog 17 #[.slice ao es.length cap] w fun e w' => e = .returned (.bool R) ∧ Below w.heap.size w w' := by
  have HF := hide hes
  have HS := hide hsz
  have HR := hide (hR.trans (tabR_iff es))
  clear hes hsz hR
  by_cases h1 : 20 < es.length
  · have h1' : decide ((20 : Int) < (es.length : Int)) = true := by simp; omega
    have hF : R = false := by
      cases R
      · rfl
      · have := (HR.out.1 rfl).1; omega
    subst hF
    go_enter Try.func17, Try.ntmps17
    go_wp2
    go_ret
    exact ⟨rfl, Below.refl _ _⟩
  have h1' : decide ((20 : Int) < (es.length : Int)) = false := by simp; omega
  go_enter Try.func17, Try.ntmps17
  go_wp2
  go_loopw [10] (fun ii wr => ∃ (k : Nat), ii = .int .i64 (k : Int) ∧ k ≤ es.length ∧ Hid (∀ j (h : j < es.length), j < k → (1 ≤ es[j].key.size ∧ es[j].key.size ≤ 20) ∧ ValR es[j].val) ∧ Hid (Below w.heap.size w wr)) (fun ii _ => es.length - (intOf ii).toNat)
  case atStart => exact ⟨0, rfl, by omega, fun j _ hj => absurd hj (by omega), Below.refl _ _⟩
  case round =>
    obtain ⟨k, rfl, hk, HK, HB⟩ := hrel
    by_cases hlt : k < es.length
    · have hlt' : decide ((k : Int) < (es.length : Int)) = true := by simp; omega
      obtain ⟨b, off, rfl, hbw, hc0, hc1, hc2, hc3, a, c, hc4, hta⟩ := entriesAt_keep HF.out HB.out k hlt
      have hws := HB.out.size
      have hsA := HS.out es[k] (List.getElem_mem hlt)
      have HNX : Hid ((1 ≤ es[k].key.size ∧ es[k].key.size ≤ 20) → ValR es[k].val → ∀ j (h : j < es.length), j < k + 1 → (1 ≤ es[j].key.size ∧ es[j].key.size ≤ 20) ∧ ValR es[j].val) := by
        intro h1 h2 j hj hjk
        by_cases e : j = k
        · subst e; exact ⟨h1, h2⟩
        · exact HK.out j hj (by omega)
      have HNO : Hid (R = true → (1 ≤ es[k].key.size ∧ es[k].key.size ≤ 20) ∧ ValR es[k].val) := fun h => (HR.out.1 h).2.1 _ (List.getElem_mem hlt)
      obtain ⟨r, Hr⟩ : ∃ r : Bool, Hid (r = true ↔ ValR es[k].val) := by classical exact ⟨decide (ValR es[k].val), by show _ ↔ _; simp⟩
      obtain ⟨r0, Hr0⟩ : ∃ r : Bool, Hid (r = true ↔ (1 ≤ es[k].key.size ∧ es[k].key.size ≤ 20)) := by classical exact ⟨decide (1 ≤ es[k].key.size ∧ es[k].key.size ≤ 20), by show _ ↔ _; simp⟩
      have HVO := hide (fun W (hW : Below wr.heap.size wr W) => implValOk_any es[k].val a c W r Hr.out hsA.2.2.1 (by have := hsA.2.1; unfold maxLen; omega) (textsAt_keep hta hW) (fun s hs => by have := hsA.2.2.2 s hs; unfold maxLen; omega))
      have HKO := hide (fun W => keyOkT_any es[k].key W r0 Hr0.out hsA.1)
      generalize es[k] = F at hc0 hc1 hc2 hc3 hc4 HNX HNO HVO HKO Hr Hr0
      clear hsA hta
      obtain ⟨key, kd, u, t, ts⟩ := F
      simp only at hc0 hc1 hc2 hc3 hc4 HVO HKO HNX HNO Hr Hr0
      have hi0 : (0 : Int) ≤ (k : Int) := by omega
      have hi1 : (k : Int) < (es.length : Int) := by omega
      have B1 : Hid (Below wr.heap.size wr (wr.alloc (.cells #[.string key, .int .i64 kd, .int .i64 u, .string t, .slice a ts.length c] 64))) := (Below.refl _ wr).alloc (Nat.le_refl _) _
      have W1 := hide (HB.out.trans (B1.out.mono hws))
      go_wp2_with fail
      refine (HKO.out _).mono ?_
      rintro e w1 ⟨rfl, rfl⟩
      cases r0
      · have hF : Hid (R = false) := by
          show _ = _
          cases R
          · rfl
          · exact absurd (Hr0.out.2 (HNO.out rfl).1) (by simp)
        go_wp2
        go_ret
        rw [hF.out]
        exact ⟨rfl, W1.out⟩
      go_wp2_with fail
      refine (HVO.out _ B1.out).mono ?_
      rintro e w2 ⟨rfl, b2⟩
      have W2 := hide (W1.out.trans (b2.mono W1.out.size))
      clear b2
      cases r
      · have hF : Hid (R = false) := by
          show _ = _
          cases R
          · rfl
          · exact absurd (Hr.out.2 (HNO.out rfl).2) (by simp)
        go_wp2
        go_ret
        rw [hF.out]
        exact ⟨rfl, W2.out⟩
      have HK1 := hide (HNX.out (Hr0.out.1 (by trivial)) (Hr.out.1 (by trivial)))
      go_wp2
      go_roundw
      case rel => exact ⟨k + 1, by go_num, by omega, HK1, W2⟩
      case measure => simp [intOf]; omega
    · have hlt' : decide ((k : Int) < (es.length : Int)) = false := by simp; omega
      have hke : k = es.length := by omega
      subst hke
      have HR2 : Hid (R = true ↔ Asc (es.map EntD.key)) := by
        show _ ↔ _
        rw [HR.out]
        constructor
        · exact fun h => h.2.2
        · intro h
          refine ⟨by omega, fun e he => ?_, h⟩
          obtain ⟨j, hj, rfl⟩ := List.getElem_of_mem he
          exact HK.out j hj hj
      go_wp2_with fail
      refine (keysOf_any es ao cap wr hl (entriesAt_keep HF.out HB.out)).mono ?_
      rintro e w1 ⟨⟨v, rfl, ho⟩, b1⟩
      obtain ⟨a, c, rfl, ht⟩ := rowText_at (rowText_own ho)
      have HA0 := ascending_any _ a c w1 R HR2.out (by rw [List.length_map]; unfold maxLen; omega) ht
      rw [List.length_map] at HA0
      have HA := hide HA0
      clear HA0
      have W1 := hide (HB.out.trans (b1.mono HB.out.size))
      clear ho ht b1
      go_wp2_with fail
      refine HA.out.mono ?_
      rintro e w2 ⟨rfl, b2⟩
      go_wp2
      go_ret
      exact ⟨rfl, W1.out.trans (b2.mono W1.out.size)⟩
end Go.Proofs.Ytiokajdkgkpeiaa
