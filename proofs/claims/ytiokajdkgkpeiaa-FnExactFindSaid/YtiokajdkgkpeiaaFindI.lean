/- Find: program and specification. -/
import Derived.Test.YtiokajdkgkpeiaaFindP
import Derived.Test.YtiokajdkgkpeiaaValC
namespace Go.Proofs.Ytiokajdkgkpeiaa
open Go.RowKit

set_option maxRecDepth 100000 in
set_option maxHeartbeats 1600000 in
theorem implFind_any (es : List EntD) (key : ByteArray) (ao : Option Addr) (cap : Nat) (w : World) (hl : es.length ≤ 1048576) (hes : EntriesAt w ao es) (hsz : ∀ e ∈ es, EntS 1048576 e) :
    Calls Try.prog 26 #[.slice ao es.length cap, .string key] w fun e w' => (∃ a c, e = .returned (.tuple #[.agg #[.int .i64 (findV es key).kind, .int .i64 (findV es key).til, .string (findV es key).text, .slice a (findV es key).items.length c], .bool (findB es key)]) ∧ RowText w' w.heap.size (.slice a (findV es key).items.length c) (findV es key).items) ∧ Below w.heap.size w w' := by
  have HT := hide hes
  have HS := hide hsz
  have HV : Hid (∀ r, findE es key = r → findV es key = r.getD noVal ∧ findB es key = r.isSome) := fun r h => by unfold findV findB; rw [h]; exact ⟨rfl, rfl⟩
  generalize findV es key = V at HV ⊢
  generalize findB es key = R at HV ⊢
  have HE0 : Hid (findE es key = findE (es.drop 0) key) := rfl
  clear hes hsz
  obtain ⟨wb, hwb⟩ : ∃ wb, wb = w.alloc (.cells #[.int .i64 0, .int .i64 0, .string ⟨#[]⟩, .slice none 0 0] 27) := ⟨_, rfl⟩
  have HB0 : Hid (Below w.heap.size w wb) := by rw [hwb]; exact (Below.refl _ w).alloc (Nat.le_refl _) _
  have HR0 : Hid (wb.heap[w.heap.size]? = some (.cells #[.int .i64 0, .int .i64 0, .string ⟨#[]⟩, .slice none 0 0] 27 (0, 0))) := by rw [hwb]; exact heap_alloc_new _ _
  go_enter Try.func26, Try.ntmps26
  go_wp2_with fail
  rw [← hwb]
  clear hwb
  go_loopw [10] (fun ii wr => ∃ (k : Nat), ii = .int .i64 (k : Int) ∧ k ≤ es.length ∧ Hid (findE es key = findE (es.drop k) key) ∧ Hid (Below w.heap.size w wr) ∧ Hid (wr.heap[w.heap.size]? = some (.cells #[.int .i64 0, .int .i64 0, .string ⟨#[]⟩, .slice none 0 0] 27 (0, 0)))) (fun ii _ => es.length - (intOf ii).toNat)
  case atStart => exact ⟨0, rfl, by omega, HE0, HB0, HR0⟩
  case round =>
    obtain ⟨k, rfl, hk, HE, HB, HR⟩ := hrel
    by_cases hlt : k < es.length
    · have hlt' : decide ((k : Int) < (es.length : Int)) = true := by simp; omega
      obtain ⟨b, off, rfl, hbw, hc0, hc1, hc2, hc3, a, c, hc4, hta⟩ := entriesAt_keep HT.out HB.out k hlt
      have hws := HB.out.size
      have hsA := HS.out es[k] (List.getElem_mem hlt)
      have HY := hide (fun h => HE.out.trans (findE_here (key := key) hlt h))
      have HNo := hide (fun h => HE.out.trans (findE_next (key := key) hlt h))
      have HOV := hide (fun W (hW : Below wr.heap.size wr W) => ownVal_any es[k].val a c W hsA.2.2.1 hsA.2.1 (textsAt_keep hta hW) hsA.2.2.2)
      generalize es[k] = F at hc0 hc1 hc2 hc3 hc4 HY HNo HOV
      clear hsA hta
      obtain ⟨ky, kd, u, t, ts⟩ := F
      simp only at hc0 hc1 hc2 hc3 hc4 HY HNo HOV
      have hi0 : (0 : Int) ≤ (k : Int) := by omega
      have hi1 : (k : Int) < (es.length : Int) := by omega
      have B1 : Hid (Below wr.heap.size wr (wr.alloc (.cells #[.string ky, .int .i64 kd, .int .i64 u, .string t, .slice a ts.length c] 64))) := (Below.refl _ wr).alloc (Nat.le_refl _) _
      have W1 := hide (HB.out.trans (B1.out.mono hws))
      cases hkk : (ky.toList == key.toList) with
      | true =>
        obtain ⟨hV, hR⟩ := HV.out _ (HY.out hkk)
        have HVV : Hid (V = ⟨kd, u, t, ts⟩ ∧ R = true) := ⟨hV, hR⟩
        clear hV hR
        obtain ⟨rfl, rfl⟩ := HVV.out
        go_wp2_with fail
        refine (HOV.out _ B1.out).mono ?_
        rintro e w2 ⟨⟨a2, c2, rfl, hr2⟩, b2⟩
        have hp := (b2.block w.heap.size (by have := obj_lt HR.out; simp; omega)).trans ((B1.out.block w.heap.size (obj_lt HR.out)).trans HR.out)
        have HR2 := hide hr2
        have HB2 := hide (W1.out.trans (b2.mono W1.out.size))
        have hlt2 := hide (rowText_lt hr2)
        have hwsz := obj_lt HR.out
        clear b2 hr2
        obtain ⟨r0, r1, r2, r3⟩ := val_cells hp
        obtain ⟨f0, f1, f2, f3⟩ := val_frozen hp
        clear hp
        go_wp2_with fail
        refine bodyPost_ret (v := .tuple #[.agg #[.int .i64 kd, .int .i64 u, .string t, .slice a2 ts.length c2], .bool true]) (by simp [results, Try.results26, go_sem, r0, r1, r2, r3]) rfl ⟨⟨a2, c2, rfl, ?_⟩, ?_⟩
        · refine rowText_le (rowText_keep HR2.out (fun g hg => ?_)) W1.out.size
          have h1 := hlt2.out g hg
          simp at h1
          rw [Below.heap_setCell _ _ _ _ (by simp; omega), Below.heap_setCell _ _ _ _ (by simp; omega), Below.heap_setCell _ _ _ _ (by simp; omega), Below.heap_setCell _ _ _ _ (by simp; omega)]
        · exact (((HB2.out.setCell (p := ⟨w.heap.size, 0, none⟩) (Nat.le_refl _) _).setCell (p := ⟨w.heap.size, 1, none⟩) (Nat.le_refl _) _).setCell (p := ⟨w.heap.size, 2, none⟩) (Nat.le_refl _) _).setCell (p := ⟨w.heap.size, 3, none⟩) (Nat.le_refl _) _
      | false =>
        have HE1 := hide (HNo.out hkk)
        go_wp2
        go_roundw
        case rel => exact ⟨k + 1, by go_num, by omega, HE1, W1, (B1.out.block w.heap.size (obj_lt HR.out)).trans HR.out⟩
        case measure => simp [intOf]; omega
    · have hlt' : decide ((k : Int) < (es.length : Int)) = false := by simp; omega
      have hke : k = es.length := by omega
      subst hke
      obtain ⟨hV, hR⟩ := HV.out none (HE.out.trans (by rw [List.drop_length]; rfl))
      have HVV : Hid (V = noVal ∧ R = false) := ⟨hV, hR⟩
      clear hV hR
      obtain ⟨rfl, rfl⟩ := HVV.out
      obtain ⟨r0, r1, r2, r3⟩ := val_cells HR.out
      obtain ⟨f0, f1, f2, f3⟩ := val_frozen HR.out
      go_wp2_with fail
      refine bodyPost_ret (v := .tuple #[.agg #[.int .i64 0, .int .i64 0, .string ⟨#[]⟩, .slice none 0 0], .bool false]) (by simp [results, Try.results26, go_sem, r0, r1, r2, r3]) rfl ⟨⟨none, 0, rfl, .inl ⟨rfl, rfl⟩⟩, ?_⟩
      exact (((HB.out.setCell (p := ⟨w.heap.size, 0, none⟩) (Nat.le_refl _) _).setCell (p := ⟨w.heap.size, 1, none⟩) (Nat.le_refl _) _).setCell (p := ⟨w.heap.size, 2, none⟩) (Nat.le_refl _) _).setCell (p := ⟨w.heap.size, 3, none⟩) (Nat.le_refl _) _

set_option maxRecDepth 100000 in
set_option maxHeartbeats 1600000 in
theorem specFind_any (es : List EntD) (key : ByteArray) (ao : Option Addr) (cap : Nat) (w : World) (hl : es.length ≤ 1048576) (hes : EntriesAt w ao es) (hsz : ∀ e ∈ es, EntS 1048576 e) :
    Calls Try.prog 25 #[.slice ao es.length cap, .string key] w fun e w' => (∃ a c, e = .returned (.tuple #[.agg #[.int .i64 (findV es key).kind, .int .i64 (findV es key).til, .string (findV es key).text, .slice a (findV es key).items.length c], .bool (findB es key)]) ∧ RowText w' w.heap.size (.slice a (findV es key).items.length c) (findV es key).items) ∧ Below w.heap.size w w' := by
  have HT := hide hes
  have HS := hide hsz
  have HV : Hid (∀ r, findE es key = r → findV es key = r.getD noVal ∧ findB es key = r.isSome) := fun r h => by unfold findV findB; rw [h]; exact ⟨rfl, rfl⟩
  generalize findV es key = V at HV ⊢
  generalize findB es key = R at HV ⊢
  have HE0 : Hid (findE es key = findE (es.drop 0) key) := rfl
  clear hes hsz
  obtain ⟨wb, hwb⟩ : ∃ wb, wb = w.alloc (.cells #[.int .i64 0, .int .i64 0, .string ⟨#[]⟩, .slice none 0 0] 27) := ⟨_, rfl⟩
  have HB0 : Hid (Below w.heap.size w wb) := by rw [hwb]; exact (Below.refl _ w).alloc (Nat.le_refl _) _
  have HR0 : Hid (wb.heap[w.heap.size]? = some (.cells #[.int .i64 0, .int .i64 0, .string ⟨#[]⟩, .slice none 0 0] 27 (0, 0))) := by rw [hwb]; exact heap_alloc_new _ _
  go_enter Try.func25, Try.ntmps25
  go_wp2_with fail
  rw [← hwb]
  clear hwb
  go_loopw [6] (fun ii wr => ∃ (k : Nat), ii = .int .i64 (k : Int) ∧ k ≤ es.length ∧ Hid (findE es key = findE (es.drop k) key) ∧ wr = wb) (fun ii _ => es.length - (intOf ii).toNat)
  case atStart => exact ⟨0, rfl, by omega, HE0, rfl⟩
  case round =>
    obtain ⟨k, rfl, hk, HE, rfl⟩ := hrel
    by_cases hlt : k < es.length
    · have hlt' : decide ((k : Int) < (es.length : Int)) = true := by simp; omega
      obtain ⟨b, off, rfl, hbw, hc0, hc1, hc2, hc3, a, c, hc4, hta⟩ := entriesAt_keep HT.out HB0.out k hlt
      have hsA := HS.out es[k] (List.getElem_mem hlt)
      have HY := hide (fun h => HE.out.trans (findE_here (key := key) hlt h))
      have HNo := hide (fun h => HE.out.trans (findE_next (key := key) hlt h))
      have HOV := hide (l10Copy_any es[k].val a c wr hsA.2.2.1 hta)
      generalize es[k] = F at hc0 hc1 hc2 hc3 hc4 HY HNo HOV
      clear hsA hta
      obtain ⟨ky, kd, u, t, ts⟩ := F
      simp only at hc0 hc1 hc2 hc3 hc4 HY HNo HOV
      have hi0 : (0 : Int) ≤ (k : Int) := by omega
      have hi1 : (k : Int) < (es.length : Int) := by omega
      cases hkk : (ky.toList == key.toList) with
      | true =>
        obtain ⟨hV, hR⟩ := HV.out _ (HY.out hkk)
        have HVV : Hid (V = ⟨kd, u, t, ts⟩ ∧ R = true) := ⟨hV, hR⟩
        clear hV hR
        obtain ⟨rfl, rfl⟩ := HVV.out
        go_wp2_with fail
        refine HOV.out.mono ?_
        rintro e w2 ⟨⟨a2, c2, rfl, hr2⟩, b2⟩
        have hp := (b2.block w.heap.size (obj_lt HR0.out)).trans HR0.out
        have HR2 := hide hr2
        have HB2 := hide (HB0.out.trans (b2.mono HB0.out.size))
        have hlt2 := hide (rowText_lt hr2)
        have hwsz := obj_lt HR0.out
        clear b2 hr2
        obtain ⟨r0, r1, r2, r3⟩ := val_cells hp
        obtain ⟨f0, f1, f2, f3⟩ := val_frozen hp
        clear hp
        go_wp2_with fail
        refine bodyPost_ret (v := .tuple #[.agg #[.int .i64 kd, .int .i64 u, .string t, .slice a2 ts.length c2], .bool true]) (by simp [results, Try.results25, go_sem, r0, r1, r2, r3]) rfl ⟨⟨a2, c2, rfl, ?_⟩, ?_⟩
        · refine rowText_le (rowText_keep HR2.out (fun g hg => ?_)) HB0.out.size
          have h1 := hlt2.out g hg
          rw [Below.heap_setCell _ _ _ _ (by simp; omega), Below.heap_setCell _ _ _ _ (by simp; omega), Below.heap_setCell _ _ _ _ (by simp; omega), Below.heap_setCell _ _ _ _ (by simp; omega)]
        · exact (((HB2.out.setCell (p := ⟨w.heap.size, 0, none⟩) (Nat.le_refl _) _).setCell (p := ⟨w.heap.size, 1, none⟩) (Nat.le_refl _) _).setCell (p := ⟨w.heap.size, 2, none⟩) (Nat.le_refl _) _).setCell (p := ⟨w.heap.size, 3, none⟩) (Nat.le_refl _) _
      | false =>
        have HE1 := hide (HNo.out hkk)
        go_wp2
        go_roundw
        case rel => exact ⟨k + 1, by go_num, by omega, HE1, trivial⟩
        case measure => simp [intOf]; omega
    · have hlt' : decide ((k : Int) < (es.length : Int)) = false := by simp; omega
      have hke : k = es.length := by omega
      subst hke
      obtain ⟨hV, hR⟩ := HV.out none (HE.out.trans (by rw [List.drop_length]; rfl))
      have HVV : Hid (V = noVal ∧ R = false) := ⟨hV, hR⟩
      clear hV hR
      obtain ⟨rfl, rfl⟩ := HVV.out
      obtain ⟨r0, r1, r2, r3⟩ := val_cells HR0.out
      obtain ⟨f0, f1, f2, f3⟩ := val_frozen HR0.out
      go_wp2_with fail
      refine bodyPost_ret (v := .tuple #[.agg #[.int .i64 0, .int .i64 0, .string ⟨#[]⟩, .slice none 0 0], .bool false]) (by simp [results, Try.results25, go_sem, r0, r1, r2, r3]) rfl ⟨⟨none, 0, rfl, .inl ⟨rfl, rfl⟩⟩, ?_⟩
      exact (((HB0.out.setCell (p := ⟨w.heap.size, 0, none⟩) (Nat.le_refl _) _).setCell (p := ⟨w.heap.size, 1, none⟩) (Nat.le_refl _) _).setCell (p := ⟨w.heap.size, 2, none⟩) (Nat.le_refl _) _).setCell (p := ⟨w.heap.size, 3, none⟩) (Nat.le_refl _) _
end Go.Proofs.Ytiokajdkgkpeiaa
