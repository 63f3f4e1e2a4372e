import Derived.Test.YtifjneldjjmeaaaGreatDoorTx0
import Derived.Test.YtifjneldjjmeaaaGreatDoorTx10
import Derived.Test.YtifjneldjjmeaaaGreatDoorTx7
import Derived.Test.YtifjneldjjmeaaaGreatDoorTx8
import Derived.Test.YtifjneldjjmeaaaGreatDoorTx9
set_option maxRecDepth 100000
set_option maxHeartbeats 3200000
namespace Go.Proofs.YtifjneldjjmeaaaGreatDoor
open Go.RowKit
theorem keyOkT_any (s : ByteArray) (w : World) (R : Bool) (hR : R = true ↔ (1 ≤ s.size ∧ s.size ≤ 20)) (hs : s.size ≤ 1048576) : Calls Tryz.prog 101 #[.string s] w fun e w' => e = .returned (.bool R) ∧ w' = w := by
  have HR : Hid (R = (decide ((1 : Int) ≤ (s.size : Int)) && decide ((s.size : Int) ≤ 20))) := by
    show _ = _
    rw [Bool.eq_iff_iff, hR, Bool.and_eq_true, decide_eq_true_eq, decide_eq_true_eq]
    omega
  clear hR
  cases h : decide ((1 : Int) ≤ (s.size : Int))
  all_goals
    go_enter Tryz.func101, Tryz.ntmps101
    go_wp2
    go_ret
    rw [HR.out, h]
    exact ⟨rfl, rfl⟩
theorem keysOf_any (es : List EntD) (ao : Option Addr) (cap : Nat) (w : World) (hl : es.length ≤ 1048576) (hes : EntriesAt w ao es) :
    Calls Tryz.prog 104 #[.slice ao es.length cap] w fun e w' => (∃ v, e = .returned v ∧ w'.ownsRow w.heap.size 9 1 v (es.map EntD.key).length ((es.map EntD.key).map Value.string)) ∧ Below w.heap.size w w' := by
  have HT := hide hes
  clear hes
  go_enter Tryz.func104, Tryz.ntmps104
  go_wp2
  go_loopw [3, 8] (fun vv ii wr => ∃ (k : Nat), ii = .int .i64 (k : Int) ∧ k ≤ es.length ∧ Hid (wr.ownsRow w.heap.size 9 1 vv ((es.take k).map EntD.key).length (((es.take k).map EntD.key).map Value.string)) ∧ Hid (Below w.heap.size w wr)) (fun _ ii _ => es.length - (intOf ii).toNat)
  case atStart => exact ⟨0, rfl, by omega, World.ownsRow_nil _ _ _ _, Below.refl _ _⟩
  case round =>
    obtain ⟨k, rfl, hk, HO, HB⟩ := hrel
    by_cases hlt : k < es.length
    · have hlt' : decide ((k : Int) < (es.length : Int)) = true := by simp; omega
      obtain ⟨b, off, rfl, hbw, hc0, hc1, hc2, hc3, a, c, hc4, -⟩ := entriesAt_keep HT.out HB.out k hlt
      have hws := HB.out.size
      have HEV : Hid ((es.take (k + 1)).map EntD.key = (es.take k).map EntD.key ++ [es[k].key]) := by show _ = _; rw [List.take_succ_eq_append_getElem hlt, List.map_append]; rfl
      generalize es[k] = F at hc0 hc1 hc2 hc3 hc4 HEV
      obtain ⟨key, kd, u, t, ts⟩ := F
      simp only at hc0 hc1 hc2 hc3 hc4 HEV
      have hi0 : (0 : Int) ≤ (k : Int) := by omega
      have hi1 : (k : Int) < (es.length : Int) := by omega
      obtain ⟨L, HL⟩ : ∃ L, Hid ((es.take k).map EntD.key = L) := ⟨_, hide rfl⟩
      have hel : L.length ≤ 1048576 := by rw [← HL.out]; simp; omega
      rw [HL.out] at HO HEV
      go_wp2_with (at_builtin; refine app_txt _ w.heap.size (by rfl) _ _ (by rfl) _ L key (by rfl) ((HO.out.alloc _).alloc _) (wr.heap.size + 1) (by simp [Act.eval]) (by simpa using heap_alloc_new (wr.alloc (.cells #[.string key, .int .i64 kd, .int .i64 u, .string t, .slice a ts.length c] 40)) (.cells #[.string key] 9)) hel (by simp; omega) ?_; intro g5 cap5 w5 ho5 hb5 hgr5 hg5 hgl5; have HO5 := hide ho5; have HB5 := hide hb5; clear ho5 hb5 hgr5 hg5 hgl5)
      go_roundw
      case rel => exact ⟨k + 1, by go_num, by omega, by show World.ownsRow _ _ _ _ _ _ _; rw [HEV.out]; exact HO5.out, ((HB.out.alloc hws _).alloc (by simp; omega) _).trans HB5.out⟩
      case measure => simp [intOf]; omega
    · have hlt' : decide ((k : Int) < (es.length : Int)) = false := by simp; omega
      have hke : k = es.length := by omega
      subst hke
      have HO2 := HO.out
      rw [List.take_length] at HO2
      have HO3 := hide HO2
      clear HO2
      go_wp2
      go_ret
      exact ⟨⟨_, rfl, HO3.out⟩, HB.out⟩
theorem implTableOk_any (es : List EntD) (ao : Option Addr) (cap : Nat) (w : World) (R : Bool) (hR : R = true ↔ TabR es) (hl : es.length ≤ 1048576) (hes : EntriesAt w ao es) (hsz : ∀ e ∈ es, EntS 1048576 e) :
    Calls Tryz.prog 63 #[.slice ao es.length cap] w fun e w' => e = .returned (.bool R) ∧ Below w.heap.size w w' := by
  have HF := hide hes
  have HS := hide hsz
  have HR := hide (hR.trans (tabR_iff es))
  clear hes hsz hR
  by_cases h1 : 20 < es.length
  · have h1' : decide ((20 : Int) < (es.length : Int)) = true := by simp; omega
    have hF : R = false := by
      cases R
      · rfl
      · have := (HR.out.1 rfl).1; omega
    subst hF
    go_enter Tryz.func63, Tryz.ntmps63
    go_wp2
    go_ret
    exact ⟨rfl, Below.refl _ _⟩
  have h1' : decide ((20 : Int) < (es.length : Int)) = false := by simp; omega
  go_enter Tryz.func63, Tryz.ntmps63
  go_wp2
  go_loopw [10] (fun ii wr => ∃ (k : Nat), ii = .int .i64 (k : Int) ∧ k ≤ es.length ∧ Hid (∀ j (h : j < es.length), j < k → (1 ≤ es[j].key.size ∧ es[j].key.size ≤ 20) ∧ ValR es[j].val) ∧ Hid (Below w.heap.size w wr)) (fun ii _ => es.length - (intOf ii).toNat)
  case atStart => exact ⟨0, rfl, by omega, fun j _ hj => absurd hj (by omega), Below.refl _ _⟩
  case round =>
    obtain ⟨k, rfl, hk, HK, HB⟩ := hrel
    by_cases hlt : k < es.length
    · have hlt' : decide ((k : Int) < (es.length : Int)) = true := by simp; omega
      obtain ⟨b, off, rfl, hbw, hc0, hc1, hc2, hc3, a, c, hc4, hta⟩ := entriesAt_keep HF.out HB.out k hlt
      have hws := HB.out.size
      have hsA := HS.out es[k] (List.getElem_mem hlt)
      have HNX : Hid ((1 ≤ es[k].key.size ∧ es[k].key.size ≤ 20) → ValR es[k].val → ∀ j (h : j < es.length), j < k + 1 → (1 ≤ es[j].key.size ∧ es[j].key.size ≤ 20) ∧ ValR es[j].val) := by
        intro h1 h2 j hj hjk
        by_cases e : j = k
        · subst e; exact ⟨h1, h2⟩
        · exact HK.out j hj (by omega)
      have HNO : Hid (R = true → (1 ≤ es[k].key.size ∧ es[k].key.size ≤ 20) ∧ ValR es[k].val) := fun h => (HR.out.1 h).2.1 _ (List.getElem_mem hlt)
      obtain ⟨r, Hr⟩ : ∃ r : Bool, Hid (r = true ↔ ValR es[k].val) := by classical exact ⟨decide (ValR es[k].val), by show _ ↔ _; simp⟩
      obtain ⟨r0, Hr0⟩ : ∃ r : Bool, Hid (r = true ↔ (1 ≤ es[k].key.size ∧ es[k].key.size ≤ 20)) := by classical exact ⟨decide (1 ≤ es[k].key.size ∧ es[k].key.size ≤ 20), by show _ ↔ _; simp⟩
      have HVO := hide (fun W (hW : Below wr.heap.size wr W) => implValOk_any es[k].val a c W r Hr.out hsA.2.2.1 (by have := hsA.2.1; unfold maxLen; omega) (textsAt_keep hta hW) (fun s hs => by have := hsA.2.2.2 s hs; unfold maxLen; omega))
      have HKO := hide (fun W => keyOkT_any es[k].key W r0 Hr0.out hsA.1)
      generalize es[k] = F at hc0 hc1 hc2 hc3 hc4 HNX HNO HVO HKO Hr Hr0
      clear hsA hta
      obtain ⟨key, kd, u, t, ts⟩ := F
      simp only at hc0 hc1 hc2 hc3 hc4 HVO HKO HNX HNO Hr Hr0
      have hi0 : (0 : Int) ≤ (k : Int) := by omega
      have hi1 : (k : Int) < (es.length : Int) := by omega
      have B1 : Hid (Below wr.heap.size wr (wr.alloc (.cells #[.string key, .int .i64 kd, .int .i64 u, .string t, .slice a ts.length c] 40))) := (Below.refl _ wr).alloc (Nat.le_refl _) _
      have W1 := hide (HB.out.trans (B1.out.mono hws))
      go_wp2_with fail
      refine (HKO.out _).mono ?_
      rintro e w1 ⟨rfl, rfl⟩
      cases r0
      · have hF : Hid (R = false) := by
          show _ = _
          cases R
          · rfl
          · exact absurd (Hr0.out.2 (HNO.out rfl).1) (by simp)
        go_wp2
        go_ret
        rw [hF.out]
        exact ⟨rfl, W1.out⟩
      go_wp2_with fail
      refine (HVO.out _ B1.out).mono ?_
      rintro e w2 ⟨rfl, b2⟩
      have W2 := hide (W1.out.trans (b2.mono W1.out.size))
      clear b2
      cases r
      · have hF : Hid (R = false) := by
          show _ = _
          cases R
          · rfl
          · exact absurd (Hr.out.2 (HNO.out rfl).2) (by simp)
        go_wp2
        go_ret
        rw [hF.out]
        exact ⟨rfl, W2.out⟩
      have HK1 := hide (HNX.out (Hr0.out.1 (by trivial)) (Hr.out.1 (by trivial)))
      go_wp2
      go_roundw
      case rel => exact ⟨k + 1, by go_num, by omega, HK1, W2⟩
      case measure => simp [intOf]; omega
    · have hlt' : decide ((k : Int) < (es.length : Int)) = false := by simp; omega
      have hke : k = es.length := by omega
      subst hke
      have HR2 : Hid (R = true ↔ Asc (es.map EntD.key)) := by
        show _ ↔ _
        rw [HR.out]
        constructor
        · exact fun h => h.2.2
        · intro h
          refine ⟨by omega, fun e he => ?_, h⟩
          obtain ⟨j, hj, rfl⟩ := List.getElem_of_mem he
          exact HK.out j hj hj
      go_wp2_with fail
      refine (keysOf_any es ao cap wr hl (entriesAt_keep HF.out HB.out)).mono ?_
      rintro e w1 ⟨⟨v, rfl, ho⟩, b1⟩
      obtain ⟨a, c, rfl, ht⟩ := rowText_at (rowText_own ho)
      have HA0 := ascending_any _ a c w1 R HR2.out (by rw [List.length_map]; unfold maxLen; omega) ht
      rw [List.length_map] at HA0
      have HA := hide HA0
      clear HA0
      have W1 := hide (HB.out.trans (b1.mono HB.out.size))
      clear ho ht b1
      go_wp2_with fail
      refine HA.out.mono ?_
      rintro e w2 ⟨rfl, b2⟩
      go_wp2
      go_ret
      exact ⟨rfl, W1.out.trans (b2.mono W1.out.size)⟩
def WorkS (tb : TypeId) (w : World) (B b : Nat) (T : List EntD) : Prop := B ≤ b ∧ ∃ (v : Value) (E : List Value), w.heap[b]? = some (.cells ⟨v :: E⟩ tb (0, 0)) ∧ BuildE w B v T
theorem workS_below {tb : TypeId} {w w' : World} {B b : Nat} {T : List EntD} (h : WorkS tb w B b T) (hb : Below w.heap.size w w') : WorkS tb w' B b T := by
  obtain ⟨h1, v, E, h2, h3⟩ := h
  exact ⟨h1, v, E, (hb.block b (obj_lt h2)).trans h2, buildE_below h3 hb⟩
noncomputable def tabB (T : List EntD) : Bool := @decide (TabR T) (Classical.propDecidable _)
theorem tabB_iff (T : List EntD) : tabB T = true ↔ TabR T := by unfold tabB; simp
theorem putE_list (C : Array Value) (k : Nat) (e : EntD) (x : Value) (h : k * 5 + 5 ≤ C.size) : (putE C k e x).toList = C.toList.take (k * 5) ++ (cells1E e x ++ C.toList.drop (k * 5 + 5)) := by
  apply List.ext_getElem?
  intro j
  rw [Array.getElem?_toList]
  rcases Nat.lt_or_ge j (k * 5) with h1 | h1
  · rw [putE_other C k e x j (.inl h1), List.getElem?_append_left (by simp; omega), List.getElem?_take, if_pos h1, Array.getElem?_toList]
  · rw [List.getElem?_append_right (by simp; omega), List.length_take, Array.length_toList, Nat.min_eq_left (by omega)]
    obtain ⟨m, rfl⟩ : ∃ m, j = k * 5 + m := ⟨j - k * 5, by omega⟩
    rw [Nat.add_sub_cancel_left]
    obtain ⟨p0, p1, p2, p3, p4⟩ := putE_here C k e x (by omega)
    rcases Nat.lt_or_ge m 5 with h2 | h2
    · rw [List.getElem?_append_left (by simpa [cells1E] using h2)]
      rcases (by omega : m = 0 ∨ m = 1 ∨ m = 2 ∨ m = 3 ∨ m = 4) with rfl | rfl | rfl | rfl | rfl
      · exact p0
      · exact p1
      · exact p2
      · exact p3
      · exact p4
    · rw [putE_other C k e x _ (.inr (by omega)), List.getElem?_append_right (by simpa [cells1E] using h2), List.getElem?_drop, Array.getElem?_toList]
      have e5 : k * 5 + 5 + (m - (cells1E e x).length) = k * 5 + m := by
        show k * 5 + 5 + (m - 5) = _
        omega
      rw [e5]
theorem buildE_set {W0 W : World} {B g n c p : Nat} {T : List EntD} {F : EntD} {x : Value} (hbuild : BuildE W0 B (.slice (some ⟨g, 0, none⟩) n c) T) (hBs : B ≤ W0.heap.size) (hb : Below W0.heap.size W0 W)
    (hx : RowText W W0.heap.size x F.val.items) (hp : p < T.length) : (∃ C, W.heap[g]? = some (.cells C 40 (0, 0)) ∧ T.length * 5 ≤ C.size) ∧ B ≤ g ∧ g < W0.heap.size ∧ BuildE (storeE W g p F x) B (.slice (some ⟨g, 0, none⟩) n c) (T.take p ++ F :: T.drop (p + 1)) := by
  obtain ⟨vs, h1, h2, h3, h4⟩ := hbuild
  have hown := ownsRow_below h2 hb
  rcases h2.2 with ⟨-, h0⟩ | ⟨g0, cap0, cur0, ev, -, hC0, -⟩
  · omega
  rcases hown.2 with ⟨-, h0⟩ | ⟨g1, cap, cur, ev1, hBg, hC, hle, hcl, hs, ht⟩
  · omega
  simp at ev ev1
  obtain ⟨rfl, -, -⟩ := ev
  obtain ⟨rfl, rfl, rfl⟩ := ev1
  have hgw := obj_lt hC0
  have hcs : T.length * 5 ≤ cur.size := by rw [hs]; exact Nat.mul_le_mul_right 5 hle
  refine ⟨⟨cur, hC, hcs⟩, hBg, hgw, ?_⟩
  have h3' : ∀ (j : Nat) (x : Value) (b : EntD), vs[j]? = some x → T[j]? = some b → RowText W B x b.val.items := fun j y b hy hb' => rowText_below (h3 j y b hy hb') hb
  have hnew : ∀ h, x.ownBlock = some h → ∀ y ∈ vs, y.ownBlock ≠ some h := fun h hh y hy e => by
    obtain ⟨j, hj, rfl⟩ := List.getElem_of_mem hy
    have a1 := (rowText_lt hx h hh).1
    have a2 := (rowText_lt (h3 j _ _ (List.getElem?_eq_getElem hj) (List.getElem?_eq_getElem (by omega))) h e).2
    omega
  have hcells := cellsEnt_len T vs h1
  refine buildE_mix (W := W) (cur := putE cur p F x) (by omega) (by omega) h1 h3' h4 (rowText_le hx hBs) hnew (fun b C hb' => storeE_other _ _ _ _ _ _ (fun e => ?_)) (storeE_here F x hC) hBg (by omega) hle hcl (by rw [putE_size]; exact hs) ?_
  · rw [e, hC] at hb'
    simp at hb'
  · rw [putE_list _ _ _ _ (by omega), ← ht, List.take_take, Nat.min_eq_left (by omega)]
    have e1 : (cur.toList.take (p * 5) ++ (cells1E F x ++ cur.toList.drop (p * 5 + 5))).take (T.length * 5) = cur.toList.take (p * 5) ++ (cells1E F x ++ (cur.toList.drop (p * 5 + 5)).take (T.length * 5 - p * 5 - 5)) := by
      rw [List.take_append, List.take_append, List.take_of_length_le (by simp; omega), List.take_of_length_le (l := cells1E F x) (by simp [cells1E]; omega)]
      congr 2
      congr 1
      simp [cells1E]
      omega
    rw [e1, List.drop_take, show (p + 1) * 5 = p * 5 + 5 by omega]
    congr 3
theorem implFind_any (es : List EntD) (key : ByteArray) (ao : Option Addr) (cap : Nat) (w : World) (hl : es.length ≤ 1048576) (hes : EntriesAt w ao es) (hsz : ∀ e ∈ es, EntS 1048576 e) :
    Calls Tryz.prog 113 #[.slice ao es.length cap, .string key] w fun e w' => (∃ a c, e = .returned (.tuple #[.agg #[.int .i64 (findV es key).kind, .int .i64 (findV es key).til, .string (findV es key).text, .slice a (findV es key).items.length c], .bool (findB es key)]) ∧ RowText w' w.heap.size (.slice a (findV es key).items.length c) (findV es key).items) ∧ Below w.heap.size w w' := by
  have HT := hide hes
  have HS := hide hsz
  have HV : Hid (∀ r, findE es key = r → findV es key = r.getD noVal ∧ findB es key = r.isSome) := fun r h => by unfold findV findB; rw [h]; exact ⟨rfl, rfl⟩
  generalize findV es key = V at HV ⊢
  generalize findB es key = R at HV ⊢
  have HE0 : Hid (findE es key = findE (es.drop 0) key) := rfl
  clear hes hsz
  obtain ⟨wb, hwb⟩ : ∃ wb, wb = w.alloc (.cells #[.int .i64 0, .int .i64 0, .string ⟨#[]⟩, .slice none 0 0] 38) := ⟨_, rfl⟩
  have HB0 : Hid (Below w.heap.size w wb) := by rw [hwb]; exact (Below.refl _ w).alloc (Nat.le_refl _) _
  have HR0 : Hid (wb.heap[w.heap.size]? = some (.cells #[.int .i64 0, .int .i64 0, .string ⟨#[]⟩, .slice none 0 0] 38 (0, 0))) := by rw [hwb]; exact heap_alloc_new _ _
  go_enter Tryz.func113, Tryz.ntmps113
  go_wp2_with fail
  rw [← hwb]
  clear hwb
  go_loopw [10] (fun ii wr => ∃ (k : Nat), ii = .int .i64 (k : Int) ∧ k ≤ es.length ∧ Hid (findE es key = findE (es.drop k) key) ∧ Hid (Below w.heap.size w wr) ∧ Hid (wr.heap[w.heap.size]? = some (.cells #[.int .i64 0, .int .i64 0, .string ⟨#[]⟩, .slice none 0 0] 38 (0, 0)))) (fun ii _ => es.length - (intOf ii).toNat)
  case atStart => exact ⟨0, rfl, by omega, HE0, HB0, HR0⟩
  case round =>
    obtain ⟨k, rfl, hk, HE, HB, HR⟩ := hrel
    by_cases hlt : k < es.length
    · have hlt' : decide ((k : Int) < (es.length : Int)) = true := by simp; omega
      obtain ⟨b, off, rfl, hbw, hc0, hc1, hc2, hc3, a, c, hc4, hta⟩ := entriesAt_keep HT.out HB.out k hlt
      have hws := HB.out.size
      have hsA := HS.out es[k] (List.getElem_mem hlt)
      have HY := hide (fun h => HE.out.trans (findE_here (key := key) hlt h))
      have HNo := hide (fun h => HE.out.trans (findE_next (key := key) hlt h))
      have HOV := hide (fun W (hW : Below wr.heap.size wr W) => ownVal_any es[k].val a c W hsA.2.2.1 hsA.2.1 (textsAt_keep hta hW) hsA.2.2.2)
      generalize es[k] = F at hc0 hc1 hc2 hc3 hc4 HY HNo HOV
      clear hsA hta
      obtain ⟨ky, kd, u, t, ts⟩ := F
      simp only at hc0 hc1 hc2 hc3 hc4 HY HNo HOV
      have hi0 : (0 : Int) ≤ (k : Int) := by omega
      have hi1 : (k : Int) < (es.length : Int) := by omega
      have B1 : Hid (Below wr.heap.size wr (wr.alloc (.cells #[.string ky, .int .i64 kd, .int .i64 u, .string t, .slice a ts.length c] 40))) := (Below.refl _ wr).alloc (Nat.le_refl _) _
      have W1 := hide (HB.out.trans (B1.out.mono hws))
      cases hkk : (ky.toList == key.toList) with
      | true =>
        obtain ⟨hV, hR⟩ := HV.out _ (HY.out hkk)
        have HVV : Hid (V = ⟨kd, u, t, ts⟩ ∧ R = true) := ⟨hV, hR⟩
        clear hV hR
        obtain ⟨rfl, rfl⟩ := HVV.out
        go_wp2_with fail
        refine (HOV.out _ B1.out).mono ?_
        rintro e w2 ⟨⟨a2, c2, rfl, hr2⟩, b2⟩
        have hp := (b2.block w.heap.size (by have := obj_lt HR.out; simp; omega)).trans ((B1.out.block w.heap.size (obj_lt HR.out)).trans HR.out)
        have HR2 := hide hr2
        have HB2 := hide (W1.out.trans (b2.mono W1.out.size))
        have hlt2 := hide (rowText_lt hr2)
        have hwsz := obj_lt HR.out
        clear b2 hr2
        obtain ⟨r0, r1, r2, r3⟩ := val_cells hp
        obtain ⟨f0, f1, f2, f3⟩ := val_frozen hp
        clear hp
        go_wp2_with fail
        refine bodyPost_ret (v := .tuple #[.agg #[.int .i64 kd, .int .i64 u, .string t, .slice a2 ts.length c2], .bool true]) (by simp [results, Tryz.results113, go_sem, r0, r1, r2, r3]) rfl ⟨⟨a2, c2, rfl, ?_⟩, ?_⟩
        · refine rowText_le (rowText_keep HR2.out (fun g hg => ?_)) W1.out.size
          have h1 := hlt2.out g hg
          simp at h1
          rw [Below.heap_setCell _ _ _ _ (by simp; omega), Below.heap_setCell _ _ _ _ (by simp; omega), Below.heap_setCell _ _ _ _ (by simp; omega), Below.heap_setCell _ _ _ _ (by simp; omega)]
        · exact (((HB2.out.setCell (p := ⟨w.heap.size, 0, none⟩) (Nat.le_refl _) _).setCell (p := ⟨w.heap.size, 1, none⟩) (Nat.le_refl _) _).setCell (p := ⟨w.heap.size, 2, none⟩) (Nat.le_refl _) _).setCell (p := ⟨w.heap.size, 3, none⟩) (Nat.le_refl _) _
      | false =>
        have HE1 := hide (HNo.out hkk)
        go_wp2
        go_roundw
        case rel => exact ⟨k + 1, by go_num, by omega, HE1, W1, (B1.out.block w.heap.size (obj_lt HR.out)).trans HR.out⟩
        case measure => simp [intOf]; omega
    · have hlt' : decide ((k : Int) < (es.length : Int)) = false := by simp; omega
      have hke : k = es.length := by omega
      subst hke
      obtain ⟨hV, hR⟩ := HV.out none (HE.out.trans (by rw [List.drop_length]; rfl))
      have HVV : Hid (V = noVal ∧ R = false) := ⟨hV, hR⟩
      clear hV hR
      obtain ⟨rfl, rfl⟩ := HVV.out
      obtain ⟨r0, r1, r2, r3⟩ := val_cells HR.out
      obtain ⟨f0, f1, f2, f3⟩ := val_frozen HR.out
      go_wp2_with fail
      refine bodyPost_ret (v := .tuple #[.agg #[.int .i64 0, .int .i64 0, .string ⟨#[]⟩, .slice none 0 0], .bool false]) (by simp [results, Tryz.results113, go_sem, r0, r1, r2, r3]) rfl ⟨⟨none, 0, rfl, .inl ⟨rfl, rfl⟩⟩, ?_⟩
      exact (((HB.out.setCell (p := ⟨w.heap.size, 0, none⟩) (Nat.le_refl _) _).setCell (p := ⟨w.heap.size, 1, none⟩) (Nat.le_refl _) _).setCell (p := ⟨w.heap.size, 2, none⟩) (Nat.le_refl _) _).setCell (p := ⟨w.heap.size, 3, none⟩) (Nat.le_refl _) _
def errV : Option ByteArray → Value
  | none => .nilIface
  | some s => .iface 143 (.string s)
def tooMuch : ByteArray := ⟨#[69, 82, 82, 32, 108, 105, 109, 105, 116]⟩
def wrongK : ByteArray := ⟨#[87, 82, 79, 78, 71, 84, 89, 80, 69]⟩
def notInt : ByteArray := ⟨#[69, 82, 82, 32, 105, 110, 116, 101, 103, 101, 114]⟩
noncomputable def putErr (T : List EntD) : Option ByteArray := if tabB T = true then none else some tooMuch
theorem tab_ents {T : List EntD} (hT : TabR T) : ∀ e ∈ T, EntS 1048576 e := fun e he => by
  obtain ⟨⟨-, h2⟩, -, -, h3⟩ := tab_all hT e he
  refine ⟨by omega, ?_⟩
  rcases h3 with ⟨-, h4, h5⟩ | ⟨-, h4, h5⟩ | ⟨-, h4, h5, -⟩ | ⟨-, h4, h5, -⟩
  · refine ⟨by omega, by omega, fun s hs => ?_⟩
    rw [List.eq_nil_of_length_eq_zero h4] at hs
    cases hs
  all_goals
    exact ⟨by omega, by have := h5.2.1; omega, fun s hs => by have := h5.2.2 s hs; omega⟩
theorem buildE_addr {w : World} {B n c : Nat} {ao : Option Addr} {T : List EntD} (h : BuildE w B (.slice ao n c) T) (h0 : 0 < T.length) : ∃ g, ao = some ⟨g, 0, none⟩ ∧ n = T.length := by
  obtain ⟨vs, h1, h2, -⟩ := h
  rcases h2.2 with ⟨-, h3⟩ | ⟨g, cap, cur, e, -⟩
  · omega
  · cases e
    exact ⟨g, rfl, rfl⟩
theorem buildE_box {w w' : World} {B : Nat} {v : Value} {T : List EntD} (h : BuildE w B v T) (hk : ∀ (g : Nat) (C : Array Value) (t : TypeId), w.heap[g]? = some (.cells C t (0, 0)) → (t = 40 ∨ t = 9) → w'.heap[g]? = w.heap[g]?) : BuildE w' B v T := by
  obtain ⟨vs, h1, h2, h3, h4⟩ := h
  refine ⟨vs, h1, ⟨h2.1, ?_⟩, fun j x b hx hj => rowText_keep (h3 j x b hx hj) (fun g hg => ?_), h4⟩
  · rcases h2.2 with h | ⟨g, cap, cur, e, hB, hC, r⟩
    · exact .inl h
    · exact .inr ⟨g, cap, cur, e, hB, (hk g _ _ hC (.inl rfl)).trans hC, r⟩
  · obtain ⟨C, hC⟩ := text_block (h3 j x b hx hj) hg
    exact hk g C _ hC (.inr rfl)
theorem box1w {W : World} {b : Nat} {v : Value} {E : List Value} {t : TypeId} (h : W.heap[b]? = some (.cells ⟨v :: E⟩ t (0, 0))) : W.cell? ⟨b, 0, none⟩ = some v ∧ W.frozen? ⟨b, 0, none⟩ = false := ⟨(cell_of_row W _ 0 _ _ (0, 0) h).trans rfl, frozen_of_row W _ 0 _ _ h⟩
theorem box4w {W : World} {g : Nat} {a b c d : Value} {t : TypeId} (h : W.heap[g]? = some (.cells #[a, b, c, d] t (0, 0))) : W.cell? ⟨g, 0, none⟩ = some a ∧ W.cell? ⟨g, 1, none⟩ = some b ∧ W.cell? ⟨g, 2, none⟩ = some c ∧ W.cell? ⟨g, 3, none⟩ = some d :=
  ⟨(cell_of_row W _ 0 _ _ (0, 0) h).trans rfl, (cell_of_row W _ 1 _ _ (0, 0) h).trans rfl, (cell_of_row W _ 2 _ _ (0, 0) h).trans rfl, (cell_of_row W _ 3 _ _ (0, 0) h).trans rfl⟩
theorem put_any (T : List EntD) (F : EntD) (a : Option Addr) (c : Nat) (w : World) (B b : Nat) (tb : TypeId) (htb : (tb == 40) = false) (htb9 : (tb == 9) = false) (hT : TabR T) (hF : EntS 1048576 F) (hta : TextsAt w a F.val.items) (hW : WorkS tb w B b T) (hB : B ≤ w.heap.size) :
    Calls Tryz.prog 112 #[.pointer (some ⟨b, 0, none⟩), .string F.key, .agg #[.int .i64 F.val.kind, .int .i64 F.val.til, .string F.val.text, .slice a F.val.items.length c]] w fun e w' => e = .returned (errV (putErr (putT T F.key F.val))) ∧ WorkS tb w' B b (putT T F.key F.val) ∧ Below B w w' := by
  obtain ⟨hBb, v, E, hbv, hbuild⟩ := hW
  obtain ⟨ao, cap, rfl⟩ := buildE_form hbuild
  obtain ⟨wA, hwA⟩ : ∃ wA, wA = w.alloc (.cells #[.int .i64 F.val.kind, .int .i64 F.val.til, .string F.val.text, .slice a F.val.items.length c] 38) := ⟨_, rfl⟩
  have BA : Hid (Below w.heap.size w wA) := by rw [hwA]; exact (Below.refl _ w).alloc (Nat.le_refl _) _
  have PA : Hid (wA.heap[w.heap.size]? = some (.cells #[.int .i64 F.val.kind, .int .i64 F.val.til, .string F.val.text, .slice a F.val.items.length c] 38 (0, 0))) := by rw [hwA]; exact heap_alloc_new _ _
  have HOV := hide (ownEntry_any F a c wA hF (textsAt_keep hta BA.out))
  have HBA := hide (buildE_below hbuild BA.out)
  have hBA : B ≤ wA.heap.size := Nat.le_trans hB BA.out.size
  have HbA : Hid (wA.heap[b]? = some (.cells ⟨.slice ao T.length cap :: E⟩ tb (0, 0))) := (BA.out.block b (obj_lt hbv)).trans hbv
  have hT20 : T.length ≤ 20 := hT.1
  have HS := hide (fun W (hW : Below wA.heap.size wA W) => searchE_any T ao cap F.key W (by omega) (tab_pw hT) (entriesAt_keep (rowEnt_rows (buildE_row HBA.out)).2 hW))
  have HNew := hide (fun p (h : PlaceT T F.key p) => (putT_new (v := F.val) h.1 h.2.1 h.2.2.1 h.2.2.2))
  have HOld := hide (fun p (hp : p < T.length) (hk : T[p].key = F.key) => (putT_old (v := F.val) (tab_pw hT) hp hk))
  have HT2 : Hid (∀ e ∈ putT T F.key F.val, EntS 1048576 e) := fun e he => by
    rcases putT_mem he with rfl | ⟨he, -⟩
    · exact hF
    · exact tab_ents hT e he
  have hL2 : (putT T F.key F.val).length ≤ 1048576 := by
    have := putT_len (k := F.key) (v := F.val) (tab_pw hT)
    rw [this]
    split <;> omega
  have HTO := hide (fun W ao cap (h : EntriesAt W ao (putT T F.key F.val)) => implTableOk_any (putT T F.key F.val) ao cap W (tabB _) (tabB_iff _) hL2 h HT2.out)
  have HFE : (⟨F.key, F.val⟩ : EntD) = F := rfl
  clear HT2 hta hF hT hbuild hbv
  obtain ⟨y0, y1, y2, y3⟩ := box4w PA.out
  go_enter Tryz.func112, Tryz.ntmps112
  go_upto_region 1 with fail
  rw [← hwA]
  clear hwA
  go_wp2_with fail
  refine HOV.out.mono ?_
  rintro e w4 ⟨⟨a2, c2, rfl, r4⟩, b4⟩
  clear y0 y1 y2 y3
  have R4 := hide r4
  have B4 := hide b4
  clear r4 b4
  go_upto_region 2 with fail
  obtain ⟨wC, hwC⟩ : ∃ wC, wC = w4.alloc (.cells #[.string F.key, .int .i64 F.val.kind, .int .i64 F.val.til, .string F.val.text, .slice a2 F.val.items.length c2] 40) := ⟨_, rfl⟩
  rw [← hwC]
  have BC : Hid (Below w4.heap.size w4 wC) := by rw [hwC]; exact (Below.refl _ w4).alloc (Nat.le_refl _) _
  have PC : Hid (wC.heap[w4.heap.size]? = some (.cells #[.string F.key, .int .i64 F.val.kind, .int .i64 F.val.til, .string F.val.text, .slice a2 F.val.items.length c2] 40 (0, 0))) := by rw [hwC]; exact heap_alloc_new _ _
  clear hwC
  have BAC := hide (B4.out.trans (BC.out.mono B4.out.size))
  obtain ⟨xb, -⟩ := box1w ((BAC.out.block b (obj_lt HbA.out)).trans HbA.out)
  go_wp2_with fail
  refine (HS.out wC BAC.out).mono ?_
  rintro e w5 ⟨⟨p, fnd, rfl, hp, hy, hn⟩, b5⟩
  have B5 := hide b5
  clear xb b5
  cases fnd with
  | true =>
    obtain ⟨hpl, hpk⟩ := hy rfl
    clear hy hn
    obtain ⟨g, rfl, -⟩ := buildE_addr HBA.out (by omega)
    have B15 := hide (BAC.out.trans (B5.out.mono BAC.out.size))
    have R5 := hide (rowText_below R4.out (BC.out.trans (B5.out.mono BC.out.size)))
    obtain ⟨⟨C, hC, hCs⟩, hBg, hgA, hset⟩ := buildE_set (W := w5) HBA.out hBA B15.out R5.out hpl
    have HSET := hide hset
    clear hset
    have hC5 : w5.heap[g]? = some (.cells C 40 (0, 0)) := hC
    have hb5 : w5.heap[b]? = some (.cells ⟨.slice (some ⟨g, 0, none⟩) T.length cap :: E⟩ tb (0, 0)) := (B15.out.block b (obj_lt HbA.out)).trans HbA.out
    have hE5 := (B5.out.block _ (obj_lt PC.out)).trans PC.out
    obtain ⟨xb, xbf⟩ := box1w hb5
    obtain ⟨⟨x0, x1, x2, x3, x4⟩, -⟩ := box5h hE5
    have hq0 := cell_of_row w5 g (p * 5) C _ (0, 0) hC5
    have hq1 := cell_of_row w5 g (p * 5 + 1) C _ (0, 0) hC5
    have hq2 := cell_of_row w5 g (p * 5 + 2) C _ (0, 0) hC5
    have hq3 := cell_of_row w5 g (p * 5 + 3) C _ (0, 0) hC5
    have hq4 := cell_of_row w5 g (p * 5 + 4) C _ (0, 0) hC5
    have hf0 := frozen_of_row w5 g (p * 5) C _ hC5
    have hf1 := frozen_of_row w5 g (p * 5 + 1) C _ hC5
    have hf2 := frozen_of_row w5 g (p * 5 + 2) C _ hC5
    have hf3 := frozen_of_row w5 g (p * 5 + 3) C _ hC5
    have hf4 := frozen_of_row w5 g (p * 5 + 4) C _ hC5
    rw [Array.getElem?_eq_getElem (by omega)] at hq0 hq1 hq2 hq3 hq4
    have hi0 : (0 : Int) ≤ (p : Int) := by omega
    have hi1 : (p : Int) < (T.length : Int) := by omega
    have hbg : b ≠ g := fun e => by
      rw [e, hC5] at hb5
      simp at hb5
      rw [← hb5.2] at htb
      simp at htb
    have hlen : (putT T F.key F.val).length = T.length := by
      rw [HOld.out p hpl hpk]
      simp
      omega
    clear hC hE5
    go_upto_region 4 with fail
    go_region_law (fail)
    all_goals
      rw [show (((((w5.setCell ⟨g, p * 5, none⟩ (.string F.key)).setCell ⟨g, p * 5 + 1, none⟩ (.int .i64 F.val.kind)).setCell ⟨g, p * 5 + 2, none⟩ (.int .i64 F.val.til)).setCell ⟨g, p * 5 + 3, none⟩ (.string F.val.text)).setCell ⟨g, p * 5 + 4, none⟩ (.slice a2 F.val.items.length c2)) = storeE w5 g p F (.slice a2 F.val.items.length c2) from rfl]
      have W6S := hide (show BuildE (storeE w5 g p F (.slice a2 F.val.items.length c2)).drew B (.slice (some ⟨g, 0, none⟩) T.length cap) (putT T F.key F.val) from by rw [HOld.out p hpl hpk]; exact buildE_below HSET.out (Below.refl _ _).drew)
      have B6 := hide (show Below B w (storeE w5 g p F (.slice a2 F.val.items.length c2)).drew from (storeE_below (w := w5) (k := p) F (.slice a2 F.val.items.length c2) ((BA.out.mono hB).trans (B15.out.mono hBA)) hBg).drew)
      have b6 := hide (show ((storeE w5 g p F (.slice a2 F.val.items.length c2)).drew).heap[b]? = some (.cells ⟨.slice (some ⟨g, 0, none⟩) T.length cap :: E⟩ tb (0, 0)) from (storeE_other w5 g p F (.slice a2 F.val.items.length c2) b hbg).trans hb5)
      generalize (storeE w5 g p F (.slice a2 F.val.items.length c2)).drew = W6 at W6S B6 b6 ⊢
      have HT6 := hide (HTO.out W6 _ cap (rowEnt_rows (buildE_row W6S.out)).2)
      obtain ⟨x6, -⟩ := box1w b6.out
      rw [hlen] at HT6
      obtain ⟨R, hR⟩ : ∃ R, tabB (putT T F.key F.val) = R := ⟨_, rfl⟩
      have HP : Hid (putErr (putT T F.key F.val) = if R = true then none else some tooMuch) := by
        rw [← hR]
        exact rfl
      rw [hR] at HT6
      clear hR
      go_wp2_with fail
      refine HT6.out.mono ?_
      rintro e w7 ⟨rfl, b7⟩
      have WS7 := hide (workS_below (tb := tb) ⟨hBb, _, _, b6.out, W6S.out⟩ b7)
      have B7 := hide (B6.out.trans (b7.mono (Nat.le_trans hB (Nat.le_trans (by have := B6.out.size; omega) (Nat.le_refl _)))))
      clear b7 x6
      cases R with
      | true =>
        go_wp2
        go_ret
        exact ⟨by rw [HP.out]; rfl, WS7.out, B7.out⟩
      | false =>
        go_wp2
        go_ret
        exact ⟨by rw [HP.out]; rfl, WS7.out, B7.out⟩
  | false =>
    have hpl := hn rfl
    clear hy hn
    have B15 := hide (BAC.out.trans (B5.out.mono BAC.out.size))
    have R5 := hide (rowText_below R4.out (BC.out.trans (B5.out.mono BC.out.size)))
    have hb5 : w5.heap[b]? = some (.cells ⟨.slice ao T.length cap :: E⟩ tb (0, 0)) := (B15.out.block b (obj_lt HbA.out)).trans HbA.out
    have hE5 := (B5.out.block _ (obj_lt PC.out)).trans PC.out
    obtain ⟨xb, xbf⟩ := box1w hb5
    obtain ⟨⟨x0, x1, x2, x3, x4⟩, -⟩ := box5h hE5
    have hA5 := B15.out.size
    have HINS := hide (fun W k (hW : Below w5.heap.size w5 W) (hk : w5.heap.size ≤ k) (hblk : W.heap[k]? = some (.cells #[.string F.key, .int .i64 F.val.kind, .int .i64 F.val.til, .string F.val.text, .slice a2 F.val.items.length c2] 40 (0, 0))) => insE_any T F wA W B k p (.slice ao T.length cap) (.slice a2 F.val.items.length c2) HBA.out hBA (B15.out.trans (hW.mono hA5)) (by omega) (rowText_below R5.out hW) hblk (by omega) hp)
    have hlen : (putT T F.key F.val).length = T.length + 1 := by
      rw [HNew.out p hpl]
      simp
      omega
    have hlen' : (T.take p ++ F :: T.drop p).length = T.length + 1 := by rw [← hlen, HNew.out p hpl]
    have HB5b := hide hb5
    have BK : Hid (Below w5.heap.size w5 (w5.alloc (.cells #[.string F.key, .int .i64 F.val.kind, .int .i64 F.val.til, .string F.val.text, .slice a2 F.val.items.length c2] 40)).drew) := ((Below.refl _ w5).alloc (Nat.le_refl _) _).drew
    have HI := hide (HINS.out (w5.alloc (.cells #[.string F.key, .int .i64 F.val.kind, .int .i64 F.val.til, .string F.val.text, .slice a2 F.val.items.length c2] 40)).drew w5.heap.size BK.out (Nat.le_refl _) (heap_alloc_new w5 _))
    have HKb := hide ((BK.out.block b (obj_lt HB5b.out)).trans HB5b.out)
    have xk : (w5.alloc (.cells #[.string F.key, .int .i64 F.val.kind, .int .i64 F.val.til, .string F.val.text, .slice a2 F.val.items.length c2] 40)).drew.cell? ⟨b, 0, none⟩ = some (.slice ao T.length cap) := (box1w HKb.out).1
    have xk2 : (w5.alloc (.cells #[.string F.key, .int .i64 F.val.kind, .int .i64 F.val.til, .string F.val.text, .slice a2 F.val.items.length c2] 40)).cell? ⟨b, 0, none⟩ = some (.slice ao T.length cap) := (box1w HKb.out).1
    have hbw : b < w5.heap.size := obj_lt hb5
    clear hE5 hb5
    go_upto_region 5 with fail
    go_region_law (go_simp; go_at_call 140; go_loud (refine HI.out.mono ?_; rintro e w6 ⟨⟨v6, rfl, hv6'⟩, b6', ho6⟩; have hb6 : w6.heap[b]? = some (.cells ⟨.slice ao T.length cap :: E⟩ tb (0, 0)) := (ho6 b _ tb HKb.out htb).trans HKb.out; have hbl6 := hide ((BK.out.mono (Nat.le_trans hBA hA5)).trans b6'); obtain ⟨a6, c6, e6⟩ := buildE_form hv6'; rw [hlen'] at e6; subst e6; have hv6 := hide hv6'; obtain ⟨x6, x6f⟩ := box1w hb6; clear hv6' b6' ho6))
    all_goals
      have W6S := hide (show BuildE (w6.setCell ⟨b, 0, none⟩ (.slice a6 (T.length + 1) c6)) B (.slice a6 (T.length + 1) c6) (putT T F.key F.val) from by
        rw [HNew.out p hpl]
        refine buildE_box hv6.out (fun g C t hg ht => Below.heap_setCell _ _ _ _ (fun e => ?_))
        simp only at e
        rw [e, hb6] at hg
        simp at hg
        rcases ht with ht | ht
        · rw [hg.2, ht] at htb; simp at htb
        · rw [hg.2, ht] at htb9; simp at htb9)
      have B6 := hide (show Below B w (w6.setCell ⟨b, 0, none⟩ (.slice a6 (T.length + 1) c6)) from (((BA.out.mono hB).trans (B15.out.mono hBA)).trans hbl6.out).setCell (p := ⟨b, 0, none⟩) hBb _)
      have b6 := hide (show (w6.setCell ⟨b, 0, none⟩ (.slice a6 (T.length + 1) c6)).heap[b]? = some (.cells ⟨.slice a6 (T.length + 1) c6 :: E⟩ tb (0, 0)) from (heap_setCell_same w6 b 0 _ tb _ hb6).trans rfl)
      generalize (w6.setCell ⟨b, 0, none⟩ (.slice a6 (T.length + 1) c6)) = W6 at W6S B6 b6 ⊢
      have HT6 := hide (HTO.out W6 _ c6 (rowEnt_rows (buildE_row W6S.out)).2)
      obtain ⟨x6, -⟩ := box1w b6.out
      rw [hlen] at HT6
      obtain ⟨R, hR⟩ : ∃ R, tabB (putT T F.key F.val) = R := ⟨_, rfl⟩
      have HP : Hid (putErr (putT T F.key F.val) = if R = true then none else some tooMuch) := by
        rw [← hR]
        exact rfl
      rw [hR] at HT6
      clear hR
      go_wp2_with fail
      refine HT6.out.mono ?_
      rintro e w7 ⟨rfl, b7⟩
      have WS7 := hide (workS_below (tb := tb) ⟨hBb, _, _, b6.out, W6S.out⟩ b7)
      have B7 := hide (B6.out.trans (b7.mono (Nat.le_trans hB (Nat.le_trans (by have := B6.out.size; omega) (Nat.le_refl _)))))
      clear b7 x6
      cases R with
      | true =>
        go_wp2
        go_ret
        exact ⟨by rw [HP.out]; rfl, WS7.out, B7.out⟩
      | false =>
        go_wp2
        go_ret
        exact ⟨by rw [HP.out]; rfl, WS7.out, B7.out⟩
end Go.Proofs.YtifjneldjjmeaaaGreatDoor
