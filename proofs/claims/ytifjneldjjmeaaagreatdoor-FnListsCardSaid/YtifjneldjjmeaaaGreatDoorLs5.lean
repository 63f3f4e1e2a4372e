import Derived.Deep.LoopGhost
import Derived.WalkMore
import Derived.WalkSmall
import Derived.Test.YtifjneldjjmeaaaGreatDoorLs2
import Derived.Test.YtifjneldjjmeaaaGreatDoorLs4
import Derived.Test.YtifjneldjjmeaaaGreatDoorLs1
import Derived.Test.YtifjneldjjmeaaaGreatDoorLs3
import Derived.Test.YtifjneldjjmeaaaGreatDoorLs0
set_option maxRecDepth 100000
set_option maxHeartbeats 3200000
namespace Go.Proofs.YtifjneldjjmeaaaGreatDoor
open Go.RowKit
theorem keyOkT_any (s : ByteArray) (w : World) (R : Bool) (hR : R = true ↔ (1 ≤ s.size ∧ s.size ≤ 20)) (hs : s.size ≤ 1048576) : Calls Tryz.prog 101 #[.string s] w fun e w' => e = .returned (.bool R) ∧ w' = w := by
  have HR : Hid (R = (decide ((1 : Int) ≤ (s.size : Int)) && decide ((s.size : Int) ≤ 20))) := by
    show _ = _
    rw [Bool.eq_iff_iff, hR, Bool.and_eq_true, decide_eq_true_eq, decide_eq_true_eq]
    omega
  clear hR
  cases h : decide ((1 : Int) ≤ (s.size : Int))
  all_goals
    go_enter Tryz.func101, Tryz.ntmps101
    go_wp2
    go_ret
    rw [HR.out, h]
    exact ⟨rfl, rfl⟩
theorem keysOf_any (es : List EntD) (ao : Option Addr) (cap : Nat) (w : World) (hl : es.length ≤ 1048576) (hes : EntriesAt w ao es) :
    Calls Tryz.prog 104 #[.slice ao es.length cap] w fun e w' => (∃ v, e = .returned v ∧ w'.ownsRow w.heap.size 9 1 v (es.map EntD.key).length ((es.map EntD.key).map Value.string)) ∧ Below w.heap.size w w' := by
  have HT := hide hes
  clear hes
  go_enter Tryz.func104, Tryz.ntmps104
  go_wp2
  go_loopw [3, 8] (fun vv ii wr => ∃ (k : Nat), ii = .int .i64 (k : Int) ∧ k ≤ es.length ∧ Hid (wr.ownsRow w.heap.size 9 1 vv ((es.take k).map EntD.key).length (((es.take k).map EntD.key).map Value.string)) ∧ Hid (Below w.heap.size w wr)) (fun _ ii _ => es.length - (intOf ii).toNat)
  case atStart => exact ⟨0, rfl, by omega, World.ownsRow_nil _ _ _ _, Below.refl _ _⟩
  case round =>
    obtain ⟨k, rfl, hk, HO, HB⟩ := hrel
    by_cases hlt : k < es.length
    · have hlt' : decide ((k : Int) < (es.length : Int)) = true := by simp; omega
      obtain ⟨b, off, rfl, hbw, hc0, hc1, hc2, hc3, a, c, hc4, -⟩ := entriesAt_keep HT.out HB.out k hlt
      have hws := HB.out.size
      have HEV : Hid ((es.take (k + 1)).map EntD.key = (es.take k).map EntD.key ++ [es[k].key]) := by show _ = _; rw [List.take_succ_eq_append_getElem hlt, List.map_append]; rfl
      generalize es[k] = F at hc0 hc1 hc2 hc3 hc4 HEV
      obtain ⟨key, kd, u, t, ts⟩ := F
      simp only at hc0 hc1 hc2 hc3 hc4 HEV
      have hi0 : (0 : Int) ≤ (k : Int) := by omega
      have hi1 : (k : Int) < (es.length : Int) := by omega
      obtain ⟨L, HL⟩ : ∃ L, Hid ((es.take k).map EntD.key = L) := ⟨_, hide rfl⟩
      have hel : L.length ≤ 1048576 := by rw [← HL.out]; simp; omega
      rw [HL.out] at HO HEV
      go_wp2_with (at_builtin; refine app_txt _ w.heap.size (by rfl) _ _ (by rfl) _ L key (by rfl) ((HO.out.alloc _).alloc _) (wr.heap.size + 1) (by simp [Act.eval]) (by simpa using heap_alloc_new (wr.alloc (.cells #[.string key, .int .i64 kd, .int .i64 u, .string t, .slice a ts.length c] 40)) (.cells #[.string key] 9)) hel (by simp; omega) ?_; intro g5 cap5 w5 ho5 hb5 hgr5 hg5 hgl5; have HO5 := hide ho5; have HB5 := hide hb5; clear ho5 hb5 hgr5 hg5 hgl5)
      go_roundw
      case rel => exact ⟨k + 1, by go_num, by omega, by show World.ownsRow _ _ _ _ _ _ _; rw [HEV.out]; exact HO5.out, ((HB.out.alloc hws _).alloc (by simp; omega) _).trans HB5.out⟩
      case measure => simp [intOf]; omega
    · have hlt' : decide ((k : Int) < (es.length : Int)) = false := by simp; omega
      have hke : k = es.length := by omega
      subst hke
      have HO2 := HO.out
      rw [List.take_length] at HO2
      have HO3 := hide HO2
      clear HO2
      go_wp2
      go_ret
      exact ⟨⟨_, rfl, HO3.out⟩, HB.out⟩
theorem implTableOk_any (es : List EntD) (ao : Option Addr) (cap : Nat) (w : World) (R : Bool) (hR : R = true ↔ TabR es) (hl : es.length ≤ 1048576) (hes : EntriesAt w ao es) (hsz : ∀ e ∈ es, EntS 1048576 e) :
    Calls Tryz.prog 63 #[.slice ao es.length cap] w fun e w' => e = .returned (.bool R) ∧ Below w.heap.size w w' := by
  have HF := hide hes
  have HS := hide hsz
  have HR := hide (hR.trans (tabR_iff es))
  clear hes hsz hR
  by_cases h1 : 20 < es.length
  · have h1' : decide ((20 : Int) < (es.length : Int)) = true := by simp; omega
    have hF : R = false := by
      cases R
      · rfl
      · have := (HR.out.1 rfl).1; omega
    subst hF
    go_enter Tryz.func63, Tryz.ntmps63
    go_wp2
    go_ret
    exact ⟨rfl, Below.refl _ _⟩
  have h1' : decide ((20 : Int) < (es.length : Int)) = false := by simp; omega
  go_enter Tryz.func63, Tryz.ntmps63
  go_wp2
  go_loopw [10] (fun ii wr => ∃ (k : Nat), ii = .int .i64 (k : Int) ∧ k ≤ es.length ∧ Hid (∀ j (h : j < es.length), j < k → (1 ≤ es[j].key.size ∧ es[j].key.size ≤ 20) ∧ ValR es[j].val) ∧ Hid (Below w.heap.size w wr)) (fun ii _ => es.length - (intOf ii).toNat)
  case atStart => exact ⟨0, rfl, by omega, fun j _ hj => absurd hj (by omega), Below.refl _ _⟩
  case round =>
    obtain ⟨k, rfl, hk, HK, HB⟩ := hrel
    by_cases hlt : k < es.length
    · have hlt' : decide ((k : Int) < (es.length : Int)) = true := by simp; omega
      obtain ⟨b, off, rfl, hbw, hc0, hc1, hc2, hc3, a, c, hc4, hta⟩ := entriesAt_keep HF.out HB.out k hlt
      have hws := HB.out.size
      have hsA := HS.out es[k] (List.getElem_mem hlt)
      have HNX : Hid ((1 ≤ es[k].key.size ∧ es[k].key.size ≤ 20) → ValR es[k].val → ∀ j (h : j < es.length), j < k + 1 → (1 ≤ es[j].key.size ∧ es[j].key.size ≤ 20) ∧ ValR es[j].val) := by
        intro h1 h2 j hj hjk
        by_cases e : j = k
        · subst e; exact ⟨h1, h2⟩
        · exact HK.out j hj (by omega)
      have HNO : Hid (R = true → (1 ≤ es[k].key.size ∧ es[k].key.size ≤ 20) ∧ ValR es[k].val) := fun h => (HR.out.1 h).2.1 _ (List.getElem_mem hlt)
      obtain ⟨r, Hr⟩ : ∃ r : Bool, Hid (r = true ↔ ValR es[k].val) := by classical exact ⟨decide (ValR es[k].val), by show _ ↔ _; simp⟩
      obtain ⟨r0, Hr0⟩ : ∃ r : Bool, Hid (r = true ↔ (1 ≤ es[k].key.size ∧ es[k].key.size ≤ 20)) := by classical exact ⟨decide (1 ≤ es[k].key.size ∧ es[k].key.size ≤ 20), by show _ ↔ _; simp⟩
      have HVO := hide (fun W (hW : Below wr.heap.size wr W) => implValOk_any es[k].val a c W r Hr.out hsA.2.2.1 (by have := hsA.2.1; unfold maxLen; omega) (textsAt_keep hta hW) (fun s hs => by have := hsA.2.2.2 s hs; unfold maxLen; omega))
      have HKO := hide (fun W => keyOkT_any es[k].key W r0 Hr0.out hsA.1)
      generalize es[k] = F at hc0 hc1 hc2 hc3 hc4 HNX HNO HVO HKO Hr Hr0
      clear hsA hta
      obtain ⟨key, kd, u, t, ts⟩ := F
      simp only at hc0 hc1 hc2 hc3 hc4 HVO HKO HNX HNO Hr Hr0
      have hi0 : (0 : Int) ≤ (k : Int) := by omega
      have hi1 : (k : Int) < (es.length : Int) := by omega
      have B1 : Hid (Below wr.heap.size wr (wr.alloc (.cells #[.string key, .int .i64 kd, .int .i64 u, .string t, .slice a ts.length c] 40))) := (Below.refl _ wr).alloc (Nat.le_refl _) _
      have W1 := hide (HB.out.trans (B1.out.mono hws))
      go_wp2_with fail
      refine (HKO.out _).mono ?_
      rintro e w1 ⟨rfl, rfl⟩
      cases r0
      · have hF : Hid (R = false) := by
          show _ = _
          cases R
          · rfl
          · exact absurd (Hr0.out.2 (HNO.out rfl).1) (by simp)
        go_wp2
        go_ret
        rw [hF.out]
        exact ⟨rfl, W1.out⟩
      go_wp2_with fail
      refine (HVO.out _ B1.out).mono ?_
      rintro e w2 ⟨rfl, b2⟩
      have W2 := hide (W1.out.trans (b2.mono W1.out.size))
      clear b2
      cases r
      · have hF : Hid (R = false) := by
          show _ = _
          cases R
          · rfl
          · exact absurd (Hr.out.2 (HNO.out rfl).2) (by simp)
        go_wp2
        go_ret
        rw [hF.out]
        exact ⟨rfl, W2.out⟩
      have HK1 := hide (HNX.out (Hr0.out.1 (by trivial)) (Hr.out.1 (by trivial)))
      go_wp2
      go_roundw
      case rel => exact ⟨k + 1, by go_num, by omega, HK1, W2⟩
      case measure => simp [intOf]; omega
    · have hlt' : decide ((k : Int) < (es.length : Int)) = false := by simp; omega
      have hke : k = es.length := by omega
      subst hke
      have HR2 : Hid (R = true ↔ Asc (es.map EntD.key)) := by
        show _ ↔ _
        rw [HR.out]
        constructor
        · exact fun h => h.2.2
        · intro h
          refine ⟨by omega, fun e he => ?_, h⟩
          obtain ⟨j, hj, rfl⟩ := List.getElem_of_mem he
          exact HK.out j hj hj
      go_wp2_with fail
      refine (keysOf_any es ao cap wr hl (entriesAt_keep HF.out HB.out)).mono ?_
      rintro e w1 ⟨⟨v, rfl, ho⟩, b1⟩
      obtain ⟨a, c, rfl, ht⟩ := rowText_at (rowText_own ho)
      have HA0 := ascending_any _ a c w1 R HR2.out (by rw [List.length_map]; unfold maxLen; omega) ht
      rw [List.length_map] at HA0
      have HA := hide HA0
      clear HA0
      have W1 := hide (HB.out.trans (b1.mono HB.out.size))
      clear ho ht b1
      go_wp2_with fail
      refine HA.out.mono ?_
      rintro e w2 ⟨rfl, b2⟩
      go_wp2
      go_ret
      exact ⟨rfl, W1.out.trans (b2.mono W1.out.size)⟩
def WorkS (tb : TypeId) (w : World) (B b : Nat) (T : List EntD) : Prop := B ≤ b ∧ ∃ (v : Value) (E : List Value), w.heap[b]? = some (.cells ⟨v :: E⟩ tb (0, 0)) ∧ BuildE w B v T
theorem workS_below {tb : TypeId} {w w' : World} {B b : Nat} {T : List EntD} (h : WorkS tb w B b T) (hb : Below w.heap.size w w') : WorkS tb w' B b T := by
  obtain ⟨h1, v, E, h2, h3⟩ := h
  exact ⟨h1, v, E, (hb.block b (obj_lt h2)).trans h2, buildE_below h3 hb⟩
noncomputable def tabB (T : List EntD) : Bool := @decide (TabR T) (Classical.propDecidable _)
theorem tabB_iff (T : List EntD) : tabB T = true ↔ TabR T := by unfold tabB; simp
theorem putE_list (C : Array Value) (k : Nat) (e : EntD) (x : Value) (h : k * 5 + 5 ≤ C.size) : (putE C k e x).toList = C.toList.take (k * 5) ++ (cells1E e x ++ C.toList.drop (k * 5 + 5)) := by
  apply List.ext_getElem?
  intro j
  rw [Array.getElem?_toList]
  rcases Nat.lt_or_ge j (k * 5) with h1 | h1
  · rw [putE_other C k e x j (.inl h1), List.getElem?_append_left (by simp; omega), List.getElem?_take, if_pos h1, Array.getElem?_toList]
  · rw [List.getElem?_append_right (by simp; omega), List.length_take, Array.length_toList, Nat.min_eq_left (by omega)]
    obtain ⟨m, rfl⟩ : ∃ m, j = k * 5 + m := ⟨j - k * 5, by omega⟩
    rw [Nat.add_sub_cancel_left]
    obtain ⟨p0, p1, p2, p3, p4⟩ := putE_here C k e x (by omega)
    rcases Nat.lt_or_ge m 5 with h2 | h2
    · rw [List.getElem?_append_left (by simpa [cells1E] using h2)]
      rcases (by omega : m = 0 ∨ m = 1 ∨ m = 2 ∨ m = 3 ∨ m = 4) with rfl | rfl | rfl | rfl | rfl
      · exact p0
      · exact p1
      · exact p2
      · exact p3
      · exact p4
    · rw [putE_other C k e x _ (.inr (by omega)), List.getElem?_append_right (by simpa [cells1E] using h2), List.getElem?_drop, Array.getElem?_toList]
      have e5 : k * 5 + 5 + (m - (cells1E e x).length) = k * 5 + m := by
        show k * 5 + 5 + (m - 5) = _
        omega
      rw [e5]
theorem buildE_set {W0 W : World} {B g n c p : Nat} {T : List EntD} {F : EntD} {x : Value} (hbuild : BuildE W0 B (.slice (some ⟨g, 0, none⟩) n c) T) (hBs : B ≤ W0.heap.size) (hb : Below W0.heap.size W0 W)
    (hx : RowText W W0.heap.size x F.val.items) (hp : p < T.length) : (∃ C, W.heap[g]? = some (.cells C 40 (0, 0)) ∧ T.length * 5 ≤ C.size) ∧ B ≤ g ∧ g < W0.heap.size ∧ BuildE (storeE W g p F x) B (.slice (some ⟨g, 0, none⟩) n c) (T.take p ++ F :: T.drop (p + 1)) := by
  obtain ⟨vs, h1, h2, h3, h4⟩ := hbuild
  have hown := ownsRow_below h2 hb
  rcases h2.2 with ⟨-, h0⟩ | ⟨g0, cap0, cur0, ev, -, hC0, -⟩
  · omega
  rcases hown.2 with ⟨-, h0⟩ | ⟨g1, cap, cur, ev1, hBg, hC, hle, hcl, hs, ht⟩
  · omega
  simp at ev ev1
  obtain ⟨rfl, -, -⟩ := ev
  obtain ⟨rfl, rfl, rfl⟩ := ev1
  have hgw := obj_lt hC0
  have hcs : T.length * 5 ≤ cur.size := by rw [hs]; exact Nat.mul_le_mul_right 5 hle
  refine ⟨⟨cur, hC, hcs⟩, hBg, hgw, ?_⟩
  have h3' : ∀ (j : Nat) (x : Value) (b : EntD), vs[j]? = some x → T[j]? = some b → RowText W B x b.val.items := fun j y b hy hb' => rowText_below (h3 j y b hy hb') hb
  have hnew : ∀ h, x.ownBlock = some h → ∀ y ∈ vs, y.ownBlock ≠ some h := fun h hh y hy e => by
    obtain ⟨j, hj, rfl⟩ := List.getElem_of_mem hy
    have a1 := (rowText_lt hx h hh).1
    have a2 := (rowText_lt (h3 j _ _ (List.getElem?_eq_getElem hj) (List.getElem?_eq_getElem (by omega))) h e).2
    omega
  have hcells := cellsEnt_len T vs h1
  refine buildE_mix (W := W) (cur := putE cur p F x) (by omega) (by omega) h1 h3' h4 (rowText_le hx hBs) hnew (fun b C hb' => storeE_other _ _ _ _ _ _ (fun e => ?_)) (storeE_here F x hC) hBg (by omega) hle hcl (by rw [putE_size]; exact hs) ?_
  · rw [e, hC] at hb'
    simp at hb'
  · rw [putE_list _ _ _ _ (by omega), ← ht, List.take_take, Nat.min_eq_left (by omega)]
    have e1 : (cur.toList.take (p * 5) ++ (cells1E F x ++ cur.toList.drop (p * 5 + 5))).take (T.length * 5) = cur.toList.take (p * 5) ++ (cells1E F x ++ (cur.toList.drop (p * 5 + 5)).take (T.length * 5 - p * 5 - 5)) := by
      rw [List.take_append, List.take_append, List.take_of_length_le (by simp; omega), List.take_of_length_le (l := cells1E F x) (by simp [cells1E]; omega)]
      congr 2
      congr 1
      simp [cells1E]
      omega
    rw [e1, List.drop_take, show (p + 1) * 5 = p * 5 + 5 by omega]
    congr 3
def errV : Option ByteArray → Value
  | none => .nilIface
  | some s => .iface 143 (.string s)
def tooMuch : ByteArray := ⟨#[69, 82, 82, 32, 108, 105, 109, 105, 116]⟩
def wrongK : ByteArray := ⟨#[87, 82, 79, 78, 71, 84, 89, 80, 69]⟩
noncomputable def putErr (T : List EntD) : Option ByteArray := if tabB T = true then none else some tooMuch
theorem tab_ents {T : List EntD} (hT : TabR T) : ∀ e ∈ T, EntS 1048576 e := fun e he => by
  obtain ⟨⟨-, h2⟩, -, -, h3⟩ := tab_all hT e he
  refine ⟨by omega, ?_⟩
  rcases h3 with ⟨-, h4, h5⟩ | ⟨-, h4, h5⟩ | ⟨-, h4, h5, -⟩ | ⟨-, h4, h5, -⟩
  · refine ⟨by omega, by omega, fun s hs => ?_⟩
    rw [List.eq_nil_of_length_eq_zero h4] at hs
    cases hs
  all_goals
    exact ⟨by omega, by have := h5.2.1; omega, fun s hs => by have := h5.2.2 s hs; omega⟩
theorem buildE_addr {w : World} {B n c : Nat} {ao : Option Addr} {T : List EntD} (h : BuildE w B (.slice ao n c) T) (h0 : 0 < T.length) : ∃ g, ao = some ⟨g, 0, none⟩ ∧ n = T.length := by
  obtain ⟨vs, h1, h2, -⟩ := h
  rcases h2.2 with ⟨-, h3⟩ | ⟨g, cap, cur, e, -⟩
  · omega
  · cases e
    exact ⟨g, rfl, rfl⟩
theorem buildE_box {w w' : World} {B : Nat} {v : Value} {T : List EntD} (h : BuildE w B v T) (hk : ∀ (g : Nat) (C : Array Value) (t : TypeId), w.heap[g]? = some (.cells C t (0, 0)) → (t = 40 ∨ t = 9) → w'.heap[g]? = w.heap[g]?) : BuildE w' B v T := by
  obtain ⟨vs, h1, h2, h3, h4⟩ := h
  refine ⟨vs, h1, ⟨h2.1, ?_⟩, fun j x b hx hj => rowText_keep (h3 j x b hx hj) (fun g hg => ?_), h4⟩
  · rcases h2.2 with h | ⟨g, cap, cur, e, hB, hC, r⟩
    · exact .inl h
    · exact .inr ⟨g, cap, cur, e, hB, (hk g _ _ hC (.inl rfl)).trans hC, r⟩
  · obtain ⟨C, hC⟩ := text_block (h3 j x b hx hj) hg
    exact hk g C _ hC (.inr rfl)
theorem box1w {W : World} {b : Nat} {v : Value} {E : List Value} {t : TypeId} (h : W.heap[b]? = some (.cells ⟨v :: E⟩ t (0, 0))) : W.cell? ⟨b, 0, none⟩ = some v ∧ W.frozen? ⟨b, 0, none⟩ = false := ⟨(cell_of_row W _ 0 _ _ (0, 0) h).trans rfl, frozen_of_row W _ 0 _ _ h⟩
theorem box4w {W : World} {g : Nat} {a b c d : Value} {t : TypeId} (h : W.heap[g]? = some (.cells #[a, b, c, d] t (0, 0))) : W.cell? ⟨g, 0, none⟩ = some a ∧ W.cell? ⟨g, 1, none⟩ = some b ∧ W.cell? ⟨g, 2, none⟩ = some c ∧ W.cell? ⟨g, 3, none⟩ = some d :=
  ⟨(cell_of_row W _ 0 _ _ (0, 0) h).trans rfl, (cell_of_row W _ 1 _ _ (0, 0) h).trans rfl, (cell_of_row W _ 2 _ _ (0, 0) h).trans rfl, (cell_of_row W _ 3 _ _ (0, 0) h).trans rfl⟩
theorem put_any (T : List EntD) (F : EntD) (a : Option Addr) (c : Nat) (w : World) (B b : Nat) (tb : TypeId) (htb : (tb == 40) = false) (htb9 : (tb == 9) = false) (hT : TabR T) (hF : EntS 1048576 F) (hta : TextsAt w a F.val.items) (hW : WorkS tb w B b T) (hB : B ≤ w.heap.size) :
    Calls Tryz.prog 112 #[.pointer (some ⟨b, 0, none⟩), .string F.key, .agg #[.int .i64 F.val.kind, .int .i64 F.val.til, .string F.val.text, .slice a F.val.items.length c]] w fun e w' => e = .returned (errV (putErr (putT T F.key F.val))) ∧ WorkS tb w' B b (putT T F.key F.val) ∧ Below B w w' := by
  obtain ⟨hBb, v, E, hbv, hbuild⟩ := hW
  obtain ⟨ao, cap, rfl⟩ := buildE_form hbuild
  obtain ⟨wA, hwA⟩ : ∃ wA, wA = w.alloc (.cells #[.int .i64 F.val.kind, .int .i64 F.val.til, .string F.val.text, .slice a F.val.items.length c] 38) := ⟨_, rfl⟩
  have BA : Hid (Below w.heap.size w wA) := by rw [hwA]; exact (Below.refl _ w).alloc (Nat.le_refl _) _
  have PA : Hid (wA.heap[w.heap.size]? = some (.cells #[.int .i64 F.val.kind, .int .i64 F.val.til, .string F.val.text, .slice a F.val.items.length c] 38 (0, 0))) := by rw [hwA]; exact heap_alloc_new _ _
  have HOV := hide (ownEntry_any F a c wA hF (textsAt_keep hta BA.out))
  have HBA := hide (buildE_below hbuild BA.out)
  have hBA : B ≤ wA.heap.size := Nat.le_trans hB BA.out.size
  have HbA : Hid (wA.heap[b]? = some (.cells ⟨.slice ao T.length cap :: E⟩ tb (0, 0))) := (BA.out.block b (obj_lt hbv)).trans hbv
  have hT20 : T.length ≤ 20 := hT.1
  have HS := hide (fun W (hW : Below wA.heap.size wA W) => searchE_any T ao cap F.key W (by omega) (tab_pw hT) (entriesAt_keep (rowEnt_rows (buildE_row HBA.out)).2 hW))
  have HNew := hide (fun p (h : PlaceT T F.key p) => (putT_new (v := F.val) h.1 h.2.1 h.2.2.1 h.2.2.2))
  have HOld := hide (fun p (hp : p < T.length) (hk : T[p].key = F.key) => (putT_old (v := F.val) (tab_pw hT) hp hk))
  have HT2 : Hid (∀ e ∈ putT T F.key F.val, EntS 1048576 e) := fun e he => by
    rcases putT_mem he with rfl | ⟨he, -⟩
    · exact hF
    · exact tab_ents hT e he
  have hL2 : (putT T F.key F.val).length ≤ 1048576 := by
    have := putT_len (k := F.key) (v := F.val) (tab_pw hT)
    rw [this]
    split <;> omega
  have HTO := hide (fun W ao cap (h : EntriesAt W ao (putT T F.key F.val)) => implTableOk_any (putT T F.key F.val) ao cap W (tabB _) (tabB_iff _) hL2 h HT2.out)
  have HFE : (⟨F.key, F.val⟩ : EntD) = F := rfl
  clear HT2 hta hF hT hbuild hbv
  obtain ⟨y0, y1, y2, y3⟩ := box4w PA.out
  go_enter Tryz.func112, Tryz.ntmps112
  go_upto_region 1 with fail
  rw [← hwA]
  clear hwA
  go_wp2_with fail
  refine HOV.out.mono ?_
  rintro e w4 ⟨⟨a2, c2, rfl, r4⟩, b4⟩
  clear y0 y1 y2 y3
  have R4 := hide r4
  have B4 := hide b4
  clear r4 b4
  go_upto_region 2 with fail
  obtain ⟨wC, hwC⟩ : ∃ wC, wC = w4.alloc (.cells #[.string F.key, .int .i64 F.val.kind, .int .i64 F.val.til, .string F.val.text, .slice a2 F.val.items.length c2] 40) := ⟨_, rfl⟩
  rw [← hwC]
  have BC : Hid (Below w4.heap.size w4 wC) := by rw [hwC]; exact (Below.refl _ w4).alloc (Nat.le_refl _) _
  have PC : Hid (wC.heap[w4.heap.size]? = some (.cells #[.string F.key, .int .i64 F.val.kind, .int .i64 F.val.til, .string F.val.text, .slice a2 F.val.items.length c2] 40 (0, 0))) := by rw [hwC]; exact heap_alloc_new _ _
  clear hwC
  have BAC := hide (B4.out.trans (BC.out.mono B4.out.size))
  obtain ⟨xb, -⟩ := box1w ((BAC.out.block b (obj_lt HbA.out)).trans HbA.out)
  go_wp2_with fail
  refine (HS.out wC BAC.out).mono ?_
  rintro e w5 ⟨⟨p, fnd, rfl, hp, hy, hn⟩, b5⟩
  have B5 := hide b5
  clear xb b5
  cases fnd with
  | true =>
    obtain ⟨hpl, hpk⟩ := hy rfl
    clear hy hn
    obtain ⟨g, rfl, -⟩ := buildE_addr HBA.out (by omega)
    have B15 := hide (BAC.out.trans (B5.out.mono BAC.out.size))
    have R5 := hide (rowText_below R4.out (BC.out.trans (B5.out.mono BC.out.size)))
    obtain ⟨⟨C, hC, hCs⟩, hBg, hgA, hset⟩ := buildE_set (W := w5) HBA.out hBA B15.out R5.out hpl
    have HSET := hide hset
    clear hset
    have hC5 : w5.heap[g]? = some (.cells C 40 (0, 0)) := hC
    have hb5 : w5.heap[b]? = some (.cells ⟨.slice (some ⟨g, 0, none⟩) T.length cap :: E⟩ tb (0, 0)) := (B15.out.block b (obj_lt HbA.out)).trans HbA.out
    have hE5 := (B5.out.block _ (obj_lt PC.out)).trans PC.out
    obtain ⟨xb, xbf⟩ := box1w hb5
    obtain ⟨⟨x0, x1, x2, x3, x4⟩, -⟩ := box5h hE5
    have hq0 := cell_of_row w5 g (p * 5) C _ (0, 0) hC5
    have hq1 := cell_of_row w5 g (p * 5 + 1) C _ (0, 0) hC5
    have hq2 := cell_of_row w5 g (p * 5 + 2) C _ (0, 0) hC5
    have hq3 := cell_of_row w5 g (p * 5 + 3) C _ (0, 0) hC5
    have hq4 := cell_of_row w5 g (p * 5 + 4) C _ (0, 0) hC5
    have hf0 := frozen_of_row w5 g (p * 5) C _ hC5
    have hf1 := frozen_of_row w5 g (p * 5 + 1) C _ hC5
    have hf2 := frozen_of_row w5 g (p * 5 + 2) C _ hC5
    have hf3 := frozen_of_row w5 g (p * 5 + 3) C _ hC5
    have hf4 := frozen_of_row w5 g (p * 5 + 4) C _ hC5
    rw [Array.getElem?_eq_getElem (by omega)] at hq0 hq1 hq2 hq3 hq4
    have hi0 : (0 : Int) ≤ (p : Int) := by omega
    have hi1 : (p : Int) < (T.length : Int) := by omega
    have hbg : b ≠ g := fun e => by
      rw [e, hC5] at hb5
      simp at hb5
      rw [← hb5.2] at htb
      simp at htb
    have hlen : (putT T F.key F.val).length = T.length := by
      rw [HOld.out p hpl hpk]
      simp
      omega
    clear hC hE5
    go_upto_region 4 with fail
    go_region_law (fail)
    all_goals
      rw [show (((((w5.setCell ⟨g, p * 5, none⟩ (.string F.key)).setCell ⟨g, p * 5 + 1, none⟩ (.int .i64 F.val.kind)).setCell ⟨g, p * 5 + 2, none⟩ (.int .i64 F.val.til)).setCell ⟨g, p * 5 + 3, none⟩ (.string F.val.text)).setCell ⟨g, p * 5 + 4, none⟩ (.slice a2 F.val.items.length c2)) = storeE w5 g p F (.slice a2 F.val.items.length c2) from rfl]
      have W6S := hide (show BuildE (storeE w5 g p F (.slice a2 F.val.items.length c2)).drew B (.slice (some ⟨g, 0, none⟩) T.length cap) (putT T F.key F.val) from by rw [HOld.out p hpl hpk]; exact buildE_below HSET.out (Below.refl _ _).drew)
      have B6 := hide (show Below B w (storeE w5 g p F (.slice a2 F.val.items.length c2)).drew from (storeE_below (w := w5) (k := p) F (.slice a2 F.val.items.length c2) ((BA.out.mono hB).trans (B15.out.mono hBA)) hBg).drew)
      have b6 := hide (show ((storeE w5 g p F (.slice a2 F.val.items.length c2)).drew).heap[b]? = some (.cells ⟨.slice (some ⟨g, 0, none⟩) T.length cap :: E⟩ tb (0, 0)) from (storeE_other w5 g p F (.slice a2 F.val.items.length c2) b hbg).trans hb5)
      generalize (storeE w5 g p F (.slice a2 F.val.items.length c2)).drew = W6 at W6S B6 b6 ⊢
      have HT6 := hide (HTO.out W6 _ cap (rowEnt_rows (buildE_row W6S.out)).2)
      obtain ⟨x6, -⟩ := box1w b6.out
      rw [hlen] at HT6
      obtain ⟨R, hR⟩ : ∃ R, tabB (putT T F.key F.val) = R := ⟨_, rfl⟩
      have HP : Hid (putErr (putT T F.key F.val) = if R = true then none else some tooMuch) := by
        rw [← hR]
        exact rfl
      rw [hR] at HT6
      clear hR
      go_wp2_with fail
      refine HT6.out.mono ?_
      rintro e w7 ⟨rfl, b7⟩
      have WS7 := hide (workS_below (tb := tb) ⟨hBb, _, _, b6.out, W6S.out⟩ b7)
      have B7 := hide (B6.out.trans (b7.mono (Nat.le_trans hB (Nat.le_trans (by have := B6.out.size; omega) (Nat.le_refl _)))))
      clear b7 x6
      cases R with
      | true =>
        go_wp2
        go_ret
        exact ⟨by rw [HP.out]; rfl, WS7.out, B7.out⟩
      | false =>
        go_wp2
        go_ret
        exact ⟨by rw [HP.out]; rfl, WS7.out, B7.out⟩
  | false =>
    have hpl := hn rfl
    clear hy hn
    have B15 := hide (BAC.out.trans (B5.out.mono BAC.out.size))
    have R5 := hide (rowText_below R4.out (BC.out.trans (B5.out.mono BC.out.size)))
    have hb5 : w5.heap[b]? = some (.cells ⟨.slice ao T.length cap :: E⟩ tb (0, 0)) := (B15.out.block b (obj_lt HbA.out)).trans HbA.out
    have hE5 := (B5.out.block _ (obj_lt PC.out)).trans PC.out
    obtain ⟨xb, xbf⟩ := box1w hb5
    obtain ⟨⟨x0, x1, x2, x3, x4⟩, -⟩ := box5h hE5
    have hA5 := B15.out.size
    have HINS := hide (fun W k (hW : Below w5.heap.size w5 W) (hk : w5.heap.size ≤ k) (hblk : W.heap[k]? = some (.cells #[.string F.key, .int .i64 F.val.kind, .int .i64 F.val.til, .string F.val.text, .slice a2 F.val.items.length c2] 40 (0, 0))) => insE_any T F wA W B k p (.slice ao T.length cap) (.slice a2 F.val.items.length c2) HBA.out hBA (B15.out.trans (hW.mono hA5)) (by omega) (rowText_below R5.out hW) hblk (by omega) hp)
    have hlen : (putT T F.key F.val).length = T.length + 1 := by
      rw [HNew.out p hpl]
      simp
      omega
    have hlen' : (T.take p ++ F :: T.drop p).length = T.length + 1 := by rw [← hlen, HNew.out p hpl]
    have HB5b := hide hb5
    have BK : Hid (Below w5.heap.size w5 (w5.alloc (.cells #[.string F.key, .int .i64 F.val.kind, .int .i64 F.val.til, .string F.val.text, .slice a2 F.val.items.length c2] 40)).drew) := ((Below.refl _ w5).alloc (Nat.le_refl _) _).drew
    have HI := hide (HINS.out (w5.alloc (.cells #[.string F.key, .int .i64 F.val.kind, .int .i64 F.val.til, .string F.val.text, .slice a2 F.val.items.length c2] 40)).drew w5.heap.size BK.out (Nat.le_refl _) (heap_alloc_new w5 _))
    have HKb := hide ((BK.out.block b (obj_lt HB5b.out)).trans HB5b.out)
    have xk : (w5.alloc (.cells #[.string F.key, .int .i64 F.val.kind, .int .i64 F.val.til, .string F.val.text, .slice a2 F.val.items.length c2] 40)).drew.cell? ⟨b, 0, none⟩ = some (.slice ao T.length cap) := (box1w HKb.out).1
    have xk2 : (w5.alloc (.cells #[.string F.key, .int .i64 F.val.kind, .int .i64 F.val.til, .string F.val.text, .slice a2 F.val.items.length c2] 40)).cell? ⟨b, 0, none⟩ = some (.slice ao T.length cap) := (box1w HKb.out).1
    have hbw : b < w5.heap.size := obj_lt hb5
    clear hE5 hb5
    go_upto_region 5 with fail
    go_region_law (go_simp; go_at_call 140; go_loud (refine HI.out.mono ?_; rintro e w6 ⟨⟨v6, rfl, hv6'⟩, b6', ho6⟩; have hb6 : w6.heap[b]? = some (.cells ⟨.slice ao T.length cap :: E⟩ tb (0, 0)) := (ho6 b _ tb HKb.out htb).trans HKb.out; have hbl6 := hide ((BK.out.mono (Nat.le_trans hBA hA5)).trans b6'); obtain ⟨a6, c6, e6⟩ := buildE_form hv6'; rw [hlen'] at e6; subst e6; have hv6 := hide hv6'; obtain ⟨x6, x6f⟩ := box1w hb6; clear hv6' b6' ho6))
    all_goals
      have W6S := hide (show BuildE (w6.setCell ⟨b, 0, none⟩ (.slice a6 (T.length + 1) c6)) B (.slice a6 (T.length + 1) c6) (putT T F.key F.val) from by
        rw [HNew.out p hpl]
        refine buildE_box hv6.out (fun g C t hg ht => Below.heap_setCell _ _ _ _ (fun e => ?_))
        simp only at e
        rw [e, hb6] at hg
        simp at hg
        rcases ht with ht | ht
        · rw [hg.2, ht] at htb; simp at htb
        · rw [hg.2, ht] at htb9; simp at htb9)
      have B6 := hide (show Below B w (w6.setCell ⟨b, 0, none⟩ (.slice a6 (T.length + 1) c6)) from (((BA.out.mono hB).trans (B15.out.mono hBA)).trans hbl6.out).setCell (p := ⟨b, 0, none⟩) hBb _)
      have b6 := hide (show (w6.setCell ⟨b, 0, none⟩ (.slice a6 (T.length + 1) c6)).heap[b]? = some (.cells ⟨.slice a6 (T.length + 1) c6 :: E⟩ tb (0, 0)) from (heap_setCell_same w6 b 0 _ tb _ hb6).trans rfl)
      generalize (w6.setCell ⟨b, 0, none⟩ (.slice a6 (T.length + 1) c6)) = W6 at W6S B6 b6 ⊢
      have HT6 := hide (HTO.out W6 _ c6 (rowEnt_rows (buildE_row W6S.out)).2)
      obtain ⟨x6, -⟩ := box1w b6.out
      rw [hlen] at HT6
      obtain ⟨R, hR⟩ : ∃ R, tabB (putT T F.key F.val) = R := ⟨_, rfl⟩
      have HP : Hid (putErr (putT T F.key F.val) = if R = true then none else some tooMuch) := by
        rw [← hR]
        exact rfl
      rw [hR] at HT6
      clear hR
      go_wp2_with fail
      refine HT6.out.mono ?_
      rintro e w7 ⟨rfl, b7⟩
      have WS7 := hide (workS_below (tb := tb) ⟨hBb, _, _, b6.out, W6S.out⟩ b7)
      have B7 := hide (B6.out.trans (b7.mono (Nat.le_trans hB (Nat.le_trans (by have := B6.out.size; omega) (Nat.le_refl _)))))
      clear b7 x6
      cases R with
      | true =>
        go_wp2
        go_ret
        exact ⟨by rw [HP.out]; rfl, WS7.out, B7.out⟩
      | false =>
        go_wp2
        go_ret
        exact ⟨by rw [HP.out]; rfl, WS7.out, B7.out⟩
theorem box4_below {B g : Nat} {w W : World} (h : Below B w W) (hg : B ≤ g) (a b c d : Value) : Below B w ((((W.setCell ⟨g, 0, none⟩ a).setCell ⟨g, 1, none⟩ b).setCell ⟨g, 2, none⟩ c).setCell ⟨g, 3, none⟩ d) :=
  (((h.setCell (p := ⟨g, 0, none⟩) hg a).setCell (p := ⟨g, 1, none⟩) hg b).setCell (p := ⟨g, 2, none⟩) hg c).setCell (p := ⟨g, 3, none⟩) hg d
theorem box4_here {g : Nat} {W : World} {C : Array Value} {t : TypeId} (h : W.heap[g]? = some (.cells C t (0, 0))) (hC : C.size = 4) (a b c d : Value) : ((((W.setCell ⟨g, 0, none⟩ a).setCell ⟨g, 1, none⟩ b).setCell ⟨g, 2, none⟩ c).setCell ⟨g, 3, none⟩ d).heap[g]? = some (.cells #[a, b, c, d] t (0, 0)) := by
  match C, hC with
  | ⟨[x0, x1, x2, x3]⟩, _ =>
    exact (heap_setCell_same _ g _ _ t _ (heap_setCell_same _ g _ _ t _ (heap_setCell_same _ g _ _ t _ (heap_setCell_same W g _ _ t _ h)))).trans rfl
theorem box4_other (g b : Nat) (W : World) (h : b ≠ g) (a0 a1 c d : Value) : ((((W.setCell ⟨g, 0, none⟩ a0).setCell ⟨g, 1, none⟩ a1).setCell ⟨g, 2, none⟩ c).setCell ⟨g, 3, none⟩ d).heap[b]? = W.heap[b]? := by
  rw [Below.heap_setCell _ _ _ _ (by simpa using h), Below.heap_setCell _ _ _ _ (by simpa using h), Below.heap_setCell _ _ _ _ (by simpa using h), Below.heap_setCell _ _ _ _ (by simpa using h)]
theorem box4f {W : World} {g : Nat} {a b c d : Value} {t : TypeId} (h : W.heap[g]? = some (.cells #[a, b, c, d] t (0, 0))) : W.frozen? ⟨g, 0, none⟩ = false ∧ W.frozen? ⟨g, 1, none⟩ = false ∧ W.frozen? ⟨g, 2, none⟩ = false ∧ W.frozen? ⟨g, 3, none⟩ = false :=
  ⟨frozen_of_row W _ 0 _ _ h, frozen_of_row W _ 1 _ _ h, frozen_of_row W _ 2 _ _ h, frozen_of_row W _ 3 _ _ h⟩
def lookK (T : List EntD) (key : ByteArray) (kind : Int) : ValD × Bool × Option ByteArray :=
  match findE T key with
  | none => (⟨kind, 0, ⟨#[]⟩, []⟩, false, none)
  | some v => if v.kind = kind then (v, true, none) else (noVal, true, some wrongK)
def valC (v : ValD) (x : Value) : Value := .agg #[.int .i64 v.kind, .int .i64 v.til, .string v.text, x]
theorem figure_any (x : Int) (w : World) (h0 : 0 ≤ x) (h1 : x < 16) :
    Calls Tryz.prog 35 #[.int .i64 x] w fun e w' => e = .returned (.int .u8 (Wd.figI x)) ∧ w' = w := by
  by_cases h : x < 10
  · rw [Wd.figI_low x h]
    go_enter Tryz.func35, Tryz.ntmps35
    go_wp2
    go_ret
    exact ⟨rfl, rfl⟩
  · rw [Wd.figI_high x h]
    go_enter Tryz.func35, Tryz.ntmps35
    go_wp2
    go_ret
    refine ⟨?_, rfl⟩
    show Ending.returned (.int .u8 (97 + x - 10)) = _
    rw [show 97 + x - 10 = 87 + x from by omega]
theorem dec_zero (w : World) : Calls Tryz.prog 9 #[.int .i64 0] w fun e w' => e = .returned (.string ⟨(Wd.decS 0).toArray⟩) ∧ w' = w := by
  go_enter Tryz.func9, Tryz.ntmps9
  go_wp2
  go_ret
  exact ⟨rfl, rfl⟩
theorem conv_one (W : World) (d : Nat) (hd : d < 16) :
    (convert 22 9 (.slice (some ⟨W.heap.size, 0, none⟩) 1 1)).run Tryz.prog (W.alloc (.cells #[.int .u8 (Wd.figI (d : Int))] 5)) = .ok (.string ⟨#[Wd.figB d]⟩) (W.alloc (.cells #[.int .u8 (Wd.figI (d : Int))] 5)) := by
  refine run_convert_bytes_back (P := Tryz.prog) (W.alloc (.cells #[.int .u8 (Wd.figI (d : Int))] 5)) 22 9 5 ⟨W.heap.size, 0, none⟩ 1 [Wd.figB d] Tryz.underlying22 Tryz.underlying5 Tryz.underlying9 ?_
  intro j hj
  exact cells_new W #[.int .u8 (Wd.figI (d : Int))] 5 j _ (by
    have : j = 0 := by simpa using hj
    subst this
    simp [Wd.figB_val d hd])
theorem dec_pos (n : Nat) (w : World) (h0 : 0 < n) (h1 : n ≤ 9223372036854775807) :
    Calls Tryz.prog 9 #[.int .i64 n] w fun e w' => e = .returned (.string ⟨(Wd.decA 20 n []).toArray⟩) ∧ Below w.heap.size w w' := by
  have hz : ((n : Int) == 0) = false := by simp; omega
  have hneg : decide ((n : Int) < 0) = false := by simp
  go_enter Tryz.func9, Tryz.ntmps9
  go_wp2
  go_loopw [0, 4] (fun t v wr => ∃ (f m : Nat) (acc : List UInt8), t = .int .i64 m ∧ v = .string ⟨acc.toArray⟩ ∧ m < 10 ^ f ∧ m ≤ 9223372036854775807 ∧ acc.length + f = 20 ∧ Hid (Wd.decA f m acc = Wd.decA 20 n []) ∧ Below w.heap.size w wr) (fun t _ _ => (intOf t).toNat)
  case atStart => exact ⟨20, n, [], rfl, rfl, by omega, h1, rfl, rfl, Below.refl _ _⟩
  case round =>
    obtain ⟨f, m, acc, rfl, rfl, hm, hm2, hl, hacc, hb⟩ := hrel
    have hbs := hb.size
    by_cases hlt : 0 < m
    · obtain ⟨f, rfl⟩ : ∃ g, f = g + 1 := by
        cases f with
        | zero => simp at hm; omega
        | succ g => exact ⟨g, rfl⟩
      have hne : ((m : Int) != 0) = true := by simp; omega
      obtain ⟨d, hd, hd10, hdi⟩ : ∃ d : Nat, Hid (m % 10 = d) ∧ d < 10 ∧ (m : Int) % 10 = (d : Int) := ⟨_, rfl, by omega, by omega⟩
      have hfac := hide (Wd.decA_step f m acc (by omega))
      have hdiv : m / 10 < 10 ^ f := Nat.div_lt_of_lt_mul (by rw [Nat.mul_comm, ← Nat.pow_succ]; exact hm)
      have hcv := conv_one wr d (by omega)
      go_wp2_with (go_at_call 35; refine (figure_any _ _ (by omega) (by omega)).mono ?_; rintro e w1 ⟨rfl, rfl⟩)
      go_roundw
      case rel =>
        refine ⟨f, m / 10, Wd.figB d :: acc, by go_num, congrArg Value.string (cat_list [Wd.figB d] acc), hdiv, by omega, by simp; omega, ?_, hb.alloc hbs _⟩
        show _ = _
        rw [← hacc.out, hfac.out, hd.out]
      case measure => simp [intOf]; omega
    · have hm0 : m = 0 := by omega
      subst hm0
      have hfin := hide ((Wd.decA_zero f acc).symm.trans hacc.out)
      go_wp2
      go_ret
      rw [← hfin.out]
      exact ⟨rfl, hb⟩
theorem dec_neg (n : Nat) (w : World) (h0 : 0 < n) (h1 : n ≤ 9223372036854775808) :
    Calls Tryz.prog 9 #[.int .i64 (-(n : Int))] w fun e w' => e = .returned (.string ⟨(45 :: Wd.decA 20 n []).toArray⟩) ∧ Below w.heap.size w w' := by
  have hz : (-(n : Int) == 0) = false := by simp; omega
  have hneg : decide (-(n : Int) < 0) = true := by simp; omega
  have H1 := hide h1
  clear h1
  go_enter Tryz.func9, Tryz.ntmps9
  go_wp2
  go_loopw [0, 4] (fun t v wr => ∃ (f m : Nat) (acc : List UInt8), t = .int .i64 (-(m : Int)) ∧ v = .string ⟨acc.toArray⟩ ∧ m < 10 ^ f ∧ Hid (m ≤ 9223372036854775808) ∧ acc.length + f = 20 ∧ Hid (Wd.decA f m acc = Wd.decA 20 n []) ∧ Below w.heap.size w wr) (fun t _ _ => (- intOf t).toNat)
  case atStart => exact ⟨20, n, [], rfl, rfl, by have := H1.out; omega, H1, rfl, rfl, Below.refl _ _⟩
  case round =>
    obtain ⟨f, m, acc, rfl, rfl, hm, HM2, hl, hacc, hb⟩ := hrel
    have hbs := hb.size
    by_cases hlt : 0 < m
    · obtain ⟨f, rfl⟩ : ∃ g, f = g + 1 := by
        cases f with
        | zero => simp at hm; omega
        | succ g => exact ⟨g, rfl⟩
      have hne : (-(m : Int) != 0) = true := by simp; omega
      obtain ⟨d, hd, hd10, hdi⟩ : ∃ d : Nat, Hid (m % 10 = d) ∧ d < 10 ∧ (-(m : Int)).tmod 10 = -(d : Int) := ⟨_, rfl, by omega, by rw [Int.neg_tmod, Int.tmod_eq_emod_of_nonneg (by omega)]; omega⟩
      obtain ⟨q, hq, hqi⟩ : ∃ q : Nat, Hid (m / 10 = q) ∧ (-(m : Int)).tdiv 10 = -(q : Int) := ⟨_, rfl, by rw [Int.neg_tdiv, Int.tdiv_eq_ediv_of_nonneg (by omega)]; omega⟩
      have hq2 : q ≤ 922337203685477580 := by have := HM2.out; have := hq.out; omega
      have hqm : q < m := by have := hq.out; omega
      have hfac := hide (Wd.decA_step f m acc (by omega))
      have hdiv : q < 10 ^ f := by rw [← hq.out]; exact Nat.div_lt_of_lt_mul (by rw [Nat.mul_comm, ← Nat.pow_succ]; exact hm)
      have hcv := conv_one wr d (by omega)
      by_cases hd0 : 0 < d
      · have hdn : decide (-(d : Int) < 0) = true := by simp; omega
        go_wp2_with (go_at_call 35; refine (figure_any _ _ (by omega) (by omega)).mono ?_; rintro e w1 ⟨rfl, rfl⟩)
        go_roundw
        case rel =>
          refine ⟨f, q, Wd.figB d :: acc, by go_num, congrArg Value.string (cat_list [Wd.figB d] acc), hdiv, by show q ≤ 9223372036854775808; omega, by simp; omega, ?_, hb.alloc hbs _⟩
          show _ = _
          rw [← hacc.out, hfac.out, hd.out, hq.out]
        case measure => simp [intOf]; omega
      · have hd1 : d = 0 := by omega
        subst hd1
        rw [show ((0 : Nat) : Int) = 0 from rfl] at hcv hdi
        go_wp2_with (go_at_call 35; refine (figure_any _ _ (by omega) (by omega)).mono ?_; rintro e w1 ⟨rfl, rfl⟩)
        go_roundw
        case rel =>
          refine ⟨f, q, Wd.figB 0 :: acc, by go_num, congrArg Value.string (cat_list [Wd.figB 0] acc), hdiv, by show q ≤ 9223372036854775808; omega, by simp; omega, ?_, hb.alloc hbs _⟩
          show _ = _
          rw [← hacc.out, hfac.out, hd.out, hq.out]
        case measure => simp [intOf]; omega
    · have hm0 : m = 0 := by omega
      subst hm0
      have hfin := hide ((Wd.decA_zero f acc).symm.trans hacc.out)
      go_wp2
      go_ret
      rw [← hfin.out]
      exact ⟨congrArg (fun x => Ending.returned (Value.string x)) (cat_list [45] acc), hb⟩
theorem decimal_any (n : Int) (w : World) (h0 : -9223372036854775808 ≤ n) (h1 : n ≤ 9223372036854775807) :
    Calls Tryz.prog 9 #[.int .i64 n] w fun e w' => e = .returned (.string ⟨(Wd.decS n).toArray⟩) ∧ Below w.heap.size w w' := by
  by_cases hz : n = 0
  · subst hz
    exact (dec_zero w).mono fun e w' ⟨he, hw⟩ => ⟨he, hw ▸ Below.refl _ _⟩
  · by_cases hn : n < 0
    · obtain ⟨m, hm⟩ := Int.eq_ofNat_of_zero_le (show 0 ≤ -n by omega)
      have e : n = -(m : Int) := by omega
      subst e
      have es : Wd.decS (-(m : Int)) = 45 :: Wd.decA 20 m [] := by unfold Wd.decS; rw [if_neg hz, if_pos hn, Int.natAbs_neg, Int.natAbs_natCast]
      rw [es]
      exact dec_neg m w (by omega) (by omega)
    · obtain ⟨m, rfl⟩ := Int.eq_ofNat_of_zero_le (show 0 ≤ n by omega)
      have es : Wd.decS (m : Int) = Wd.decA 20 m [] := by unfold Wd.decS; rw [if_neg hz, if_neg hn, Int.natAbs_natCast]
      rw [es]
      exact dec_pos m w (by omega) (by omega)
def Wd.good (s : ByteArray) : Prop := s.size ≠ 0 ∧ s.size ≤ 10 ∧ Wd.digs s s.size ∧ (s.size = 1 ∨ Wd.bt s 0 ≠ 48) ∧ Wd.numF s s.size ≤ 1000000000
theorem txt_eq {a b : ByteArray} (h : a = b) : (a.toList == b.toList) = true := by rw [h]; exact beq_self_eq_true _
theorem txt_ne {a b : ByteArray} (h : a ≠ b) : (a.toList == b.toList) = false := by
  rw [beq_eq_false_iff_ne, ByteArray.toList_eq, ByteArray.toList_eq]
  intro e
  exact h (ByteArray.ext (Array.toList_inj.1 e))
instance (s : ByteArray) : Decidable (Wd.good s) := by unfold Wd.good Wd.digs; infer_instance
end Go.Proofs.YtifjneldjjmeaaaGreatDoor
