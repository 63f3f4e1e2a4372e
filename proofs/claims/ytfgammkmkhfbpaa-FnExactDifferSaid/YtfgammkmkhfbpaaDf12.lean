import Derived.Lib.SlicesCompact
import Derived.Lib.Strings
import Derived.Sort.Walk0
import Derived.Lib.RowBridge
import Derived.Test.YtfgammkmkhfbpaaDf4
import Derived.Test.YtfgammkmkhfbpaaDf2
import Derived.Test.YtfgammkmkhfbpaaDf10
import Derived.Test.YtfgammkmkhfbpaaDf11
import Derived.Test.YtfgammkmkhfbpaaDf8
set_option maxRecDepth 100000
set_option maxHeartbeats 3200000
namespace Go.Proofs.Ytfgammkmkhfbpaa
open Go.RowKit
def mkB (l : List UInt8) : ByteArray := ⟨l.toArray⟩
theorem mkB_back (x : ByteArray) : mkB x.data.toList = x := by cases x; simp [mkB]
theorem mkB_list (l : List UInt8) : (mkB l).data.toList = l := by simp [mkB]
theorem lt_of_le_ne {a b : List UInt8} (h : a ≤ b) (hne : b ≠ a) : a < b := by
  apply Decidable.byContradiction
  intro hn
  exact hne (List.le_antisymm (List.not_lt.1 hn) h)
theorem compact_inv (zs : List (List UInt8)) (hs : ∀ i j, i ≤ j → j < zs.length → zs.toArray[i]! ≤ zs.toArray[j]!) : ∀ m, m ≤ zs.length → (Lib.compactUpTo zs.toArray m).Pairwise (· < ·) ∧ ∀ x, x ∈ Lib.compactUpTo zs.toArray m ↔ ∃ j, j < m ∧ zs.toArray[j]! = x
  | 0, _ => ⟨by simp [Lib.compactUpTo], fun x => by simp [Lib.compactUpTo]⟩
  | m + 1, hm => by
    obtain ⟨h1, h2⟩ := compact_inv zs hs m (by omega)
    rw [Lib.compactUpTo_succ]
    by_cases hk : Lib.keeps zs.toArray m = true
    · rw [if_pos hk]
      refine ⟨List.pairwise_append.2 ⟨h1, by simp, fun a ha b hb => ?_⟩, fun x => ?_⟩
      · obtain rfl : b = zs.toArray[m]! := by simpa using hb
        obtain ⟨j, hj, rfl⟩ := (h2 a).1 ha
        have hm0 : m ≠ 0 := by omega
        have hne : zs.toArray[m]! ≠ zs.toArray[m - 1]! := by
          unfold Lib.keeps at hk
          rw [decide_eq_true_eq] at hk
          rcases hk with h | h
          · exact absurd h hm0
          · exact h
        have hlt := lt_of_le_ne (hs (m - 1) m (by omega) (by omega)) hne
        have hle := hs j (m - 1) (by omega) (by omega)
        exact List.lt_of_le_of_lt hle hlt
      · rw [List.mem_append, h2 x]
        constructor
        · rintro (⟨j, hj, h⟩ | h)
          · exact ⟨j, by omega, h⟩
          · exact ⟨m, by omega, (by simpa using h : x = zs.toArray[m]!).symm⟩
        · rintro ⟨j, hj, h⟩
          by_cases e : j = m
          · subst e; exact .inr (by simp [h])
          · exact .inl ⟨j, by omega, h⟩
    · rw [if_neg hk, List.append_nil]
      refine ⟨h1, fun x => ?_⟩
      rw [h2 x]
      have hm0 : ¬ (m = 0 ∨ zs.toArray[m]! ≠ zs.toArray[m - 1]!) := by
        intro h
        exact hk (by unfold Lib.keeps; exact decide_eq_true h)
      constructor
      · rintro ⟨j, hj, h⟩; exact ⟨j, by omega, h⟩
      · rintro ⟨j, hj, h⟩
        by_cases e : j = m
        · subst e
          refine ⟨j - 1, by omega, ?_⟩
          rw [← h]
          exact (Decidable.not_not.1 (fun hn => hm0 (.inr hn))).symm
        · exact ⟨j, by omega, h⟩
def srtT (ts : List ByteArray) : List (List UInt8) := (ts.map (·.data.toList)).mergeSort (fun x y => decide (x ≤ y))
theorem srtT_le (ts : List ByteArray) : ∀ i j, i ≤ j → j < (srtT ts).length → (srtT ts).toArray[i]! ≤ (srtT ts).toArray[j]! := by
  intro i j hij hj
  have hp : (srtT ts).Pairwise (fun a b => decide (a ≤ b) = true) := by
    unfold srtT
    refine List.pairwise_mergeSort (fun a b c h1 h2 => ?_) (fun a b => ?_) _
    · rw [decide_eq_true_eq] at *
      exact List.le_trans h1 h2
    · rw [Bool.or_eq_true, decide_eq_true_eq, decide_eq_true_eq]
      exact List.le_total a b
  have hi : i < (srtT ts).length := by omega
  rw [getElem!_pos _ i (by simpa using hi), getElem!_pos _ j (by simpa using hj)]
  by_cases e : i = j
  · subst e
    exact List.le_refl _
  · have := (List.pairwise_iff_getElem.1 hp) i j hi hj (by omega)
    simpa using this
def keysU (ts : List ByteArray) : List ByteArray := (Lib.compact (srtT ts)).map mkB
theorem keysU_facts (ts : List ByteArray) : AscK (keysU ts) ∧ ∀ k, k ∈ keysU ts ↔ k ∈ ts := by
  obtain ⟨h1, h2⟩ := compact_inv (srtT ts) (srtT_le ts) (srtT ts).length (Nat.le_refl _)
  constructor
  · unfold AscK keysU Lib.compact
    rw [List.pairwise_map]
    refine h1.imp ?_
    intro a b hab
    unfold lessK
    rw [Go.Proofs.bytesLess_eq, decide_eq_true_eq, ByteArray.toList_eq, ByteArray.toList_eq, mkB_list, mkB_list]
    exact hab
  · intro k
    unfold keysU Lib.compact
    rw [List.mem_map]
    constructor
    · rintro ⟨l, hl, rfl⟩
      obtain ⟨j, hj, rfl⟩ := (h2 l).1 hl
      have hj2 : j < (srtT ts).toArray.size := by simpa using hj
      have hm : (srtT ts).toArray[j]! ∈ srtT ts := by
        rw [getElem!_pos _ j hj2]
        simp
      unfold srtT at hm ⊢
      rw [List.mem_mergeSort, List.mem_map] at hm
      obtain ⟨x, hx, hxe⟩ := hm
      rw [← hxe, mkB_back]
      exact hx
    · intro hk
      have hm : k.data.toList ∈ srtT ts := by
        unfold srtT
        rw [List.mem_mergeSort, List.mem_map]
        exact ⟨k, hk, rfl⟩
      obtain ⟨j, hj, hje⟩ := List.getElem_of_mem hm
      refine ⟨k.data.toList, (h2 _).2 ⟨j, hj, ?_⟩, mkB_back k⟩
      rw [getElem!_pos _ j (by simpa using hj)]
      simpa using hje
theorem keysU_len (ts : List ByteArray) : (keysU ts).length ≤ ts.length := by
  unfold keysU Lib.compact Lib.compactUpTo
  rw [List.length_map, List.length_map]
  refine Nat.le_trans (List.length_filter_le _ _) ?_
  rw [List.length_range]
  unfold srtT
  rw [List.length_mergeSort, List.length_map]
  exact Nat.le_refl _
theorem keyOkT_any (s : ByteArray) (w : World) (R : Bool) (hR : R = true ↔ (1 ≤ s.size ∧ s.size ≤ 20)) (hs : s.size ≤ 1048576) : Calls Try.prog 35 #[.string s] w fun e w' => e = .returned (.bool R) ∧ w' = w := by
  have HR : Hid (R = (decide ((1 : Int) ≤ (s.size : Int)) && decide ((s.size : Int) ≤ 20))) := by
    show _ = _
    rw [Bool.eq_iff_iff, hR, Bool.and_eq_true, decide_eq_true_eq, decide_eq_true_eq]
    omega
  clear hR
  cases h : decide ((1 : Int) ≤ (s.size : Int))
  all_goals
    go_enter Try.func35, Try.ntmps35
    go_wp2
    go_ret
    rw [HR.out, h]
    exact ⟨rfl, rfl⟩
theorem keysOf_any (es : List EntD) (ao : Option Addr) (cap : Nat) (w : World) (hl : es.length ≤ 1048576) (hes : EntriesAt w ao es) :
    Calls Try.prog 21 #[.slice ao es.length cap] w fun e w' => (∃ v, e = .returned v ∧ w'.ownsRow w.heap.size 9 1 v (es.map EntD.key).length ((es.map EntD.key).map Value.string)) ∧ Below w.heap.size w w' := by
  have HT := hide hes
  clear hes
  go_enter Try.func21, Try.ntmps21
  go_wp2
  go_loopw [3, 8] (fun vv ii wr => ∃ (k : Nat), ii = .int .i64 (k : Int) ∧ k ≤ es.length ∧ Hid (wr.ownsRow w.heap.size 9 1 vv ((es.take k).map EntD.key).length (((es.take k).map EntD.key).map Value.string)) ∧ Hid (Below w.heap.size w wr)) (fun _ ii _ => es.length - (intOf ii).toNat)
  case atStart => exact ⟨0, rfl, by omega, World.ownsRow_nil _ _ _ _, Below.refl _ _⟩
  case round =>
    obtain ⟨k, rfl, hk, HO, HB⟩ := hrel
    by_cases hlt : k < es.length
    · have hlt' : decide ((k : Int) < (es.length : Int)) = true := by simp; omega
      obtain ⟨b, off, rfl, hbw, hc0, hc1, hc2, hc3, a, c, hc4, -⟩ := entriesAt_keep HT.out HB.out k hlt
      have hws := HB.out.size
      have HEV : Hid ((es.take (k + 1)).map EntD.key = (es.take k).map EntD.key ++ [es[k].key]) := by show _ = _; rw [List.take_succ_eq_append_getElem hlt, List.map_append]; rfl
      generalize es[k] = F at hc0 hc1 hc2 hc3 hc4 HEV
      obtain ⟨key, kd, u, t, ts⟩ := F
      simp only at hc0 hc1 hc2 hc3 hc4 HEV
      have hi0 : (0 : Int) ≤ (k : Int) := by omega
      have hi1 : (k : Int) < (es.length : Int) := by omega
      obtain ⟨L, HL⟩ : ∃ L, Hid ((es.take k).map EntD.key = L) := ⟨_, hide rfl⟩
      have hel : L.length ≤ 1048576 := by rw [← HL.out]; simp; omega
      rw [HL.out] at HO HEV
      go_wp2_with (at_builtin; refine app_txt _ w.heap.size (by rfl) _ _ (by rfl) _ L key (by rfl) ((HO.out.alloc _).alloc _) (wr.heap.size + 1) (by simp [Act.eval]) (by simpa using heap_alloc_new (wr.alloc (.cells #[.string key, .int .i64 kd, .int .i64 u, .string t, .slice a ts.length c] 42)) (.cells #[.string key] 9)) hel (by simp; omega) ?_; intro g5 cap5 w5 ho5 hb5 hgr5 hg5 hgl5; have HO5 := hide ho5; have HB5 := hide hb5; clear ho5 hb5 hgr5 hg5 hgl5)
      go_roundw
      case rel => exact ⟨k + 1, by go_num, by omega, by show World.ownsRow _ _ _ _ _ _ _; rw [HEV.out]; exact HO5.out, ((HB.out.alloc hws _).alloc (by simp; omega) _).trans HB5.out⟩
      case measure => simp [intOf]; omega
    · have hlt' : decide ((k : Int) < (es.length : Int)) = false := by simp; omega
      have hke : k = es.length := by omega
      subst hke
      have HO2 := HO.out
      rw [List.take_length] at HO2
      have HO3 := hide HO2
      clear HO2
      go_wp2
      go_ret
      exact ⟨⟨_, rfl, HO3.out⟩, HB.out⟩
theorem implTableOk_any (es : List EntD) (ao : Option Addr) (cap : Nat) (w : World) (R : Bool) (hR : R = true ↔ TabR es) (hl : es.length ≤ 1048576) (hes : EntriesAt w ao es) (hsz : ∀ e ∈ es, EntS 1048576 e) :
    Calls Try.prog 18 #[.slice ao es.length cap] w fun e w' => e = .returned (.bool R) ∧ Below w.heap.size w w' := by
  have HF := hide hes
  have HS := hide hsz
  have HR := hide (hR.trans (tabR_iff es))
  clear hes hsz hR
  by_cases h1 : 20 < es.length
  · have h1' : decide ((20 : Int) < (es.length : Int)) = true := by simp; omega
    have hF : R = false := by
      cases R
      · rfl
      · have := (HR.out.1 rfl).1; omega
    subst hF
    go_enter Try.func18, Try.ntmps18
    go_wp2
    go_ret
    exact ⟨rfl, Below.refl _ _⟩
  have h1' : decide ((20 : Int) < (es.length : Int)) = false := by simp; omega
  go_enter Try.func18, Try.ntmps18
  go_wp2
  go_loopw [10] (fun ii wr => ∃ (k : Nat), ii = .int .i64 (k : Int) ∧ k ≤ es.length ∧ Hid (∀ j (h : j < es.length), j < k → (1 ≤ es[j].key.size ∧ es[j].key.size ≤ 20) ∧ ValR es[j].val) ∧ Hid (Below w.heap.size w wr)) (fun ii _ => es.length - (intOf ii).toNat)
  case atStart => exact ⟨0, rfl, by omega, fun j _ hj => absurd hj (by omega), Below.refl _ _⟩
  case round =>
    obtain ⟨k, rfl, hk, HK, HB⟩ := hrel
    by_cases hlt : k < es.length
    · have hlt' : decide ((k : Int) < (es.length : Int)) = true := by simp; omega
      obtain ⟨b, off, rfl, hbw, hc0, hc1, hc2, hc3, a, c, hc4, hta⟩ := entriesAt_keep HF.out HB.out k hlt
      have hws := HB.out.size
      have hsA := HS.out es[k] (List.getElem_mem hlt)
      have HNX : Hid ((1 ≤ es[k].key.size ∧ es[k].key.size ≤ 20) → ValR es[k].val → ∀ j (h : j < es.length), j < k + 1 → (1 ≤ es[j].key.size ∧ es[j].key.size ≤ 20) ∧ ValR es[j].val) := by
        intro h1 h2 j hj hjk
        by_cases e : j = k
        · subst e; exact ⟨h1, h2⟩
        · exact HK.out j hj (by omega)
      have HNO : Hid (R = true → (1 ≤ es[k].key.size ∧ es[k].key.size ≤ 20) ∧ ValR es[k].val) := fun h => (HR.out.1 h).2.1 _ (List.getElem_mem hlt)
      obtain ⟨r, Hr⟩ : ∃ r : Bool, Hid (r = true ↔ ValR es[k].val) := by classical exact ⟨decide (ValR es[k].val), by show _ ↔ _; simp⟩
      obtain ⟨r0, Hr0⟩ : ∃ r : Bool, Hid (r = true ↔ (1 ≤ es[k].key.size ∧ es[k].key.size ≤ 20)) := by classical exact ⟨decide (1 ≤ es[k].key.size ∧ es[k].key.size ≤ 20), by show _ ↔ _; simp⟩
      have HVO := hide (fun W (hW : Below wr.heap.size wr W) => implValOk_any es[k].val a c W r Hr.out hsA.2.2.1 (by have := hsA.2.1; unfold maxLen; omega) (textsAt_keep hta hW) (fun s hs => by have := hsA.2.2.2 s hs; unfold maxLen; omega))
      have HKO := hide (fun W => keyOkT_any es[k].key W r0 Hr0.out hsA.1)
      generalize es[k] = F at hc0 hc1 hc2 hc3 hc4 HNX HNO HVO HKO Hr Hr0
      clear hsA hta
      obtain ⟨key, kd, u, t, ts⟩ := F
      simp only at hc0 hc1 hc2 hc3 hc4 HVO HKO HNX HNO Hr Hr0
      have hi0 : (0 : Int) ≤ (k : Int) := by omega
      have hi1 : (k : Int) < (es.length : Int) := by omega
      have B1 : Hid (Below wr.heap.size wr (wr.alloc (.cells #[.string key, .int .i64 kd, .int .i64 u, .string t, .slice a ts.length c] 42))) := (Below.refl _ wr).alloc (Nat.le_refl _) _
      have W1 := hide (HB.out.trans (B1.out.mono hws))
      go_wp2_with fail
      refine (HKO.out _).mono ?_
      rintro e w1 ⟨rfl, rfl⟩
      cases r0
      · have hF : Hid (R = false) := by
          show _ = _
          cases R
          · rfl
          · exact absurd (Hr0.out.2 (HNO.out rfl).1) (by simp)
        go_wp2
        go_ret
        rw [hF.out]
        exact ⟨rfl, W1.out⟩
      go_wp2_with fail
      refine (HVO.out _ B1.out).mono ?_
      rintro e w2 ⟨rfl, b2⟩
      have W2 := hide (W1.out.trans (b2.mono W1.out.size))
      clear b2
      cases r
      · have hF : Hid (R = false) := by
          show _ = _
          cases R
          · rfl
          · exact absurd (Hr.out.2 (HNO.out rfl).2) (by simp)
        go_wp2
        go_ret
        rw [hF.out]
        exact ⟨rfl, W2.out⟩
      have HK1 := hide (HNX.out (Hr0.out.1 (by trivial)) (Hr.out.1 (by trivial)))
      go_wp2
      go_roundw
      case rel => exact ⟨k + 1, by go_num, by omega, HK1, W2⟩
      case measure => simp [intOf]; omega
    · have hlt' : decide ((k : Int) < (es.length : Int)) = false := by simp; omega
      have hke : k = es.length := by omega
      subst hke
      have HR2 : Hid (R = true ↔ Asc (es.map EntD.key)) := by
        show _ ↔ _
        rw [HR.out]
        constructor
        · exact fun h => h.2.2
        · intro h
          refine ⟨by omega, fun e he => ?_, h⟩
          obtain ⟨j, hj, rfl⟩ := List.getElem_of_mem he
          exact HK.out j hj hj
      go_wp2_with fail
      refine (keysOf_any es ao cap wr hl (entriesAt_keep HF.out HB.out)).mono ?_
      rintro e w1 ⟨⟨v, rfl, ho⟩, b1⟩
      obtain ⟨a, c, rfl, ht⟩ := rowText_at (rowText_own ho)
      have HA0 := ascending_any _ a c w1 R HR2.out (by rw [List.length_map]; unfold maxLen; omega) ht
      rw [List.length_map] at HA0
      have HA := hide HA0
      clear HA0
      have W1 := hide (HB.out.trans (b1.mono HB.out.size))
      clear ho ht b1
      go_wp2_with fail
      refine HA.out.mono ?_
      rintro e w2 ⟨rfl, b2⟩
      go_wp2
      go_ret
      exact ⟨rfl, W1.out.trans (b2.mono W1.out.size)⟩
theorem txts_neI {a b : ByteArray} (h : a ≠ b) : (a.toList == b.toList) = false := by
  cases hh : (a.toList == b.toList)
  · rfl
  · have := eq_of_beq hh
    rw [ByteArray.toList_eq, ByteArray.toList_eq] at this
    exact absurd (ByteArray.ext (Array.toList_inj.1 this)) h
theorem chg_gone {a b : List EntD} {k : ByteArray} (h : findB b k = false) : chgK a b k = [goneC k] := by
  unfold findB at h
  unfold chgK
  cases hb : findE b k with
  | none => rfl
  | some y => rw [hb] at h; cases h
theorem chg_new {a b : List EntD} {k : ByteArray} (h : findB b k = true) (h2 : findB a k = false) : chgK a b k = [⟨k, undT b k, false⟩] := by
  unfold findB at h h2
  unfold chgK undT
  cases hb : findE b k with
  | none => rw [hb] at h; cases h
  | some y =>
    cases ha : findE a k with
    | none => rfl
    | some x => rw [ha] at h2; cases h2
theorem chg_same {a b : List EntD} {k : ByteArray} (h : findB b k = true) (h2 : findB a k = true) (he : undT a k = undT b k) : chgK a b k = [] := by
  unfold findB at h h2
  unfold undT at he
  unfold chgK
  cases hb : findE b k with
  | none => rw [hb] at h; cases h
  | some y =>
    cases ha : findE a k with
    | none => rw [ha] at h2; cases h2
    | some x =>
      rw [ha, hb] at he
      exact if_pos he
theorem chg_other {a b : List EntD} {k : ByteArray} (h : findB b k = true) (h2 : findB a k = true) (he : undT a k ≠ undT b k) : chgK a b k = [⟨k, undT b k, false⟩] := by
  unfold findB at h h2
  unfold undT at he ⊢
  unfold chgK
  cases hb : findE b k with
  | none => rw [hb] at h; cases h
  | some y =>
    cases ha : findE a k with
    | none => rw [ha] at h2; cases h2
    | some x =>
      rw [ha, hb] at he
      exact if_neg he
theorem app_txsD {ops : Array Oper} {rest : List Oper} {o : Oper} {a : Act} {Q : Exit → Act → World → Prop} (W : World) (B : Nat) (hgd : o.guard = none) (s y : Operand)
    (ho : o.op = .call { callee := .builtin .append, args := #[s, y], argTypes := #[34, 34] }) (v : Value) (l rs : List ByteArray) (hs : a.eval s = v)
    (hown : W.ownsRow B 9 1 v l.length (l.map Value.string)) (B2 : Nat) (v2 : Value) (hx : a.eval y = v2) (hown2 : W.ownsRow B2 9 1 v2 rs.length (rs.map Value.string)) (hnil : rs = [] → v2 = .slice none 0 0)
    (hlen : l.length + rs.length ≤ 1048576) (hbase : B ≤ W.heap.size)
    (h : ∀ v' w', w'.ownsRow B 9 1 v' (l ++ rs).length ((l ++ rs).map Value.string) → Below B W w' → wpList Try.prog ops Q rest (a.put o.dst v') w') :
    wpList Try.prog ops Q (o :: rest) a W := by
  obtain ⟨i0, hi, hz0, hz1, hz2⟩ := info_parts Try.infoText
  cases rs with
  | nil =>
    refine wpList_append_own_none hgd s y 34 ho B 9 i0 1 Try.underlying34 hi v l.length (l.map Value.string) hs hown (by rw [hx, hnil rfl]) ?_
    refine h v W ?_ (Below.refl _ _)
    rw [List.append_nil]
    exact hown
  | cons r0 rs =>
    rcases hown2.2 with ⟨rfl, hn⟩ | ⟨g2, cap2, cur2, rfl, -⟩
    · simp at hn
    refine wpList_append_lies W hgd s y 34 ho B 9 i0 (.string ⟨#[]⟩) 1 16 Try.underlying34 hi hz0 hz1 hz2 rfl (by decide) v l.length (l.map Value.string) hs hown ⟨g2, 0, none⟩ (r0 :: rs).length cap2 ((r0 :: rs).map Value.string) hx (by rw [List.length_map]; omega)
      (fun j u hj => hown2.cells (g := g2) rfl j u hj) (texts_one _) (by simp) (by unfold maxLen; omega) (by omega) hbase W.heap.size rfl ?_
    intro g cap w' hown' hgrow hg hgl
    have hlt := hown.lt
    refine h _ w' ?_ ((Below.refl B W).grown hgrow hbase (fun k hk => (hlt k hk).1))
    rw [List.map_append, List.length_append]
    exact hown'
open Go.Sort in
theorem compact_any (ts : List ByteArray) (v : Value) (B : Nat) (w : World) (hl : ts.length ≤ 1048576) (hB : B ≤ w.heap.size) (h : w.ownsRow B 9 1 v ts.length ((srtK ts).map encStr)) :
    Calls Try.prog 22 #[v] w fun e w' => ∃ a c, e = .returned (.slice a (keysU ts).length c) ∧ TextsAt w' a (keysU ts) ∧ Below B w w' := by
  have hz : (srtK ts).length = ts.length := by unfold srtK; rw [List.length_mergeSort, List.length_map]
  have hKl : (keysU ts).length = (Lib.compact (srtK ts)).length := by unfold keysU; rw [List.length_map]; rfl
  rcases h.2 with ⟨rfl, hn⟩ | ⟨gb, cap1, cur, rfl, hbase, hgb, r1, r2, r3, r4⟩
  · have e0 : ts = [] := List.eq_nil_of_length_eq_zero hn
    subst e0
    have e1 : keysU [] = [] := by simp [keysU, srtT, Lib.compact, Lib.compactUpTo]
    rw [e1]
    refine (Try.slices_Compact_string_empty none 0 w).mono ?_
    rintro e w' ⟨rfl, rfl⟩
    exact ⟨none, 0, rfl, fun j hj => absurd hj (by simp), Below.refl _ _⟩
  · have hH : Holds encStr w gb 0 (srtK ts).toArray := holds_of_block hgb (by rw [hz]; simpa using r4)
    have hc := Try.slices_Compact_string gb 0 cap1 (srtK ts) w hH (by omega) (by omega)
    rw [hz] at hc
    refine hc.mono ?_
    rintro e w' ⟨rfl, q, rfl⟩
    refine ⟨some ⟨gb, 0, none⟩, cap1, by rw [hKl], ?_, ?_⟩
    · have hlt : gb < w.heap.size := (Array.getElem?_eq_some_iff.1 hgb).1
      have hle : (Lib.compact (srtK ts)).length ≤ (srtK ts).length := Lib.compact_length_le _
      intro j hj
      refine ⟨gb, 0, rfl, by simpa using hlt, ?_⟩
      have hj2 : j < (Lib.compact (srtK ts)).length := by omega
      have h1 := cell?_putRow encStr (Sort.ahead w q) gb 0 (srtK ts).toArray (Lib.compact (srtK ts) ++ List.replicate (ts.length - (Lib.compact (srtK ts)).length) []).toArray hH (by simp; omega) j (by simp; omega)
      rw [h1, getElem!_pos _ j (by simp; omega)]
      have h2 : (Lib.compact (srtK ts) ++ List.replicate (ts.length - (Lib.compact (srtK ts)).length) []).toArray[j]'(by simp; omega) = (Lib.compact (srtK ts))[j] := by
        simp [List.getElem_append_left hj2]
      rw [h2]
      have h3 : (keysU ts)[j] = mkB (Lib.compact (srtK ts))[j] := by
        unfold keysU
        simp [srtT, srtK]
      rw [h3]
      rfl
    · have h1 := grownBy_sorted (w := w) (g := gb) (n := q) (os := #[]) (Lib.compact (srtK ts) ++ List.replicate (ts.length - (Lib.compact (srtK ts)).length) []).toArray
      rw [grow_empty] at h1
      exact (Below.refl B w).grown h1 hB (fun j hj => by cases hj; exact hbase)
theorem implDiffer_any (a b : List EntD) (ao1 ao2 : Option Addr) (c1 c2 : Nat) (w : World) (Ra Rb : Bool) (hRa : Ra = true ↔ TabR a) (hRb : Rb = true ↔ TabR b) (la : a.length ≤ 1048576) (lb : b.length ≤ 1048576) (ha : EntriesAt w ao1 a) (hb : EntriesAt w ao2 b) (za : ∀ e ∈ a, EntS 1048576 e) (zb : ∀ e ∈ b, EntS 1048576 e) :
    Calls Try.prog 7 #[.slice ao1 a.length c1, .slice ao2 b.length c2] w fun e w' => ∃ v, e = .returned v ∧ RowChange w' w.heap.size v (cond (Ra && Rb) (difF (a.length + b.length + 1) a b) []) ∧ Below w.heap.size w w' := by
  have TA := hide (fun W (hW : Below w.heap.size w W) => implTableOk_any a ao1 c1 W Ra hRa la (entriesAt_keep ha hW) za)
  have TB := hide (fun W (hW : Below w.heap.size w W) => implTableOk_any b ao2 c2 W Rb hRb lb (entriesAt_keep hb hW) zb)
  cases Ra with
  | false =>
    clear hRa hRb ha hb za zb
    go_enter Try.func7, Try.ntmps7
    go_wp2_with fail
    refine (TA.out _ (Below.refl _ _)).mono ?_
    rintro e w1 ⟨rfl, b1⟩
    go_wp2
    go_ret
    exact ⟨_, rfl, .inl ⟨rfl, rfl⟩, b1⟩
  | true =>
  cases Rb with
  | false =>
    clear hRa hRb ha hb za zb
    go_enter Try.func7, Try.ntmps7
    go_wp2_with fail
    refine (TA.out _ (Below.refl _ _)).mono ?_
    rintro e w1 ⟨rfl, b1⟩
    have B1 := hide b1
    clear b1
    go_wp2_with fail
    refine (TB.out _ B1.out).mono ?_
    rintro e w2 ⟨rfl, b2⟩
    go_wp2
    go_ret
    exact ⟨_, rfl, .inl ⟨rfl, rfl⟩, B1.out.trans (b2.mono B1.out.size)⟩
  | true =>
  have hTa := hRa.1 rfl
  have hTb := hRb.1 rfl
  have hla : a.length ≤ 20 := hTa.1
  have hlb : b.length ≤ 20 := hTb.1
  obtain ⟨ts, hts⟩ : ∃ ts, Hid (a.map EntD.key ++ b.map EntD.key = ts) := ⟨_, rfl⟩
  have htl : ts.length ≤ 40 := by rw [← hts.out, List.length_append, List.length_map, List.length_map]; omega
  obtain ⟨hasc, hmem⟩ := keysU_facts ts
  have hkl := keysU_len ts
  have HR : Hid (difF (a.length + b.length + 1) a b = (keysU ts).flatMap (chgK a b)) :=
    dif_keys _ a b _ (by omega) (tab_pw hTa) (tab_pw hTb) (fun e he => (tab_all hTa e he).2) (fun e he => (tab_all hTb e he).2) hasc (fun k => by
      rw [hmem k, ← hts.out, List.mem_append, List.mem_map, List.mem_map])
  have HKZ : Hid (∀ x ∈ keysU ts, x.size ≤ 1048576) := fun x hx => by
    have h1 := (hmem x).1 hx
    rw [← hts.out, List.mem_append, List.mem_map, List.mem_map] at h1
    rcases h1 with ⟨e, he, rfl⟩ | ⟨e, he, rfl⟩
    · have := (tab_all hTa e he).1; omega
    · have := (tab_all hTb e he).1; omega
  show Calls _ _ _ _ fun e w' => ∃ v, e = .returned v ∧ RowChange w' w.heap.size v (difF (a.length + b.length + 1) a b) ∧ Below w.heap.size w w'
  rw [HR.out]
  obtain ⟨ks, hks⟩ : ∃ ks, Hid (keysU ts = ks) := ⟨_, rfl⟩
  have hkl2 : ks.length ≤ 40 := by rw [← hks.out]; omega
  rw [hks.out] at HKZ ⊢
  have UA := hide (fun W key (hW : Below w.heap.size w W) => textUnder_any a key ao1 c1 W hTa (entriesAt_keep ha hW) za)
  have UB := hide (fun W key (hW : Below w.heap.size w W) => textUnder_any b key ao2 c2 W hTb (entriesAt_keep hb hW) zb)
  have KA := hide (fun W (hW : Below w.heap.size w W) => keysOfD_any a ao1 c1 W la (entriesAt_keep ha hW))
  have KB := hide (fun W (hW : Below w.heap.size w W) => keysOfD_any b ao2 c2 W lb (entriesAt_keep hb hW))
  clear hRa hRb ha hb za zb hTa hTb hasc hmem HR la lb
  go_enter Try.func7, Try.ntmps7
  go_wp2_with fail
  refine (TA.out _ (Below.refl _ _)).mono ?_
  rintro e w1 ⟨rfl, b1⟩
  have B1 := hide b1
  have z1 := b1.size
  clear b1
  go_wp2_with fail
  refine (TB.out _ B1.out).mono ?_
  rintro e w2 ⟨rfl, b2⟩
  have B2 := hide (B1.out.trans (b2.mono z1))
  have z2 := B2.out.size
  clear b2
  go_wp2_with fail
  refine (KA.out _ B2.out).mono ?_
  rintro e w3 ⟨v3, rfl, o3, -, b3⟩
  have O3 := hide o3
  have B3 := hide (B2.out.trans (b3.mono z2))
  have z3 := B3.out.size
  have y3 := b3.size
  clear o3 b3
  go_wp2_with fail
  refine (KB.out _ B3.out).mono ?_
  rintro e w4 ⟨v4, rfl, o4, n4, b4⟩
  have O34 := hide (ownsRow_below O3.out b4)
  have O4 := hide o4
  have N4 : Hid (b.map EntD.key = [] → v4 = .slice none 0 0) := fun h => n4 (List.map_eq_nil_iff.1 h)
  have B4 := hide (B3.out.trans (b4.mono z3))
  have z4 := B4.out.size
  have y4 := b4.size
  clear o4 b4 n4 O3
  go_wp2_with (at_builtin; refine app_txsD _ w2.heap.size (by rfl) _ _ (by rfl) _ (a.map EntD.key) (b.map EntD.key) (by rfl) O34.out _ _ (by rfl) O4.out N4.out (by rw [List.length_map, List.length_map]; omega) (by omega) ?_; intro v5 w5 o5 b5; rw [hts.out] at o5; have O5 := hide o5; have B5 := hide (B4.out.trans (b5.mono z2)); have z5 := B5.out.size; have y5 := b5.size; clear o5 b5)
  obtain ⟨a5, c5, e5⟩ := slice_form O5.out
  refine (values_any v5 w5 a5 _ c5 e5).mono ?_
  rintro e w6 ⟨rfl, e6⟩
  have bx : Boxed w6 w5.heap.size 34 v5 := by rw [e6]; exact Boxed.new w5 34 v5
  have b6 : Below w5.heap.size w5 w6 := by rw [e6]; exact (Below.refl _ w5).alloc (Nat.le_refl _) _
  have hz6 : w6.heap.size = w5.heap.size + 1 := by rw [e6]; simp
  have B6 := hide (B5.out.trans (b6.mono z5))
  have z6 := B6.out.size
  rw [e5] at bx
  have HS := hide (sorted_any ts a5 c5 w5.heap.size w6 (by omega) (by
    have h1 := ownsRow_below O5.out b6
    rw [e5] at h1
    exact rowText_rows (rowText_own h1)) (by omega) bx)
  clear bx b6 e6 hz6 O5
  go_wp2_with fail
  refine HS.out.mono ?_
  rintro e w7 ⟨v7, rfl, o7, b7⟩
  have O7 := hide o7
  have B7 := hide (B6.out.trans (b7.mono z6))
  have z7 := B7.out.size
  have y7 := b7.size
  have HCo := hide (compact_any ts v7 w6.heap.size w7 (by omega) y7 o7)
  rw [hks.out] at HCo
  clear o7 b7 HS
  go_wp2_with fail
  refine HCo.out.mono ?_
  rintro e w8 ⟨a8, c8, rfl, t8, b8⟩
  have T8 := hide t8
  have B8 := hide (B7.out.trans (b8.mono z6))
  clear t8 b8 HCo O7
  have z8 := B8.out.size
  clear hks hkl hts
  go_wp2_with fail
  go_loopw [5, 31] (fun vv ii wr => ∃ (k : Nat) (acc : List ChangeD) (aa : Option Addr) (cc : Nat), vv = .slice aa acc.length cc ∧ ii = .int .i64 (k : Int) ∧ k ≤ ks.length ∧ acc.length ≤ k ∧ Hid (acc = (ks.take k).flatMap (chgK a b)) ∧ Hid (wr.ownsRow w8.heap.size 44 3 (.slice aa acc.length cc) acc.length (cellsChange acc)) ∧ Hid (Below w8.heap.size w8 wr)) (fun _ ii _ => ks.length - (intOf ii).toNat)
  case atStart => exact ⟨0, [], none, 0, rfl, rfl, by omega, by simp, rfl, World.ownsRow_nil _ _ _ _, Below.refl _ _⟩
  case round =>
    clear B7 B6 B5 B4 B3 B2 B1 O34 O4 N4
    obtain ⟨k, acc, aa, cc, rfl, rfl, hk, hal, HA, HO, HBT⟩ := hrel
    have zr := HBT.out.size
    have BWR := hide (B8.out.trans (HBT.out.mono z8))
    have zw := BWR.out.size
    by_cases hlt : k < ks.length
    · have hlt' : decide ((k : Int) < (ks.length : Int)) = true := by simp; omega
      have hi0 : (0 : Int) ≤ (k : Int) := by omega
      have hi1 : (k : Int) < (ks.length : Int) := by omega
      obtain ⟨bb, off, rfl, hbw, hce⟩ := textsAt_keep T8.out HBT.out k hlt
      have hKz := HKZ.out ks[k] (List.getElem_mem hlt)
      have HNX : Hid ((ks.take (k + 1)).flatMap (chgK a b) = acc ++ chgK a b ks[k]) := by show _ = _; rw [List.take_succ_eq_append_getElem hlt, List.flatMap_append, ← HA.out]; simp
      obtain ⟨key, hkey⟩ : ∃ key, Hid (ks[k] = key) := ⟨ks[k], hide rfl⟩
      rw [hkey.out] at hce hKz HNX
      have HOT := hide (fun W => ownText_any key W hKz)
      have HUA := hide (UA.out wr key BWR.out)
      have HUB := hide (fun W (hW : Below w.heap.size w W) => UB.out W key hW)
      obtain ⟨ua, hua⟩ : ∃ ua, Hid (undT a key = ua) := ⟨_, rfl⟩
      obtain ⟨fa, hfa⟩ : ∃ fa, Hid (findB a key = fa) := ⟨_, rfl⟩
      obtain ⟨ub, hub⟩ : ∃ ub, Hid (undT b key = ub) := ⟨_, rfl⟩
      obtain ⟨fb, hfb⟩ : ∃ fb, Hid (findB b key = fb) := ⟨_, rfl⟩
      rw [hua.out, hfa.out] at HUA
      rw [hub.out, hfb.out] at HUB
      go_wp2_with fail
      refine HUA.out.mono ?_
      rintro e w3 ⟨rfl, b3⟩
      have B3 := hide (HBT.out.trans (b3.mono zr))
      have W3 := hide (BWR.out.trans (b3.mono zw))
      have O3 := hide (ownsRow_below HO.out b3)
      have z3 := B3.out.size
      clear b3 HUA hce
      go_wp2_with fail
      refine (HUB.out _ W3.out).mono ?_
      rintro e w4 ⟨rfl, b4⟩
      have B4 := hide (B3.out.trans (b4.mono z3))
      have O4 := hide (ownsRow_below O3.out b4)
      have z4 := B4.out.size
      clear b4 HUB O3 B3 HO
      cases fb
      · have HC1 : Hid ((ks.take (k + 1)).flatMap (chgK a b) = acc ++ [goneC key]) := by show _ = _; rw [HNX.out, chg_gone hfb.out]
        go_wp2_with fail
        refine (HOT.out _).mono ?_
        rintro e w5 ⟨rfl, b5⟩
        have B5 := hide (B4.out.trans (b5.mono z4))
        have O5 := hide (ownsRow_below O4.out b5)
        have z5 := B5.out.size
        clear b5
        go_wp2_with (at_builtin; refine app_change _ w8.heap.size (by rfl) _ _ (by rfl) _ acc (goneC key) (by rfl) (O5.out.alloc _) w5.heap.size (by simp [Act.eval]) (heap_alloc_new w5 _) (by omega) (by simp; omega) ?_; intro g9 cap9 w9 ho9 hb9 hg9 hgl9; have O9 := hide ho9; have B9 := hide ((B5.out.alloc (by omega) _).trans hb9); clear ho9 hb9 hg9 hgl9)
        go_roundw
        case rel => exact ⟨k + 1, acc ++ [goneC key], some ⟨g9, 0, none⟩, cap9, by simp, by go_num, by omega, by simp; omega, hide HC1.out.symm, by rw [List.length_append]; rw [List.length_append] at O9; exact O9, B9⟩
        case measure => simp [intOf]; omega
      · cases fa
        · have HC1 : Hid ((ks.take (k + 1)).flatMap (chgK a b) = acc ++ [⟨key, ub, false⟩]) := by show _ = _; rw [HNX.out, chg_new hfb.out hfa.out, hub.out]
          go_wp2_with fail
          refine (HOT.out _).mono ?_
          rintro e w5 ⟨rfl, b5⟩
          have B5 := hide (B4.out.trans (b5.mono z4))
          have O5 := hide (ownsRow_below O4.out b5)
          have z5 := B5.out.size
          clear b5
          go_wp2_with (at_builtin; refine app_change _ w8.heap.size (by rfl) _ _ (by rfl) _ acc (⟨key, ub, false⟩) (by rfl) (O5.out.alloc _) w5.heap.size (by simp [Act.eval]) (heap_alloc_new w5 _) (by omega) (by simp; omega) ?_; intro g9 cap9 w9 ho9 hb9 hg9 hgl9; have O9 := hide ho9; have B9 := hide ((B5.out.alloc (by omega) _).trans hb9); clear ho9 hb9 hg9 hgl9)
          go_roundw
          case rel => exact ⟨k + 1, acc ++ [(⟨key, ub, false⟩ : ChangeD)], some ⟨g9, 0, none⟩, cap9, by simp, by go_num, by omega, by simp; omega, hide HC1.out.symm, by rw [List.length_append]; rw [List.length_append] at O9; exact O9, B9⟩
          case measure => simp [intOf]; omega
        · by_cases heq : ua = ub
          · have heq' : (ua.toList == ub.toList) = true := by rw [heq]; exact beq_self_eq_true _
            have HC1 : Hid ((ks.take (k + 1)).flatMap (chgK a b) = acc) := by show _ = _; rw [HNX.out, chg_same hfb.out hfa.out (by rw [hua.out, hub.out]; exact heq), List.append_nil]
            go_wp2
            go_roundw
            case rel => exact ⟨k + 1, acc, aa, cc, rfl, by go_num, by omega, by omega, hide HC1.out.symm, O4, B4⟩
            case measure => simp [intOf]; omega
          · have heq' : (ua.toList == ub.toList) = false := txts_neI heq
            have HC1 : Hid ((ks.take (k + 1)).flatMap (chgK a b) = acc ++ [⟨key, ub, false⟩]) := by show _ = _; rw [HNX.out, chg_other hfb.out hfa.out (by rw [hua.out, hub.out]; exact heq), hub.out]
            go_wp2_with fail
            refine (HOT.out _).mono ?_
            rintro e w5 ⟨rfl, b5⟩
            have B5 := hide (B4.out.trans (b5.mono z4))
            have O5 := hide (ownsRow_below O4.out b5)
            have z5 := B5.out.size
            clear b5
            go_wp2_with (at_builtin; refine app_change _ w8.heap.size (by rfl) _ _ (by rfl) _ acc (⟨key, ub, false⟩) (by rfl) (O5.out.alloc _) w5.heap.size (by simp [Act.eval]) (heap_alloc_new w5 _) (by omega) (by simp; omega) ?_; intro g9 cap9 w9 ho9 hb9 hg9 hgl9; have O9 := hide ho9; have B9 := hide ((B5.out.alloc (by omega) _).trans hb9); clear ho9 hb9 hg9 hgl9)
            go_roundw
            case rel => exact ⟨k + 1, acc ++ [(⟨key, ub, false⟩ : ChangeD)], some ⟨g9, 0, none⟩, cap9, by simp, by go_num, by omega, by simp; omega, hide HC1.out.symm, by rw [List.length_append]; rw [List.length_append] at O9; exact O9, B9⟩
            case measure => simp [intOf]; omega
    · have hlt' : decide ((k : Int) < (ks.length : Int)) = false := by simp; omega
      have HF : Hid (acc = ks.flatMap (chgK a b)) := by show _ = _; rw [HA.out, List.take_of_length_le (by omega)]
      go_wp2
      go_ret
      rw [← HF.out]
      exact ⟨_, rfl, rowChange_le (rowChange_own HO.out) z8, BWR.out⟩
end Go.Proofs.Ytfgammkmkhfbpaa
