/- Rows of rows of texts as the laws hold them. -/
import Derived.Test.YtnfnhkodjmilgaaDoorRowsA
namespace Go.Proofs.YtnfnhkodjmilgaaDoor
open Go.RowKit

set_option maxRecDepth 100000 in
set_option maxHeartbeats 800000 in
theorem eqStringSS_same (tt : List (List ByteArray)) (ao ao2 : Option Addr) (cap cap2 : Nat) (w : World) (hl : tt.length ≤ 1048577) (hc : ∀ x ∈ tt, x.length ≤ 8) (h1 : RowsAt w ao tt) (h2 : RowsAt w ao2 tt) :
    Calls Tryd.prog 17 #[.slice ao tt.length cap, .slice ao2 tt.length cap2] w fun e w' => e = .returned (.bool true) ∧ Below w.heap.size w w' := by
  have H1 := hide h1
  have H2 := hide h2
  have HC := hide hc
  clear h1 h2 hc
  have hne : (!((tt.length : Int) == (tt.length : Int))) = false := by simp
  go_enter Tryd.func17, Tryd.ntmps17
  go_wp2
  go_loopw [5] (fun ii wr => ∃ (k : Nat), ii = .int .i64 k ∧ k ≤ tt.length ∧ Hid (Below w.heap.size w wr)) (fun ii _ => tt.length - (intOf ii).toNat)
  case atStart => exact ⟨0, rfl, Nat.zero_le _, Below.refl _ _⟩
  case round =>
    obtain ⟨k, rfl, hk, HB⟩ := hrel
    by_cases hlt : k < tt.length
    · have hlt' : decide ((k : Int) < (tt.length : Int)) = true := by simp; omega
      obtain ⟨b, off, rfl, hbw, a1, c1, hc0, t1⟩ := rowsAt_keep H1.out HB.out k hlt
      obtain ⟨b', off', rfl, hbw', a2, c2, hd0, t2⟩ := rowsAt_keep H2.out HB.out k hlt
      have hF := HC.out tt[k] (List.getElem_mem hlt)
      generalize tt[k] = F at hc0 hd0 t1 t2 hF
      have T1 := hide t1
      have T2 := hide t2
      clear t1 t2
      have hi0 : (0 : Int) ≤ (k : Int) := by omega
      have hi1 : (k : Int) < (tt.length : Int) := by omega
      have HE : Hid (∀ W, Below wr.heap.size wr W → Calls Tryd.prog 10 #[.slice a1 F.length c1, .slice a2 F.length c2] W fun e w' => e = .returned (.bool true) ∧ Below W.heap.size W w') :=
        fun W hW => eqStringS_same F a1 a2 c1 c2 W (by unfold maxLen; omega) (textsAt_keep T1.out hW) (textsAt_keep T2.out hW)
      have HBw := hide hbw
      have HBw' := hide hbw'
      clear hbw hbw'
      go_wp2_with fail
      go_region_held3 (fun w' => w'.cell? ⟨b, off + k, none⟩ = some (.slice a1 F.length c1) ∧ w'.cell? ⟨b', off' + k, none⟩ = some (.slice a2 F.length c2)) (first | go_keep | (exact ⟨(b1.cell (p := ⟨b, off + k, none⟩) HBw.out).trans hc0, (b1.cell (p := ⟨b', off' + k, none⟩) HBw'.out).trans hd0⟩)) ((go_at_call 10; refine (HE.out _ (by first | exact Below.refl _ _ | exact (Below.refl _ _).drew)).mono ?_; rintro e w1 ⟨rfl, b1⟩))
      go_wp2
      go_roundw
      case rel => exact ⟨k + 1, by go_num, by omega, HB.out.trans (((Below.refl _ _).drew.trans b1).mono HB.out.size)⟩
      case measure => simp [intOf]; omega
    · have hlt' : decide ((k : Int) < (tt.length : Int)) = false := by simp; omega
      go_wp2
      go_ret
      exact ⟨rfl, HB.out⟩

/-- How many texts there are. -/
def sumL : List (List ByteArray) → Nat
  | [] => 0
  | x :: r => x.length + sumL r
theorem sumL_le : ∀ (tt : List (List ByteArray)), (∀ x ∈ tt, x.length ≤ 8) → sumL tt ≤ 8 * tt.length
  | [], _ => Nat.le_refl _
  | x :: r, h => by
    have h1 := h x List.mem_cons_self
    have h2 := sumL_le r (fun y hy => h y (List.mem_cons_of_mem _ hy))
    simp only [sumL, List.length_cons]
    omega
/-- The rows marked from k on. -/
def markTT : Nat → List (List ByteArray) → List (List ByteArray)
  | _, [] => []
  | k, x :: r => markTs k x.length :: markTT (k + x.length) r
theorem markTT_length : ∀ (tt : List (List ByteArray)) (k : Nat), (markTT k tt).length = tt.length
  | [], _ => rfl
  | x :: r, k => by simp [markTT, markTT_length r]
theorem sumL_append : ∀ (a b : List (List ByteArray)), sumL (a ++ b) = sumL a + sumL b
  | [], _ => by simp [sumL]
  | e :: r, b => by simp [sumL, sumL_append r b]; omega
theorem sumL_take (tt : List (List ByteArray)) (k : Nat) : sumL (tt.take k) ≤ sumL tt := by
  have := sumL_append (tt.take k) (tt.drop k)
  rw [List.take_append_drop] at this
  omega
theorem sumL_next (tt : List (List ByteArray)) (k : Nat) (h : k < tt.length) : sumL (tt.take (k + 1)) = sumL (tt.take k) + tt[k].length := by
  rw [List.take_succ_eq_append_getElem h, sumL_append]
  simp [sumL]
theorem markTT_get (tt : List (List ByteArray)) (k j : Nat) (h : j < tt.length) : (markTT k tt)[j]? = some (markTs (k + sumL (tt.take j)) tt[j].length) := by
  induction tt generalizing k j with
  | nil => simp at h
  | cons e r ih =>
    cases j with
    | zero => simp [markTT, sumL]
    | succ j =>
      have := ih (k + e.length) j (by simpa using h)
      simpa [markTT, sumL, Nat.add_assoc] using this
/-- The first i are marked, the others as they were. -/
def mixT (k : Nat) (tt : List (List ByteArray)) (i : Nat) : List (List ByteArray) := (markTT k tt).take i ++ tt.drop i
theorem mixT_length (k : Nat) (tt : List (List ByteArray)) (i : Nat) (h : i ≤ tt.length) : (mixT k tt i).length = tt.length := by
  unfold mixT
  rw [List.length_append, List.length_take, markTT_length, List.length_drop]
  omega
theorem mixT_here (k : Nat) (tt : List (List ByteArray)) (i : Nat) (h : i < tt.length) : (mixT k tt i)[i]? = some tt[i] := by
  unfold mixT
  rw [List.getElem?_append_right (by rw [List.length_take, markTT_length]; omega), List.length_take, markTT_length, Nat.min_eq_left (by omega), Nat.sub_self, List.getElem?_drop]
  simp [h]
theorem mixT_next (k : Nat) (tt : List (List ByteArray)) (i : Nat) (h : i < tt.length) : mixT k tt (i + 1) = (mixT k tt i).set i (markTs (k + sumL (tt.take i)) tt[i].length) := by
  unfold mixT
  have hd : tt.drop i = tt[i] :: tt.drop (i + 1) := List.drop_eq_getElem_cons h
  have hm : i < (markTT k tt).length := by rw [markTT_length]; exact h
  have hg := markTT_get tt k i h
  rw [List.getElem?_eq_getElem hm] at hg
  have hl : ((markTT k tt).take i).length = i := by rw [List.length_take, markTT_length]; omega
  rw [List.take_succ_eq_append_getElem hm, hd, List.set_append_right _ _ (by omega), hl, Nat.sub_self, List.set_cons_zero, List.append_assoc, Option.some.inj hg]
  rfl
theorem mixT_end (k : Nat) (tt : List (List ByteArray)) : mixT k tt tt.length = markTT k tt := by
  unfold mixT
  rw [List.drop_length, List.append_nil, ← markTT_length tt k, List.take_length]

/-- One row gets other texts. -/
theorem kidsT_set {w w3 : World} {B g i : Nat} {C : Array Value} {L : List (List ByteArray)} {x : Value} {e : List ByteArray} (hI : KidsT w B g C L L.length) (hi : i < L.length) (hx : C[i]? = some x)
    (hk : ∀ b, x.ownBlock ≠ some b → b < w.heap.size → w3.heap[b]? = w.heap[b]?) (hr : RowText w3 B x e) : KidsT w3 B g C (L.set i e) L.length := by
  refine ⟨fun j hj hjk => ?_, hI.2⟩
  by_cases hji : j = i
  · subst hji
    obtain ⟨y, k5, -, k7⟩ := hI.1 j hi hi
    rw [hx] at k5
    obtain rfl := Option.some.inj k5
    rw [List.getElem_set_self]
    exact ⟨x, hx, hr, k7⟩
  · obtain ⟨y, k5, k6, k7⟩ := hI.1 j hjk hjk
    rw [List.getElem_set_ne (by omega)]
    refine ⟨y, k5, rowText_keep k6 (fun b hb => ?_), k7⟩
    exact hk b (fun h => hI.2 j i y x b hji hjk hi k5 hx hb h) (rowText_lt k6 b hb).2
/-- All blocks of a row of rows lie below T. -/
def TopT (w : World) (T : Nat) (v : Value) (tt : List (List ByteArray)) : Prop := ∀ g, v.ownBlock = some g → g < T ∧ ∀ C t, w.heap[g]? = some (.cells C t (0, 0)) → ∀ (j : Nat) (x : Value), j < tt.length → C[j]? = some x → ∀ h, x.ownBlock = some h → h < T
theorem topT_of {w : World} {B : Nat} {v : Value} {tt : List (List ByteArray)} (h : RowTT w B v tt) : TopT w w.heap.size v tt := by
  rcases h with ⟨rfl, rfl⟩ | ⟨g, cap, C0, rfl, hB, hC, hs, hI⟩
  · intro g hg; cases hg
  · intro g' hg
    have e : g = g' := Option.some.inj hg
    subst e
    refine ⟨objT_lt hC, fun C t hC' j x hj hx h hh => ?_⟩
    rw [hC] at hC'
    have e2 : C0 = C := by injection hC' with h1; injection h1
    subst e2
    obtain ⟨y, k5, k6, -⟩ := hI.1 j hj hj
    rw [hx] at k5
    obtain rfl := Option.some.inj k5
    exact (rowText_lt k6 h hh).2
theorem topT_below {w w' : World} {T : Nat} {v : Value} {tt : List (List ByteArray)} (h : TopT w T v tt) (hT : T ≤ w.heap.size) (hb : Below w.heap.size w w') : TopT w' T v tt := by
  intro g hg
  obtain ⟨h1, h2⟩ := h g hg
  exact ⟨h1, fun C t hC => h2 C t (by rw [← hb.block g (by omega)]; exact hC)⟩

set_option maxRecDepth 100000 in
set_option maxHeartbeats 1600000 in
theorem markStringSS_row (v : Value) (tt : List (List ByteArray)) (B k : Nat) (w : World) (hn : tt.length ≤ 1048577) (hc : ∀ x ∈ tt, x.length ≤ 8) (hk0 : 0 < k) (hk : k ≤ 10) (h : RowTT w B v tt) (T : Nat) (hT : TopT w T v tt) :
    Calls Tryd.prog 18 #[v, .int .i64 (k : Int)] w fun e w' => e = .returned (.int .i64 ((k + sumL tt : Nat) : Int)) ∧ RowTT w' B v (markTT k tt) ∧ Below B w w' ∧ ∀ b, T ≤ b → b < w.heap.size → w'.heap[b]? = w.heap[b]? := by
  rcases h with ⟨rfl, rfl⟩ | ⟨g, cap, C, rfl, hB, hC, hs, hI⟩
  · go_enter Tryd.func18, Tryd.ntmps18
    go_wp2
    go_loop [1, 5] (fun kk ii => kk = .int .i64 k ∧ ii = .int .i64 0) (fun _ _ => 0)
    case atStart => exact ⟨rfl, rfl⟩
    case round =>
      obtain ⟨rfl, rfl⟩ := hrel
      go_wp2
      go_ret
      exact ⟨rfl, .inl ⟨rfl, rfl⟩, Below.refl _ _, fun _ _ _ => rfl⟩
  · have HC0 := hide hC
    have HCH := hide hc
    have HS8 := hide (sumL_le tt hc)
    have HI0 : Hid (KidsT w B g C (mixT k tt 0) tt.length) := hI
    obtain ⟨hgT, hT1⟩ := hT g rfl
    have HT0 := hide (hT1 C _ hC)
    clear hT hT1
    have hsz0 : B ≤ w.heap.size := by have := objT_lt hC; omega
    clear hC hI hc
    go_enter Tryd.func18, Tryd.ntmps18
    go_wp2
    go_loopw [1, 5] (fun kk ii wr => ∃ (j : Nat), kk = .int .i64 ((k + sumL (tt.take j) : Nat) : Int) ∧ ii = .int .i64 j ∧ j ≤ tt.length ∧ Hid (wr.heap[g]? = some (.cells C 22 (0, 0))) ∧ Hid (KidsT wr B g C (mixT k tt j) tt.length) ∧ Hid (Below B w wr) ∧ Hid (∀ b, T ≤ b → b < w.heap.size → wr.heap[b]? = w.heap[b]?)) (fun _ ii _ => tt.length - (intOf ii).toNat)
    case atStart => exact ⟨0, rfl, rfl, Nat.zero_le _, HC0, HI0, Below.refl _ _, fun _ _ _ => rfl⟩
    case round =>
      obtain ⟨j, rfl, rfl, hj, HC, HI, HB, HTB⟩ := hrel
      by_cases hlt : j < tt.length
      · have hlt' : decide ((j : Int) < (tt.length : Int)) = true := by simp; omega
        have hi0 : (0 : Int) ≤ (j : Int) := by omega
        have hi1 : (j : Int) < (tt.length : Int) := by omega
        have hgw : g < wr.heap.size := objT_lt HC.out
        obtain ⟨K, HK⟩ : ∃ K : Nat, Hid (K = k + sumL (tt.take j)) := ⟨_, hide rfl⟩
        have hFl := HCH.out tt[j] (List.getElem_mem hlt)
        have hKb : 0 < K ∧ K ≤ 9000000 := by
          have h2 := sumL_take tt j
          have := HS8.out
          have := HK.out
          omega
        have hml := mixT_length k tt j hj
        obtain ⟨x, hx1, hx2, hx3⟩ := HI.out.1 j (by omega) hlt
        have hhere := mixT_here k tt j hlt
        have hhe : (mixT k tt j)[j]'(by omega) = tt[j] := by rw [List.getElem?_eq_getElem (by omega)] at hhere; exact Option.some.inj hhere
        rw [hhe] at hx2
        obtain ⟨F, HF⟩ : ∃ F, Hid (tt[j] = F) := ⟨tt[j], hide rfl⟩
        rw [HF.out] at hx2 hFl
        have HX2 := hide hx2
        have HX3 := hide hx3
        have HX1 := hide hx1
        obtain ⟨a1, c1, rfl, -⟩ := rowText_at hx2
        obtain ⟨M, HMM⟩ : ∃ M : Int, Hid (((K + F.length : Nat) : Int) = M) := ⟨_, hide rfl⟩
        have M4 := markStringS_row _ F B K wr (by omega) (by omega) (by omega) hx2
        rw [HMM.out] at M4
        have HM4 := hide M4
        have hq0 := cell_of_row wr g j _ _ (0, 0) HC.out
        rw [hx1] at hq0
        rw [← HK.out]
        clear hx1 hx2 hx3 hhere hhe M4
        go_wp2_with fail
        refine (HM4.out).mono ?_
        rintro e w3 ⟨rfl, r3, g3⟩
        have R3 := hide r3
        have G3 := hide g3
        clear r3 g3
        go_wp2_with fail
        go_roundw
        case rel =>
          have hne : some g ≠ (Value.slice a1 F.length c1).ownBlock := fun e => HX3.out e.symm
          refine ⟨j + 1, ?_, by go_num, by omega, (G3.out.block g hgw hne).trans HC.out, ?_, HB.out.grown G3.out (Nat.le_trans hsz0 HB.out.size) (fun b hb => (rowText_lt HX2.out b hb).1), fun b hTb hb => ?_⟩
          · rw [← HMM.out, sumL_next tt j hlt, HF.out, HK.out, Nat.add_assoc]
          · show KidsT _ _ _ _ _ _
            have hkk := kidsT_set (L := mixT k tt j) (e := markTs K F.length) (by rw [hml]; exact HI.out) (by omega) HX1.out (w3 := w3) (fun b hx hw => G3.out.block b hw (fun e => hx e.symm)) R3.out
            rw [hml] at hkk
            rw [mixT_next k tt j hlt, ← HK.out, HF.out]
            exact hkk
          · have hbs := HB.out.size
            rw [G3.out.block b (by omega) (fun e => by have := HT0.out j _ hlt HX1.out b e.symm; omega)]
            exact HTB.out b hTb hb
        case measure => simp [intOf]; omega
      · have hlt' : decide ((j : Int) < (tt.length : Int)) = false := by simp; omega
        have hje : j = tt.length := by omega
        subst hje
        have HI2 := HI.out
        rw [mixT_end] at HI2
        have HI3 := hide HI2
        clear HI2
        rw [List.take_length]
        go_wp2
        go_ret
        have hl := markTT_length tt k
        exact ⟨rfl, .inr ⟨g, cap, C, by rw [hl], hB, HC.out, by omega, by rw [hl]; exact HI3.out⟩, HB.out, HTB.out⟩

set_option maxRecDepth 100000 in
set_option maxHeartbeats 1600000 in
theorem heldStringSS_any (ao : Option Addr) (cap : Nat) (tt : List (List ByteArray)) (k : Nat) (w : World) (hn : tt.length ≤ 1048577) (hc : ∀ x ∈ tt, x.length ≤ 8) (hk0 : 0 < k) (hk : k ≤ 10) (h : RowsAt w ao (markTT k tt)) :
    Calls Tryd.prog 19 #[.slice ao tt.length cap, .int .i64 (k : Int)] w fun e w' => e = .returned (.int .i64 ((k + sumL tt : Nat) : Int)) ∧ Below w.heap.size w w' := by
  have HF := hide h
  have HCH := hide hc
  have HS8 := hide (sumL_le tt hc)
  clear h hc
  go_enter Tryd.func19, Tryd.ntmps19
  go_wp2
  go_loopw [1, 5] (fun kk ii wr => ∃ (j : Nat), kk = .int .i64 ((k + sumL (tt.take j) : Nat) : Int) ∧ ii = .int .i64 j ∧ j ≤ tt.length ∧ Hid (Below w.heap.size w wr)) (fun _ ii _ => tt.length - (intOf ii).toNat)
  case atStart => exact ⟨0, rfl, rfl, Nat.zero_le _, Below.refl _ _⟩
  case round =>
    obtain ⟨j, rfl, rfl, hj, HB⟩ := hrel
    by_cases hlt : j < tt.length
    · have hlt' : decide ((j : Int) < (tt.length : Int)) = true := by simp; omega
      have hi0 : (0 : Int) ≤ (j : Int) := by omega
      have hi1 : (j : Int) < (tt.length : Int) := by omega
      have hml := markTT_length tt k
      obtain ⟨b, off, rfl, hbw, a, c, hc4, hta⟩ := rowsAt_keep HF.out HB.out j (by omega)
      have hget := markTT_get tt k j hlt
      rw [List.getElem?_eq_getElem (by omega)] at hget
      have hge := Option.some.inj hget
      have hFl := HCH.out tt[j] (List.getElem_mem hlt)
      rw [hge] at hc4 hta
      obtain ⟨K, HK⟩ : ∃ K : Nat, Hid (K = k + sumL (tt.take j)) := ⟨_, hide rfl⟩
      have hKb : 0 < K ∧ K ≤ 9000000 := by
        have h2 := sumL_take tt j
        have := HS8.out
        have := HK.out
        omega
      have HEN : Hid (k + sumL (tt.take (j + 1)) = K + tt[j].length) := by show _ = _; rw [sumL_next tt j hlt, HK.out]; omega
      rw [← HK.out] at hc4 hta ⊢
      obtain ⟨n, hn2⟩ : ∃ n, n = tt[j].length := ⟨_, rfl⟩
      rw [← hn2] at hc4 hta hFl HEN
      clear hge hget hn2
      rw [markTs_length] at hc4
      obtain ⟨M, HMM⟩ : ∃ M : Int, Hid (((K + n : Nat) : Int) = M) := ⟨_, hide rfl⟩
      have hMn : decide (M < 0) = false := by have := HMM.out; simp; omega
      have M4 := heldStringS_any a c n K wr (by omega) (by omega) (by omega) hta
      rw [HMM.out] at M4
      have HM4 := hide M4
      clear hta M4
      go_wp2_with fail
      refine (HM4.out).mono ?_
      rintro e v3 ⟨rfl, b3⟩
      have B3 := hide b3
      clear b3
      go_wp2
      go_roundw
      case rel => exact ⟨j + 1, by rw [HEN.out, ← HMM.out], by go_num, by omega, HB.out.trans (B3.out.mono HB.out.size)⟩
      case measure => simp [intOf]; omega
    · have hlt' : decide ((j : Int) < (tt.length : Int)) = false := by simp; omega
      have hje : j = tt.length := by omega
      subst hje
      rw [List.take_length]
      go_wp2
      go_ret
      exact ⟨rfl, HB.out⟩
end Go.Proofs.YtnfnhkodjmilgaaDoor
