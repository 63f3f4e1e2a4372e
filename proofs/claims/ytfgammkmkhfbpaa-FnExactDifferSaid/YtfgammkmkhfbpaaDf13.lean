import Derived.Test.YtfgammkmkhfbpaaDf2
import Derived.Test.YtfgammkmkhfbpaaDf8
import Derived.Test.YtfgammkmkhfbpaaDf12
set_option maxRecDepth 100000
set_option maxHeartbeats 3200000
namespace Go.Proofs.Ytfgammkmkhfbpaa
open Go.RowKit
def sumI : List EntD → Nat
  | [] => 0
  | e :: r => e.val.items.length + sumI r
theorem szTs_low : ∀ (ts : List ByteArray) (n : Int), 0 ≤ szTs ts n → szTs ts n ≤ n
  | [], _, _ => Int.le_refl _
  | s :: r, n, h => by
    unfold szTs at h ⊢
    split at h
    · omega
    · rename_i h2
      rw [if_neg h2]
      have := szTs_low r _ h
      omega
theorem szEntD_low (e : EntD) (n : Int) (h : 0 ≤ szEntD e n) : szEntD e n ≤ n - e.val.items.length := by
  unfold szEntD at h ⊢
  split at h
  · omega
  · rename_i h1
    rw [if_neg h1]
    unfold szValD at h ⊢
    split at h
    · omega
    · rename_i h2
      rw [if_neg h2]
      unfold szTx at h ⊢
      split at h
      · omega
      · rename_i h3
        rw [if_neg h3]
        have := szTs_low _ _ h
        omega
theorem szEnts_low : ∀ (es : List EntD) (n : Int), 0 ≤ szEnts es n → (sumI es : Int) ≤ n
  | [], n, h => by simpa [szEnts, sumI] using h
  | e :: r, n, h => by
    unfold szEnts at h
    split at h
    · omega
    · have h1 := szEntD_low e n (by omega)
      have h2 := szEnts_low r _ h
      simp only [sumI]
      omega
theorem szEs_sum {es : List EntD} {n : Int} (h : 0 ≤ szEs es n) : (es.length : Int) + sumI es ≤ n := by
  unfold szEs at h
  split at h
  · omega
  · have := szEnts_low es _ h
    omega
theorem sumI_append : ∀ (a b : List EntD), sumI (a ++ b) = sumI a + sumI b
  | [], _ => by simp [sumI]
  | e :: r, b => by simp [sumI, sumI_append r b]; omega
theorem sumI_take (es : List EntD) (k : Nat) : sumI (es.take k) ≤ sumI es := by
  have := sumI_append (es.take k) (es.drop k)
  rw [List.take_append_drop] at this
  omega
def markEntD (K n : Nat) : EntD := ⟨⟨(mk K).toArray⟩, ⟨(K : Int) + 1, (K : Int) + 1 + 1, ⟨(mk (K + 3)).toArray⟩, markTs (K + 4) n⟩⟩
def markEEnd : Nat → List EntD → Nat
  | k, [] => k
  | k, e :: r => markEEnd (k + 4 + e.val.items.length) r
def markEntDs : Nat → List EntD → List EntD
  | _, [] => []
  | k, e :: r => markEntD k e.val.items.length :: markEntDs (k + 4 + e.val.items.length) r
theorem markEntDs_length : ∀ (es : List EntD) (k : Nat), (markEntDs k es).length = es.length
  | [], _ => rfl
  | e :: r, k => by simp [markEntDs, markEntDs_length r]
theorem markEEnd_snoc : ∀ (es : List EntD) (k : Nat) (e : EntD), markEEnd k (es ++ [e]) = markEEnd k es + 4 + e.val.items.length
  | [], _, _ => rfl
  | _ :: r, _, e => markEEnd_snoc r _ e
theorem markEntDs_snoc : ∀ (es : List EntD) (k : Nat) (e : EntD), markEntDs k (es ++ [e]) = markEntDs k es ++ [markEntD (markEEnd k es) e.val.items.length]
  | [], _, _ => rfl
  | c :: r, k, e => by
    show _ :: markEntDs _ (r ++ [e]) = _ :: (_ ++ _)
    rw [markEntDs_snoc r _ e]
    rfl
theorem markEEnd_eq : ∀ (es : List EntD) (k : Nat), markEEnd k es = k + 4 * es.length + sumI es
  | [], k => by simp [markEEnd, sumI]
  | e :: r, k => by
    simp only [markEEnd, sumI, List.length_cons, markEEnd_eq r]
    omega
def mixE (k : Nat) (es : List EntD) (i : Nat) : List EntD := markEntDs k (es.take i) ++ es.drop i
theorem mixE_length (k : Nat) (es : List EntD) (i : Nat) : (mixE k es i).length = es.length := by
  unfold mixE
  rw [List.length_append, markEntDs_length, ← List.length_append, List.take_append_drop]
theorem mixE_here (k : Nat) (es : List EntD) (i : Nat) (h : i < es.length) : (mixE k es i)[i]? = some es[i] := by
  unfold mixE
  rw [List.getElem?_append_right (by rw [markEntDs_length, List.length_take]; omega), markEntDs_length, List.length_take, Nat.min_eq_left (by omega), Nat.sub_self, List.getElem?_drop]
  simp [h]
theorem mixE_next (k : Nat) (es : List EntD) (i : Nat) (h : i < es.length) : mixE k es (i + 1) = (mixE k es i).set i (markEntD (markEEnd k (es.take i)) es[i].val.items.length) := by
  unfold mixE
  have hd : es.drop i = es[i] :: es.drop (i + 1) := List.drop_eq_getElem_cons h
  rw [List.take_succ_eq_append_getElem h, markEntDs_snoc, hd]
  have hl : (markEntDs k (es.take i)).length = i := by rw [markEntDs_length, List.length_take]; omega
  rw [List.set_append_right _ _ (by omega), hl, Nat.sub_self, List.set_cons_zero, List.append_assoc]
  rfl
theorem mixE_end (k : Nat) (es : List EntD) : mixE k es es.length = markEntDs k es := by
  unfold mixE
  rw [List.take_length, List.drop_length, List.append_nil]
def put4 (C : Array Value) (k : Nat) (e : EntD) : Array Value := (((C.setIfInBounds (k * 5) (.string e.key)).setIfInBounds (k * 5 + 1) (.int .i64 e.val.kind)).setIfInBounds (k * 5 + 2) (.int .i64 e.val.til)).setIfInBounds (k * 5 + 3) (.string e.val.text)
theorem put4_size (C : Array Value) (k : Nat) (e : EntD) : (put4 C k e).size = C.size := by simp [put4]
theorem put4_other (C : Array Value) (k : Nat) (e : EntD) (i : Nat) (h : i < k * 5 ∨ k * 5 + 3 < i) : (put4 C k e)[i]? = C[i]? := by
  unfold put4
  rw [Array.getElem?_setIfInBounds_ne (by omega), Array.getElem?_setIfInBounds_ne (by omega), Array.getElem?_setIfInBounds_ne (by omega), Array.getElem?_setIfInBounds_ne (by omega)]
theorem put4_here (C : Array Value) (k : Nat) (e : EntD) (h : k * 5 + 4 < C.size) : (put4 C k e)[k * 5]? = some (.string e.key) ∧ (put4 C k e)[k * 5 + 1]? = some (.int .i64 e.val.kind) ∧ (put4 C k e)[k * 5 + 2]? = some (.int .i64 e.val.til) ∧ (put4 C k e)[k * 5 + 3]? = some (.string e.val.text) := by
  unfold put4
  refine ⟨?_, ?_, ?_, ?_⟩ <;> simp [Array.getElem?_setIfInBounds] <;> omega
theorem kidsE_set {w w3 : World} {B g i : Nat} {C : Array Value} {L : List EntD} {x : Value} {e : EntD} (hI : KidsE w B g C L L.length) (hi : i < L.length) (hx : C[i * 5 + 4]? = some x) (hs : L.length * 5 ≤ C.size)
    (hk : ∀ b, b ≠ g → x.ownBlock ≠ some b → b < w.heap.size → w3.heap[b]? = w.heap[b]?) (hr : RowText w3 B x e.val.items) : KidsE w3 B g (put4 C i e) (L.set i e) L.length := by
  have odd : ∀ j, (put4 C i e)[j * 5 + 4]? = C[j * 5 + 4]? := fun j => put4_other _ _ _ _ (by omega)
  refine ⟨fun j hj hjk => ?_, ?_⟩
  · by_cases hji : j = i
    · subst hji
      obtain ⟨-, -, -, -, y, k5, -, k7⟩ := hI.1 j hi hi
      rw [hx] at k5
      obtain rfl := Option.some.inj k5
      obtain ⟨h1, h2, h3, h4⟩ := put4_here C j e (by omega)
      rw [List.getElem_set_self]
      exact ⟨h1, h2, h3, h4, x, by rw [odd]; exact hx, hr, k7⟩
    · obtain ⟨k1, k2, k3, k4, y, k5, k6, k7⟩ := hI.1 j hjk hjk
      rw [List.getElem_set_ne (by omega)]
      refine ⟨by rw [put4_other _ _ _ _ (by omega)]; exact k1, by rw [put4_other _ _ _ _ (by omega)]; exact k2, by rw [put4_other _ _ _ _ (by omega)]; exact k3, by rw [put4_other _ _ _ _ (by omega)]; exact k4, y, by rw [odd]; exact k5, rowText_keep k6 (fun b hb => ?_), k7⟩
      exact hk b (fun h => k7 (by rw [hb, h])) (fun h => hI.2 j i y x b hji hjk hi k5 hx hb h) (rowText_lt k6 b hb).2
  · intro a b y z h hab ha hb hy hz
    rw [odd] at hy hz
    exact hI.2 a b y z h hab ha hb hy hz
def TopE (w : World) (T : Nat) (v : Value) (es : List EntD) : Prop := ∀ g, v.ownBlock = some g → g < T ∧ ∀ C t, w.heap[g]? = some (.cells C t (0, 0)) → ∀ (j : Nat) (x : Value), j < es.length → C[j * 5 + 4]? = some x → ∀ h, x.ownBlock = some h → h < T
theorem topE_of {w : World} {B : Nat} {v : Value} {es : List EntD} (h : RowEnt w B v es) : TopE w w.heap.size v es := by
  rcases h with ⟨rfl, rfl⟩ | ⟨g, cap, C0, rfl, hB, hC, hs, hI⟩
  · intro g hg; cases hg
  · intro g' hg
    have e : g = g' := Option.some.inj hg
    subst e
    refine ⟨obj_lt hC, fun C t hC' j x hj hx h hh => ?_⟩
    rw [hC] at hC'
    have e2 : C0 = C := by injection hC' with h1; injection h1
    subst e2
    obtain ⟨-, -, -, -, y, k5, k6, -⟩ := hI.1 j hj hj
    rw [hx] at k5
    obtain rfl := Option.some.inj k5
    exact (rowText_lt k6 h hh).2
theorem topE_below {w w' : World} {T : Nat} {v : Value} {es : List EntD} (h : TopE w T v es) (hT : T ≤ w.heap.size) (hb : Below w.heap.size w w') : TopE w' T v es := by
  intro g hg
  obtain ⟨h1, h2⟩ := h g hg
  exact ⟨h1, fun C t hC => h2 C t (by rw [← hb.block g (by omega)]; exact hC)⟩
theorem markEntryS_rowK (v : Value) (es : List EntD) (B k : Nat) (w : World) (hn : k + 4 * es.length + sumI es ≤ 9000000) (hc : ∀ e ∈ es, e.val.items.length ≤ 1048576) (hk0 : 0 < k) (h : RowEnt w B v es) (T : Nat) (hT : TopE w T v es) :
    Calls Try.prog 10 #[v, .int .i64 (k : Int)] w fun e w' => e = .returned (.int .i64 ((markEEnd k es : Nat) : Int)) ∧ RowEnt w' B v (markEntDs k es) ∧ Below B w w' ∧ ∀ b, T ≤ b → b < w.heap.size → w'.heap[b]? = w.heap[b]? := by
  rcases h with ⟨rfl, rfl⟩ | ⟨g, cap, C0, rfl, hB, hC, hs, hI⟩
  · go_enter Try.func10, Try.ntmps10
    go_wp2
    go_loop [1, 5] (fun kk ii => kk = .int .i64 k ∧ ii = .int .i64 0) (fun _ _ => 0)
    case atStart => exact ⟨rfl, rfl⟩
    case round =>
      obtain ⟨rfl, rfl⟩ := hrel
      go_wp2
      go_ret
      exact ⟨rfl, .inl ⟨rfl, rfl⟩, Below.refl _ _, fun _ _ _ => rfl⟩
  · have HC0 := hide hC
    have HCH := hide hc
    have HI0 : Hid (KidsE w B g C0 (mixE k es 0) es.length) := hI
    obtain ⟨hgT, hT1⟩ := hT g rfl
    have HT0 := hide (hT1 C0 _ hC)
    clear hT hT1
    have hsz0 : B ≤ w.heap.size := by have := obj_lt hC; omega
    clear hC hI hc
    go_enter Try.func10, Try.ntmps10
    go_wp2
    go_loopw [1, 5] (fun kk ii wr => ∃ (j : Nat) (C : Array Value), kk = .int .i64 ((markEEnd k (es.take j) : Nat) : Int) ∧ ii = .int .i64 j ∧ j ≤ es.length ∧ Hid (wr.heap[g]? = some (.cells C 42 (0, 0))) ∧ C.size = C0.size ∧ Hid (KidsE wr B g C (mixE k es j) es.length) ∧ Hid (Below B w wr) ∧ Hid (∀ (i : Nat) (x : Value), i < es.length → C[i * 5 + 4]? = some x → ∀ h, x.ownBlock = some h → h < T) ∧ Hid (∀ b, T ≤ b → b < w.heap.size → wr.heap[b]? = w.heap[b]?)) (fun _ ii _ => es.length - (intOf ii).toNat)
    case atStart => exact ⟨0, C0, rfl, rfl, Nat.zero_le _, HC0, rfl, HI0, Below.refl _ _, HT0, fun _ _ _ => rfl⟩
    case round =>
      obtain ⟨j, C, rfl, rfl, hj, HC, hCs, HI, HB, HTC, HTB⟩ := hrel
      by_cases hlt : j < es.length
      · have hlt' : decide ((j : Int) < (es.length : Int)) = true := by simp; omega
        have hi0 : (0 : Int) ≤ (j : Int) := by omega
        have hi1 : (j : Int) < (es.length : Int) := by omega
        have hgw : g < wr.heap.size := obj_lt HC.out
        obtain ⟨K, HK⟩ : ∃ K : Nat, Hid (K = markEEnd k (es.take j)) := ⟨_, hide rfl⟩
        have hFl := HCH.out es[j] (List.getElem_mem hlt)
        have hKb : 0 < K ∧ K ≤ 9000000 := by
          have h1 := markEEnd_eq (es.take j) k
          have h2 := sumI_take es j
          have h3 : (es.take j).length ≤ es.length := by rw [List.length_take]; omega
          have := HK.out
          omega
        have hml := mixE_length k es j
        obtain ⟨-, -, -, -, x, hx1, hx2, hx3⟩ := HI.out.1 j (by omega) hlt
        have hhere := mixE_here k es j hlt
        have hhe : (mixE k es j)[j]'(by omega) = es[j] := by rw [List.getElem?_eq_getElem (by omega)] at hhere; exact Option.some.inj hhere
        rw [hhe] at hx2
        obtain ⟨F, HF⟩ : ∃ F, Hid (es[j] = F) := ⟨es[j], hide rfl⟩
        rw [HF.out] at hx2 hFl
        have HX2 := hide hx2
        have HX3 := hide hx3
        have HX1 := hide hx1
        have HHE := hide hhe
        obtain ⟨a1, c1, rfl, -⟩ := rowText_at hx2
        have M0 := hide (fun W => mark_any K W hKb.1 (by omega))
        have M3 : Hid (∀ W, Calls Try.prog 27 #[.int .i64 ((K : Int) + 1 + 1 + 1)] W fun e w' => e = .returned (.string ⟨(mk (K + 3)).toArray⟩) ∧ Below W.heap.size W w') := fun W => by
          have h := mark_any (K + 3) W (by omega) (by omega)
          rw [show (((K + 3 : Nat)) : Int) = (K : Int) + 1 + 1 + 1 from by omega] at h
          exact h
        obtain ⟨M, HMM⟩ : ∃ M : Int, Hid (((K + 4 + F.val.items.length : Nat) : Int) = M) := ⟨_, hide rfl⟩
        have M4 : Hid (∀ W, RowText W B (.slice a1 F.val.items.length c1) F.val.items → Calls Try.prog 28 #[.slice a1 F.val.items.length c1, .int .i64 ((K : Int) + 1 + 1 + 1 + 1)] W fun e w' => e = .returned (.int .i64 M) ∧ RowText w' B (.slice a1 F.val.items.length c1) (markTs (K + 4) F.val.items.length) ∧ W.grownBy w' (Value.slice a1 F.val.items.length c1).ownBlock) := fun W hW => by
          have h := markStringS_row _ F.val.items B (K + 4) W (by omega) (by omega) (by omega) hW
          rw [show (((K + 4 : Nat)) : Int) = (K : Int) + 1 + 1 + 1 + 1 from by omega, HMM.out] at h
          exact h
        rw [← HK.out]
        clear hx1 hx2 hx3 hhere hhe
        go_wp2_with fail
        refine (M0.out _).mono ?_
        rintro e w1 ⟨rfl, b1⟩
        have hC1 := (b1.block g hgw).trans HC.out
        have HO1 : Hid (∀ b, b < wr.heap.size → w1.heap[b]? = wr.heap[b]?) := fun b hb => b1.block b hb
        have HB1 := hide (HB.out.trans (b1.mono (Nat.le_trans hsz0 HB.out.size)))
        have hs1 : wr.heap.size ≤ w1.heap.size := b1.size
        clear b1
        have hq0 := cell_of_row w1 g (j * 5) _ _ (0, 0) hC1
        have hq1 := cell_of_row w1 g (j * 5 + 1) _ _ (0, 0) hC1
        have hq2 := cell_of_row w1 g (j * 5 + 2) _ _ (0, 0) hC1
        have hf0 := frozen_of_row w1 g (j * 5) _ _ hC1
        have hf1 := frozen_of_row w1 g (j * 5 + 1) _ _ hC1
        have hf2 := frozen_of_row w1 g (j * 5 + 2) _ _ hC1
        rw [Array.getElem?_eq_getElem (by omega)] at hq0 hq1 hq2
        obtain ⟨X, hX⟩ : ∃ X, X = ((w1.setCell ⟨g, j * 5, none⟩ (.string ⟨(mk K).toArray⟩)).setCell ⟨g, j * 5 + 1, none⟩ (.int .i64 ((K : Int) + 1))).setCell ⟨g, j * 5 + 2, none⟩ (.int .i64 ((K : Int) + 1 + 1)) := ⟨_, rfl⟩
        have XC : Hid (X.heap[g]? = some (.cells (((C.setIfInBounds (j * 5) (.string ⟨(mk K).toArray⟩)).setIfInBounds (j * 5 + 1) (.int .i64 ((K : Int) + 1))).setIfInBounds (j * 5 + 2) (.int .i64 ((K : Int) + 1 + 1))) 42 (0, 0))) := by rw [hX]; exact heap_setCell_same _ g _ _ _ _ (heap_setCell_same _ g _ _ _ _ (heap_setCell_same w1 g _ C _ _ hC1))
        have XO : Hid (∀ b, b ≠ g → X.heap[b]? = w1.heap[b]?) := fun b hb => by
          rw [hX, Below.heap_setCell _ _ _ _ (by simpa using hb), Below.heap_setCell _ _ _ _ (by simpa using hb), Below.heap_setCell _ _ _ _ (by simpa using hb)]
        have XS : Hid (X.heap.size = w1.heap.size) := by rw [hX]; show _ = _; simp [World.setCell]
        have XB : Hid (Below B w X) := by rw [hX]; exact ((HB1.out.setCell (p := ⟨g, j * 5, none⟩) hB _).setCell (p := ⟨g, j * 5 + 1, none⟩) hB _).setCell (p := ⟨g, j * 5 + 2, none⟩) hB _
        clear hC1
        go_wp2_with fail
        rw [← hX]
        clear hX hq0 hq1 hq2 hf0 hf1 hf2
        refine (M3.out _).mono ?_
        rintro e w2 ⟨rfl, b2⟩
        have hC2 := (b2.block g (obj_lt XC.out)).trans XC.out
        have HO2 : Hid (∀ b, b ≠ g → b < wr.heap.size → w2.heap[b]? = wr.heap[b]?) := fun b hb hw => by rw [b2.block b (by have := XS.out; omega), XO.out b hb, HO1.out b hw]
        have HB2 := hide (XB.out.trans (b2.mono (Nat.le_trans hsz0 XB.out.size)))
        have hs2 : wr.heap.size ≤ w2.heap.size := by have := b2.size; have := XS.out; omega
        clear b2
        have hq3 := cell_of_row w2 g (j * 5 + 3) _ _ (0, 0) hC2
        have hf3 := frozen_of_row w2 g (j * 5 + 3) _ _ hC2
        rw [Array.getElem?_eq_getElem (by simp; omega)] at hq3
        obtain ⟨Y, hY⟩ : ∃ Y, Y = w2.setCell ⟨g, j * 5 + 3, none⟩ (.string ⟨(mk (K + 3)).toArray⟩) := ⟨_, rfl⟩
        have YC : Hid (Y.heap[g]? = some (.cells (put4 C j (markEntD K F.val.items.length)) 42 (0, 0))) := by rw [hY]; exact heap_setCell_same _ g _ _ _ _ hC2
        have YO : Hid (∀ b, b ≠ g → b < wr.heap.size → Y.heap[b]? = wr.heap[b]?) := fun b hb hw => by rw [hY, Below.heap_setCell _ _ _ _ (by simpa using hb)]; exact HO2.out b hb hw
        have YS : Hid (wr.heap.size ≤ Y.heap.size) := by rw [hY]; show _ ≤ _; simp [World.setCell]; exact hs2
        have YB : Hid (Below B w Y) := by rw [hY]; exact HB2.out.setCell (p := ⟨g, j * 5 + 3, none⟩) hB _
        have YR : Hid (RowText Y B (.slice a1 F.val.items.length c1) F.val.items) := rowText_keep HX2.out (fun b hb => YO.out b (fun e => HX3.out (by rw [hb, e])) (rowText_lt HX2.out b hb).2)
        have hq4 : Y.cell? ⟨g, j * 5 + 4, none⟩ = some (.slice a1 F.val.items.length c1) := (cell_of_row Y g (j * 5 + 4) _ _ (0, 0) YC.out).trans ((put4_other _ _ _ _ (by omega)).trans HX1.out)
        have hq5 : (w2.setCell ⟨g, j * 5 + 3, none⟩ (.string ⟨(mk (K + 3)).toArray⟩)).cell? ⟨g, j * 5 + 4, none⟩ = some (.slice a1 F.val.items.length c1) := by rw [← hY]; exact hq4
        have hq6 : w2.cell? ⟨g, j * 5 + 4, none⟩ = some (.slice a1 F.val.items.length c1) := by
          refine (cell_of_row w2 g (j * 5 + 4) _ _ (0, 0) hC2).trans ?_
          rw [Array.getElem?_setIfInBounds_ne (by omega), Array.getElem?_setIfInBounds_ne (by omega), Array.getElem?_setIfInBounds_ne (by omega)]
          exact HX1.out
        clear hC2
        go_wp2_with fail
        rw [← hY]
        clear hY hq3 hf3 hq4 hq5 hq6
        refine (M4.out _ YR.out).mono ?_
        rintro e w3 ⟨rfl, r3, g3⟩
        have R3 := hide r3
        have G3 := hide g3
        clear r3 g3
        go_wp2_with fail
        go_roundw
        case rel =>
          have hne : some g ≠ (Value.slice a1 F.val.items.length c1).ownBlock := fun e => HX3.out e.symm
          refine ⟨j + 1, put4 C j (markEntD K F.val.items.length), ?_, by go_num, by omega, (G3.out.block g (obj_lt YC.out) hne).trans YC.out, by rw [put4_size]; exact hCs, ?_, YB.out.grown G3.out (Nat.le_trans hsz0 YB.out.size) (fun b hb => (rowText_lt YR.out b hb).1), fun i x hi hx => HTC.out i x hi (by rw [← put4_other C j (markEntD K F.val.items.length) (i * 5 + 4) (by omega)]; exact hx), fun b hTb hb => ?_⟩
          · rw [← HMM.out, List.take_succ_eq_append_getElem hlt, markEEnd_snoc, ← HK.out, HF.out]
          · show KidsE _ _ _ _ _ _
            have hkk := kidsE_set (L := mixE k es j) (e := markEntD K F.val.items.length) (by rw [hml]; exact HI.out) (by omega) HX1.out (by omega) (w3 := w3) (fun b hb hx hw => by rw [G3.out.block b (by have := YS.out; omega) (fun e => hx e.symm), YO.out b hb hw]) R3.out
            rw [hml] at hkk
            rw [mixE_next k es j hlt, ← HK.out, HF.out]
            exact hkk
          · have hbs := HB.out.size
            rw [G3.out.block b (by have := YS.out; omega) (fun e => by have := HTC.out j _ hlt HX1.out b e.symm; omega), YO.out b (by omega) (by omega)]
            exact HTB.out b hTb hb
        case measure => simp [intOf]; omega
      · have hlt' : decide ((j : Int) < (es.length : Int)) = false := by simp; omega
        have hje : j = es.length := by omega
        subst hje
        have HI2 := HI.out
        rw [mixE_end] at HI2
        have HI3 := hide HI2
        clear HI2
        rw [List.take_length]
        go_wp2
        go_ret
        have hl := markEntDs_length es k
        exact ⟨rfl, .inr ⟨g, cap, C, by rw [hl], hB, HC.out, by omega, by rw [hl]; exact HI3.out⟩, HB.out, HTB.out⟩
theorem difF_len : ∀ (f : Nat) (a b : List EntD), (difF f a b).length ≤ a.length + b.length
  | 0, _, _ => by simp [difF]
  | _ + 1, [], [] => by simp [difF]
  | f + 1, x :: ax, [] => by
    have := difF_len f ax []
    simp only [difF, List.length_cons, List.length_nil] at this ⊢
    omega
  | f + 1, [], y :: bs => by
    have := difF_len f [] bs
    simp only [difF, List.length_cons, List.length_nil] at this ⊢
    omega
  | f + 1, x :: ax, y :: bs => by
    have h1 := difF_len f ax (y :: bs)
    have h2 := difF_len f (x :: ax) bs
    have h3 := difF_len f ax bs
    simp only [List.length_cons] at h1 h2 h3 ⊢
    unfold difF
    split
    · simp only [List.length_cons]; omega
    · split
      · simp only [List.length_cons]; omega
      · rw [List.length_append]
        split <;> simp only [List.length_cons, List.length_nil] <;> omega
theorem szEnts_leD : ∀ (es : List EntD) (n : Int), 0 ≤ n → szEnts es n ≤ n
  | [], _, _ => Int.le_refl _
  | e :: r, n, hn => by
    unfold szEnts
    have h1 := szEntD_le e n hn
    split
    · omega
    · have := szEnts_leD r (szEntD e n) (by omega)
      omega
theorem szEs_leD (es : List EntD) (n : Int) (hn : 0 ≤ n) : szEs es n ≤ n := by
  unfold szEs
  split
  · omega
  · have := szEnts_leD es (n - es.length) (by omega)
    omega
theorem markChangeD_nil (k : Int) (w : World) :
    Calls Try.prog 11 #[.slice none 0 0, .int .i64 k] w fun e w' => e = .returned (.int .i64 k) ∧ w' = w := by
  go_enter Try.func11, Try.ntmps11
  go_wp2
  go_loop [1, 5] (fun kk ii => kk = .int .i64 k ∧ ii = .int .i64 0) (fun _ _ => 0)
  case atStart => exact ⟨rfl, rfl⟩
  case round =>
    obtain ⟨rfl, rfl⟩ := hrel
    go_wp2
    go_ret
    exact ⟨rfl, rfl⟩
theorem markRowD (x : Value) (fs : List ChangeD) (B k : Nat) (w : World) (hn : fs.length ≤ 1048576) (hk0 : 0 < k) (hk : k ≤ 10000000) (h : RowChange w B x fs) :
    Calls Try.prog 11 #[x, .int .i64 (k : Int)] w fun e w' => e = .returned (.int .i64 ((k + 3 * fs.length : Nat) : Int)) ∧ RowChange w' B x (markChangeDs k fs.length) ∧ w.grownBy w' x.ownBlock := by
  rcases h with ⟨rfl, rfl⟩ | ⟨g, cap, C, rfl, hB, hC, hs, hI⟩
  · refine (markChangeD_nil (k : Int) w).mono ?_
    rintro e w' ⟨rfl, rfl⟩
    exact ⟨rfl, .inl ⟨rfl, rfl⟩, World.grownBy.refl _ _⟩
  · refine (markChangeS_row g cap fs.length C k w hn hk0 hk hC hs).mono ?_
    rintro e w' ⟨rfl, ⟨C1, hC1, hCs, hI1⟩, hg⟩
    have hl := markChangeDs_length k fs.length
    exact ⟨rfl, .inr ⟨g, cap, C1, by rw [hl], hB, hC1, by omega, by rw [hl]; exact hI1⟩, hg⟩
theorem lawDiffer (a : List EntD) (ao1 : Option Addr) (cp1 : Nat) (b : List EntD) (ao2 : Option Addr) (cp2 : Nat) (w : World) (la0 : a.length ≤ maxLen) (ha : EntriesAt w ao1 a) (za0 : ∀ e ∈ a, EntS maxLen e) (lb0 : b.length ≤ maxLen) (hb : EntriesAt w ao2 b) (zb0 : ∀ e ∈ b, EntS maxLen e) :
    Calls Try.prog 3 #[.slice ao1 a.length cp1, .slice ao2 b.length cp2] w fun e w' => e = .returned (.bool true) ∧ Below w.heap.size w w' := by
  have HA := hide ha
  have HB := hide hb
  have ZA := hide za0
  have ZB := hide zb0
  clear ha hb za0 zb0
  obtain ⟨Ra, HRA⟩ : ∃ R : Bool, Hid (R = true ↔ TabR a) := by classical exact ⟨decide (TabR a), by show _ ↔ _; simp⟩
  obtain ⟨Rb, HRB⟩ : ∃ R : Bool, Hid (R = true ↔ TabR b) := by classical exact ⟨decide (TabR b), by show _ ↔ _; simp⟩
  have HN := hide (szEs_small (es := a) (n := 1048576) (by omega) (by omega))
  have HSU := hide (szEs_sum (es := a) (n := 1048576))
  have HSL := hide (szEs_leD a 1048576 (by omega))
  have HSZ := hide (szEntryS_any a ao1 cp1 1048576 w (by decide) (by decide) la0 HA.out ZA.out)
  generalize szEs a 1048576 = r at HN HSZ HSU HSL
  have hr1 : r ≤ 1048576 := HSL.out
  go_enter Try.func3, Try.ntmps3
  go_wp2_with fail
  refine HSZ.out.mono ?_
  rintro e w0 ⟨rfl, b0⟩
  have W0 := hide b0
  clear b0
  by_cases hneg : r < 0
  · have hneg' : decide (r < 0) = true := by simp; omega
    go_wp2
    go_ret
    exact ⟨rfl, W0.out⟩
  have hneg' : decide (r < 0) = false := by simp; omega
  have HN2 := hide (szEs_small (es := b) (n := r) (by omega) (by omega))
  have HSU2 := hide (szEs_sum (es := b) (n := r))
  have HSZ2 := hide (szEntryS_any b ao2 cp2 r w0 (by omega) (by omega) lb0 (entriesAt_keep HB.out W0.out) ZB.out)
  generalize szEs b r = r2 at HN2 HSZ2 HSU2
  go_wp2_with fail
  refine HSZ2.out.mono ?_
  rintro e w1 ⟨rfl, b1⟩
  have W1 := hide (W0.out.trans (b1.mono W0.out.size))
  clear b1
  by_cases hneg2 : r2 < 0
  · have hneg2' : decide (r2 < 0) = true := by simp; omega
    go_wp2
    go_ret
    exact ⟨rfl, W1.out⟩
  have hneg2' : decide (r2 < 0) = false := by simp; omega
  obtain ⟨la, hs1⟩ := HN.out (by omega)
  have SA := hide hs1
  obtain ⟨lb, hs2⟩ := HN2.out (by omega)
  have SB := hide hs2
  clear hs1 hs2
  have hsa : 1 + 4 * a.length + sumI a ≤ 9000000 := by have := HSU.out (by omega); omega
  have hsb : markEEnd 1 a + 4 * b.length + sumI b ≤ 9000000 := by
    have h1 := HSU.out (by omega)
    have h2 := HSU2.out (by omega)
    rw [markEEnd_eq]
    omega
  have hk1 : 0 < markEEnd 1 a := by rw [markEEnd_eq]; omega
  have IA : Hid (∀ e ∈ a, e.val.items.length ≤ 1048576) := fun e he => (SA.out e he).2.2.1
  have IB : Hid (∀ e ∈ b, e.val.items.length ≤ 1048576) := fun e he => (SB.out e he).2.2.1
  have TA := hide (fun W (hW : Below w.heap.size w W) => toEntryS_any a ao1 cp1 W la (entriesAt_keep HA.out hW) SA.out)
  have TB := hide (fun W (hW : Below w.heap.size w W) => toEntryS_any b ao2 cp2 W lb (entriesAt_keep HB.out hW) SB.out)
  have SP := hide (fun x1 x2 y1 y2 W h1 h2 => specDiffer_any a b x1 x2 y1 y2 W Ra Rb HRA.out HRB.out la lb h1 h2 SA.out SB.out)
  have IM := hide (fun x1 x2 y1 y2 W h1 h2 => implDiffer_any a b x1 x2 y1 y2 W Ra Rb HRA.out HRB.out la lb h1 h2 SA.out SB.out)
  have hLl : (cond (Ra && Rb) (difF (a.length + b.length + 1) a b) []).length ≤ 1048576 := by
    cases hR : (Ra && Rb)
    · simp
    · rw [Bool.and_eq_true] at hR
      have h1 := (HRA.out.1 hR.1).1
      have h2 := (HRB.out.1 hR.2).1
      have h3 := difF_len (a.length + b.length + 1) a b
      simp only [cond_true]
      omega
  generalize cond (Ra && Rb) (difF (a.length + b.length + 1) a b) [] = L at SP IM hLl
  clear HRA HRB HN HN2 HSU HSU2 HSL HSZ HSZ2
  have hLm : L.length ≤ maxLen := Nat.le_trans hLl (by decide)
  have EQ := hide (fun x x2 c c2 W (h1 : ChangesAt W x L) (h2 : ChangesAt W x2 L) => eqChangeS_same L x x2 c c2 W hLm h1 h2)
  have MA := hide (fun v W B T h hT => markEntryS_rowK v a B 1 W hsa IA.out (by omega) h T hT)
  have MB := hide (fun v W B T h hT => markEntryS_rowK v b B (markEEnd 1 a) W hsb IB.out hk1 h T hT)
  obtain ⟨K1, HK1⟩ : ∃ K : Int, Hid (((markEEnd 1 a : Nat) : Int) = K) := ⟨_, rfl⟩
  obtain ⟨K2, HK2⟩ : ∃ K : Int, Hid (((markEEnd (markEEnd 1 a) b : Nat) : Int) = K) := ⟨_, rfl⟩
  obtain ⟨KM, HKM⟩ : ∃ K : Int, Hid (((1 + 3 * L.length : Nat) : Int) = K) := ⟨_, rfl⟩
  have hK2 : decide (K2 < 0) = false := by have := HK2.out; simp; omega
  have hKM : decide (KM < 0) = false := by have := HKM.out; simp; omega
  have hKK : (!(KM == KM)) = false := by simp
  rw [HK1.out, HK2.out] at MB
  rw [HK1.out] at MA
  have MC := hide (fun v W B h => markRowD v L B 1 W hLl (by omega) (by omega) h)
  have HC := hide (fun x c W h => heldChangeS_any x c L.length 1 W hLl (by omega) (by omega) h)
  rw [HKM.out] at MC HC
  clear hsa hsb hk1
  go_wp2_with fail
  refine (TA.out _ W1.out).mono ?_
  rintro e w2 ⟨⟨v2, rfl, r2⟩, b2⟩
  obtain ⟨a2, c2, rfl, h2⟩ := rowEnt_at r2
  have HX2 := hide h2
  have W2 := hide (W1.out.trans (b2.mono W1.out.size))
  clear r2 b2 h2
  go_wp2_with fail
  refine (TB.out _ W2.out).mono ?_
  rintro e w3 ⟨⟨v3, rfl, r3⟩, b3⟩
  obtain ⟨a3, c3, rfl, h3⟩ := rowEnt_at r3
  have HX3 := hide h3
  have HX23 := hide (entriesAt_keep HX2.out b3)
  have W3 := hide (W2.out.trans (b3.mono W2.out.size))
  clear r3 b3 h3 HX2
  go_wp2_with fail
  refine (SP.out _ _ _ _ _ HX23.out HX3.out).mono ?_
  rintro e w4 ⟨v4, rfl, r4, b4⟩
  obtain ⟨a4, c4, rfl, -⟩ := rowChange_at r4
  have R4 := hide r4
  have W4 := hide (W3.out.trans (b4.mono W3.out.size))
  have hs4 : w3.heap.size ≤ w4.heap.size := b4.size
  clear r4 b4 HX23 HX3
  go_wp2_with fail
  refine (TA.out _ W4.out).mono ?_
  rintro e w5 ⟨⟨v5, rfl, r5⟩, b5⟩
  obtain ⟨a5, c5, rfl, h5⟩ := rowEnt_at r5
  have R5 := hide r5
  have B45 := hide b5
  have W5 := hide (W4.out.trans (b5.mono W4.out.size))
  have hs5 : w4.heap.size ≤ w5.heap.size := b5.size
  clear r5 b5 h5
  go_wp2_with fail
  refine (TB.out _ W5.out).mono ?_
  rintro e w6 ⟨⟨v6, rfl, r6⟩, b6⟩
  obtain ⟨a6, c6, rfl, h6⟩ := rowEnt_at r6
  have R6 := hide r6
  have R56 := hide (rowEnt_below R5.out b6)
  have T56 := hide (topE_below (topE_of R5.out) (Nat.le_refl _) b6)
  have B46 := hide (B45.out.trans (b6.mono hs5))
  have W6 := hide (W5.out.trans (b6.mono W5.out.size))
  have hs6 : w5.heap.size ≤ w6.heap.size := b6.size
  clear r6 b6 h6 R5
  go_wp2_with fail
  refine (IM.out _ _ _ _ _ (rowEnt_rows R56.out).2 (rowEnt_rows R6.out).2).mono ?_
  rintro e w7 ⟨v7, rfl, r7, b7⟩
  obtain ⟨a7, c7, rfl, -⟩ := rowChange_at r7
  have R7 := hide r7
  have B67 := hide b7
  have B47 := hide (B46.out.trans (b7.mono (by omega)))
  have W7 := hide (W6.out.trans (b7.mono W6.out.size))
  have hs7 : w6.heap.size ≤ w7.heap.size := b7.size
  clear r7 b7
  go_wp2_with fail
  refine (EQ.out _ _ _ _ _ (rowChange_rows R7.out) (rowChange_rows (rowChange_below R4.out B47.out))).mono ?_
  rintro e w8 ⟨rfl, b8⟩
  have B78 := hide b8
  have W8 := hide (W7.out.trans (b8.mono W7.out.size))
  clear b8
  go_wp2_with fail
  refine (TA.out _ W8.out).mono ?_
  rintro e w9 ⟨⟨v9, rfl, r9⟩, b9⟩
  obtain ⟨a9, c9, rfl, h9⟩ := rowEnt_at r9
  have HX9 := hide h9
  have B79 := hide (B78.out.trans (b9.mono B78.out.size))
  have B69 := hide (B67.out.trans (B79.out.mono hs7))
  have W9 := hide (W8.out.trans (b9.mono W8.out.size))
  clear r9 b9 h9
  go_wp2_with fail
  refine (eqEntryS_same a a5 a9 c5 c9 _ la IA.out (rowEnt_rows (rowEnt_below R56.out B69.out)).2 HX9.out).mono ?_
  rintro e wa ⟨rfl, ba⟩
  have B7A := hide (B79.out.trans (ba.mono B79.out.size))
  have WA := hide (W9.out.trans (ba.mono W9.out.size))
  clear ba HX9
  go_wp2_with fail
  refine (TB.out _ WA.out).mono ?_
  rintro e wb ⟨⟨vb, rfl, rb⟩, bb⟩
  obtain ⟨ab, cb, rfl, hb⟩ := rowEnt_at rb
  have HXB := hide hb
  have B7B := hide (B7A.out.trans (bb.mono B7A.out.size))
  have B6B := hide (B67.out.trans (B7B.out.mono hs7))
  have WB := hide (WA.out.trans (bb.mono WA.out.size))
  clear rb bb hb
  go_wp2_with fail
  refine (eqEntryS_same b a6 ab c6 cb _ lb IB.out (rowEnt_rows (rowEnt_below R6.out B6B.out)).2 HXB.out).mono ?_
  rintro e wc ⟨rfl, bc⟩
  have B7C := hide (B7B.out.trans (bc.mono B7B.out.size))
  have B6C := hide (B67.out.trans (B7C.out.mono hs7))
  have B4C := hide (B47.out.trans (B7C.out.mono (by omega)))
  have WC := hide (WB.out.trans (bc.mono WB.out.size))
  have hsc : w7.heap.size ≤ wc.heap.size := B7C.out.size
  clear bc HXB
  go_wp2_with fail
  refine (MA.out _ _ w4.heap.size w5.heap.size (rowEnt_below R56.out B6C.out) (topE_below T56.out hs6 B6C.out)).mono ?_
  rintro e wd ⟨rfl, -, bd, td⟩
  have B4D := hide (B4C.out.trans bd)
  have WD := hide (WC.out.trans (bd.mono W4.out.size))
  have hsd : wc.heap.size ≤ wd.heap.size := bd.size
  have R6D : Hid (RowEnt wd w5.heap.size (.slice a6 b.length c6) b) := rowEnt_keep R6.out (fun k h1 h2 => (td k h1 (by omega)).trans (B6C.out.block k h2))
  have T6D : Hid (TopE wd w6.heap.size (.slice a6 b.length c6) b) := by
    have h0 := topE_of R6.out
    intro g hg
    obtain ⟨h1, h2⟩ := h0 g hg
    refine ⟨h1, fun C t hC => h2 C t ?_⟩
    have hge : w5.heap.size ≤ g := by
      rcases R6.out with ⟨hv, -⟩ | ⟨g', cap', C', hv, hB', -⟩
      · rw [hv] at hg; cases hg
      · rw [hv] at hg
        obtain rfl : g' = g := by simpa [Value.ownBlock] using hg
        exact hB'
    rw [← B6C.out.block g h1, ← td g hge (by omega)]
    exact hC
  have R7D : Hid (RowChange wd w6.heap.size (.slice a7 L.length c7) L) := rowChange_keep R7.out (fun g hg => by
    obtain ⟨h1, h2⟩ := rowChange_lt R7.out g hg
    exact (td g (by omega) (by omega)).trans (B7C.out.block g h2))
  clear bd td
  go_wp2_with fail
  refine (MB.out _ _ w5.heap.size w6.heap.size R6D.out T6D.out).mono ?_
  rintro e we ⟨rfl, -, be, te⟩
  have B4E := hide (B4D.out.trans (be.mono hs5))
  have WE := hide (WD.out.trans (be.mono W5.out.size))
  have hse : wd.heap.size ≤ we.heap.size := be.size
  have R7E : Hid (RowChange we w6.heap.size (.slice a7 L.length c7) L) := rowChange_keep R7D.out (fun g hg => by
    obtain ⟨h1, h2⟩ := rowChange_lt R7D.out g hg
    exact te g h1 h2)
  have R4E := hide (rowChange_below R4.out B4E.out)
  clear be te R6D T6D R7D
  go_wp2_with fail
  refine (EQ.out _ _ _ _ _ (rowChange_rows R7E.out) (rowChange_rows R4E.out)).mono ?_
  rintro e wf ⟨rfl, bf⟩
  have R7F := hide (rowChange_below R7E.out bf)
  have B4F := hide (B4E.out.trans (bf.mono B4E.out.size))
  have WF := hide (WE.out.trans (bf.mono WE.out.size))
  clear bf R7E R4E
  go_wp2_with fail
  refine (MC.out _ _ _ R7F.out).mono ?_
  rintro e wg ⟨rfl, rg, gg⟩
  have R7G := hide (rowChange_rows rg)
  have hg6 : ∀ k, (Value.slice a7 L.length c7).ownBlock = some k → w6.heap.size ≤ k := fun k hk => (rowChange_lt R7F.out k hk).1
  have B4G := hide (B4F.out.grown gg B4F.out.size (fun k hk => by have := hg6 k hk; omega))
  have WG := hide (WF.out.grown gg WF.out.size (fun k hk => by have := hg6 k hk; have := W6.out.size; omega))
  have R4G := hide (rowChange_rows (rowChange_below R4.out B4G.out))
  clear rg gg hg6
  go_wp2_with fail
  refine (HC.out _ _ _ R7G.out).mono ?_
  rintro e wh ⟨rfl, bh⟩
  have XH := hide bh
  have WH := hide (WG.out.trans (bh.mono WG.out.size))
  clear bh
  go_wp2_with fail
  refine (TA.out _ WH.out).mono ?_
  rintro e wi ⟨⟨vi, rfl, ri⟩, bi⟩
  obtain ⟨ai, ci, rfl, hi⟩ := rowEnt_at ri
  have HXI := hide hi
  have XI := hide (XH.out.trans (bi.mono XH.out.size))
  have WI := hide (WH.out.trans (bi.mono WH.out.size))
  clear ri bi hi
  go_wp2_with fail
  refine (TB.out _ WI.out).mono ?_
  rintro e wj ⟨⟨vj, rfl, rj⟩, bj⟩
  obtain ⟨aj, cj, rfl, hj⟩ := rowEnt_at rj
  have HXJ := hide hj
  have HXIJ := hide (entriesAt_keep HXI.out bj)
  have XJ := hide (XI.out.trans (bj.mono XI.out.size))
  clear rj bj hj
  go_wp2_with fail
  refine (IM.out _ _ _ _ _ HXIJ.out HXJ.out).mono ?_
  rintro e wk ⟨vk, rfl, rk, bk⟩
  obtain ⟨ak, ck, rfl, hk⟩ := rowChange_at rk
  have HXK := hide hk
  have XK := hide (XJ.out.trans (bk.mono XJ.out.size))
  clear rk bk hk
  go_wp2_with fail
  refine (EQ.out _ _ _ _ _ HXK.out (changesAt_keep R4G.out XK.out)).mono ?_
  rintro e wl ⟨rfl, bl⟩
  have XL := hide (XK.out.trans (bl.mono XK.out.size))
  clear bl
  go_wp2_with fail
  refine (HC.out _ _ _ (changesAt_keep R7G.out XL.out)).mono ?_
  rintro e wm ⟨rfl, bm⟩
  have XM := hide (XL.out.trans (bm.mono XL.out.size))
  clear bm
  go_wp2
  go_ret
  exact ⟨rfl, WG.out.trans (XM.out.mono WG.out.size)⟩
end Go.Proofs.Ytfgammkmkhfbpaa
