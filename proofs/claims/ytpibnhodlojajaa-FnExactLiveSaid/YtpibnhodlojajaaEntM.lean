/- Values and rows of entries: marked, and held against their marks. -/
import Derived.Test.YtpibnhodlojajaaEntL
namespace Go.Proofs.Ytpibnhodlojajaa
open Go.RowKit

/-- How many items there are. -/
def sumI : List EntD → Nat
  | [] => 0
  | e :: r => e.val.items.length + sumI r
theorem szTs_low : ∀ (ts : List ByteArray) (n : Int), 0 ≤ szTs ts n → szTs ts n ≤ n
  | [], _, _ => Int.le_refl _
  | s :: r, n, h => by
    unfold szTs at h ⊢
    split at h
    · omega
    · rename_i h2
      rw [if_neg h2]
      have := szTs_low r _ h
      omega
theorem szEntD_low (e : EntD) (n : Int) (h : 0 ≤ szEntD e n) : szEntD e n ≤ n - e.val.items.length := by
  unfold szEntD at h ⊢
  split at h
  · omega
  · rename_i h1
    rw [if_neg h1]
    unfold szValD at h ⊢
    split at h
    · omega
    · rename_i h2
      rw [if_neg h2]
      unfold szTx at h ⊢
      split at h
      · omega
      · rename_i h3
        rw [if_neg h3]
        have := szTs_low _ _ h
        omega
theorem szEnts_low : ∀ (es : List EntD) (n : Int), 0 ≤ szEnts es n → (sumI es : Int) ≤ n
  | [], n, h => by simpa [szEnts, sumI] using h
  | e :: r, n, h => by
    unfold szEnts at h
    split at h
    · omega
    · have h1 := szEntD_low e n (by omega)
      have h2 := szEnts_low r _ h
      simp only [sumI]
      omega
theorem szEs_sum {es : List EntD} {n : Int} (h : 0 ≤ szEs es n) : (es.length : Int) + sumI es ≤ n := by
  unfold szEs at h
  split at h
  · omega
  · have := szEnts_low es _ h
    omega
theorem sumI_append : ∀ (a b : List EntD), sumI (a ++ b) = sumI a + sumI b
  | [], _ => by simp [sumI]
  | e :: r, b => by simp [sumI, sumI_append r b]; omega
theorem sumI_take (es : List EntD) (k : Nat) : sumI (es.take k) ≤ sumI es := by
  have := sumI_append (es.take k) (es.drop k)
  rw [List.take_append_drop] at this
  omega
theorem sumI_mem : ∀ (es : List EntD), ∀ e ∈ es, e.val.items.length ≤ sumI es
  | [], e, h => absurd h List.not_mem_nil
  | F :: r, e, h => by
    simp only [sumI]
    rcases List.mem_cons.1 h with rfl | h
    · omega
    · have := sumI_mem r e h
      omega

/-- The entry that is marked from K on. -/
def markEntD (K n : Nat) : EntD := ⟨⟨(mk K).toArray⟩, ⟨(K : Int) + 1, (K : Int) + 1 + 1, ⟨(mk (K + 3)).toArray⟩, markTs (K + 4) n⟩⟩
/-- The number behind the marks of entries. -/
def markEEnd : Nat → List EntD → Nat
  | k, [] => k
  | k, e :: r => markEEnd (k + 4 + e.val.items.length) r
/-- The entries marked from k on. -/
def markEntDs : Nat → List EntD → List EntD
  | _, [] => []
  | k, e :: r => markEntD k e.val.items.length :: markEntDs (k + 4 + e.val.items.length) r
theorem markEntDs_length : ∀ (es : List EntD) (k : Nat), (markEntDs k es).length = es.length
  | [], _ => rfl
  | e :: r, k => by simp [markEntDs, markEntDs_length r]
theorem markEEnd_snoc : ∀ (es : List EntD) (k : Nat) (e : EntD), markEEnd k (es ++ [e]) = markEEnd k es + 4 + e.val.items.length
  | [], _, _ => rfl
  | _ :: r, _, e => markEEnd_snoc r _ e
theorem markEntDs_snoc : ∀ (es : List EntD) (k : Nat) (e : EntD), markEntDs k (es ++ [e]) = markEntDs k es ++ [markEntD (markEEnd k es) e.val.items.length]
  | [], _, _ => rfl
  | c :: r, k, e => by
    show _ :: markEntDs _ (r ++ [e]) = _ :: (_ ++ _)
    rw [markEntDs_snoc r _ e]
    rfl
theorem markEEnd_eq : ∀ (es : List EntD) (k : Nat), markEEnd k es = k + 4 * es.length + sumI es
  | [], k => by simp [markEEnd, sumI]
  | e :: r, k => by
    simp only [markEEnd, sumI, List.length_cons, markEEnd_eq r]
    omega
theorem markEntDs_get (es : List EntD) (k j : Nat) (h : j < es.length) : (markEntDs k es)[j]? = some (markEntD (markEEnd k (es.take j)) es[j].val.items.length) := by
  induction es generalizing k j with
  | nil => simp at h
  | cons e r ih =>
    cases j with
    | zero => rfl
    | succ j =>
      have := ih (k + 4 + e.val.items.length) j (by simpa using h)
      simpa [markEntDs, markEEnd] using this
/-- The first i are marked, the others as they were. -/
def mixE (k : Nat) (es : List EntD) (i : Nat) : List EntD := markEntDs k (es.take i) ++ es.drop i
theorem mixE_length (k : Nat) (es : List EntD) (i : Nat) : (mixE k es i).length = es.length := by
  unfold mixE
  rw [List.length_append, markEntDs_length, ← List.length_append, List.take_append_drop]
theorem mixE_here (k : Nat) (es : List EntD) (i : Nat) (h : i < es.length) : (mixE k es i)[i]? = some es[i] := by
  unfold mixE
  rw [List.getElem?_append_right (by rw [markEntDs_length, List.length_take]; omega), markEntDs_length, List.length_take, Nat.min_eq_left (by omega), Nat.sub_self, List.getElem?_drop]
  simp [h]
theorem mixE_next (k : Nat) (es : List EntD) (i : Nat) (h : i < es.length) : mixE k es (i + 1) = (mixE k es i).set i (markEntD (markEEnd k (es.take i)) es[i].val.items.length) := by
  unfold mixE
  have hd : es.drop i = es[i] :: es.drop (i + 1) := List.drop_eq_getElem_cons h
  rw [List.take_succ_eq_append_getElem h, markEntDs_snoc, hd]
  have hl : (markEntDs k (es.take i)).length = i := by rw [markEntDs_length, List.length_take]; omega
  rw [List.set_append_right _ _ (by omega), hl, Nat.sub_self, List.set_cons_zero, List.append_assoc]
  rfl
theorem mixE_end (k : Nat) (es : List EntD) : mixE k es es.length = markEntDs k es := by
  unfold mixE
  rw [List.take_length, List.drop_length, List.append_nil]

/-- Four cells of an entry are written. -/
def put4 (C : Array Value) (k : Nat) (e : EntD) : Array Value := (((C.setIfInBounds (k * 5) (.string e.key)).setIfInBounds (k * 5 + 1) (.int .i64 e.val.kind)).setIfInBounds (k * 5 + 2) (.int .i64 e.val.til)).setIfInBounds (k * 5 + 3) (.string e.val.text)
theorem put4_size (C : Array Value) (k : Nat) (e : EntD) : (put4 C k e).size = C.size := by simp [put4]
theorem put4_other (C : Array Value) (k : Nat) (e : EntD) (i : Nat) (h : i < k * 5 ∨ k * 5 + 3 < i) : (put4 C k e)[i]? = C[i]? := by
  unfold put4
  rw [Array.getElem?_setIfInBounds_ne (by omega), Array.getElem?_setIfInBounds_ne (by omega), Array.getElem?_setIfInBounds_ne (by omega), Array.getElem?_setIfInBounds_ne (by omega)]
theorem put4_here (C : Array Value) (k : Nat) (e : EntD) (h : k * 5 + 4 < C.size) : (put4 C k e)[k * 5]? = some (.string e.key) ∧ (put4 C k e)[k * 5 + 1]? = some (.int .i64 e.val.kind) ∧ (put4 C k e)[k * 5 + 2]? = some (.int .i64 e.val.til) ∧ (put4 C k e)[k * 5 + 3]? = some (.string e.val.text) := by
  unfold put4
  refine ⟨?_, ?_, ?_, ?_⟩ <;> simp [Array.getElem?_setIfInBounds] <;> omega

/-- One entry of a row gets other cells and other items. -/
theorem kidsE_set {w w3 : World} {B g i : Nat} {C : Array Value} {L : List EntD} {x : Value} {e : EntD} (hI : KidsE w B g C L L.length) (hi : i < L.length) (hx : C[i * 5 + 4]? = some x) (hs : L.length * 5 ≤ C.size)
    (hk : ∀ b, b ≠ g → x.ownBlock ≠ some b → b < w.heap.size → w3.heap[b]? = w.heap[b]?) (hr : RowText w3 B x e.val.items) : KidsE w3 B g (put4 C i e) (L.set i e) L.length := by
  have odd : ∀ j, (put4 C i e)[j * 5 + 4]? = C[j * 5 + 4]? := fun j => put4_other _ _ _ _ (by omega)
  refine ⟨fun j hj hjk => ?_, ?_⟩
  · by_cases hji : j = i
    · subst hji
      obtain ⟨-, -, -, -, y, k5, -, k7⟩ := hI.1 j hi hi
      rw [hx] at k5
      obtain rfl := Option.some.inj k5
      obtain ⟨h1, h2, h3, h4⟩ := put4_here C j e (by omega)
      rw [List.getElem_set_self]
      exact ⟨h1, h2, h3, h4, x, by rw [odd]; exact hx, hr, k7⟩
    · obtain ⟨k1, k2, k3, k4, y, k5, k6, k7⟩ := hI.1 j hjk hjk
      rw [List.getElem_set_ne (by omega)]
      refine ⟨by rw [put4_other _ _ _ _ (by omega)]; exact k1, by rw [put4_other _ _ _ _ (by omega)]; exact k2, by rw [put4_other _ _ _ _ (by omega)]; exact k3, by rw [put4_other _ _ _ _ (by omega)]; exact k4, y, by rw [odd]; exact k5, rowText_keep k6 (fun b hb => ?_), k7⟩
      exact hk b (fun h => k7 (by rw [hb, h])) (fun h => hI.2 j i y x b hji hjk hi k5 hx hb h) (rowText_lt k6 b hb).2
  · intro a b y z h hab ha hb hy hz
    rw [odd] at hy hz
    exact hI.2 a b y z h hab ha hb hy hz

/-- All blocks of a row of entries lie below T. -/
def TopE (w : World) (T : Nat) (v : Value) (es : List EntD) : Prop := ∀ g, v.ownBlock = some g → g < T ∧ ∀ C t, w.heap[g]? = some (.cells C t (0, 0)) → ∀ (j : Nat) (x : Value), j < es.length → C[j * 5 + 4]? = some x → ∀ h, x.ownBlock = some h → h < T
theorem topE_of {w : World} {B : Nat} {v : Value} {es : List EntD} (h : RowEnt w B v es) : TopE w w.heap.size v es := by
  rcases h with ⟨rfl, rfl⟩ | ⟨g, cap, C0, rfl, hB, hC, hs, hI⟩
  · intro g hg; cases hg
  · intro g' hg
    have e : g = g' := Option.some.inj hg
    subst e
    refine ⟨obj_lt hC, fun C t hC' j x hj hx h hh => ?_⟩
    rw [hC] at hC'
    have e2 : C0 = C := by injection hC' with h1; injection h1
    subst e2
    obtain ⟨-, -, -, -, y, k5, k6, -⟩ := hI.1 j hj hj
    rw [hx] at k5
    obtain rfl := Option.some.inj k5
    exact (rowText_lt k6 h hh).2
theorem topE_below {w w' : World} {T : Nat} {v : Value} {es : List EntD} (h : TopE w T v es) (hT : T ≤ w.heap.size) (hb : Below w.heap.size w w') : TopE w' T v es := by
  intro g hg
  obtain ⟨h1, h2⟩ := h g hg
  exact ⟨h1, fun C t hC => h2 C t (by rw [← hb.block g (by omega)]; exact hC)⟩

set_option maxRecDepth 100000 in
set_option maxHeartbeats 1600000 in
theorem markEntryS_rowK (v : Value) (es : List EntD) (B k : Nat) (w : World) (hn : k + 4 * es.length + sumI es ≤ 9000000) (hc : ∀ e ∈ es, e.val.items.length ≤ 1048576) (hk0 : 0 < k) (h : RowEnt w B v es) (T : Nat) (hT : TopE w T v es) :
    Calls Try.prog 10 #[v, .int .i64 (k : Int)] w fun e w' => e = .returned (.int .i64 ((markEEnd k es : Nat) : Int)) ∧ RowEnt w' B v (markEntDs k es) ∧ Below B w w' ∧ ∀ b, T ≤ b → b < w.heap.size → w'.heap[b]? = w.heap[b]? := by
  rcases h with ⟨rfl, rfl⟩ | ⟨g, cap, C0, rfl, hB, hC, hs, hI⟩
  · go_enter Try.func10, Try.ntmps10
    go_wp2
    go_loop [1, 5] (fun kk ii => kk = .int .i64 k ∧ ii = .int .i64 0) (fun _ _ => 0)
    case atStart => exact ⟨rfl, rfl⟩
    case round =>
      obtain ⟨rfl, rfl⟩ := hrel
      go_wp2
      go_ret
      exact ⟨rfl, .inl ⟨rfl, rfl⟩, Below.refl _ _, fun _ _ _ => rfl⟩
  · have HC0 := hide hC
    have HCH := hide hc
    have HI0 : Hid (KidsE w B g C0 (mixE k es 0) es.length) := hI
    obtain ⟨hgT, hT1⟩ := hT g rfl
    have HT0 := hide (hT1 C0 _ hC)
    clear hT hT1
    have hsz0 : B ≤ w.heap.size := by have := obj_lt hC; omega
    clear hC hI hc
    go_enter Try.func10, Try.ntmps10
    go_wp2
    go_loopw [1, 5] (fun kk ii wr => ∃ (j : Nat) (C : Array Value), kk = .int .i64 ((markEEnd k (es.take j) : Nat) : Int) ∧ ii = .int .i64 j ∧ j ≤ es.length ∧ Hid (wr.heap[g]? = some (.cells C 42 (0, 0))) ∧ C.size = C0.size ∧ Hid (KidsE wr B g C (mixE k es j) es.length) ∧ Hid (Below B w wr) ∧ Hid (∀ (i : Nat) (x : Value), i < es.length → C[i * 5 + 4]? = some x → ∀ h, x.ownBlock = some h → h < T) ∧ Hid (∀ b, T ≤ b → b < w.heap.size → wr.heap[b]? = w.heap[b]?)) (fun _ ii _ => es.length - (intOf ii).toNat)
    case atStart => exact ⟨0, C0, rfl, rfl, Nat.zero_le _, HC0, rfl, HI0, Below.refl _ _, HT0, fun _ _ _ => rfl⟩
    case round =>
      obtain ⟨j, C, rfl, rfl, hj, HC, hCs, HI, HB, HTC, HTB⟩ := hrel
      by_cases hlt : j < es.length
      · have hlt' : decide ((j : Int) < (es.length : Int)) = true := by simp; omega
        have hi0 : (0 : Int) ≤ (j : Int) := by omega
        have hi1 : (j : Int) < (es.length : Int) := by omega
        have hgw : g < wr.heap.size := obj_lt HC.out
        obtain ⟨K, HK⟩ : ∃ K : Nat, Hid (K = markEEnd k (es.take j)) := ⟨_, hide rfl⟩
        have hFl := HCH.out es[j] (List.getElem_mem hlt)
        have hKb : 0 < K ∧ K ≤ 9000000 := by
          have h1 := markEEnd_eq (es.take j) k
          have h2 := sumI_take es j
          have h3 : (es.take j).length ≤ es.length := by rw [List.length_take]; omega
          have := HK.out
          omega
        have hml := mixE_length k es j
        obtain ⟨-, -, -, -, x, hx1, hx2, hx3⟩ := HI.out.1 j (by omega) hlt
        have hhere := mixE_here k es j hlt
        have hhe : (mixE k es j)[j]'(by omega) = es[j] := by rw [List.getElem?_eq_getElem (by omega)] at hhere; exact Option.some.inj hhere
        rw [hhe] at hx2
        obtain ⟨F, HF⟩ : ∃ F, Hid (es[j] = F) := ⟨es[j], hide rfl⟩
        rw [HF.out] at hx2 hFl
        have HX2 := hide hx2
        have HX3 := hide hx3
        have HX1 := hide hx1
        have HHE := hide hhe
        obtain ⟨a1, c1, rfl, -⟩ := rowText_at hx2
        have M0 := hide (fun W => mark_any K W hKb.1 (by omega))
        have M3 : Hid (∀ W, Calls Try.prog 23 #[.int .i64 ((K : Int) + 1 + 1 + 1)] W fun e w' => e = .returned (.string ⟨(mk (K + 3)).toArray⟩) ∧ Below W.heap.size W w') := fun W => by
          have h := mark_any (K + 3) W (by omega) (by omega)
          rw [show (((K + 3 : Nat)) : Int) = (K : Int) + 1 + 1 + 1 from by omega] at h
          exact h
        obtain ⟨M, HMM⟩ : ∃ M : Int, Hid (((K + 4 + F.val.items.length : Nat) : Int) = M) := ⟨_, hide rfl⟩
        have M4 : Hid (∀ W, RowText W B (.slice a1 F.val.items.length c1) F.val.items → Calls Try.prog 24 #[.slice a1 F.val.items.length c1, .int .i64 ((K : Int) + 1 + 1 + 1 + 1)] W fun e w' => e = .returned (.int .i64 M) ∧ RowText w' B (.slice a1 F.val.items.length c1) (markTs (K + 4) F.val.items.length) ∧ W.grownBy w' (Value.slice a1 F.val.items.length c1).ownBlock) := fun W hW => by
          have h := markStringS_row _ F.val.items B (K + 4) W (by omega) (by omega) (by omega) hW
          rw [show (((K + 4 : Nat)) : Int) = (K : Int) + 1 + 1 + 1 + 1 from by omega, HMM.out] at h
          exact h
        rw [← HK.out]
        clear hx1 hx2 hx3 hhere hhe
        go_wp2_with fail
        refine (M0.out _).mono ?_
        rintro e w1 ⟨rfl, b1⟩
        have hC1 := (b1.block g hgw).trans HC.out
        have HO1 : Hid (∀ b, b < wr.heap.size → w1.heap[b]? = wr.heap[b]?) := fun b hb => b1.block b hb
        have HB1 := hide (HB.out.trans (b1.mono (Nat.le_trans hsz0 HB.out.size)))
        have hs1 : wr.heap.size ≤ w1.heap.size := b1.size
        clear b1
        have hq0 := cell_of_row w1 g (j * 5) _ _ (0, 0) hC1
        have hq1 := cell_of_row w1 g (j * 5 + 1) _ _ (0, 0) hC1
        have hq2 := cell_of_row w1 g (j * 5 + 2) _ _ (0, 0) hC1
        have hf0 := frozen_of_row w1 g (j * 5) _ _ hC1
        have hf1 := frozen_of_row w1 g (j * 5 + 1) _ _ hC1
        have hf2 := frozen_of_row w1 g (j * 5 + 2) _ _ hC1
        rw [Array.getElem?_eq_getElem (by omega)] at hq0 hq1 hq2
        obtain ⟨X, hX⟩ : ∃ X, X = ((w1.setCell ⟨g, j * 5, none⟩ (.string ⟨(mk K).toArray⟩)).setCell ⟨g, j * 5 + 1, none⟩ (.int .i64 ((K : Int) + 1))).setCell ⟨g, j * 5 + 2, none⟩ (.int .i64 ((K : Int) + 1 + 1)) := ⟨_, rfl⟩
        have XC : Hid (X.heap[g]? = some (.cells (((C.setIfInBounds (j * 5) (.string ⟨(mk K).toArray⟩)).setIfInBounds (j * 5 + 1) (.int .i64 ((K : Int) + 1))).setIfInBounds (j * 5 + 2) (.int .i64 ((K : Int) + 1 + 1))) 42 (0, 0))) := by rw [hX]; exact heap_setCell_same _ g _ _ _ _ (heap_setCell_same _ g _ _ _ _ (heap_setCell_same w1 g _ C _ _ hC1))
        have XO : Hid (∀ b, b ≠ g → X.heap[b]? = w1.heap[b]?) := fun b hb => by
          rw [hX, Below.heap_setCell _ _ _ _ (by simpa using hb), Below.heap_setCell _ _ _ _ (by simpa using hb), Below.heap_setCell _ _ _ _ (by simpa using hb)]
        have XS : Hid (X.heap.size = w1.heap.size) := by rw [hX]; show _ = _; simp [World.setCell]
        have XB : Hid (Below B w X) := by rw [hX]; exact ((HB1.out.setCell (p := ⟨g, j * 5, none⟩) hB _).setCell (p := ⟨g, j * 5 + 1, none⟩) hB _).setCell (p := ⟨g, j * 5 + 2, none⟩) hB _
        clear hC1
        go_wp2_with fail
        rw [← hX]
        clear hX hq0 hq1 hq2 hf0 hf1 hf2
        refine (M3.out _).mono ?_
        rintro e w2 ⟨rfl, b2⟩
        have hC2 := (b2.block g (obj_lt XC.out)).trans XC.out
        have HO2 : Hid (∀ b, b ≠ g → b < wr.heap.size → w2.heap[b]? = wr.heap[b]?) := fun b hb hw => by rw [b2.block b (by have := XS.out; omega), XO.out b hb, HO1.out b hw]
        have HB2 := hide (XB.out.trans (b2.mono (Nat.le_trans hsz0 XB.out.size)))
        have hs2 : wr.heap.size ≤ w2.heap.size := by have := b2.size; have := XS.out; omega
        clear b2
        have hq3 := cell_of_row w2 g (j * 5 + 3) _ _ (0, 0) hC2
        have hf3 := frozen_of_row w2 g (j * 5 + 3) _ _ hC2
        rw [Array.getElem?_eq_getElem (by simp; omega)] at hq3
        obtain ⟨Y, hY⟩ : ∃ Y, Y = w2.setCell ⟨g, j * 5 + 3, none⟩ (.string ⟨(mk (K + 3)).toArray⟩) := ⟨_, rfl⟩
        have YC : Hid (Y.heap[g]? = some (.cells (put4 C j (markEntD K F.val.items.length)) 42 (0, 0))) := by rw [hY]; exact heap_setCell_same _ g _ _ _ _ hC2
        have YO : Hid (∀ b, b ≠ g → b < wr.heap.size → Y.heap[b]? = wr.heap[b]?) := fun b hb hw => by rw [hY, Below.heap_setCell _ _ _ _ (by simpa using hb)]; exact HO2.out b hb hw
        have YS : Hid (wr.heap.size ≤ Y.heap.size) := by rw [hY]; show _ ≤ _; simp [World.setCell]; exact hs2
        have YB : Hid (Below B w Y) := by rw [hY]; exact HB2.out.setCell (p := ⟨g, j * 5 + 3, none⟩) hB _
        have YR : Hid (RowText Y B (.slice a1 F.val.items.length c1) F.val.items) := rowText_keep HX2.out (fun b hb => YO.out b (fun e => HX3.out (by rw [hb, e])) (rowText_lt HX2.out b hb).2)
        have hq4 : Y.cell? ⟨g, j * 5 + 4, none⟩ = some (.slice a1 F.val.items.length c1) := (cell_of_row Y g (j * 5 + 4) _ _ (0, 0) YC.out).trans ((put4_other _ _ _ _ (by omega)).trans HX1.out)
        have hq5 : (w2.setCell ⟨g, j * 5 + 3, none⟩ (.string ⟨(mk (K + 3)).toArray⟩)).cell? ⟨g, j * 5 + 4, none⟩ = some (.slice a1 F.val.items.length c1) := by rw [← hY]; exact hq4
        have hq6 : w2.cell? ⟨g, j * 5 + 4, none⟩ = some (.slice a1 F.val.items.length c1) := by
          refine (cell_of_row w2 g (j * 5 + 4) _ _ (0, 0) hC2).trans ?_
          rw [Array.getElem?_setIfInBounds_ne (by omega), Array.getElem?_setIfInBounds_ne (by omega), Array.getElem?_setIfInBounds_ne (by omega)]
          exact HX1.out
        clear hC2
        go_wp2_with fail
        rw [← hY]
        clear hY hq3 hf3 hq4 hq5 hq6
        refine (M4.out _ YR.out).mono ?_
        rintro e w3 ⟨rfl, r3, g3⟩
        have R3 := hide r3
        have G3 := hide g3
        clear r3 g3
        go_wp2_with fail
        go_roundw
        case rel =>
          have hne : some g ≠ (Value.slice a1 F.val.items.length c1).ownBlock := fun e => HX3.out e.symm
          refine ⟨j + 1, put4 C j (markEntD K F.val.items.length), ?_, by go_num, by omega, (G3.out.block g (obj_lt YC.out) hne).trans YC.out, by rw [put4_size]; exact hCs, ?_, YB.out.grown G3.out (Nat.le_trans hsz0 YB.out.size) (fun b hb => (rowText_lt YR.out b hb).1), fun i x hi hx => HTC.out i x hi (by rw [← put4_other C j (markEntD K F.val.items.length) (i * 5 + 4) (by omega)]; exact hx), fun b hTb hb => ?_⟩
          · rw [← HMM.out, List.take_succ_eq_append_getElem hlt, markEEnd_snoc, ← HK.out, HF.out]
          · show KidsE _ _ _ _ _ _
            have hkk := kidsE_set (L := mixE k es j) (e := markEntD K F.val.items.length) (by rw [hml]; exact HI.out) (by omega) HX1.out (by omega) (w3 := w3) (fun b hb hx hw => by rw [G3.out.block b (by have := YS.out; omega) (fun e => hx e.symm), YO.out b hb hw]) R3.out
            rw [hml] at hkk
            rw [mixE_next k es j hlt, ← HK.out, HF.out]
            exact hkk
          · have hbs := HB.out.size
            rw [G3.out.block b (by have := YS.out; omega) (fun e => by have := HTC.out j _ hlt HX1.out b e.symm; omega), YO.out b (by omega) (by omega)]
            exact HTB.out b hTb hb
        case measure => simp [intOf]; omega
      · have hlt' : decide ((j : Int) < (es.length : Int)) = false := by simp; omega
        have hje : j = es.length := by omega
        subst hje
        have HI2 := HI.out
        rw [mixE_end] at HI2
        have HI3 := hide HI2
        clear HI2
        rw [List.take_length]
        go_wp2
        go_ret
        have hl := markEntDs_length es k
        exact ⟨rfl, .inr ⟨g, cap, C, by rw [hl], hB, HC.out, by omega, by rw [hl]; exact HI3.out⟩, HB.out, HTB.out⟩
theorem markEntryS_row (v : Value) (es : List EntD) (B k : Nat) (w : World) (hn : 4 * es.length + sumI es ≤ 6000000) (hc : ∀ e ∈ es, e.val.items.length ≤ 1048576) (hk0 : 0 < k) (hk : k ≤ 10) (h : RowEnt w B v es) (T : Nat) (hT : TopE w T v es) :
    Calls Try.prog 10 #[v, .int .i64 (k : Int)] w fun e w' => e = .returned (.int .i64 ((markEEnd k es : Nat) : Int)) ∧ RowEnt w' B v (markEntDs k es) ∧ Below B w w' ∧ ∀ b, T ≤ b → b < w.heap.size → w'.heap[b]? = w.heap[b]? :=
  markEntryS_rowK v es B k w (by omega) hc hk0 h T hT

set_option maxRecDepth 100000 in
set_option maxHeartbeats 1600000 in
theorem heldEntryS_any (ao : Option Addr) (cap : Nat) (es : List EntD) (k : Nat) (w : World) (hn : 4 * es.length + sumI es ≤ 6000000) (hc : ∀ e ∈ es, e.val.items.length ≤ 1048576) (hk0 : 0 < k) (hk : k ≤ 10) (h : EntriesAt w ao (markEntDs k es)) :
    Calls Try.prog 11 #[.slice ao es.length cap, .int .i64 (k : Int)] w fun e w' => e = .returned (.int .i64 ((markEEnd k es : Nat) : Int)) ∧ Below w.heap.size w w' := by
  have HF := hide h
  have HCH := hide hc
  clear h hc
  go_enter Try.func11, Try.ntmps11
  go_wp2
  go_loopw [1, 5] (fun kk ii wr => ∃ (j : Nat), kk = .int .i64 ((markEEnd k (es.take j) : Nat) : Int) ∧ ii = .int .i64 j ∧ j ≤ es.length ∧ Hid (Below w.heap.size w wr)) (fun _ ii _ => es.length - (intOf ii).toNat)
  case atStart => exact ⟨0, rfl, rfl, Nat.zero_le _, Below.refl _ _⟩
  case round =>
    obtain ⟨j, rfl, rfl, hj, HB⟩ := hrel
    by_cases hlt : j < es.length
    · have hlt' : decide ((j : Int) < (es.length : Int)) = true := by simp; omega
      have hi0 : (0 : Int) ≤ (j : Int) := by omega
      have hi1 : (j : Int) < (es.length : Int) := by omega
      have hml := markEntDs_length es k
      obtain ⟨b, off, rfl, hbw, hc0, hc1, hc2, hc3, a, c, hc4, hta⟩ := entriesAt_keep HF.out HB.out j (by omega)
      have hget := markEntDs_get es k j hlt
      rw [List.getElem?_eq_getElem (by omega)] at hget
      have hge := Option.some.inj hget
      have hFl := HCH.out es[j] (List.getElem_mem hlt)
      rw [hge] at hc0 hc1 hc2 hc3 hc4 hta
      obtain ⟨K, HK⟩ : ∃ K : Nat, Hid (K = markEEnd k (es.take j)) := ⟨_, hide rfl⟩
      have hKb : 0 < K ∧ K ≤ 6000010 := by
        have h1 := markEEnd_eq (es.take j) k
        have h2 := sumI_take es j
        have h3 : (es.take j).length ≤ es.length := by rw [List.length_take]; omega
        have := HK.out
        omega
      have HEN : Hid (markEEnd k (es.take (j + 1)) = K + 4 + es[j].val.items.length) := by show _ = _; rw [List.take_succ_eq_append_getElem hlt, markEEnd_snoc, ← HK.out]
      rw [← HK.out] at hc0 hc1 hc2 hc3 hc4 hta ⊢
      obtain ⟨n, hn2⟩ : ∃ n, n = es[j].val.items.length := ⟨_, rfl⟩
      rw [← hn2] at hc0 hc1 hc2 hc3 hc4 hta hFl HEN
      clear hge hget hn2
      have hct : (markEntD K n).val.items.length = n := markTs_length _ _
      rw [hct] at hc4
      obtain ⟨s0, hs0⟩ : ∃ s0 : ByteArray, s0 = ⟨(mk K).toArray⟩ := ⟨_, rfl⟩
      obtain ⟨s3, hs3⟩ : ∃ s3 : ByteArray, s3 = ⟨(mk (K + 3)).toArray⟩ := ⟨_, rfl⟩
      have he0 : (s0.toList == s0.toList) = true := beq_self_eq_true _
      have he3 : (s3.toList == s3.toList) = true := beq_self_eq_true _
      have hy1 : ((K : Int) + 1 == (K : Int) + 1) = true := beq_self_eq_true _
      have hy2 : ((K : Int) + 1 + 1 == (K : Int) + 1 + 1) = true := beq_self_eq_true _
      have KS : Hid (∀ X, Below wr.heap.size wr X → X.cell? ⟨b, off + j * 5, none⟩ = some (.string s0) ∧ X.cell? ⟨b, off + j * 5 + 1, none⟩ = some (.int .i64 ((K : Int) + 1)) ∧ X.cell? ⟨b, off + j * 5 + 2, none⟩ = some (.int .i64 ((K : Int) + 1 + 1)) ∧ X.cell? ⟨b, off + j * 5 + 3, none⟩ = some (.string s3) ∧ X.cell? ⟨b, off + j * 5 + 4, none⟩ = some (.slice a n c)) :=
        fun X hX => ⟨(hX.cell (p := ⟨b, off + j * 5, none⟩) hbw).trans (by rw [hs0]; exact hc0), (hX.cell (p := ⟨b, off + j * 5 + 1, none⟩) hbw).trans hc1, (hX.cell (p := ⟨b, off + j * 5 + 2, none⟩) hbw).trans hc2, (hX.cell (p := ⟨b, off + j * 5 + 3, none⟩) hbw).trans (by rw [hs3]; exact hc3), (hX.cell (p := ⟨b, off + j * 5 + 4, none⟩) hbw).trans hc4⟩
      have M0 : Hid (∀ W, Calls Try.prog 23 #[.int .i64 (K : Int)] W fun e w' => e = .returned (.string s0) ∧ Below W.heap.size W w') := fun W => by rw [hs0]; exact mark_any K W hKb.1 (by omega)
      have M3 : Hid (∀ W, Calls Try.prog 23 #[.int .i64 ((K : Int) + 1 + 1 + 1)] W fun e w' => e = .returned (.string s3) ∧ Below W.heap.size W w') := fun W => by
        have h := mark_any (K + 3) W (by omega) (by omega)
        rw [show (((K + 3 : Nat)) : Int) = (K : Int) + 1 + 1 + 1 from by omega, ← hs3] at h
        exact h
      obtain ⟨M, HMM⟩ : ∃ M : Int, Hid (((K + 4 + n : Nat) : Int) = M) := ⟨_, hide rfl⟩
      have hMn : decide (M < 0) = false := by have := HMM.out; simp; omega
      have HTA := hide hta
      have M4 : Hid (∀ W, Below wr.heap.size wr W → Calls Try.prog 25 #[.slice a n c, .int .i64 ((K : Int) + 1 + 1 + 1 + 1)] W fun e w' => e = .returned (.int .i64 M) ∧ Below W.heap.size W w') := fun W hW => by
        have h := heldStringS_any a c n (K + 4) W (by omega) (by omega) (by omega) (textsAt_keep HTA.out hW)
        rw [show (((K + 4 : Nat)) : Int) = (K : Int) + 1 + 1 + 1 + 1 from by omega, HMM.out] at h
        exact h
      clear hc0 hc1 hc2 hc3 hc4 hs0 hs3 hta hct
      have B0 : Hid (Below wr.heap.size wr wr) := Below.refl _ _
      go_wp2_with fail
      go_region_held3 (fun X => X.cell? ⟨b, off + j * 5, none⟩ = some (.string s0)) (first | (exact (KS.out _ (Below.refl _ _)).1) | (exact (KS.out _ (Below.refl _ _).drew).1) | (exact (KS.out _ ((Below.refl _ _).drew.trans b1)).1) | fail) ((go_at_call 23; refine (M0.out _).mono ?_; rintro e v1 ⟨rfl, b1⟩))
      have B1 : Hid (Below wr.heap.size wr v1) := (Below.refl _ _).drew.trans b1
      clear b1
      obtain ⟨x0, x1, x2, x3, x4⟩ := KS.out _ B1.out
      go_wp2_with fail
      go_region_held3 (fun X => X.cell? ⟨b, off + j * 5 + 3, none⟩ = some (.string s3)) (first | (exact (KS.out _ B1.out).2.2.2.1) | (exact (KS.out _ B1.out.drew).2.2.2.1) | (exact (KS.out _ (B1.out.trans (((Below.refl _ _).drew.trans b2).mono B1.out.size))).2.2.2.1) | fail) ((go_at_call 23; refine (M3.out _).mono ?_; rintro e v2 ⟨rfl, b2⟩))
      have B2 : Hid (Below wr.heap.size wr v2) := B1.out.trans (((Below.refl _ _).drew.trans b2).mono B1.out.size)
      clear b2 x0 x1 x2 x3 x4
      obtain ⟨x0, x1, x2, x3, x4⟩ := KS.out _ B2.out
      go_wp2_with fail
      refine (M4.out _ B2.out).mono ?_
      rintro e v3 ⟨rfl, b3⟩
      have B3 := hide (B2.out.trans (b3.mono B2.out.size))
      clear b3
      go_wp2
      go_roundw
      case rel => exact ⟨j + 1, by rw [HEN.out, ← HMM.out], by go_num, by omega, HB.out.trans (B3.out.mono HB.out.size)⟩
      case measure => simp [intOf]; omega
    · have hlt' : decide ((j : Int) < (es.length : Int)) = false := by simp; omega
      have hje : j = es.length := by omega
      subst hje
      rw [List.take_length]
      go_wp2
      go_ret
      exact ⟨rfl, HB.out⟩
end Go.Proofs.Ytpibnhodlojajaa
