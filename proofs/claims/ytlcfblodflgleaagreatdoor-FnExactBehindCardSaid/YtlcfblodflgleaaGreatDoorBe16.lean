import Derived.Deep.RegionHeld3
import Derived.Maps.AppendAt
import Derived.Test.YtlcfblodflgleaaGreatDoorBe15
import Derived.Test.YtlcfblodflgleaaGreatDoorBe13
import Derived.Test.YtlcfblodflgleaaGreatDoorBe10
set_option maxRecDepth 100000
set_option maxHeartbeats 800000
namespace Go.Proofs.YtlcfblodflgleaaGreatDoor
open Go.RowKit
theorem specHeadText_any (n f : Int) (w : World) : Calls Tryz.prog 50 #[.int .i64 n, .int .i64 f] w fun e w' => e = .returned (.tuple #[.string (headT n f), .bool (decide (0 ≤ n ∧ n ≤ 99 ∧ 0 ≤ f ∧ f ≤ n))]) ∧ Below w.heap.size w w' := by
  by_cases h : 0 ≤ n ∧ n ≤ 99 ∧ 0 ≤ f ∧ f ≤ n
  · have hd : decide (0 ≤ n ∧ n ≤ 99 ∧ 0 ≤ f ∧ f ≤ n) = true := decide_eq_true h
    rw [hd]
    obtain ⟨n, rfl⟩ := Int.eq_ofNat_of_zero_le h.1
    obtain ⟨f, rfl⟩ := Int.eq_ofNat_of_zero_le h.2.2.1
    have hE := hide (headT_in n f (by omega) (by omega))
    have hC := hide (headL_cat n f)
    have v1 := Wd.varF_len 5 n
    have v2 := Wd.varF_len 5 f
    have hz := headL_size n f
    have hF := hide (fun W => specFrame_yes ⟨(headL n f).toArray⟩ W (by omega) (by omega))
    clear hz
    go_enter Tryz.func50, Tryz.ntmps50
    go_wp2_with fail
    refine (l01In_yes _ _ _ _ (by omega) (by omega)).mono ?_
    rintro e w0 ⟨rfl, rfl⟩
    go_wp2_with fail
    refine (l01In_yes _ _ _ _ (by omega) (by omega)).mono ?_
    rintro e w0 ⟨rfl, rfl⟩
    go_wp2_with fail
    refine (l01Var_any n _ (by omega)).mono ?_
    rintro e w1 ⟨rfl, b1⟩
    go_wp2_with fail
    refine (l01Var_any f _ (by omega)).mono ?_
    rintro e w2 ⟨rfl, b2⟩
    go_wp2_with fail
    rw [hC.out]
    refine (hF.out _).mono ?_
    rintro e w3 ⟨rfl, b3⟩
    go_wp2
    go_ret2
    rw [hE.out]
    have b12 := b1.trans (b2.mono b1.size)
    exact ⟨rfl, b12.trans (b3.mono b12.size)⟩
  · have hd : decide (0 ≤ n ∧ n ≤ 99 ∧ 0 ≤ f ∧ f ≤ n) = false := decide_eq_false h
    rw [hd]
    have hE := hide (headT_out n f h)
    by_cases hn : 0 ≤ n ∧ n ≤ 99
    · go_enter Tryz.func50, Tryz.ntmps50
      go_wp2_with fail
      refine (l01In_yes _ _ _ _ (by omega) (by omega)).mono ?_
      rintro e w0 ⟨rfl, rfl⟩
      go_wp2_with fail
      refine (l01In_no _ _ _ _ (by omega)).mono ?_
      rintro e w0 ⟨rfl, rfl⟩
      go_wp2
      go_ret2
      rw [hE.out]
      exact ⟨rfl, Below.refl _ _⟩
    · go_enter Tryz.func50, Tryz.ntmps50
      go_wp2_with fail
      refine (l01In_no _ _ _ _ (by omega)).mono ?_
      rintro e w0 ⟨rfl, rfl⟩
      go_wp2
      go_ret2
      rw [hE.out]
      exact ⟨rfl, Below.refl _ _⟩
theorem l06Head_any (n : Nat) (t : ByteArray) (w : World) (hn : n ≤ 99) (ht : t.size ≤ 1048576) : Calls Tryz.prog 93 #[.int .i64 n, .string t] w fun e w' => e = .returned (.tuple #[.int .i64 (((hdFrom n t).getD 0 : Nat) : Int), .bool (hdFrom n t).isSome]) ∧ Below w.heap.size w w' := by
  have hl0 := takeC_le (t := t) (n := 1) (i := 0) false (Nat.zero_le _)
  obtain ⟨x0, X0⟩ : ∃ x, Hid (takeC t 1 0 false = x) := ⟨_, rfl⟩
  have C0 := hide (fun W (hW : CurB W w.heap.size t 0 false) => l05Take_any t w.heap.size 1 0 false W ht (Nat.zero_le _) (by omega) hW)
  rw [X0.out] at C0 hl0
  obtain ⟨s0, i0, b0⟩ := x0
  have hl1 := varC_le b0 hl0.1
  obtain ⟨x1, X1⟩ : ∃ x, Hid (varC t i0 b0 = x) := ⟨_, rfl⟩
  have C1 := hide (fun W (hW : CurB W w.heap.size t i0 b0) => l05Var_any t w.heap.size i0 b0 W ht hl0.1 hW)
  rw [X1.out] at C1 hl1
  obtain ⟨a, i1, b1⟩ := x1
  have hl2 := varC_le b1 hl1.1
  obtain ⟨x2, X2⟩ : ∃ x, Hid (varC t i1 b1 = x) := ⟨_, rfl⟩
  have C2 := hide (fun W (hW : CurB W w.heap.size t i1 b1) => l05Var_any t w.heap.size i1 b1 W ht hl1.1 hW)
  rw [X2.out] at C2 hl2
  obtain ⟨f, i2, bad⟩ := x2
  simp only at hl0 hl1 hl2
  have HRW : Hid (hdRaw t = (a, f, bad)) := by show _ = _; simp only [hdRaw, X0.out, X1.out, X2.out]
  have HY : Hid (bad = false ∧ a = n ∧ f ≤ n ∧ (⟨(headL n f).toArray⟩ : ByteArray) = t → hdFrom n t = some f) := by
    rintro ⟨rfl, rfl, h3, h4⟩
    exact (hdFrom_iff _ _ _).2 ⟨by omega, by omega, by omega, by rw [Int.toNat_natCast]; exact h4.symm⟩
  have HN : Hid (¬ (bad = false ∧ a = n ∧ f ≤ n ∧ (⟨(headL n f).toArray⟩ : ByteArray) = t) → hdFrom n t = none) := by
    intro h
    unfold hdFrom
    rw [if_neg]
    unfold hdOk
    rw [HRW.out]
    simp only [Bool.and_eq_true, decide_eq_true_eq, beq_iff_eq]
    rintro ⟨h1, h2, -, h4, h5⟩
    have e2 : a = n := by omega
    subst e2
    exact h ⟨by simpa using h1, rfl, by omega, h5⟩
  have ST : Hid (CurB (w.alloc (.cells #[.string t, .int .i64 0, .bool false] 196)) w.heap.size t 0 false) := heap_alloc_new w _
  have BT : Hid (Below w.heap.size w (w.alloc (.cells #[.string t, .int .i64 0, .bool false] 196))) := (Below.refl _ w).alloc (Nat.le_refl _) _
  go_enter Tryz.func93, Tryz.ntmps93
  go_wp2_with fail
  generalize (w.alloc (.cells #[.string t, .int .i64 0, .bool false] 196)) = w0 at ST BT
  refine (C0.out _ ST.out).mono ?_
  rintro e w1 ⟨rfl, c1, g1⟩
  have S1 := hide c1
  have B1 := hide (BT.out.grown g1 BT.out.size (fun k hk => by cases hk; exact Nat.le_refl _))
  clear c1 g1 ST BT
  go_wp2_with fail
  refine (C1.out _ S1.out).mono ?_
  rintro e w2 ⟨rfl, c2, g2⟩
  have S2 := hide c2
  have B2 := hide (B1.out.grown g2 B1.out.size (fun k hk => by cases hk; exact Nat.le_refl _))
  clear c2 g2 S1 B1
  go_wp2_with fail
  refine (C2.out _ S2.out).mono ?_
  rintro e w3 ⟨rfl, c3, g3⟩
  have S3 := hide c3
  have B3 := hide (B2.out.grown g3 B2.out.size (fun k hk => by cases hk; exact Nat.le_refl _))
  clear c3 g3 S2 B2
  clear C0 C1 C2 X0 X1 X2 HRW
  have hcb := (curB_cells S3.out).2.2
  cases bad with
  | true =>
    have HE := hide (HN.out (by simp))
    go_wp2_with fail
    go_ret2
    rw [HE.out]
    exact ⟨rfl, B3.out⟩
  | false =>
    by_cases ha : a = n
    · have ha' : ((a : Int) != (n : Int)) = false := by rw [bne_eq_false_iff_eq]; omega
      by_cases hf : f ≤ n
      · have hC := hide (headL_cat n f)
        have v1 := Wd.varF_len 5 n
        have v2 := Wd.varF_len 5 f
        go_wp2_with fail
        refine (l01In_yes _ _ _ _ (by omega) (by omega)).mono ?_
        rintro e w4 ⟨rfl, rfl⟩
        go_wp2_with fail
        refine (l01Var_any n _ (by omega)).mono ?_
        rintro e w5 ⟨rfl, b5⟩
        go_wp2_with fail
        refine (l01Var_any f _ (by omega)).mono ?_
        rintro e w6 ⟨rfl, b6⟩
        have B6 := hide ((B3.out.trans (b5.mono B3.out.size)).trans (b6.mono (Nat.le_trans B3.out.size b5.size)))
        clear b5 b6 B3 S3 hcb
        by_cases ht' : (⟨(headL n f).toArray⟩ : ByteArray) = t
        · have HE := hide (HY.out ⟨by simp, ha, hf, ht'⟩)
          have heq := txt_eq ((hC.out).trans ht')
          have heq2 := txt_eq ht'
          clear ht' HN HY
          go_wp2_with fail
          go_ret2
          rw [HE.out]
          exact ⟨rfl, B6.out⟩
        · have HE := hide (HN.out (fun h => ht' h.2.2.2))
          have heq := txt_ne (fun e => ht' ((hC.out).symm.trans e))
          have heq2 := txt_ne ht'
          clear ht' HN HY
          go_wp2_with fail
          go_ret2
          rw [HE.out]
          exact ⟨rfl, B6.out⟩
      · have HE := hide (HN.out (fun h => hf h.2.2.1))
        go_wp2_with fail
        refine (l01In_no _ _ _ _ (by omega)).mono ?_
        rintro e w4 ⟨rfl, rfl⟩
        go_wp2_with fail
        go_ret2
        rw [HE.out]
        exact ⟨rfl, B3.out⟩
    · have ha' : ((a : Int) != (n : Int)) = true := by rw [bne_iff_ne]; omega
      have HE := hide (HN.out (fun h => ha h.2.1))
      go_wp2_with fail
      go_ret2
      rw [HE.out]
      exact ⟨rfl, B3.out⟩
theorem Tryz.infoBatch : (Tryz.prog.info? 101).map (fun i => (i.zero, i.size, i.bytes)) = some (some (.agg #[.int .i64 0, .slice none 0 0]), 2, 32) := by kernel_rfl
def BatchesAt (w : World) (ao : Option Addr) (bs : List BatchD) : Prop := ∀ j (h : j < bs.length), ∃ b off : Nat, ao = some ⟨b, off, none⟩ ∧ b < w.heap.size ∧ w.cell? ⟨b, off + j * 2, none⟩ = some (.int .i64 bs[j].seq) ∧
  ∃ a c, w.cell? ⟨b, off + j * 2 + 1, none⟩ = some (.slice a bs[j].chs.length c) ∧ ChangesAt w a bs[j].chs
theorem batchesAt_keep {w w' : World} {ao : Option Addr} {bs : List BatchD} (h : BatchesAt w ao bs) (hb : Below w.heap.size w w') : BatchesAt w' ao bs := by
  intro j hj
  obtain ⟨b, off, h1, h2, h3, a, c, h4, h5⟩ := h j hj
  exact ⟨b, off, h1, Nat.lt_of_lt_of_le h2 hb.size, (hb.cell (p := ⟨b, off + j * 2, none⟩) h2).trans h3, a, c, (hb.cell (p := ⟨b, off + j * 2 + 1, none⟩) h2).trans h4, changesAt_keep h5 hb⟩
def KidsIn (w : World) (B g : Nat) (C : Array Value) (bs : List BatchD) : Prop :=
  (∀ j (h : j < bs.length), C[j * 2]? = some (.int .i64 bs[j].seq) ∧ ∃ x, C[j * 2 + 1]? = some x ∧ RowChange w B x bs[j].chs ∧ x.ownBlock ≠ some g) ∧
  (∀ (i j : Nat) (x y : Value) (h : Nat), i ≠ j → i < bs.length → j < bs.length → C[i * 2 + 1]? = some x → C[j * 2 + 1]? = some y → x.ownBlock = some h → y.ownBlock ≠ some h)
def RowBatch (w : World) (B : Nat) (v : Value) (bs : List BatchD) : Prop := (v = .slice none 0 0 ∧ bs = []) ∨
  ∃ (g cap : Nat) (C : Array Value), v = .slice (some ⟨g, 0, none⟩) bs.length cap ∧ B ≤ g ∧ w.heap[g]? = some (.cells C 101 (0, 0)) ∧ bs.length * 2 ≤ C.size ∧ KidsIn w B g C bs
theorem kidsIn_keep {w w' : World} {B g : Nat} {C : Array Value} {bs : List BatchD} (h : KidsIn w B g C bs) (hk : ∀ k, B ≤ k → k < w.heap.size → w'.heap[k]? = w.heap[k]?) : KidsIn w' B g C bs := by
  refine ⟨fun j hj => ?_, h.2⟩
  obtain ⟨h1, x, h2, h3, h4⟩ := h.1 j hj
  exact ⟨h1, x, h2, rowChange_keep h3 (fun k hk' => hk k (rowChange_lt h3 k hk').1 (rowChange_lt h3 k hk').2), h4⟩
theorem rowBatch_keep {w w' : World} {B : Nat} {v : Value} {bs : List BatchD} (h : RowBatch w B v bs) (hk : ∀ k, B ≤ k → k < w.heap.size → w'.heap[k]? = w.heap[k]?) : RowBatch w' B v bs := by
  rcases h with h | ⟨g, cap, C, rfl, hB, hC, hs, hI⟩
  · exact .inl h
  · exact .inr ⟨g, cap, C, rfl, hB, (hk g hB (Array.getElem?_eq_some_iff.1 hC).1).trans hC, hs, kidsIn_keep hI hk⟩
theorem rowBatch_below {w w' : World} {B : Nat} {v : Value} {bs : List BatchD} (h : RowBatch w B v bs) (hb : Below w.heap.size w w') : RowBatch w' B v bs :=
  rowBatch_keep h (fun k _ hk => hb.block k hk)
theorem rowBatch_at {w : World} {B : Nat} {v : Value} {bs : List BatchD} (h : RowBatch w B v bs) : ∃ ao cap, v = .slice ao bs.length cap ∧ BatchesAt w ao bs := by
  rcases h with ⟨rfl, rfl⟩ | ⟨g, cap, C, rfl, _, hC, _, hI⟩
  · exact ⟨none, 0, rfl, fun j hj => absurd hj (by simp)⟩
  · refine ⟨_, cap, rfl, fun j hj => ⟨g, 0, rfl, (Array.getElem?_eq_some_iff.1 hC).1, ?_, ?_⟩⟩
    · rw [Nat.zero_add]
      exact (cell_of_row w g (j * 2) _ _ (0, 0) hC).trans (hI.1 j hj).1
    · obtain ⟨-, x, h2, h3, -⟩ := hI.1 j hj
      obtain ⟨a, c, rfl, h5⟩ := rowChange_at h3
      refine ⟨a, c, ?_, h5⟩
      rw [Nat.zero_add]
      exact (cell_of_row w g (j * 2 + 1) _ _ (0, 0) hC).trans h2
theorem rowBatch_rows {w : World} {B n c : Nat} {a : Option Addr} {bs : List BatchD} (h : RowBatch w B (.slice a n c) bs) : n = bs.length ∧ BatchesAt w a bs := by
  obtain ⟨ao, cap, e, hf⟩ := rowBatch_at h
  cases e
  exact ⟨rfl, hf⟩
theorem rowBatch_le {w : World} {B B' : Nat} {v : Value} {bs : List BatchD} (h : RowBatch w B v bs) (hB : B' ≤ B) : RowBatch w B' v bs := by
  rcases h with h | ⟨g, cap, C, h1, h2, h3, h4, h5⟩
  · exact .inl h
  · refine .inr ⟨g, cap, C, h1, by omega, h3, h4, fun j hj => ?_, h5.2⟩
    obtain ⟨k1, x, k2, k3, k4⟩ := h5.1 j hj
    exact ⟨k1, x, k2, rowChange_le k3 hB, k4⟩
def cellsBatch : List BatchD → List Value → List Value
  | b :: r, x :: s => .int .i64 b.seq :: x :: cellsBatch r s
  | _, _ => []
theorem cellsBatch_append : ∀ (a : List BatchD) (s : List Value) (b : BatchD) (x : Value), s.length = a.length → cellsBatch (a ++ [b]) (s ++ [x]) = cellsBatch a s ++ [.int .i64 b.seq, x]
  | [], [], _, _, _ => rfl
  | [], _ :: _, _, _, h => absurd h (by simp)
  | _ :: _, [], _, _, h => absurd h (by simp)
  | A :: r, y :: s, b, x, h => by simp only [List.cons_append, cellsBatch]; rw [cellsBatch_append r s b x (by simpa using h)]
theorem cellsBatch_get : ∀ (a : List BatchD) (s : List Value) (j : Nat) (b : BatchD) (x : Value), a[j]? = some b → s[j]? = some x → (cellsBatch a s)[j * 2]? = some (.int .i64 b.seq) ∧ (cellsBatch a s)[j * 2 + 1]? = some x
  | [], _, _, _, _, h, _ => absurd h (by simp)
  | _ :: _, [], _, _, _, _, h => absurd h (by simp)
  | A :: r, y :: s, 0, b, x, h, h' => by simp at h h'; subst h h'; simp [cellsBatch]
  | A :: r, y :: s, j + 1, b, x, h, h' => by
    have := cellsBatch_get r s j b x (by simpa using h) (by simpa using h')
    have e : (j + 1) * 2 = j * 2 + 2 := by omega
    simp only [cellsBatch, e]
    simpa using this
def BuildB (w : World) (B : Nat) (v : Value) (bs : List BatchD) : Prop :=
  ∃ vs : List Value, vs.length = bs.length ∧ w.ownsRow B 101 2 v bs.length (cellsBatch bs vs) ∧ (∀ (j : Nat) (x : Value) (b : BatchD), vs[j]? = some x → bs[j]? = some b → RowChange w B x b.chs) ∧
    (∀ (i j : Nat) (x y : Value) (h : Nat), i ≠ j → vs[i]? = some x → vs[j]? = some y → x.ownBlock = some h → y.ownBlock ≠ some h)
theorem buildB_nil (w : World) (B : Nat) : BuildB w B (.slice none 0 0) [] := ⟨[], rfl, World.ownsRow_nil _ _ _ _, fun j x b h => by simp at h, fun i j x y h _ hx => by simp at hx⟩
theorem buildB_lit (w : World) (B : Nat) (hB : B ≤ w.heap.size) (t : TypeId) (ht : t = 101) : BuildB (w.alloc (.cells #[] t)) B (.slice (some ⟨w.heap.size, 0, none⟩) 0 0) [] := by
  subst ht
  exact ⟨[], rfl, ownsRow_mono (World.ownsRow_lit w #[] 0 (Nat.le_refl _) (by unfold maxLen; omega) (by simp)) hB, fun j x b h => by simp at h, fun i j x y h _ hx => by simp at hx⟩
theorem owns_block {w : World} {B : Nat} {e : TypeId} {s : Nat} {v : Value} {n : Nat} {xs : List Value} (h : w.ownsRow B e s v n xs) {g : Nat} (hg : v.ownBlock = some g) : ∃ C, w.heap[g]? = some (.cells C e (0, 0)) := by
  rcases h.2 with ⟨rfl, _⟩ | ⟨g', cap, cur, rfl, _, hC, _⟩
  · cases hg
  · obtain rfl : g' = g := by simpa [Value.ownBlock] using hg
    exact ⟨cur, hC⟩
theorem change_block {w : World} {B : Nat} {x : Value} {fs : List ChangeD} (h : RowChange w B x fs) {g : Nat} (hg : x.ownBlock = some g) : ∃ C, w.heap[g]? = some (.cells C 160 (0, 0)) := by
  rcases h with ⟨rfl, rfl⟩ | ⟨g', cap, C, rfl, _, hC, _⟩
  · cases hg
  · obtain rfl : g' = g := by simpa [Value.ownBlock] using hg
    exact ⟨C, hC⟩
theorem kid_apart {w : World} {B B' : Nat} {v x : Value} {n s : Nat} {xs : List Value} {fs : List ChangeD} (h : w.ownsRow B 101 s v n xs) (hx : RowChange w B' x fs) {g : Nat} (hg : x.ownBlock = some g) : v.ownBlock ≠ some g := by
  intro e
  obtain ⟨C, h1⟩ := owns_block h e
  obtain ⟨C', h2⟩ := change_block hx hg
  rw [h1] at h2
  simp at h2
theorem buildB_below {w w' : World} {B : Nat} {v : Value} {bs : List BatchD} (h : BuildB w B v bs) (hb : Below w.heap.size w w') : BuildB w' B v bs := by
  obtain ⟨vs, h1, h2, h3, h4⟩ := h
  exact ⟨vs, h1, ownsRow_below h2 hb, fun j x b hx hj => rowChange_below (h3 j x b hx hj) hb, h4⟩
theorem buildB_row {w : World} {B : Nat} {v : Value} {bs : List BatchD} (h : BuildB w B v bs) : RowBatch w B v bs := by
  obtain ⟨vs, h1, h2, h3, h4⟩ := h
  rcases h2.2 with ⟨rfl, hn⟩ | ⟨g, cap, cur, rfl, hB, hC, hle, _, hs, ht⟩
  · exact .inl ⟨rfl, List.eq_nil_of_length_eq_zero hn⟩
  · have hget : ∀ j (hj : j < bs.length), ∃ x, vs[j]? = some x ∧ cur[j * 2]? = some (.int .i64 bs[j].seq) ∧ cur[j * 2 + 1]? = some x := by
      intro j hj
      obtain ⟨x, hx⟩ : ∃ x, vs[j]? = some x := ⟨vs[j]'(by omega), List.getElem?_eq_getElem (by omega)⟩
      obtain ⟨k1, k2⟩ := cellsBatch_get bs vs j bs[j] x (List.getElem?_eq_getElem hj) hx
      exact ⟨x, hx, take_getChange ht (by omega) k1, take_getChange ht (by omega) k2⟩
    refine .inr ⟨g, cap, cur, rfl, hB, hC, by omega, fun j hj => ?_, ?_⟩
    · obtain ⟨x, hx, k1, k2⟩ := hget j hj
      refine ⟨k1, x, k2, h3 j x _ hx (List.getElem?_eq_getElem hj), fun e => ?_⟩
      exact kid_apart h2 (h3 j x _ hx (List.getElem?_eq_getElem hj)) e rfl
    · intro i j x y h hij hi hj hx hy e
      obtain ⟨x', hx', -, k2⟩ := hget i hi
      obtain ⟨y', hy', -, k2'⟩ := hget j hj
      rw [k2] at hx
      rw [k2'] at hy
      obtain rfl := Option.some.inj hx
      obtain rfl := Option.some.inj hy
      exact h4 i j x' y' h hij hx' hy' e
theorem buildB_put {W w' : World} {B : Nat} {v v' x : Value} {bs : List BatchD} {b : BatchD} (hx : RowChange W B x b.chs)
    (vs : List Value) (h1 : vs.length = bs.length) (h3 : ∀ (j : Nat) (y : Value) (c : BatchD), vs[j]? = some y → bs[j]? = some c → RowChange W B y c.chs) (h4 : ∀ (i j : Nat) (y z : Value) (h : Nat), i ≠ j → vs[i]? = some y → vs[j]? = some z → y.ownBlock = some h → z.ownBlock ≠ some h)
    (hnew : ∀ g, x.ownBlock = some g → ∀ y ∈ vs, y.ownBlock ≠ some g)
    (hown' : w'.ownsRow B 101 2 v' (bs ++ [b]).length (cellsBatch bs vs ++ [.int .i64 b.seq, x])) (hkeep : ∀ k, v.ownBlock ≠ some k → k < W.heap.size → w'.heap[k]? = W.heap[k]?)
    (hown : W.ownsRow B 101 2 v bs.length (cellsBatch bs vs)) : BuildB w' B v' (bs ++ [b]) := by
  have keep : ∀ y (fs : List ChangeD), RowChange W B y fs → RowChange w' B y fs := fun y fs hy => rowChange_keep hy (fun g hg => hkeep g (kid_apart hown hy hg) (rowChange_lt hy g hg).2)
  refine ⟨vs ++ [x], by simp [h1], by rw [cellsBatch_append bs vs b x h1]; exact hown', ?_, ?_⟩
  · intro j y c hy hc
    by_cases hj : j < bs.length
    · rw [List.getElem?_append_left (by omega)] at hy
      rw [List.getElem?_append_left hj] at hc
      exact keep _ _ (h3 j y c hy hc)
    · have hlt : j < (bs ++ [b]).length := (List.getElem?_eq_some_iff.1 hc).1
      have hje : j = bs.length := by simp at hlt; omega
      subst hje
      rw [List.getElem?_append_right (by omega)] at hy
      rw [List.getElem?_append_right (Nat.le_refl _)] at hc
      simp [h1] at hy hc
      subst hy hc
      exact keep _ _ hx
  · intro i j y z g hij hy hz hg e
    by_cases hi : i < vs.length
    · rw [List.getElem?_append_left hi] at hy
      by_cases hj : j < vs.length
      · rw [List.getElem?_append_left hj] at hz
        exact h4 i j y z g hij hy hz hg e
      · rw [List.getElem?_append_right (by omega)] at hz
        have hz' := List.mem_of_getElem? hz
        obtain rfl : z = x := by simpa using hz'
        exact hnew g e y (List.mem_of_getElem? hy) hg
    · rw [List.getElem?_append_right (by omega)] at hy
      have hy' := List.mem_of_getElem? hy
      obtain rfl : y = x := by simpa using hy'
      by_cases hj : j < vs.length
      · rw [List.getElem?_append_left hj] at hz
        exact hnew g hg z (List.mem_of_getElem? hz) e
      · have hi1 : i < (vs ++ [y]).length := by
          rcases Nat.lt_or_ge i (vs ++ [y]).length with h' | h'
          · exact h'
          · rw [List.getElem?_eq_none (by simp at h' ⊢; omega)] at hy; simp at hy
        have hj1 : j < (vs ++ [y]).length := by
          rcases Nat.lt_or_ge j (vs ++ [y]).length with h' | h'
          · exact h'
          · rw [List.getElem?_eq_none (by simpa using h')] at hz; simp at hz
        simp at hi1 hj1
        omega
theorem rowChange_one {w : World} {B : Nat} {x : Value} {fs : List ChangeD} (h : RowChange w B x fs) : x.oneCell' = true := by
  obtain ⟨a, c, rfl, -⟩ := rowChange_at h
  rfl
theorem two_one {w : World} {B : Nat} {x : Value} {fs : List ChangeD} (h : RowChange w B x fs) (q : Int) : ∀ u ∈ [.int .i64 q, x], Value.oneCell' u = true := by
  intro u hu
  simp only [List.mem_cons, List.not_mem_nil, or_false] at hu
  rcases hu with rfl | rfl
  · rfl
  · exact rowChange_one h
theorem buildB_after {W0 W w' : World} {B : Nat} {v x v' : Value} {bs : List BatchD} {b : BatchD} {vs : List Value} (hBs : B ≤ W0.heap.size) (hb : Below W0.heap.size W0 W)
    (h1 : vs.length = bs.length) (h2 : W0.ownsRow B 101 2 v bs.length (cellsBatch bs vs)) (h3 : ∀ (j : Nat) (x : Value) (b : BatchD), vs[j]? = some x → bs[j]? = some b → RowChange W0 B x b.chs)
    (h4 : ∀ (i j : Nat) (x y : Value) (h : Nat), i ≠ j → vs[i]? = some x → vs[j]? = some y → x.ownBlock = some h → y.ownBlock ≠ some h)
    (hx : RowChange W W0.heap.size x b.chs) (hown' : w'.ownsRow B 101 2 v' (bs ++ [b]).length (cellsBatch bs vs ++ [.int .i64 b.seq, x])) (hgrow : W.grownBy w' v.ownBlock) : BuildB w' B v' (bs ++ [b]) := by
  refine buildB_put (W := W) (v := v) (rowChange_le hx hBs) vs h1 (fun j y c hy hc => rowChange_below (h3 j y c hy hc) hb) h4 ?_ hown' (fun k hk hlt => hgrow.block k hlt (fun e => hk e.symm)) (ownsRow_below h2 hb)
  intro g hg y hy e
  obtain ⟨j, hj, hjy⟩ := List.getElem_of_mem hy
  have k1 := h3 j y _ (by rw [List.getElem?_eq_getElem hj, hjy]) (List.getElem?_eq_getElem (by omega))
  have := (rowChange_lt k1 g e).2
  have := (rowChange_lt hx g hg).1
  omega
theorem app_batch {ops : Array Oper} {rest : List Oper} {o : Oper} {a : Act} {Q : Exit → Act → World → Prop} (W0 W : World) (B : Nat) (hgd : o.guard = none) (s y : Operand)
    (ho : o.op = .call { callee := .builtin .append, args := #[s, y], argTypes := #[94, 94] }) (v x : Value) (bs : List BatchD) (b : BatchD) (hs : a.eval s = v)
    (hbuild : BuildB W0 B v bs) (hBs : B ≤ W0.heap.size) (hb : Below W0.heap.size W0 W) (hx : RowChange W W0.heap.size x b.chs) (k : Nat) (hy : a.eval y = .slice (some ⟨k, 0, none⟩) 1 1) (hblk : W.heap[k]? = some (.cells #[.int .i64 b.seq, x] 101 (0, 0)))
    (hlen : bs.length ≤ 1048576)
    (h : ∀ g cap w', BuildB w' B (.slice (some ⟨g, 0, none⟩) (bs.length + 1) cap) (bs ++ [b]) → Below B W w' → W.grownBy w' v.ownBlock → wpList Tryz.prog ops Q rest (a.put o.dst (.slice (some ⟨g, 0, none⟩) (bs.length + 1) cap)) w') :
    wpList Tryz.prog ops Q (o :: rest) a W := by
  obtain ⟨i0, hi, hz0, hz1, hz2⟩ := info_parts Tryz.infoBatch
  obtain ⟨vs, h1, h2, h3, h4⟩ := hbuild
  have hown := ownsRow_below h2 hb
  refine wpList_append_lies W hgd s y 94 ho B 101 i0 (.agg #[.int .i64 0, .slice none 0 0]) 2 32 Tryz.underlying94 hi hz0 hz1 hz2 rfl (by decide) v bs.length (cellsBatch bs vs) hs hown ⟨k, 0, none⟩ 1 1 [.int .i64 b.seq, x] hy rfl
    (fun j u hj => World.news_of_block hblk j u hj) (two_one hx _) (by omega) (by unfold maxLen; omega) (by omega) (Nat.le_trans hBs hb.size) W.heap.size rfl ?_
  intro g cap w' hown' hgrow hg hgl
  refine h g cap w' (buildB_after hBs hb h1 h2 h3 h4 hx (by rw [List.length_append]; exact hown') hgrow) ((Below.refl B W).grown hgrow (Nat.le_trans hBs hb.size) (fun k hk => (hown.lt k hk).1)) hgrow
theorem row_apart {W w' : World} {B B' : Nat} {e : TypeId} {sz n : Nat} {v x : Value} {xs : List Value} {bs : List BatchD} (h : W.ownsRow B' e sz x n xs) (he : e ≠ 101) (hb : BuildB W B v bs) (hg : W.grownBy w' v.ownBlock) : w'.ownsRow B' e sz x n xs := by
  refine h.kept hg ?_
  cases hx : x.ownBlock with
  | none => exact .inl rfl
  | some g =>
    refine .inr (fun e2 => ?_)
    obtain ⟨vs, -, h2, -⟩ := hb
    obtain ⟨C, h3⟩ := owns_block h hx
    obtain ⟨C', h4⟩ := owns_block h2 e2.symm
    rw [h3] at h4
    simp at h4
    exact he h4.2
end Go.Proofs.YtlcfblodflgleaaGreatDoor
