/- The specification's ReadHint, but for its HintText. -/
import Derived.Test.YtijmlgdeeodehabDoorHintP
import Derived.Test.YtijmlgdeeodehabDoorBatchR
import Derived.Test.YtijmlgdeeodehabDoorSumS2
namespace Go.Proofs.YtijmlgdeeodehabDoor
open Go.RowKit

theorem specUnsealed_all (s : ByteArray) (w : World) (hl : s.size ≤ 1048576) :
    Calls Tryd.prog 38 #[.string s] w fun e w' => e = .returned (.tuple #[.string (unsD s), .bool (unsOk s)]) ∧ Below w.heap.size w w' := by
  by_cases h : 4 ≤ s.size ∧ s.size ≤ 20004 ∧ sealB (foreB s) = s
  · have hu : unsOk s = true := by unfold unsOk; simpa using h
    have hd : unsD s = foreB s := by unfold unsD; rw [if_pos hu]
    rw [hu, hd]
    exact specUnsealed_yes s w h.1 h.2.1 h.2.2
  · have hu : unsOk s = false := by unfold unsOk; simpa using h
    have hd : unsD s = ⟨#[]⟩ := by unfold unsD; rw [hu]; rfl
    rw [hu, hd]
    by_cases h4 : s.size < 4
    · exact specUnsealed_short s w h4
    · by_cases hb : 20004 < s.size
      · exact specUnsealed_long s w hb hl
      · exact specUnsealed_no s w (by omega) (by omega) (fun e => h ⟨by omega, by omega, e⟩)
theorem unsD_size (s : ByteArray) : (unsD s).size ≤ 20000 := by
  unfold unsD
  split
  · rename_i h
    unfold unsOk at h
    simp only [decide_eq_true_eq] at h
    rw [foreB_size]
    omega
  · exact Nat.zero_le _

/-- What the reader holds: the cursor, the spots so far. -/
def StH (w wr : World) (g : Nat) (t : ByteArray) (i : Nat) (bad : Bool) (v : Value) (acc : List SpotD) : Prop :=
  CurB wr g t i bad ∧ wr.ownsRow (g + 1) 44 4 v acc.length (cellsSpot acc) ∧ Below w.heap.size w wr ∧ w.heap.size ≤ g
theorem stH_cur {w wr w' : World} {g : Nat} {t : ByteArray} {i i' : Nat} {bad bad' : Bool} {v : Value} {acc : List SpotD} (h : StH w wr g t i bad v acc) (hg : wr.grownBy w' (some g)) (hc : CurB w' g t i' bad') : StH w w' g t i' bad' v acc := by
  obtain ⟨h1, h2, h3, h4⟩ := h
  exact ⟨hc, h2.kept hg (own_ne h2 (by omega)), h3.grown hg h3.size (fun k hk => by simp at hk; omega), h4⟩
theorem stH_below {w wr w' : World} {g : Nat} {t : ByteArray} {i : Nat} {bad : Bool} {v : Value} {acc : List SpotD} (h : StH w wr g t i bad v acc) (hb : Below wr.heap.size wr w') : StH w w' g t i bad v acc := by
  obtain ⟨h1, h2, h3, h4⟩ := h
  have hg := grownBy_below none hb
  exact ⟨curB_below h1 hb, h2.kept hg (by cases v.ownBlock <;> simp), h3.trans (hb.mono h3.size), h4⟩
theorem stH_far {w wr w' : World} {g : Nat} {t : ByteArray} {i : Nat} {bad : Bool} {v : Value} {acc : List SpotD} {k : Nat} (h : StH w wr g t i bad v acc) (hk : g + 1 ≤ k) (hne : v.ownBlock ≠ some k) (hg : wr.grownBy w' (some k)) : StH w w' g t i bad v acc := by
  obtain ⟨h1, h2, h3, h4⟩ := h
  exact ⟨(hg.block _ (heap_lt h1) (by simp; omega)).trans h1, h2.kept hg (.inr hne), h3.grown hg h3.size (fun k' hk' => by simp at hk'; omega), h4⟩
theorem stH_row {w wr w5 : World} {g : Nat} {t : ByteArray} {i : Nat} {bad : Bool} {v v' : Value} {acc acc' : List SpotD} (h : StH w wr g t i bad v acc) (hb : Below (g + 1) wr w5) (ho : w5.ownsRow (g + 1) 44 4 v' acc'.length (cellsSpot acc')) : StH w w5 g t i bad v' acc' := by
  obtain ⟨h1, h2, h3, h4⟩ := h
  exact ⟨(hb.block g (by omega)).trans h1, ho, h3.trans (hb.mono (by omega)), h4⟩

set_option maxRecDepth 100000 in
set_option maxHeartbeats 3200000 in
theorem specReadHint_of (HT0 : ∀ (fs : List SpotD) (ao : Option Addr) (cap : Nat) (w : World), fs.length ≤ 1048576 → SpotsAt w ao fs → (∀ A ∈ fs, A.key.size ≤ 1048576) → Calls Tryd.prog 15 #[.slice ao fs.length cap] w fun e w' => e = .returned (.tuple #[.string (hintD fs), .bool (dirOkD fs)]) ∧ Below w.heap.size w w')
    (s : ByteArray) (w : World) (hs : s.size ≤ 1048576) :
    Calls Tryd.prog 17 #[.string s] w fun e w' => (∃ v, e = .returned (.tuple #[v, .bool (hintOk s)]) ∧ RowSpot w' w.heap.size v (hintDir s)) ∧ Below w.heap.size w w' := by
  have HU := hide (fun W => specUnsealed_all s W hs)
  have htz := unsD_size s
  have HT := hide HT0
  clear HT0
  obtain ⟨t, Ht⟩ : ∃ t, Hid (unsD s = t) := ⟨_, hide rfl⟩
  obtain ⟨uk, Huk⟩ : ∃ u, Hid (unsOk s = u) := ⟨_, hide rfl⟩
  rw [Ht.out] at htz HU
  rw [Huk.out] at HU
  have hl0 := varC_le (t := t) (i := 0) (!uk) (Nat.zero_le _)
  obtain ⟨x0, X0⟩ : ∃ x, Hid (varC t 0 (!uk) = x) := ⟨_, hide rfl⟩
  rw [X0.out] at hl0
  obtain ⟨n, i0, b0⟩ := x0
  simp only at hl0
  obtain ⟨RL, HRL⟩ : ∃ R, Hid (spF t (min n 300) i0 b0 [] = R) := ⟨_, hide rfl⟩
  have HRW : Hid (hintRaw (unsD s) (!unsOk s) = RL) := by show _ = _; rw [Ht.out, Huk.out]; simp only [hintRaw, X0.out]; rw [HRL.out]
  go_enter Tryd.func17, Tryd.ntmps17
  go_wp2_with fail
  refine (HU.out _).mono ?_
  rintro e w1 ⟨rfl, b1⟩
  have B1 := hide b1
  have hw1 : w.heap.size ≤ w1.heap.size := b1.size
  clear b1 HU
  have ST : Hid (StH w ((w1.alloc (.cells #[.string t, .int .i64 0, .bool (!uk)] 70)).alloc (.cells #[] 44)) w1.heap.size t 0 (!uk) (.slice (some ⟨w1.heap.size + 1, 0, none⟩) 0 0) []) := by
    refine ⟨?_, ?_, (B1.out.alloc hw1 _).alloc (by simp; omega) _, hw1⟩
    · show _ = _
      rw [Go.heap_alloc_old _ _ (by simp)]
      exact heap_alloc_new _ _
    · have := World.ownsRow_lit (e := 44) (size := 4) (w1.alloc (.cells #[.string t, .int .i64 0, .bool (!uk)] 70)) #[] 0 (Nat.le_refl _) (by unfold maxLen; omega) (by simp)
      simpa [cellsSpot] using this
  have C0 := hide (fun W (hW : CurB W w1.heap.size t 0 (!uk)) => l05Var_any t w1.heap.size 0 (!uk) W (by omega) (Nat.zero_le _) hW)
  rw [X0.out] at C0
  go_wp2_with fail
  generalize ((w1.alloc (.cells #[.string t, .int .i64 0, .bool (!uk)] 70)).alloc (.cells #[] 44)) = w2 at ST
  refine (C0.out _ ST.out.1).mono ?_
  rintro e w3 ⟨rfl, c3, g3⟩
  have S3 := hide (stH_cur ST.out g3 c3)
  clear ST c3 g3 C0 X0
  obtain ⟨M, HM⟩ : ∃ M, Hid (min n 300 = M) := ⟨_, hide rfl⟩
  have hM : M ≤ n ∧ M ≤ 300 ∧ (M = n ∨ M = 300) := by have := HM.out; omega
  rw [HM.out] at HRL
  clear HM
  go_wp2_with fail
  go_loopw [7, 9] (fun vo ii wr => ∃ (k i : Nat) (bad : Bool) (acc : List SpotD), ii = .int .i64 k ∧ acc.length = k ∧ k ≤ M ∧ i ≤ t.size ∧ Hid (spF t (M - k) i bad acc = RL) ∧ Hid (StH w wr w1.heap.size t i bad vo acc) ∧ Hid (∀ A ∈ acc, A.key.size ≤ t.size)) (fun _ ii _ => 300 - (intOf ii).toNat)
  case atStart => exact ⟨0, i0, b0, [], rfl, rfl, Nat.zero_le _, hl0.1, HRL, S3, fun A hA => absurd hA List.not_mem_nil⟩
  case round =>
    clear S3
    obtain ⟨k, i, bad, acc, rfl, hal, hk, hi, HR, SW, HA⟩ := hrel
    have hcb := (curB_cells SW.out.1).2.2
    have hws : w1.heap.size + 1 ≤ wr.heap.size := heap_lt SW.out.1
    by_cases hrun : k < M ∧ bad = false
    · obtain ⟨hkM, rfl⟩ := hrun
      have hd1 : decide ((k : Int) < (n : Int)) = true := by simp; omega
      have hd2 : decide ((k : Int) < 300) = true := by simp; omega
      have hsA := shortC_le false hi
      have CA := hide (fun W (hW : CurB W w1.heap.size t i false) => l05ReadShort_any t w1.heap.size i false W (by omega) hi hW)
      obtain ⟨xa, XA⟩ : ∃ x, Hid (shortC t i false = x) := ⟨_, hide rfl⟩
      rw [XA.out] at hsA CA
      obtain ⟨ka, j1, d1⟩ := xa
      simp only at hsA
      have hsB := varC_le d1 hsA.1
      have CB := hide (fun W (hW : CurB W w1.heap.size t j1 d1) => l05Var_any t w1.heap.size j1 d1 W (by omega) hsA.1 hW)
      obtain ⟨xb, XB⟩ : ∃ x, Hid (varC t j1 d1 = x) := ⟨_, hide rfl⟩
      rw [XB.out] at hsB CB
      obtain ⟨sg, j2, d2⟩ := xb
      simp only at hsB
      have hsC := varC_le d2 hsB.1
      have CC := hide (fun W (hW : CurB W w1.heap.size t j2 d2) => l05Var_any t w1.heap.size j2 d2 W (by omega) hsB.1 hW)
      obtain ⟨xc, XC⟩ : ∃ x, Hid (varC t j2 d2 = x) := ⟨_, hide rfl⟩
      rw [XC.out] at hsC CC
      obtain ⟨po, j3, d3⟩ := xc
      simp only at hsC
      have hsD := varC_le d3 hsC.1
      have CD := hide (fun W (hW : CurB W w1.heap.size t j3 d3) => l05Var_any t w1.heap.size j3 d3 W (by omega) hsC.1 hW)
      obtain ⟨xd, XD⟩ : ∃ x, Hid (varC t j3 d3 = x) := ⟨_, hide rfl⟩
      rw [XD.out] at hsD CD
      obtain ⟨sq, j4, d4⟩ := xd
      simp only at hsD
      have HRn : Hid (spF t (M - (k + 1)) j4 d4 (acc ++ [⟨ka, sg, po, sq⟩]) = RL) := by
        show _ = _
        rw [← HR.out, show M - k = M - (k + 1) + 1 from by omega]
        simp only [spF, spStep, XA.out, XB.out, XC.out, XD.out]
      have HAn : Hid (∀ A ∈ acc ++ [(⟨ka, sg, po, sq⟩ : SpotD)], A.key.size ≤ t.size) := by
        intro A hA
        rcases List.mem_append.1 hA with h | h
        · exact HA.out A h
        · obtain rfl : A = ⟨ka, sg, po, sq⟩ := by simpa using h
          exact hsA.2
      have hown : ∀ b, u7.ownBlock = some b → b < wr.heap.size := fun b hb => (SW.out.2.1.lt b hb).2
      go_wp2_with fail
      refine (CA.out _ SW.out.1).mono ?_
      rintro e w5 ⟨rfl, c5, g5⟩
      have S5 := hide (stH_cur SW.out g5 c5)
      have hs5 := g5.size
      clear c5 g5 hcb
      have S6 := hide (stH_below S5.out ((Below.refl _ w5).alloc (Nat.le_refl _) (.cells #[.string ka, .int .i64 0, .int .i64 0, .int .i64 0] 44)))
      have hX6 := heap_alloc_new w5 (.cells #[.string ka, .int .i64 0, .int .i64 0, .int .i64 0] 44)
      obtain ⟨X, hX⟩ : ∃ X, X = w5.heap.size := ⟨_, rfl⟩
      rw [← hX] at hX6
      have hXb : w1.heap.size + 1 ≤ X := by omega
      have hXne : Hid (u7.ownBlock ≠ some X) := fun e => by have := hown X e; omega
      go_wp2_with fail
      rw [← hX]
      generalize w5.alloc (.cells #[.string ka, .int .i64 0, .int .i64 0, .int .i64 0] 44) = w6 at S6 hX6
      clear hX
      have HX6 := hide hX6
      clear hX6
      refine (CB.out _ S6.out.1).mono ?_
      rintro e w7 ⟨rfl, c7, g7⟩
      have S7 := hide (stH_cur S6.out g7 c7)
      have HX7 := hide ((g7.block X (heap_lt HX6.out) (by simp; omega)).trans HX6.out)
      clear c7 g7
      have hzc : w7.cell? ⟨X, 1, none⟩ = some (.int .i64 0) := (cell_of_row w7 X 1 _ _ (0, 0) HX7.out).trans rfl
      have hzf := frozen_of_row w7 X 1 _ _ HX7.out
      have S8 := hide (stH_far S7.out hXb hXne.out (grownBy_store (World.grownBy.refl w7 (some X)) 1 (.int .i64 (sg : Int))))
      have HX8 : Hid ((w7.setCell ⟨X, 1, none⟩ (.int .i64 (sg : Int))).heap[X]? = some (.cells #[.string ka, .int .i64 (sg : Int), .int .i64 0, .int .i64 0] 44 (0, 0))) := (heap_setCell_same _ _ _ _ _ _ HX7.out).trans rfl
      go_wp2_with fail
      generalize w7.setCell ⟨X, 1, none⟩ (.int .i64 (sg : Int)) = w8 at S8 HX8
      clear hzc hzf
      refine (CC.out _ S8.out.1).mono ?_
      rintro e w9 ⟨rfl, c9, g9⟩
      have S9 := hide (stH_cur S8.out g9 c9)
      have HX9 := hide ((g9.block X (heap_lt HX8.out) (by simp; omega)).trans HX8.out)
      clear c9 g9
      have hzc : w9.cell? ⟨X, 2, none⟩ = some (.int .i64 0) := (cell_of_row w9 X 2 _ _ (0, 0) HX9.out).trans rfl
      have hzf := frozen_of_row w9 X 2 _ _ HX9.out
      have S10 := hide (stH_far S9.out hXb hXne.out (grownBy_store (World.grownBy.refl w9 (some X)) 2 (.int .i64 (po : Int))))
      have HX10 : Hid ((w9.setCell ⟨X, 2, none⟩ (.int .i64 (po : Int))).heap[X]? = some (.cells #[.string ka, .int .i64 (sg : Int), .int .i64 (po : Int), .int .i64 0] 44 (0, 0))) := (heap_setCell_same _ _ _ _ _ _ HX9.out).trans rfl
      go_wp2_with fail
      generalize w9.setCell ⟨X, 2, none⟩ (.int .i64 (po : Int)) = w10 at S10 HX10
      clear hzc hzf
      refine (CD.out _ S10.out.1).mono ?_
      rintro e w11 ⟨rfl, c11, g11⟩
      have S11 := hide (stH_cur S10.out g11 c11)
      have HX11 := hide ((g11.block X (heap_lt HX10.out) (by simp; omega)).trans HX10.out)
      clear c11 g11
      have hzc : w11.cell? ⟨X, 3, none⟩ = some (.int .i64 0) := (cell_of_row w11 X 3 _ _ (0, 0) HX11.out).trans rfl
      have hzf := frozen_of_row w11 X 3 _ _ HX11.out
      have S12 := hide (stH_far S11.out hXb hXne.out (grownBy_store (World.grownBy.refl w11 (some X)) 3 (.int .i64 (sq : Int))))
      have HX12 : Hid ((w11.setCell ⟨X, 3, none⟩ (.int .i64 (sq : Int))).heap[X]? = some (.cells #[.string ka, .int .i64 (sg : Int), .int .i64 (po : Int), .int .i64 (sq : Int)] 44 (0, 0))) := (heap_setCell_same _ _ _ _ _ _ HX11.out).trans rfl
      go_upto_region 12 with fail
      generalize w11.setCell ⟨X, 3, none⟩ (.int .i64 (sq : Int)) = w12 at S12 HX12
      clear hzc hzf
      have hz0 : w12.cell? ⟨X, 0, none⟩ = some (.string ka) := (cell_of_row w12 X 0 _ _ (0, 0) HX12.out).trans rfl
      have hz1 : w12.cell? ⟨X, 1, none⟩ = some (.int .i64 (sg : Int)) := (cell_of_row w12 X 1 _ _ (0, 0) HX12.out).trans rfl
      have hz2 : w12.cell? ⟨X, 2, none⟩ = some (.int .i64 (po : Int)) := (cell_of_row w12 X 2 _ _ (0, 0) HX12.out).trans rfl
      have hz3 : w12.cell? ⟨X, 3, none⟩ = some (.int .i64 (sq : Int)) := (cell_of_row w12 X 3 _ _ (0, 0) HX12.out).trans rfl
      have hw12 : w1.heap.size + 1 ≤ w12.heap.size := heap_lt S12.out.1
      go_wp2_with (at_builtin; refine app_spot _ (w1.heap.size + 1) (by rfl) _ _ (by rfl) _ acc ⟨ka, sg, po, sq⟩ (by rfl) (S12.out.2.1.alloc _) w12.heap.size (by rfl) (heap_alloc_new w12 _) (by omega) (by simp; omega) ?_; intro g13 cap13 w13 ho13 hb13 hg13 hgl13; have B13 : Hid (Below (w1.heap.size + 1) w12 w13) := ((Below.refl _ w12).alloc hw12 _).trans hb13; have HO13 := hide ho13; clear ho13 hb13 hg13 hgl13)
      go_roundw
      case rel => exact ⟨k + 1, j4, d4, acc ++ [⟨ka, sg, po, sq⟩], by go_num, by simp [hal], by omega, hsD.1, HRn, by have h := HO13.out; rw [hal] at h; exact stH_row S12.out B13.out h, HAn⟩
      case measure => simp [intOf]; omega
    · have HRL2 : Hid (RL = (acc, bad)) := by
        show _ = _
        rw [← HR.out]
        cases bad
        · rw [show M - k = 0 from by simp at hrun; omega]; rfl
        · exact spF_bad _ _ _ _
      have hcase : ((decide ((k : Int) < (n : Int)) = false ∧ decide (k < n) = false) ∧ ¬ k < n) ∨ ((decide ((k : Int) < (n : Int)) = true ∧ decide (k < n) = true) ∧ decide ((k : Int) < 300) = false ∧ decide (k < 300) = false) ∨ ((decide ((k : Int) < (n : Int)) = true ∧ decide (k < n) = true) ∧ (decide ((k : Int) < 300) = true ∧ decide (k < 300) = true) ∧ bad = true) := by
        by_cases h1 : k < n
        · by_cases h2 : k < 300
          · refine .inr (.inr ⟨⟨by simp; omega, by simp; omega⟩, ⟨by simp; omega, by simp; omega⟩, ?_⟩)
            cases bad
            · exact absurd ⟨by omega, rfl⟩ hrun
            · rfl
          · exact .inr (.inl ⟨⟨by simp; omega, by simp; omega⟩, by simp; omega, by simp; omega⟩)
        · exact .inl ⟨⟨by simp; omega, by simp; omega⟩, h1⟩
      have hrow := rowSpot_own SW.out.2.1
      obtain ⟨ao, cap, hv, hat⟩ := rowSpot_at hrow
      subst hv
      have HAT := hide hat
      have HROW := hide hrow
      have HSZ : Hid (∀ A ∈ acc, A.key.size ≤ 1048576) := fun A hA => by have := HA.out A hA; omega
      clear hat hrow hrun HR HRL
      have HRO : Hid (hintOk s = (!bad && (dirOkD acc && decide (hintD acc = s)))) := by show _ = _; simp only [hintOk, HRW.out, HRL2.out]
      have HRQ : Hid (hintOk s = true → hintDir s = acc) := fun h => by simp only [hintDir, h, HRW.out, HRL2.out]; rfl
      have HRN : Hid (hintOk s = false → hintDir s = []) := fun h => by simp [hintDir, h]
      have CT := hide (fun W (hW : SpotsAt W ao acc) => HT.out acc ao cap W (by omega) hW HSZ.out)
      obtain ⟨ok, HOK⟩ : ∃ ok, Hid (dirOkD acc = ok) := ⟨_, hide rfl⟩
      obtain ⟨tx, HTX⟩ : ∃ tx, Hid (hintD acc = tx) := ⟨_, hide rfl⟩
      rw [HOK.out, HTX.out] at CT HRO
      clear hal
      cases bad <;> rcases hcase with ⟨⟨hd1, hd1n⟩, hd1p⟩ | ⟨⟨hd1, hd1n⟩, hd2, hd2n⟩ | ⟨⟨hd1, hd1n⟩, ⟨hd2, hd2n⟩, ⟨⟩⟩
      all_goals
        go_wp2_with fail
        refine (CT.out _ HAT.out).mono ?_
        rintro e w5 ⟨rfl, b5⟩
        have S5 := hide (stH_below SW.out b5)
        have HROW5 := hide (rowSpot_below HROW.out b5)
        clear b5
        have hcb5 := (curB_cells S5.out.1).2.2
        have hw5 : w.heap.size ≤ w5.heap.size := S5.out.2.2.1.size
        cases ok <;> by_cases htx : tx = s
      all_goals
        first
        | (have hcmp := txt_eq htx)
        | (have hcmp := txt_ne htx)
      all_goals
        first
        | (have hno : hintOk s = false := by
             rw [HRO.out]
             simp [htx]
           have HE := hide (HRN.out hno)
           have HNO := hide hno
           clear hno htx HRO HRQ HRN
           go_wp2
           go_ret2
           rw [HE.out, HNO.out]
           refine ⟨⟨_, rfl, rowSpot_own (World.ownsRow_lit w5 #[] 0 hw5 (by unfold maxLen; omega) (by simp))⟩, S5.out.2.2.1.alloc hw5 _⟩)
        | (have hyes : hintOk s = true := by
             rw [HRO.out]
             simp [htx]
           have HE := hide (HRQ.out hyes)
           have HYES := hide hyes
           clear hyes htx HRO HRQ HRN
           go_wp2
           go_ret2
           rw [HE.out, HYES.out]
           exact ⟨⟨_, rfl, rowSpot_le HROW5.out (by have := S5.out.2.2.2; omega)⟩, S5.out.2.2.1⟩)
        | fail
end Go.Proofs.YtijmlgdeeodehabDoor
