import Derived.Deep.RegionLaw
import Derived.Lib.AppendStr
import Derived.Test.YtbenmgokhklnjaaVa7
import Derived.Test.YtbenmgokhklnjaaVa5
import Derived.Test.YtbenmgokhklnjaaVa1
import Derived.Test.YtbenmgokhklnjaaVa0
import Derived.Test.YtbenmgokhklnjaaVa2
import Derived.Test.YtbenmgokhklnjaaVa8
set_option maxRecDepth 100000
set_option maxHeartbeats 3200000
namespace Go.Proofs.Ytbenmgokhklnjaa
open Go.RowKit
def StV (w wr : World) (t : ByteArray) (i : Nat) (bad : Bool) (k u : Int) (s : ByteArray) (v : Value) (acc : List ByteArray) : Prop :=
  wr.heap[w.heap.size]? = some (.cells #[.int .i64 0, .int .i64 0, .string ⟨#[]⟩, .slice none 0 0] 26 (0, 0)) ∧ CurB wr (w.heap.size + 1) t i bad ∧ wr.heap[w.heap.size + 2]? = some (.cells #[.int .i64 k, .int .i64 u, .string s, v] 26 (0, 0)) ∧
  wr.ownsRow (w.heap.size + 3) 9 1 v acc.length (acc.map Value.string) ∧ Below w.heap.size w wr
theorem stV_cur {w wr w' : World} {t : ByteArray} {i i' : Nat} {bad bad' : Bool} {k u : Int} {s : ByteArray} {v : Value} {acc : List ByteArray} (h : StV w wr t i bad k u s v acc) (hg : wr.grownBy w' (some (w.heap.size + 1))) (hc : CurB w' (w.heap.size + 1) t i' bad') : StV w w' t i' bad' k u s v acc := by
  obtain ⟨h1, h2, h3, h4, h5⟩ := h
  refine ⟨(hg.block _ (heap_lt h1) (by simp)).trans h1, hc, (hg.block _ (heap_lt h3) (by simp)).trans h3, h4.kept hg (own_ne h4 (by omega)), h5.grown hg h5.size (fun k hk => by simp at hk; omega)⟩
theorem stV_below {w wr w' : World} {t : ByteArray} {i : Nat} {bad : Bool} {k u : Int} {s : ByteArray} {v : Value} {acc : List ByteArray} (h : StV w wr t i bad k u s v acc) (hb : Below wr.heap.size wr w') : StV w w' t i bad k u s v acc := by
  obtain ⟨h1, h2, h3, h4, h5⟩ := h
  have hg := grownBy_below none hb
  exact ⟨(hg.block _ (heap_lt h1) (by simp)).trans h1, curB_below h2 hb, (hg.block _ (heap_lt h3) (by simp)).trans h3, h4.kept hg (by cases v.ownBlock <;> simp), h5.trans (hb.mono h5.size)⟩
theorem stV_kind {w wr : World} {t : ByteArray} {i : Nat} {bad : Bool} {k u : Int} {s : ByteArray} {v : Value} {acc : List ByteArray} (h : StV w wr t i bad k u s v acc) (k' : Int) : StV w (wr.setCell ⟨w.heap.size + 2, 0, none⟩ (.int .i64 k')) t i bad k' u s v acc := by
  obtain ⟨h1, h2, h3, h4, h5⟩ := h
  have hg : wr.grownBy (wr.setCell ⟨w.heap.size + 2, 0, none⟩ (.int .i64 k')) (some (w.heap.size + 2)) := grownBy_store (World.grownBy.refl _ _) 0 _
  exact ⟨(hg.block _ (heap_lt h1) (by simp)).trans h1, (hg.block _ (heap_lt h2) (by simp)).trans h2, (heap_setCell_same _ _ _ _ _ _ h3).trans rfl, h4.kept hg (own_ne h4 (by omega)), h5.grown hg h5.size (fun k hk => by simp at hk; omega)⟩
theorem stV_til {w wr : World} {t : ByteArray} {i : Nat} {bad : Bool} {k u : Int} {s : ByteArray} {v : Value} {acc : List ByteArray} (h : StV w wr t i bad k u s v acc) (u' : Int) : StV w (wr.setCell ⟨w.heap.size + 2, 1, none⟩ (.int .i64 u')) t i bad k u' s v acc := by
  obtain ⟨h1, h2, h3, h4, h5⟩ := h
  have hg : wr.grownBy (wr.setCell ⟨w.heap.size + 2, 1, none⟩ (.int .i64 u')) (some (w.heap.size + 2)) := grownBy_store (World.grownBy.refl _ _) 1 _
  exact ⟨(hg.block _ (heap_lt h1) (by simp)).trans h1, (hg.block _ (heap_lt h2) (by simp)).trans h2, (heap_setCell_same _ _ _ _ _ _ h3).trans rfl, h4.kept hg (own_ne h4 (by omega)), h5.grown hg h5.size (fun k hk => by simp at hk; omega)⟩
theorem stV_text {w wr : World} {t : ByteArray} {i : Nat} {bad : Bool} {k u : Int} {s : ByteArray} {v : Value} {acc : List ByteArray} (h : StV w wr t i bad k u s v acc) (s' : ByteArray) : StV w (wr.setCell ⟨w.heap.size + 2, 2, none⟩ (.string s')) t i bad k u s' v acc := by
  obtain ⟨h1, h2, h3, h4, h5⟩ := h
  have hg : wr.grownBy (wr.setCell ⟨w.heap.size + 2, 2, none⟩ (.string s')) (some (w.heap.size + 2)) := grownBy_store (World.grownBy.refl _ _) 2 _
  exact ⟨(hg.block _ (heap_lt h1) (by simp)).trans h1, (hg.block _ (heap_lt h2) (by simp)).trans h2, (heap_setCell_same _ _ _ _ _ _ h3).trans rfl, h4.kept hg (own_ne h4 (by omega)), h5.grown hg h5.size (fun k hk => by simp at hk; omega)⟩
theorem stV_row {w wr w5 : World} {t : ByteArray} {i : Nat} {bad : Bool} {k u : Int} {s : ByteArray} {v v' : Value} {acc acc' : List ByteArray} (h : StV w wr t i bad k u s v acc) (hb : Below (w.heap.size + 3) wr w5) (ho : w5.ownsRow (w.heap.size + 3) 9 1 v' acc'.length (acc'.map Value.string)) : StV w (w5.setCell ⟨w.heap.size + 2, 3, none⟩ v') t i bad k u s v' acc' := by
  obtain ⟨h1, h2, h3, h4, h5⟩ := h
  have hg : w5.grownBy (w5.setCell ⟨w.heap.size + 2, 3, none⟩ v') (some (w.heap.size + 2)) := grownBy_store (World.grownBy.refl _ _) 3 _
  have k1 := (hb.block (w.heap.size) (by omega)).trans h1
  have k2 := (hb.block (w.heap.size + 1) (by omega)).trans h2
  have k3 := (hb.block (w.heap.size + 2) (by omega)).trans h3
  have k5 : Below w.heap.size w w5 := h5.trans (hb.mono (by omega))
  exact ⟨(hg.block _ (heap_lt k1) (by simp)).trans k1, (hg.block _ (heap_lt k2) (by simp)).trans k2, (heap_setCell_same _ _ _ _ _ _ k3).trans rfl, ho.kept hg (own_ne ho (by omega)), k5.grown hg k5.size (fun k hk => by simp at hk; omega)⟩
theorem take1 {t : ByteArray} (h : 0 < t.size) : takeC t 1 0 false = (t.extract 0 1, 1, false) := by
  unfold takeC
  rw [if_neg (by intro h2; rcases h2 with h2 | h2 <;> first | omega | cases h2)]
theorem take1_no {t : ByteArray} (h : ¬ 0 < t.size) : takeC t 1 0 false = (⟨#[]⟩, 0, true) := by
  unfold takeC
  rw [if_pos (by right; omega)]
theorem take1_byte {t : ByteArray} (h : 0 < t.size) : ∃ s0 : ByteArray, t.extract 0 1 = s0 ∧ ∃ (b : Nat) (hs : 0 < s0.size), s0.size = 1 ∧ (s0[0]'hs).toNat = b ∧ Wd.bt t 0 = b ∧ b < 256 := by
  have hs : (t.extract 0 1).size = 1 := by rw [ByteArray.size_extract]; omega
  have hz : 0 < (t.extract 0 1).size := by omega
  refine ⟨_, rfl, _, hz, hs, rfl, ?_, UInt8.toNat_lt _⟩
  rw [← Wd.bt_eq t 0 h]
  congr 1
  rw [ByteArray.getElem_extract]
theorem specReadVal_any (t : ByteArray) (w : World) (R : Bool) (hR : R = true ↔ RvOk t) (ht : t.size ≤ 1048576) :
    Calls Try.prog 14 #[.string t] w fun e w' => (∃ a c, e = .returned (.tuple #[.agg #[.int .i64 (cond R (rvRaw t).1 noVal).kind, .int .i64 (cond R (rvRaw t).1 noVal).til, .string (cond R (rvRaw t).1 noVal).text, .slice a (cond R (rvRaw t).1 noVal).items.length c], .bool R]) ∧ RowText w' w.heap.size (.slice a (cond R (rvRaw t).1 noVal).items.length c) (cond R (rvRaw t).1 noVal).items) ∧ Below w.heap.size w w' := by
  have HRI := hide hR
  clear hR
  have ST : Hid (StV w (((w.alloc (.cells #[.int .i64 0, .int .i64 0, .string ⟨#[]⟩, .slice none 0 0] 26)).alloc (.cells #[.string t, .int .i64 0, .bool false] 72)).alloc (.cells #[.int .i64 0, .int .i64 0, .string ⟨#[]⟩, .slice none 0 0] 26)) t 0 false 0 0 ⟨#[]⟩ (.slice none 0 0) []) := by
    refine ⟨?_, ?_, ?_, World.ownsRow_nil _ _ _ _, (((Below.refl _ w).alloc (Nat.le_refl _) _).alloc (by simp) _).alloc (by simp; omega) _⟩
    · rw [Go.heap_alloc_old _ _ (by simp; omega), Go.heap_alloc_old _ _ (by simp)]
      exact heap_alloc_new _ _
    · show _ = _
      rw [Go.heap_alloc_old _ _ (by simp)]
      rw [show w.heap.size + 1 = (w.alloc (.cells #[.int .i64 0, .int .i64 0, .string ⟨#[]⟩, .slice none 0 0] 26)).heap.size from by simp]
      exact heap_alloc_new _ _
    · rw [show w.heap.size + 2 = ((w.alloc (.cells #[.int .i64 0, .int .i64 0, .string ⟨#[]⟩, .slice none 0 0] 26)).alloc (.cells #[.string t, .int .i64 0, .bool false] 72)).heap.size from by simp]
      exact heap_alloc_new _ _
  have C0 := hide (fun W (hW : CurB W (w.heap.size + 1) t 0 false) => l05Take_any t (w.heap.size + 1) 1 0 false W ht (Nat.zero_le _) (by omega) hW)
  obtain ⟨V, HV⟩ : ∃ V, Hid (cond R (rvRaw t).1 noVal = V) := ⟨_, hide rfl⟩
  rw [HV.out]
  by_cases hz : 0 < t.size
  rotate_left
  · rw [take1_no hz] at C0
    have hRf : Hid (R = false) := by
      show _ = _
      cases R
      · rfl
      · exact absurd (HRI.out.1 rfl).1 hz
    have hV : Hid (noVal = V) := by show _ = _; rw [← HV.out, hRf.out]; rfl
    go_enter Try.func14, Try.ntmps14
    go_wp2_with fail
    generalize (((w.alloc (.cells #[.int .i64 0, .int .i64 0, .string ⟨#[]⟩, .slice none 0 0] 26)).alloc (.cells #[.string t, .int .i64 0, .bool false] 72)).alloc (.cells #[.int .i64 0, .int .i64 0, .string ⟨#[]⟩, .slice none 0 0] 26)) = w0 at ST
    refine (C0.out _ ST.out.2.1).mono ?_
    rintro e w1 ⟨rfl, c1, g1⟩
    have S1 := hide (stV_cur ST.out g1 c1)
    clear ST c1 g1
    obtain ⟨r0, r1, r2, r3⟩ := val_cells S1.out.1
    obtain ⟨f0, f1, f2, f3⟩ := val_frozen S1.out.1
    obtain ⟨q0, q1, q2, q3⟩ := val_cells S1.out.2.2.1
    obtain ⟨k0, k1, k2⟩ := curB_cells S1.out.2.1
    go_wp2_with fail
    refine bodyPost_ret (v := .tuple #[.agg #[.int .i64 0, .int .i64 0, .string ⟨#[]⟩, .slice none 0 0], .bool false]) (by simp [results, Try.results14, go_sem, r0, r1, r2, r3]) rfl ⟨⟨none, 0, by rw [← hV.out, hRf.out]; rfl, by rw [← hV.out]; exact .inl ⟨rfl, rfl⟩⟩, ?_⟩
    exact (((S1.out.2.2.2.2.setCell (p := ⟨w.heap.size, 0, none⟩) (Nat.le_refl _) _).setCell (p := ⟨w.heap.size, 1, none⟩) (Nat.le_refl _) _).setCell (p := ⟨w.heap.size, 2, none⟩) (Nat.le_refl _) _).setCell (p := ⟨w.heap.size, 3, none⟩) (Nat.le_refl _) _
  rw [take1 hz] at C0
  obtain ⟨s0, hs0, b0, hs0z, hs01, hbt, HB0, hb256⟩ := take1_byte hz
  rw [hs0] at C0
  have hs0i : (0 : Int) < (s0.size : Int) := by omega
  have hl1 := varC_le (t := t) (i := 1) false hz
  obtain ⟨x1, X1⟩ : ∃ x, Hid (varC t 1 false = x) := ⟨_, rfl⟩
  have C1 := hide (fun W (hW : CurB W (w.heap.size + 1) t 1 false) => l05Var_any t (w.heap.size + 1) 1 false W ht hz hW)
  rw [X1.out] at C1 hl1
  obtain ⟨u, i1, b1⟩ := x1
  have hl2 := shortC_le b1 hl1.1
  obtain ⟨x2, X2⟩ : ∃ x, Hid (shortC t i1 b1 = x) := ⟨_, rfl⟩
  have C2 := hide (fun W (hW : CurB W (w.heap.size + 1) t i1 b1) => l05ReadShort_any t (w.heap.size + 1) i1 b1 W ht hl1.1 hW)
  rw [X2.out] at C2 hl2
  obtain ⟨s, i2, b2⟩ := x2
  have hl3 := varC_le b2 hl2.1
  obtain ⟨x3, X3⟩ : ∃ x, Hid (varC t i2 b2 = x) := ⟨_, rfl⟩
  have C3 := hide (fun W (hW : CurB W (w.heap.size + 1) t i2 b2) => l05Var_any t (w.heap.size + 1) i2 b2 W ht hl2.1 hW)
  rw [X3.out] at C3 hl3
  obtain ⟨n, i3, b3⟩ := x3
  simp only at hl1 hl2 hl3
  obtain ⟨RL, HRL⟩ : ∃ R, Hid (itsC t (min n 100) i3 b3 [] = R) := ⟨_, rfl⟩
  have HRW : Hid (rvRaw t = (⟨(b0 : Nat), (u : Nat), s, RL.1⟩, RL.2)) := by show _ = _; simp only [rvRaw, X1.out, X2.out, X3.out, HB0]; rw [HRL.out]
  go_enter Try.func14, Try.ntmps14
  go_wp2_with fail
  generalize (((w.alloc (.cells #[.int .i64 0, .int .i64 0, .string ⟨#[]⟩, .slice none 0 0] 26)).alloc (.cells #[.string t, .int .i64 0, .bool false] 72)).alloc (.cells #[.int .i64 0, .int .i64 0, .string ⟨#[]⟩, .slice none 0 0] 26)) = w0 at ST
  refine (C0.out _ ST.out.2.1).mono ?_
  rintro e w1 ⟨rfl, c1, g1⟩
  have S1 := hide (stV_cur ST.out g1 c1)
  clear ST c1 g1
  obtain ⟨k0, k1, k2⟩ := curB_cells S1.out.2.1
  obtain ⟨q0, q1, q2, q3⟩ := val_cells S1.out.2.2.1
  obtain ⟨f0, f1, f2, f3⟩ := val_frozen S1.out.2.2.1
  go_wp2_with fail
  have S2 := hide (stV_kind S1.out (b0 : Int))
  clear S1 k0 k1 k2 q0 q1 q2 q3 f0 f1 f2 f3
  refine (C1.out _ S2.out.2.1).mono ?_
  rintro e w2 ⟨rfl, c2, g2⟩
  have S3 := hide (stV_cur S2.out g2 c2)
  clear S2 c2 g2
  obtain ⟨q0, q1, q2, q3⟩ := val_cells S3.out.2.2.1
  obtain ⟨f0, f1, f2, f3⟩ := val_frozen S3.out.2.2.1
  go_wp2_with fail
  have S4 := hide (stV_til S3.out (u : Int))
  clear S3 q0 q1 q2 q3 f0 f1 f2 f3
  refine (C2.out _ S4.out.2.1).mono ?_
  rintro e w3 ⟨rfl, c3, g3⟩
  have S5 := hide (stV_cur S4.out g3 c3)
  clear S4 c3 g3
  obtain ⟨q0, q1, q2, q3⟩ := val_cells S5.out.2.2.1
  obtain ⟨f0, f1, f2, f3⟩ := val_frozen S5.out.2.2.1
  go_wp2_with fail
  have S6 := hide (stV_text S5.out s)
  clear S5 q0 q1 q2 q3 f0 f1 f2 f3
  refine (C3.out _ S6.out.2.1).mono ?_
  rintro e w4 ⟨rfl, c4, g4⟩
  have S7 := hide (stV_cur S6.out g4 c4)
  clear S6 c4 g4
  go_wp2_with fail
  obtain ⟨M, HM⟩ : ∃ M, Hid (min n 100 = M) := ⟨_, rfl⟩
  have hM : M ≤ n ∧ M ≤ 100 ∧ (M = n ∨ M = 100) := by have := HM.out; omega
  rw [HM.out] at HRL
  clear C0 C1 C2 C3 X1 X2 X3 HM
  go_loopw [8] (fun ii wr => ∃ (k i : Nat) (bad : Bool) (v : Value) (acc : List ByteArray), ii = .int .i64 k ∧ Hid (acc.length = k) ∧ k ≤ M ∧ i ≤ t.size ∧ Hid (itsC t (M - k) i bad acc = RL) ∧ Hid (StV w wr t i bad (b0 : Int) (u : Int) s v acc) ∧ Hid (∀ A ∈ acc, A.size ≤ t.size)) (fun ii _ => 100 - (intOf ii).toNat)
  case atStart => exact ⟨0, i3, b3, .slice none 0 0, [], rfl, hide rfl, Nat.zero_le _, hl3.1, HRL, S7, fun A hA => absurd hA List.not_mem_nil⟩
  case round =>
    clear S7
    obtain ⟨k, i, bad, v, acc, rfl, hal, hk, hi, HR, SW, HA⟩ := hrel
    obtain ⟨-, -, hcb⟩ := curB_cells SW.out.2.1
    have hws : w.heap.size + 3 ≤ wr.heap.size := by have := heap_lt SW.out.2.2.1; omega
    by_cases hrun : k < M ∧ bad = false
    · obtain ⟨hkM, rfl⟩ := hrun
      have hd1 : decide ((k : Int) < (n : Int)) = true := by simp; omega
      have hd2 : decide ((k : Int) < 100) = true := by simp; omega
      have hsA := shortC_le false hi
      have CA := hide (fun W (hW : CurB W (w.heap.size + 1) t i false) => l05ReadShort_any t (w.heap.size + 1) i false W ht hi hW)
      obtain ⟨xa, XA⟩ : ∃ x, Hid (shortC t i false = x) := ⟨_, rfl⟩
      rw [XA.out] at hsA CA
      obtain ⟨ka, j1, d1⟩ := xa
      simp only at hsA
      have HRn : Hid (itsC t (M - (k + 1)) j1 d1 (acc ++ [ka]) = RL) := by
        show _ = _
        rw [← HR.out, show M - k = M - (k + 1) + 1 from by omega]
        simp only [itsC, XA.out]
      have HAn : Hid (∀ A ∈ acc ++ [ka], A.size ≤ t.size) := by
        intro A hA
        rcases List.mem_append.1 hA with h | h
        · exact HA.out A h
        · obtain rfl : A = ka := by simpa using h
          exact hsA.2
      obtain ⟨aa, ca, rfl⟩ := slice_form SW.out.2.2.2.1
      have hLl : acc.length ≤ 1048576 := by have := hal.out; omega
      obtain ⟨-, -, -, hv3⟩ := val_cells SW.out.2.2.1
      have SD := hide (stV_below SW.out (Below.refl _ wr).drew)
      go_upto_region 13 with fail
      go_region_law ((first | (refine step_app_txt _ (w.heap.size + 3) (by rfl) _ _ (by rfl) _ acc ka (by rfl) (S8.out.2.2.2.1.alloc _) w8.heap.size (by simp [Act.eval]) (heap_alloc_new w8 _) hLl (by simp; omega) ?_; intro g9 cap9 w9 ho9 hb9 hgr9 hg9 hgl9; have B9 : Hid (Below (w.heap.size + 3) w8 w9) := ((Below.refl _ w8).alloc hs8 _).trans hb9; have HO9 := hide ho9; have hn0 := (B9.out.block (w.heap.size + 2) (by omega)).trans S8.out.2.2.1; obtain ⟨m0, m1, m2, m3⟩ := val_cells hn0; obtain ⟨l0, l1, l2, l3⟩ := val_frozen hn0; clear hn0 ho9 hb9 hgr9 hg9 hgl9) | (go_simp; go_at_call 43; refine (CA.out _ SD.out.2.1).mono ?_; rintro e w8 ⟨rfl, c8, g8⟩; have S8 := hide (stV_cur SD.out g8 c8); have hs8 : w.heap.size + 3 ≤ w8.heap.size := Nat.le_trans hws (g8.size); obtain ⟨-, -, -, hall0⟩ := val_cells S8.out.2.2.1; have hall : (w8.alloc (.cells #[.string ka] 9)).cell? ⟨w.heap.size + 2, 3, none⟩ = _ := (((Below.refl _ w8).alloc (Nat.le_refl _) _).cell (p := ⟨w.heap.size + 2, 3, none⟩) (by show w.heap.size + 2 < _; omega)).trans hall0; clear c8 g8)))
      all_goals
        go_wp2
        go_roundw
        case rel => exact ⟨k + 1, j1, d1, .slice (some ⟨g9, 0, none⟩) (acc.length + 1) cap9, acc ++ [ka], by go_num, by show _ = _; rw [List.length_append, hal.out]; rfl, by omega, hsA.1, HRn, stV_row S8.out B9.out HO9.out, HAn⟩
        case measure => simp [intOf]; omega
    · have HRL2 : Hid (RL = (acc, bad)) := by
        show _ = _
        rw [← HR.out]
        cases bad
        · rw [show M - k = 0 from by simp at hrun; omega]; rfl
        · exact itsC_bad _ _ _ _
      have hcase : ((decide ((k : Int) < (n : Int)) = false ∧ decide (k < n) = false) ∧ ¬ k < n) ∨ ((decide ((k : Int) < (n : Int)) = true ∧ decide (k < n) = true) ∧ decide ((k : Int) < 100) = false ∧ decide (k < 100) = false) ∨ ((decide ((k : Int) < (n : Int)) = true ∧ decide (k < n) = true) ∧ (decide ((k : Int) < 100) = true ∧ decide (k < 100) = true) ∧ bad = true) := by
        by_cases h1 : k < n
        · by_cases h2 : k < 100
          · refine .inr (.inr ⟨⟨by simp; omega, by simp; omega⟩, ⟨by simp; omega, by simp; omega⟩, ?_⟩)
            cases bad
            · exact absurd ⟨by omega, rfl⟩ hrun
            · rfl
          · exact .inr (.inl ⟨⟨by simp; omega, by simp; omega⟩, by simp; omega, by simp; omega⟩)
        · exact .inl ⟨⟨by simp; omega, by simp; omega⟩, h1⟩
      have hrow := rowText_own SW.out.2.2.2.1
      obtain ⟨ao, cap, hv, hat⟩ := rowText_at hrow
      subst hv
      have HAT := hide hat
      have HROW := hide hrow
      have HSZ : Hid (∀ A ∈ acc, A.size ≤ maxLen) := fun A hA => by have := HA.out A hA; unfold maxLen; omega
      have hal2 : acc.length ≤ 100 := by have := hal.out; omega
      clear hat hrow hrun HR HRL
      obtain ⟨ok, Hok⟩ : ∃ ok : Bool, Hid (ok = true ↔ ValR ⟨(b0 : Nat), (u : Nat), s, acc⟩) := by classical exact ⟨decide (ValR ⟨(b0 : Nat), (u : Nat), s, acc⟩), by show _ ↔ _; simp⟩
      have CT := hide (fun W (hW : TextsAt W ao acc) => specValText_any ⟨(b0 : Nat), (u : Nat), s, acc⟩ ao cap W ok Hok.out (by show acc.length ≤ _; omega) (by show s.size ≤ _; unfold maxLen; omega) hW HSZ.out)
      simp only at CT
      obtain ⟨tx, HTX⟩ : ∃ tx, Hid (cond ok (valT ⟨(b0 : Nat), (u : Nat), s, acc⟩) ⟨#[]⟩ = tx) := ⟨_, rfl⟩
      have HRO : Hid (R = true ↔ (bad = false ∧ ok = true ∧ tx = t)) := by
        show _ ↔ _
        rw [HRI.out]
        unfold RvOk
        rw [HRW.out, HRL2.out]
        constructor
        · rintro ⟨-, h2, h3, h4⟩
          have ho := Hok.out.2 h3
          refine ⟨h2, ho, ?_⟩
          rw [← HTX.out, ho]
          exact h4
        · rintro ⟨h2, ho, h4⟩
          rw [← HTX.out, ho] at h4
          exact ⟨hz, h2, Hok.out.1 ho, h4⟩
      have HRQ : Hid (R = true → V = ⟨(b0 : Nat), (u : Nat), s, acc⟩) := fun h => by rw [← HV.out, h, HRW.out, HRL2.out]; rfl
      have HRN : Hid (R = false → V = noVal) := fun h => by rw [← HV.out, h]; rfl
      rw [HTX.out] at CT
      obtain ⟨q0, q1, q2, q3⟩ := val_cells SW.out.2.2.1
      clear HRW HRL2 HV HRI
      cases bad <;> rcases hcase with ⟨⟨hd1, hd1n⟩, hd1p⟩ | ⟨⟨hd1, hd1n⟩, hd2, hd2n⟩ | ⟨⟨hd1, hd1n⟩, ⟨hd2, hd2n⟩, ⟨⟩⟩
      all_goals
        go_wp2_with fail
        refine (CT.out _ HAT.out).mono ?_
        rintro e w5 ⟨rfl, b5⟩
        have S5 := hide (stV_below SW.out b5)
        have HROW5 := hide (rowText_below HROW.out b5)
        clear b5
        obtain ⟨r0, r1, r2, r3⟩ := val_cells S5.out.1
        obtain ⟨f0, f1, f2, f3⟩ := val_frozen S5.out.1
        obtain ⟨p0, p1, p2, p3⟩ := val_cells S5.out.2.2.1
        obtain ⟨-, -, hcb5⟩ := curB_cells S5.out.2.1
        cases ok <;> by_cases htx : tx = t
      all_goals
        first
        | (have hcmp := txt_eq htx)
        | (have hcmp := txt_ne htx)
      all_goals
        first
        | (have hno : R = false := by
             cases hRR : R
             · rfl
             · have := HRO.out.1 hRR
               simp [htx] at this
           have HE := hide (HRN.out hno)
           have HNO := hide hno
           clear hno htx HRO HRQ HRN
           go_wp2_with fail
           refine bodyPost_ret (v := .tuple #[.agg #[.int .i64 0, .int .i64 0, .string ⟨#[]⟩, .slice none 0 0], .bool false]) (by simp [results, Try.results14, go_sem, r0, r1, r2, r3]) rfl ⟨⟨none, 0, by rw [HE.out, HNO.out]; rfl, by rw [HE.out]; exact .inl ⟨rfl, rfl⟩⟩, ?_⟩
           exact (((S5.out.2.2.2.2.setCell (p := ⟨w.heap.size, 0, none⟩) (Nat.le_refl _) _).setCell (p := ⟨w.heap.size, 1, none⟩) (Nat.le_refl _) _).setCell (p := ⟨w.heap.size, 2, none⟩) (Nat.le_refl _) _).setCell (p := ⟨w.heap.size, 3, none⟩) (Nat.le_refl _) _)
        | (have hyes : R = true := HRO.out.2 (by simp [htx])
           have HE := hide (HRQ.out hyes)
           have HYES := hide hyes
           clear hyes htx HRO HRQ HRN
           go_wp2_with fail
           refine bodyPost_ret (v := .tuple #[.agg #[.int .i64 (b0 : Int), .int .i64 (u : Int), .string s, .slice ao acc.length cap], .bool true]) (by simp [results, Try.results14, go_sem, r0, r1, r2, r3]) rfl ⟨⟨ao, cap, by rw [HE.out, HYES.out], ?_⟩, ?_⟩
           · rw [HE.out]
             refine rowText_le (rowText_keep HROW5.out (fun g hg => ?_)) (by omega : w.heap.size ≤ w.heap.size + 3)
             have h1 := (rowText_lt HROW5.out g hg).1
             rw [Below.heap_setCell _ _ _ _ (by simp; omega), Below.heap_setCell _ _ _ _ (by simp; omega), Below.heap_setCell _ _ _ _ (by simp; omega), Below.heap_setCell _ _ _ _ (by simp; omega)]
           · exact (((S5.out.2.2.2.2.setCell (p := ⟨w.heap.size, 0, none⟩) (Nat.le_refl _) _).setCell (p := ⟨w.heap.size, 1, none⟩) (Nat.le_refl _) _).setCell (p := ⟨w.heap.size, 2, none⟩) (Nat.le_refl _) _).setCell (p := ⟨w.heap.size, 3, none⟩) (Nat.le_refl _) _)
theorem strCells_bv (s : ByteArray) : Lib.strCells s = s.data.toList.map bv := rfl
theorem app_text {P : Program} {ops : Array Oper} {rest : List Oper} {o : Oper} {a : Act} {Q : Exit → Act → World → Prop} (wr : World) (ts tx te : TypeId) (hts : P.underlying ts = some (.slice te)) (htx : P.underlying tx = some .string)
    (hinfo : (P.info? te).map (fun i => (i.zero, i.size, i.bytes)) = some (some (.int .u8 0), 1, 1)) (w : World) (B : Nat) (hgd : o.guard = none) (s x : Operand)
    (ho : o.op = .call { callee := .builtin .append, args := #[s, x], argTypes := #[ts, tx] }) (v : Value) (l : List UInt8) (t : ByteArray) (hs : a.eval s = v)
    (hown : wr.ownsRow B te 1 v l.length (l.map bv)) (hx : a.eval x = .string t)
    (hlen : l.length + t.size ≤ 70368744177664) (hbel : Below B w wr) (hbase : B ≤ wr.heap.size)
    (h : ∀ v' w', w'.ownsRow B te 1 v' (l ++ t.data.toList).length ((l ++ t.data.toList).map bv) → Below B w w' → wr.heap.size ≤ w'.heap.size → wpList P ops Q rest (a.put o.dst v') w') :
    wpList P ops Q (o :: rest) a wr := by
  obtain ⟨i0, hi, hz0, hz1, hz2⟩ := info_parts hinfo
  refine Lib.wpList_append_own_string wr hgd s x ts tx ho B te i0 hts htx hi hz0 hz1 hz2 v l.length (l.map bv) hs hown t hx (by unfold maxLen; omega) (by omega) hbase ?_
  intro v' w' hown' hgrow _
  have hlt := hown.lt
  refine h v' w' ?_ (hbel.grown hgrow (by omega) (fun k hk => (hlt k hk).1)) hgrow.size
  rw [List.length_append, List.map_append, ← strCells_bv]
  exact hown'
theorem implVar_yes (n : Nat) (w : World) (h1 : n ≤ 1000000000) :
    Calls Try.prog 31 #[.int .i64 n] w fun e w' => e = .returned (.tuple #[.string ⟨(Wd.varF 5 n).toArray⟩, .bool true]) ∧ Below w.heap.size w w' := by
  have h0 : decide ((n : Int) < 0) = false := by simp
  have h2 : decide (1000000000 < (n : Int)) = false := by simp; omega
  go_enter Try.func31, Try.ntmps31
  go_wp2
  go_loopw [0, 4] (fun t v wr => ∃ (f m : Nat) (acc : List UInt8), t = .int .i64 m ∧ m < 128 ^ (f + 1) ∧ m < 34359738368 ∧ acc.length + f = 4 ∧ wr.ownsRow w.heap.size 5 1 v acc.length (acc.map bv) ∧ Hid (acc ++ Wd.varF (f + 1) m = Wd.varF 5 n) ∧ Below w.heap.size w wr) (fun t _ _ => (intOf t).toNat)
  case atStart =>
    exact ⟨4, n, [], rfl, by omega, by omega, rfl, World.ownsRow_nil _ _ _ _, rfl, Below.refl _ _⟩
  case round =>
    obtain ⟨f, m, acc, rfl, hm, hm2, hl, hown, hacc, hb⟩ := hrel
    by_cases hlt : 128 ≤ m
    · obtain ⟨f, rfl⟩ : ∃ g, f = g + 1 := by
        cases f with
        | zero => simp at hm; omega
        | succ g => exact ⟨g, rfl⟩
      have hbs := hb.size
      have hfac : Hid (Wd.varF (f + 1 + 1) m = UInt8.ofNat (m % 128 + 128) :: Wd.varF (f + 1) (m / 128)) := Wd.varF_high _ _ (by omega)
      have hdiv := Wd.div_lt_pow _ _ hm
      obtain ⟨b, hbb, hbn⟩ : ∃ b : UInt8, Hid (b = UInt8.ofNat (m % 128 + 128)) ∧ Hid ((m : Int) % 128 + 128 = (b.toNat : Int)) := ⟨_, rfl, by simp only [Hid, UInt8.toNat_ofNat']; omega⟩
      go_wp2_with (at_builtin; refine app_bytes wr 22 5 Try.underlying22 Try.info5 w w.heap.size rfl _ _ rfl _ acc [b] rfl hown rfl (by simp [bv, hbn.out]) (by simp; omega) hb hbs ?_; intro v' w1 hown1 hb1 hs1)
      go_roundw
      case rel =>
        refine ⟨f, m / 128, acc ++ [b], by go_num, hdiv, by omega, by simp; omega, hown1, ?_, hb1⟩
        show _ = _
        rw [← hacc.out, hfac.out, ← hbb.out]; simp
      case measure => simp [intOf]; omega
    · have hbs := hb.size
      have hfac : Hid (Wd.varF (f + 1) m = [UInt8.ofNat m]) := Wd.varF_low _ _ (by omega)
      obtain ⟨b, hbb, hbn⟩ : ∃ b : UInt8, Hid (b = UInt8.ofNat m) ∧ Hid ((m : Int) = (b.toNat : Int)) := ⟨_, rfl, by simp only [Hid, UInt8.toNat_ofNat']; omega⟩
      go_wp2_with (at_builtin; refine app_bytes wr 22 5 Try.underlying22 Try.info5 w w.heap.size rfl _ _ rfl _ acc [b] rfl hown rfl (by simp [bv, hbn.out]) (by simp; omega) hb hbs ?_; intro v' w1 hown1 hb1 hs1; have hcv := conv_own 22 5 9 Try.underlying22 Try.underlying5 Try.underlying9 w1 _ _ _ hown1)
      go_ret2
      rw [← hacc.out, hfac.out, ← hbb.out]
      exact ⟨rfl, hb1⟩
theorem implShort_yes (s : ByteArray) (w : World) (h : s.size ≤ 20000) :
    Calls Try.prog 32 #[.string s] w fun e w' => e = .returned (.tuple #[.string (⟨(Wd.varF 5 s.size).toArray⟩ ++ s), .bool true]) ∧ Below w.heap.size w w' := by
  have hl := Wd.varF_length 5 s.size
  go_enter Try.func32, Try.ntmps32
  go_wp2_with (first | (go_at_call 31; refine (implVar_yes s.size _ (by omega)).mono ?_; rintro e w1 ⟨rfl, hb1⟩))
  go_ret2
  exact ⟨rfl, hb1⟩
theorem implValText_any (v : ValD) (ao : Option Addr) (cap : Nat) (w : World) (R : Bool) (hR : R = true ↔ ValR v) (hl : v.items.length ≤ 1048576) (ht : v.text.size ≤ maxLen) (hts : TextsAt w ao v.items) (hsz : ∀ s ∈ v.items, s.size ≤ maxLen) :
    Calls Try.prog 8 #[.agg #[.int .i64 v.kind, .int .i64 v.til, .string v.text, .slice ao v.items.length cap]] w fun e w' => e = .returned (.tuple #[.string (cond R (valT v) ⟨#[]⟩), .bool R]) ∧ Below w.heap.size w w' := by
  have HT := hide hts
  have HVO := hide (fun W (hW : Below w.heap.size w W) => implValOk_any v ao cap W R hR hl ht (textsAt_keep hts hW) hsz)
  have HRR := hide hR
  clear hts hsz hR
  cases R
  · obtain ⟨k, u, t, ts⟩ := v
    simp only at hl ht HT HVO ⊢
    have b0 : Hid (Below w.heap.size w (w.alloc (.cells #[.int .i64 k, .int .i64 u, .string t, .slice ao ts.length cap] 26))) := (Below.refl _ w).alloc (Nat.le_refl _) _
    go_enter Try.func8, Try.ntmps8
    go_wp2_with fail
    refine (HVO.out _ b0.out).mono ?_
    rintro e w1 ⟨rfl, b1⟩
    go_wp2
    go_ret2
    exact ⟨rfl, b0.out.trans (b1.mono b0.out.size)⟩
  · obtain ⟨hk1, hk4, hu0, hu1, htx, hn24, hsm⟩ := valR_bounds (HRR.out.1 rfl)
    have HSM := hide hsm
    have HKB := hide (kind_byte hk1 hk4)
    have HV : Hid (valT v = ⟨((headV v).data.toList ++ textsL v.items).toArray⟩) := rfl
    obtain ⟨m, hm⟩ := Int.eq_ofNat_of_zero_le hu0
    have HH : Hid ((headV v).data.toList = [UInt8.ofNat v.kind.toNat] ++ (⟨(Wd.varF 5 m).toArray⟩ : ByteArray).data.toList ++ (shortB v.text).data.toList ++ (⟨(Wd.varF 5 v.items.length).toArray⟩ : ByteArray).data.toList) := by
      show _ = _
      rw [headV, hm]
      simp
    show Calls _ _ _ _ fun e w' => e = .returned (.tuple #[.string (valT v), .bool true]) ∧ Below w.heap.size w w'
    rw [HV.out]
    obtain ⟨HL, HHL⟩ : ∃ HL : List UInt8, Hid ((headV v).data.toList = HL) := ⟨_, hide rfl⟩
    have hHL : HL.length ≤ 100 := by rw [← HHL.out]; have h := headV_size v; have e : (headV v).data.toList.length = (headV v).size := rfl; omega
    rw [HHL.out] at HH ⊢
    obtain ⟨V, HVV⟩ : ∃ V : Nat → ByteArray, Hid (∀ n, V n = ⟨(Wd.varF 5 n).toArray⟩) := ⟨_, fun _ => rfl⟩
    obtain ⟨kb, hkb⟩ : ∃ kb, kb = UInt8.ofNat v.kind.toNat := ⟨_, rfl⟩
    rw [← hkb] at HH HKB
    rw [← HVV.out, ← HVV.out] at HH
    have CV : Hid (∀ (n : Nat) (W : World), n ≤ 1000000000 → Calls Try.prog 31 #[.int .i64 (n : Int)] W fun e w' => e = .returned (.tuple #[.string (V n), .bool true]) ∧ Below W.heap.size W w') := fun n W hn => by rw [HVV.out]; exact implVar_yes n W hn
    have CS : Hid (∀ (s : ByteArray) (W : World), s.size ≤ 20000 → Calls Try.prog 32 #[.string s] W fun e w' => e = .returned (.tuple #[.string (shortB s), .bool true]) ∧ Below W.heap.size W w') := fun s W hs => implShort_yes s W hs
    have hz1 : (V m).size ≤ 5 := by rw [HVV.out]; exact Wd.varF_length 5 m
    have hz2 : (V v.items.length).size ≤ 5 := by rw [HVV.out]; exact Wd.varF_length 5 _
    have hz3 := shortB_size v.text
    clear hkb HHL HV HRR hsm hu0
    obtain ⟨k, u, t, ts⟩ := v
    simp only at hl ht HT HVO HSM HH HKB hm hk1 hk4 hu1 htx hn24 hz1 hz2 hz3 ⊢
    subst hm
    have hwk : IntKind.u8.wrap k = k := by rw [IntKind.wrap_u8]; omega
    obtain ⟨wb, hwb⟩ : ∃ wb, wb = w.alloc (.cells #[.int .i64 k, .int .i64 (m : Int), .string t, .slice ao ts.length cap] 26) := ⟨_, rfl⟩
    have b0 : Hid (Below w.heap.size w wb) := by rw [hwb]; exact (Below.refl _ w).alloc (Nat.le_refl _) _
    have hbs : wb.heap.size = w.heap.size + 1 := by rw [hwb]; simp
    have HBS := hide hbs
    have P0 : Hid (wb.heap[w.heap.size]? = some (.cells #[.int .i64 k, .int .i64 (m : Int), .string t, .slice ao ts.length cap] 26 (0, 0))) := by rw [hwb]; exact heap_alloc_new _ _
    have KC : Hid (∀ X, Below (w.heap.size + 1) wb X → X.cell? ⟨w.heap.size, 0, none⟩ = some (.int .i64 k) ∧ X.cell? ⟨w.heap.size, 1, none⟩ = some (.int .i64 (m : Int)) ∧ X.cell? ⟨w.heap.size, 2, none⟩ = some (.string t) ∧ X.cell? ⟨w.heap.size, 3, none⟩ = some (.slice ao ts.length cap)) := fun X hX => val_cells (val_keep P0.out hX (by omega))
    clear hbs
    go_enter Try.func8, Try.ntmps8
    go_wp2_with fail
    rw [← hwb]
    clear hwb
    refine (HVO.out _ b0.out).mono ?_
    rintro e w1 ⟨rfl, b1⟩
    have B1 : Hid (Below (w.heap.size + 1) wb w1) := b1.mono (Nat.le_of_eq HBS.out.symm)
    clear b1
    obtain ⟨hc0, hc1, hc2, hc3⟩ := KC.out _ B1.out
    go_wp2_with fail
    refine (CV.out m _ (by omega)).mono ?_
    rintro e w2 ⟨rfl, b2⟩
    have B2 : Hid (Below (w.heap.size + 1) wb w2) := B1.out.trans (b2.mono (by have := B1.out.size; have := HBS.out; omega))
    clear b2 hc0 hc1 hc2 hc3
    obtain ⟨hc0, hc1, hc2, hc3⟩ := KC.out _ B2.out
    go_wp2_with fail
    refine (CS.out t _ (by omega)).mono ?_
    rintro e w3 ⟨rfl, b3⟩
    have B3 : Hid (Below (w.heap.size + 1) wb w3) := B2.out.trans (b3.mono (by have := B2.out.size; have := HBS.out; omega))
    clear b3 hc0 hc1 hc2 hc3
    obtain ⟨hc0, hc1, hc2, hc3⟩ := KC.out _ B3.out
    go_wp2_with fail
    refine (CV.out ts.length _ (by omega)).mono ?_
    rintro e w4 ⟨rfl, b4⟩
    have B4 : Hid (Below (w.heap.size + 1) wb w4) := B3.out.trans (b4.mono (by have := B3.out.size; have := HBS.out; omega))
    clear b4 hc0 hc1 hc2 hc3
    obtain ⟨hc0, hc1, hc2, hc3⟩ := KC.out _ B4.out
    have hs4 : w.heap.size + 1 ≤ w4.heap.size := by have := B4.out.size; have := HBS.out; omega
    have HO4 : Hid ((w4.alloc (.cells #[.int .u8 k] 5)).ownsRow (w.heap.size + 1) 5 1 (.slice (some ⟨w4.heap.size, 0, none⟩) 1 1) [kb].length ([kb].map bv)) := by
      have h := World.ownsRow_lit (e := 5) (size := 1) w4 #[.int .u8 k] 1 (Nat.le_refl _) (by unfold maxLen; omega) (by simp)
      have e : ([kb].map bv) = [Value.int .u8 k] := by rw [List.map_singleton, HKB.out]
      show World.ownsRow _ _ _ _ _ _ _
      rw [e]
      exact ownsRow_mono h hs4
    have HB4 : Hid (Below (w.heap.size + 1) wb (w4.alloc (.cells #[.int .u8 k] 5))) := B4.out.alloc hs4 _
    have HS4 : Hid (w.heap.size + 1 ≤ (w4.alloc (.cells #[.int .u8 k] 5)).heap.size) := by show _ ≤ _; simp; omega
    have l1 : [kb].length + (V m).size ≤ 70368744177664 := by simp; omega
    have l2 : ([kb] ++ (V m).data.toList).length + (shortB t).size ≤ 70368744177664 := by have e : (V m).data.toList.length = (V m).size := rfl; rw [List.length_append, e]; simp; omega
    have l3 : ([kb] ++ (V m).data.toList ++ (shortB t).data.toList).length + (V ts.length).size ≤ 70368744177664 := by have e : (V m).data.toList.length = (V m).size := rfl; have e2 : (shortB t).data.toList.length = (shortB t).size := rfl; rw [List.length_append, List.length_append, e, e2]; simp; omega
    have LL := hide (And.intro l1 (And.intro l2 l3))
    clear l1 l2 l3
    go_wp2_with (first | (at_builtin; refine app_text _ 22 9 5 Try.underlying22 Try.underlying9 Try.info5 wb (w.heap.size + 1) rfl _ _ rfl _ ([kb] ++ (V m).data.toList ++ (shortB t).data.toList) (V ts.length) rfl HO6.out rfl LL.out.2.2 HB6.out HS6.out ?_; intro v7 w7 ho7 hb7 hs7; rw [← HH.out] at ho7; have HO7 := hide ho7; have HB7 := hide hb7; obtain ⟨hd0, hd1, hd2, hd3⟩ := KC.out _ hb7; clear ho7 hb7 hs7) | (at_builtin; refine app_text _ 22 9 5 Try.underlying22 Try.underlying9 Try.info5 wb (w.heap.size + 1) rfl _ _ rfl _ ([kb] ++ (V m).data.toList) (shortB t) rfl HO5.out rfl LL.out.2.1 HB5.out HS5.out ?_; intro v6 w6 ho6 hb6 hs6; have HO6 := hide ho6; have HB6 := hide hb6; have HS6 := hide (Nat.le_trans HS5.out hs6); clear ho6 hb6 hs6) | (at_builtin; refine app_text _ 22 9 5 Try.underlying22 Try.underlying9 Try.info5 wb (w.heap.size + 1) rfl _ _ rfl _ [kb] (V m) rfl HO4.out rfl LL.out.1 HB4.out HS4.out ?_; intro v5 w5 ho5 hb5 hs5; have HO5 := hide ho5; have HB5 := hide hb5; have HS5 := hide (Nat.le_trans HS4.out hs5); clear ho5 hb5 hs5))
    clear HO4 HO5 HO6 HB4 HB5 HB6 HS4 HS5 HS6 LL B1 B2 B3 B4 hd0 hd1 hd2 hd3
    go_loopw [10, 51] (fun vo ii wr => ∃ (k : Nat), ii = .int .i64 k ∧ k ≤ ts.length ∧ Hid (wr.ownsRow (w.heap.size + 1) 5 1 vo (HL ++ textsL (ts.take k)).length ((HL ++ textsL (ts.take k)).map bv)) ∧ Hid (Below (w.heap.size + 1) wb wr)) (fun _ ii _ => ts.length - (intOf ii).toNat)
    case atStart =>
      refine ⟨0, rfl, Nat.zero_le _, ?_, HB7⟩
      rw [List.take_zero, textsL, List.append_nil]
      exact HO7
    case round =>
      obtain ⟨k, rfl, hk, HO, HB⟩ := hrel
      have hws : w.heap.size + 1 ≤ wr.heap.size := by have := HB.out.size; have := HBS.out; omega
      have W0 := hide (b0.out.trans (HB.out.mono (by omega)))
      by_cases hlt : k < ts.length
      · have hlt' : decide ((k : Int) < (ts.length : Int)) = true := by simp; omega
        obtain ⟨b, off, rfl, hbw, hc0⟩ := textsAt_keep HT.out W0.out k hlt
        have hsF := HSM.out ts[k] (List.getElem_mem hlt)
        have HTK := hide (textsL_take hlt)
        obtain ⟨F, HF⟩ : ∃ F, Hid (ts[k] = F) := ⟨_, hide rfl⟩
        rw [HF.out] at hc0 hsF HTK
        have hi0 : (0 : Int) ≤ (k : Int) := by omega
        have hi1 : (k : Int) < (ts.length : Int) := by omega
        have hzF := shortB_size F
        have hLn : (HL ++ textsL (ts.take k)).length ≤ 2000 := by
          have h := textsL_len (ts.take k) (fun s hs => HSM.out s (List.mem_of_mem_take hs))
          have h2 : (ts.take k).length ≤ 24 := by rw [List.length_take]; omega
          rw [List.length_append]
          omega
        obtain ⟨X, HX⟩ : ∃ X, Hid (HL ++ textsL (ts.take k) = X) := ⟨_, hide rfl⟩
        have HN : Hid (HL ++ textsL (ts.take (k + 1)) = X ++ (shortB F).data.toList) := by show _ = _; rw [HTK.out, ← List.append_assoc, HX.out]
        rw [HX.out] at HO hLn
        go_wp2_with fail
        refine (CS.out F _ (by omega)).mono ?_
        rintro e w8 ⟨rfl, b8⟩
        have HO8 := hide (ownsRow_below HO.out b8)
        have HB8 := hide (HB.out.trans (b8.mono hws))
        have hs8 : w.heap.size + 1 ≤ w8.heap.size := Nat.le_trans hws b8.size
        have hl8 : X.length + (shortB F).size ≤ 70368744177664 := by omega
        clear b8
        go_wp2_with (at_builtin; refine app_text _ 22 9 5 Try.underlying22 Try.underlying9 Try.info5 wb (w.heap.size + 1) rfl _ _ rfl _ X (shortB F) rfl HO8.out rfl hl8 HB8.out hs8 ?_; intro v9 w9 ho9 hb9 hs9; have HO9 := hide ho9; have HB9 := hide hb9; clear ho9 hb9 hs9)
        go_roundw
        case rel => exact ⟨k + 1, by go_num, by omega, by show World.ownsRow _ _ _ _ _ _ _; rw [HN.out]; exact HO9.out, HB9⟩
        case measure => simp [intOf]; omega
      · have hlt' : decide ((k : Int) < (ts.length : Int)) = false := by simp; omega
        have hke : k = ts.length := by omega
        subst hke
        have HO2 := HO.out
        rw [List.take_length] at HO2
        have hcv := conv_own (P := Try.prog) 22 5 9 Try.underlying22 Try.underlying5 Try.underlying9 wr (w.heap.size + 1) _ _ HO2
        clear HO2
        go_wp2
        go_ret2
        exact ⟨rfl, W0.out⟩
end Go.Proofs.Ytbenmgokhklnjaa
