/- The program's HintText. -/
import Derived.Test.YtijmlgdeeodehabDoorHintP
import Derived.Test.YtijmlgdeeodehabDoorDirI1
import Derived.Test.YtijmlgdeeodehabDoorShortI
import Derived.Test.YtijmlgdeeodehabDoorOne
import Derived.Lib.AppendStr
namespace Go.Proofs.YtijmlgdeeodehabDoor
open Go.RowKit

/-- 'append(out, s...)', out a row of bytes that a conversion made, s a text. -/
theorem append_madeS {P : Program} (w : World) (B : Nat) (t u ty e : TypeId) (ht : P.underlying t = some (.slice e)) (hu : P.underlying u = some .string) (hinfo : (P.info? e).map (fun i => (i.zero, i.size, i.bytes)) = some (some (.int .u8 0), 1, 1))
    (v : Value) (l : List UInt8) (s : ByteArray) (hown : OwnsB w B e v l) (hlen : l.length + s.size ≤ 70368744177664) (hbase : B ≤ w.heap.size) :
    ∃ v' w', (Builtin.append_ #[t, u] ty #[v, .string s]).run P w = .ok v' w' ∧ OwnsB w' B e v' (l ++ s.data.toList) ∧ w.grownBy w' v.ownBlock := by
  obtain ⟨i0, hi, hz0, hz1, hz2⟩ := info_parts hinfo
  obtain ⟨g, cap, cur, fz, rfl, hB, hC, hfz, hnc, hcm, hcs, htk⟩ := hown
  have hsl : (s.data.toList.map bv).length = s.size := by rw [List.length_map]; rfl
  have hsc : Lib.strCells s = s.data.toList.map bv := rfl
  have hmx : l.length + s.size ≤ maxLen := by unfold maxLen; omega
  by_cases hroom : l.length + s.size ≤ cap
  · have hf := Lib.run_firstCells_string (P := P) w 1 s
    have hst := store_behind (P := P) g l.length e fz (s.data.toList.map bv) 0 cur w hC hfz (by rw [hsl]; omega) (bv_one s.data.toList)
    rw [hsc] at hf
    simp only [Nat.add_zero] at hst
    obtain ⟨X, hX⟩ : ∃ X, X = (cur.toList.take l.length ++ s.data.toList.map bv ++ cur.toList.drop (l.length + (s.data.toList.map bv).length)).toArray := ⟨_, rfl⟩
    rw [← hX] at hst
    have hXs : X.size = cur.size := by rw [hX]; simp only [List.size_toArray, List.length_append, List.length_take, List.length_drop, Array.length_toList, hsl]; omega
    refine ⟨.slice (some ⟨g, 0, none⟩) (l.length + s.size) cap, w.setRow g X, ?_, ⟨g, cap, X, fz, by rw [List.length_append]; rfl, hB, setRow_heap w g cur X e fz hC, ?_, by rw [List.length_append]; exact hroom, hcm, ?_, ?_⟩, ⟨rfl, rfl, rfl, by simp, fun k _ hk => setRow_other w g k _ (fun e => hk (by simp [Value.ownBlock, e]))⟩⟩
    · simp [Builtin.append_, run_underlying ht, run_underlying hu, sizeOf, typeInfo, hi, hz1, Builtin.lenOf, hroom, hf, Addr.add_lit, hst]
    · rcases hfz with h | h
      · exact .inl h
      · exact .inr (by omega)
    · omega
    · rw [hX, htk, List.map_append, show (l ++ s.data.toList).length = (l.map bv ++ s.data.toList.map bv).length from by simp]
      exact List.take_left
  · have hr := Lib.run_append_grow_string (P := P) w t u ty e i0 (.int .u8 0) ht hu hi hz0 ⟨g, 0, none⟩ l.length cap (l.map bv) (by rw [hz1]; simp) (ownsB_cells ⟨g, cap, cur, fz, rfl, hB, hC, hfz, hnc, hcm, hcs, htk⟩) s (by omega) (by unfold maxLen at hmx; omega) (by rw [hz2]; exact growslice_fits (by omega) (by omega))
    have hge := grownCap_ge w (l.length + s.size) cap e
    rw [hsc] at hr
    refine ⟨_, _, hr, ⟨w.heap.size, _, _, (0, 0), by rw [List.length_append]; rfl, hbase, heap_alloc_new w.drew _, .inl rfl, by rw [List.length_append]; exact hge, grownCap_le_maxLen w _ _ e hmx, ?_, ?_⟩, ⟨rfl, rfl, rfl, by simp, fun k hk _ => Go.heap_alloc_old w.drew _ hk⟩⟩
    · have hz : (Value.int IntKind.u8 0).cells.size = 1 := rfl
      simp only [Array.size_append, List.size_toArray, size_zeroCells, hz, List.length_map, hsl]
      have e1 : s.data.toList.length = s.size := rfl
      omega
    · simp only [Array.toList_append]
      rw [List.map_append, show (l ++ s.data.toList).length = (l.map bv ++ s.data.toList.map bv).length from by simp]
      exact List.take_left
theorem app_textB {P : Program} {ops : Array Oper} {rest : List Oper} {o : Oper} {a : Act} {Q : Exit → Act → World → Prop} (w : World) (t u e : TypeId) (ht : P.underlying t = some (.slice e)) (hu : P.underlying u = some .string) (hinfo : (P.info? e).map (fun i => (i.zero, i.size, i.bytes)) = some (some (.int .u8 0), 1, 1))
    (B : Nat) (hgd : o.guard = none) (sl x : Operand) (ho : o.op = .call { callee := .builtin .append, args := #[sl, x], argTypes := #[t, u] }) (v : Value) (l : List UInt8) (s : ByteArray) (hs : a.eval sl = v) (hown : OwnsB w B e v l) (hx : a.eval x = .string s)
    (hlen : l.length + s.size ≤ 70368744177664) (hbase : B ≤ w.heap.size)
    (h : ∀ v' w', OwnsB w' B e v' (l ++ s.data.toList) → w.grownBy w' v.ownBlock → wpList P ops Q rest (a.put o.dst v') w') : wpList P ops Q (o :: rest) a w := by
  refine wpList_plain hgd fun K hK => ?_
  obtain ⟨v', w', hr, h2, h3⟩ := append_madeS (P := P) w B t u o.type e ht hu hinfo v l s hown hlen hbase
  unfold Oper.wp execOp
  simp only [ho, resolve, invoke, builtin, Sem.run_bind, Sem.run_pure, Result.andThen_ok, List.map_toArray, List.map_cons, List.map_nil, hs, hx, hr]
  exact hK _ _ (h v' w' h2 h3)

set_option maxRecDepth 100000 in
set_option maxHeartbeats 1600000 in
theorem spotText_any (A : SpotD) (w : World) (h : (1 ≤ A.key.size ∧ A.key.size ≤ 20) ∧ (0 ≤ A.seg ∧ A.seg ≤ 99) ∧ (0 ≤ A.pos ∧ A.pos ≤ 20000) ∧ (0 ≤ A.seq ∧ A.seq ≤ 1000000000)) :
    Calls Tryd.prog 29 #[.agg #[.string A.key, .int .i64 A.seg, .int .i64 A.pos, .int .i64 A.seq]] w fun e w' => e = .returned (.string ⟨(spotL A).toArray⟩) ∧ Below w.heap.size w w' := by
  obtain ⟨key, seg, pos, seq⟩ := A
  simp only at h ⊢
  obtain ⟨⟨hk1, hk2⟩, ⟨hg1, hg2⟩, ⟨hp1, hp2⟩, hq1, hq2⟩ := h
  obtain ⟨sg, rfl⟩ := Int.eq_ofNat_of_zero_le hg1
  obtain ⟨po, rfl⟩ := Int.eq_ofNat_of_zero_le hp1
  obtain ⟨sq, rfl⟩ := Int.eq_ofNat_of_zero_le hq1
  obtain ⟨G, HG⟩ : ∃ G : ByteArray, Hid (G = shortB key) := ⟨_, rfl⟩
  have CG : Hid (∀ W, Calls Tryd.prog 61 #[.string key] W fun e w' => e = .returned (.tuple #[.string G, .bool true]) ∧ Below W.heap.size W w') := fun W => by rw [HG.out]; exact implShort_yes key W (by omega)
  go_enter Tryd.func29, Tryd.ntmps29
  go_wp2_with fail
  obtain ⟨wb, hwb⟩ : ∃ x, x = w.alloc (.cells #[.string key, .int .i64 (sg : Int), .int .i64 (po : Int), .int .i64 (sq : Int)] 44) := ⟨_, rfl⟩
  have HB0 : Hid (Below w.heap.size w wb) := by rw [hwb]; exact (Below.refl _ w).alloc (Nat.le_refl _) _
  have hbx : wb.heap[w.heap.size]? = some (.cells #[.string key, .int .i64 (sg : Int), .int .i64 (po : Int), .int .i64 (sq : Int)] 44 (0, 0)) := by rw [hwb]; exact heap_alloc_new w _
  rw [← hwb]
  clear hwb
  refine (CG.out _).mono ?_
  rintro e w1 ⟨rfl, b1⟩
  have hbx1 := (b1.block _ (Array.getElem?_eq_some_iff.1 hbx).1).trans hbx
  have hc1 : w1.cell? ⟨w.heap.size, 1, none⟩ = some (.int .i64 (sg : Int)) := (cell_of_row w1 _ 1 _ _ (0, 0) hbx1).trans rfl
  have hc2 : w1.cell? ⟨w.heap.size, 2, none⟩ = some (.int .i64 (po : Int)) := (cell_of_row w1 _ 2 _ _ (0, 0) hbx1).trans rfl
  have hc3 : w1.cell? ⟨w.heap.size, 3, none⟩ = some (.int .i64 (sq : Int)) := (cell_of_row w1 _ 3 _ _ (0, 0) hbx1).trans rfl
  have B1 : Hid (Below w.heap.size w w1) := HB0.out.trans (b1.mono HB0.out.size)
  clear b1 hbx hbx1
  obtain ⟨wc, hwc⟩ : ∃ x, x = w1.alloc (.cells #[.int .i64 (sg : Int), .int .i64 (po : Int), .int .i64 (sq : Int)] 3) := ⟨_, rfl⟩
  have HBc : Hid (Below w.heap.size w wc) := by rw [hwc]; exact B1.out.alloc B1.out.size _
  have hcb : wc.heap[w1.heap.size]? = some (.cells #[.int .i64 (sg : Int), .int .i64 (po : Int), .int .i64 (sq : Int)] 3 (0, 0)) := by rw [hwc]; exact heap_alloc_new w1 _
  obtain ⟨ns, HNS⟩ : ∃ l : List Nat, Hid (l = [sg, po, sq]) := ⟨_, rfl⟩
  have hnl : Hid (ns.length = 3) := by show _ = _; rw [HNS.out]; rfl
  have HNB : Hid (∀ n ∈ ns, n ≤ 1000000000) := by
    intro n hn
    rw [HNS.out] at hn
    simp at hn
    omega
  have HNC : Hid (∀ j (h : j < ns.length), wc.cell? ⟨w1.heap.size, j, none⟩ = some (.int .i64 (ns[j] : Int))) := by
    have e := HNS.out
    subst e
    intro j h
    refine (cell_of_row wc _ j _ _ (0, 0) hcb).trans ?_
    match j, h with
    | 0, _ => rfl
    | 1, _ => rfl
    | 2, _ => rfl
  have hcl := (Array.getElem?_eq_some_iff.1 hcb).1
  have HSL : Hid ((shortB key).data.toList ++ (ns.take 3).flatMap (Wd.varF 5) = spotL ⟨key, sg, po, sq⟩) := by
    show _ = _
    rw [HNS.out]
    simp [spotL]
  clear hcb
  go_wp2_with fail
  rw [← hwc]
  clear hwc hc1 hc2 hc3
  go_loopw [3, 23] (fun vt ii wr => ∃ (k : Nat) (X : ByteArray), vt = .string X ∧ ii = .int .i64 k ∧ k ≤ 3 ∧ X.size ≤ 25 + 5 * k ∧ Hid (X = ⟨((shortB key).data.toList ++ (ns.take k).flatMap (Wd.varF 5)).toArray⟩) ∧ Hid (Below wc.heap.size wc wr)) (fun _ ii _ => 3 - (intOf ii).toNat)
  case atStart =>
    refine ⟨0, G, rfl, rfl, by omega, by rw [HG.out]; have := shortB_size key; omega, ?_, Below.refl _ _⟩
    show _ = _
    rw [HG.out]
    simp
  case round =>
    obtain ⟨k, X, rfl, rfl, hk, hX, HX, HB⟩ := hrel
    have hws := HB.out.size
    by_cases hlt : k < 3
    · have hlt' : decide ((k : Int) < 3) = true := by simp; omega
      have hi0 : (0 : Int) ≤ (k : Int) := by omega
      have hi1 : (k : Int) < 3 := by omega
      have hlk : k < ns.length := by rw [hnl.out]; exact hlt
      have hd := (HB.out.cell (p := ⟨w1.heap.size, k, none⟩) hcl).trans (HNC.out k hlk)
      have hnb := HNB.out ns[k] (List.getElem_mem hlk)
      have htk := hide (List.take_succ_eq_append_getElem hlk)
      generalize ns[k] = n at hd hnb htk
      obtain ⟨V, HV⟩ : ∃ V : ByteArray, Hid (V = ⟨(Wd.varF 5 n).toArray⟩) := ⟨_, rfl⟩
      have hv : V.size ≤ 5 := by rw [HV.out]; exact Wd.varF_length 5 n
      have CV : Hid (∀ W, Calls Tryd.prog 23 #[.int .i64 (n : Int)] W fun e w' => e = .returned (.tuple #[.string V, .bool true]) ∧ Below W.heap.size W w') := fun W => by rw [HV.out]; exact implVar_yes n W hnb
      have hA1 : ¬ (9223372036854775807 < X.size + V.size) := by omega
      go_wp2_with fail
      refine (CV.out _).mono ?_
      rintro e w5 ⟨rfl, b5⟩
      have B5 : Hid (Below wc.heap.size wc w5) := HB.out.trans (b5.mono hws)
      clear b5
      go_wp2
      go_roundw
      case rel =>
        refine ⟨k + 1, X ++ V, rfl, by go_num, by omega, by rw [ByteArray.size_append]; omega, ?_, B5⟩
        show _ = _
        rw [HX.out, HV.out, cat_list, htk.out]
        simp
      case measure => simp [intOf]; omega
    · have hlt' : decide ((k : Int) < 3) = false := by simp; omega
      have hke : k = 3 := by omega
      subst hke
      rw [HSL.out] at HX
      go_wp2
      go_ret
      rw [HX.out]
      exact ⟨rfl, HBc.out.trans (HB.out.mono (by have := HBc.out.size; omega))⟩

set_option maxRecDepth 100000 in
set_option maxHeartbeats 1600000 in
theorem implHintText_any (fs : List SpotD) (ao : Option Addr) (cap : Nat) (w : World) (hl : fs.length ≤ 1048576) (hfs : SpotsAt w ao fs) (hsz : ∀ A ∈ fs, A.key.size ≤ 1048576) (hT : SumTab w) :
    Calls Tryd.prog 13 #[.slice ao fs.length cap] w fun e w' => e = .returned (.tuple #[.string (hintD fs), .bool (dirOkD fs)]) ∧ Below w.heap.size w w' := by
  have HD := hide (fun W (hW : SpotsAt W ao fs) => implDirOk_any fs ao cap W hl hW (fun A hA => by have := hsz A hA; unfold maxLen; omega))
  have HF := hide hfs
  have HT := hide hT
  clear hfs hsz hT
  cases hok : dirOkD fs with
  | false =>
    have HE : Hid (hintD fs = ⟨#[]⟩) := by show _ = _; unfold hintD; rw [hok]; rfl
    rw [hok] at HD
    clear hok
    go_enter Tryd.func13, Tryd.ntmps13
    go_wp2_with fail
    refine (HD.out _ HF.out).mono ?_
    rintro e w1 ⟨rfl, b1⟩
    go_wp2
    go_ret2
    rw [HE.out]
    exact ⟨rfl, b1⟩
  | true =>
    rw [hok] at HD
    have hz := hintL_le hok
    have HA := hide (dirOkD_all hok).2
    have hn := (dirOkD_all hok).1
    have HE : Hid (hintD fs = sealB ⟨(hintL fs).toArray⟩) := by show _ = _; unfold hintD; rw [if_pos hok]
    clear hok
    go_enter Tryd.func13, Tryd.ntmps13
    go_wp2_with fail
    refine (HD.out _ HF.out).mono ?_
    rintro e w1 ⟨rfl, b1⟩
    have B1 := hide b1
    clear b1
    go_wp2_with fail
    refine (implVar_yes fs.length _ (by omega)).mono ?_
    rintro e w2 ⟨rfl, b2⟩
    have B2 := hide (B1.out.trans (b2.mono B1.out.size))
    clear b2
    obtain ⟨w3, C3, hcv, b3, hs3, ho3⟩ := conv_made (P := Tryd.prog) w2 9 22 5 ⟨(Wd.varF 5 fs.length).toArray⟩ Tryd.underlying9 Tryd.underlying22 Tryd.underlying5 (by have := Wd.varF_length 5 fs.length; unfold maxLen; rw [size_of_list]; omega)
    have B3 := hide (B2.out.trans (b3.mono B2.out.size))
    have HO3 : Hid (OwnsB w3 w.heap.size 5 (.slice (some ⟨w2.heap.size, 0, none⟩) (⟨(Wd.varF 5 fs.length).toArray⟩ : ByteArray).size C3) (Wd.varF 5 fs.length ++ spotsL (fs.take 0))) := by
      show OwnsB _ _ _ _ _
      rw [List.take_zero, spotsL, List.append_nil]
      exact ownsB_le ho3 B2.out.size
    clear b3 hs3 ho3
    go_wp2_with fail
    go_loopw [6, 24] (fun vo ii wr => ∃ (k : Nat), ii = .int .i64 k ∧ k ≤ fs.length ∧ Hid (OwnsB wr w.heap.size 5 vo (Wd.varF 5 fs.length ++ spotsL (fs.take k))) ∧ Hid (Below w.heap.size w wr)) (fun _ ii _ => fs.length - (intOf ii).toNat)
    case atStart => exact ⟨0, rfl, Nat.zero_le _, HO3, B3⟩
    case round =>
      obtain ⟨k, rfl, hk, HO, HB⟩ := hrel
      have hws := HB.out.size
      by_cases hlt : k < fs.length
      · have hlt' : decide ((k : Int) < (fs.length : Int)) = true := by simp; omega
        have hi0 : (0 : Int) ≤ (k : Int) := by omega
        have hi1 : (k : Int) < (fs.length : Int) := by omega
        obtain ⟨b, off, rfl, hbw, hd0, hd1, hd2, hd3⟩ := spotsAt_keep HF.out HB.out k hlt
        have hAk := HA.out fs[k] (List.getElem_mem hlt)
        have htk := hide (List.take_succ_eq_append_getElem hlt)
        generalize fs[k] = A at hd0 hd1 hd2 hd3 hAk htk
        have HST := hide (fun W => spotText_any A W hAk)
        have hsl := spotL_le A hAk.1.2
        obtain ⟨T, HTT⟩ : ∃ T : ByteArray, Hid (⟨(spotL A).toArray⟩ = T) := ⟨_, hide rfl⟩
        have hTz : T.size ≤ 40 := by rw [← HTT.out, size_of_list]; exact hsl
        have HTL : Hid (T.data.toList = spotL A) := by show _ = _; rw [← HTT.out]
        rw [HTT.out] at HST
        obtain ⟨LL, HLL⟩ : ∃ LL, Hid (LL = Wd.varF 5 fs.length ++ spotsL (fs.take k)) := ⟨_, rfl⟩
        rw [← HLL.out] at HO
        have hLl : LL.length ≤ 1000000 := by
          have h1 := Wd.varF_length 5 fs.length
          have h2 := spotsL_le (fs.take k) (fun A hA => (HA.out A (List.mem_of_mem_take hA)).1.2)
          have h3 : (fs.take k).length ≤ fs.length := by rw [List.length_take]; omega
          rw [HLL.out, List.length_append]
          omega
        go_wp2_with fail
        refine (HST.out _).mono ?_
        rintro e w6 ⟨rfl, b6⟩
        have B6 : Hid (Below wr.heap.size wr w6) := ((Below.refl _ wr).alloc (Nat.le_refl _) _).trans (b6.mono (by simp))
        clear b6 hd0 hd1 hd2 hd3
        have hw6 : w.heap.size ≤ w6.heap.size := Nat.le_trans hws B6.out.size
        go_wp2_with (at_builtin; refine app_textB _ 22 9 5 Tryd.underlying22 Tryd.underlying9 Tryd.info5 w.heap.size rfl _ _ rfl _ LL T rfl (ownsB_below HO.out B6.out) rfl (by omega) hw6 ?_; intro v7 w7 ho7 hg7; have HO7 := hide ho7; have HG7 := hide hg7; clear ho7 hg7)
        go_roundw
        case rel =>
          refine ⟨k + 1, by go_num, by omega, ?_, (HB.out.trans (B6.out.mono hws)).grown HG7.out hw6 (fun g hg => (ownsB_lt HO.out g hg).1)⟩
          have e2 : Wd.varF 5 fs.length ++ spotsL (fs.take (k + 1)) = LL ++ T.data.toList := by
            rw [HLL.out, htk.out, spotsL_snoc, HTL.out, List.append_assoc]
          show OwnsB _ _ _ _ _
          rw [e2]
          exact HO7.out
        case measure => simp [intOf]; omega
      · have hlt' : decide ((k : Int) < (fs.length : Int)) = false := by simp; omega
        rw [show fs.take k = fs from List.take_of_length_le (by omega)] at HO
        obtain ⟨L, HL⟩ : ∃ L, Hid (L = hintL fs) := ⟨_, rfl⟩
        have HO1 : Hid (OwnsB wr w.heap.size 5 u6 L) := by
          have h := HO.out
          show OwnsB _ _ _ _ _
          rw [HL.out]
          exact h
        rw [← HL.out] at HE hz
        have hcv := conv_backB (P := Tryd.prog) wr 22 9 5 _ u6 L Tryd.underlying22 Tryd.underlying5 Tryd.underlying9 HO1.out
        obtain ⟨g, co, cur, fz, rfl, -, -, -, hLc, hcm, -, -⟩ := HO1.out
        obtain ⟨SL, HSL⟩ : ∃ t, Hid (sealB ⟨L.toArray⟩ = t) := ⟨_, hide rfl⟩
        have hsz2 : SL.size ≤ 8009 := by rw [← HSL.out, sealB_size, size_of_list]; omega
        have hbig' : decide ((20000 : Int) < (SL.size : Int)) = false := by simp; omega
        have HSE := hide (sealed_any ⟨L.toArray⟩ wr (by rw [size_of_list]; omega) (sumTab_later HB.out HT.out))
        rw [HSL.out] at HSE HE
        go_wp2_with fail
        refine HSE.out.mono ?_
        rintro e w9 ⟨rfl, b9⟩
        go_wp2
        go_ret2
        rw [HE.out]
        exact ⟨rfl, HB.out.trans (b9.mono hws)⟩
end Go.Proofs.YtijmlgdeeodehabDoor
