import Derived.OpenShut
import Derived.Test.YtpibnhodlojajaaDoorAr2
import Derived.Test.YtpibnhodlojajaaDoorAr5
import Derived.Test.YtpibnhodlojajaaDoorAr6
import Derived.Test.YtpibnhodlojajaaDoorAr0
set_option maxRecDepth 100000
set_option maxHeartbeats 4000000
namespace Go.Proofs.YtpibnhodlojajaaDoor
open Go.RowKit
theorem drawArity_any (w : World) (ao : Option Addr) (len cap : Nat) (hlen : len ≤ 1048576) (hcode : Code w ao len) :
    Calls Tryd.prog 8 #[.slice ao len cap] w fun e w' => ∃ (k c : Nat) (ts : List ByteArray), e = .returned (.slice (some ⟨k, 0, none⟩) ts.length c) ∧ ts.length ≤ 8 ∧ (∀ z ∈ ts, z.size ≤ 60) ∧ TextsAt w' (some ⟨k, 0, none⟩) ts ∧ Below w.heap.size w w' := by
  have HC := hide hcode
  have HNW := hide (new_any w ao len cap hlen hcode)
  clear hcode
  go_enter Tryd.func8, Tryd.ntmps8
  go_wp2_with fail
  refine HNW.out.mono ?_
  rintro e w1 ⟨g, rfl, c1⟩
  have C1 := hide c1
  clear c1 HNW
  go_wp2_with fail
  refine (l11Args_any w _ g ao len cap hlen HC.out C1.out).mono ?_
  rintro e w2 ⟨k, c, ts, rfl, h8, hz, st⟩
  have B2 := hide st.1.1
  have TX := hide (rowText_rows (rowText_own st.2.2.2))
  clear st
  go_wp2
  go_ret
  exact ⟨k, c, ts, rfl, h8, hz, TX.out, B2.out⟩
theorem inB_take {ts : List ByteArray} {i : Nat} (x : ByteArray) (h : i < ts.length) : inB (ts.take (i + 1)) x = (inB (ts.take i) x || decide (ts[i] = x)) := by
  rw [List.take_add_one, List.getElem?_eq_getElem h]
  unfold inB
  rw [List.any_append]
  simp
theorem zero_more {n : Int} (h0 : -1000000000 ≤ n) (h1 : n ≤ 1000000000) : valS (⟨#[48]⟩ ++ numB n) = none := by
  obtain ⟨l, hl⟩ : ∃ l, l = (⟨#[48]⟩ : ByteArray) ++ numB n := ⟨_, rfl⟩
  rw [← hl]
  have hb0 : Wd.bt l 0 = 48 := by
    rw [hl, bt_left (by decide)]
    rfl
  have hs : 2 ≤ l.size := by
    have hn : 1 ≤ (numB n).size := by
      have hv := valS_num n h0 h1
      rcases Nat.eq_zero_or_pos (numB n).size with h | h
      · exfalso
        have : valS (numB n) = none := by
          unfold valS decV
          rw [if_neg (fun hg => by have := hg.1; omega)]
          simp only
          rw [if_neg (fun hg => by have := hg.1; omega)]
        rw [hv] at this
        cases this
      · exact h
    rw [hl, ByteArray.size_append]
    have : (⟨#[48]⟩ : ByteArray).size = 1 := rfl
    omega
  unfold valS decV
  rw [if_neg (fun hg => by have := hg.2.2.2.1; omega)]
  simp only
  rw [if_neg (fun hg => by have := hg.2.1; omega)]
def unkB : ByteArray := lineB ⟨#[45]⟩ unkT
theorem unk_list : unkB.toList = [45, 69, 82, 82, 32, 117, 110, 107, 110, 111, 119, 110, 13, 10] := by rw [ByteArray.toList_eq]; rfl
theorem arg_list : (lineB ⟨#[45]⟩ argT).toList = [45, 69, 82, 82, 32, 97, 114, 103, 117, 109, 101, 110, 116, 115, 13, 10] := by rw [ByteArray.toList_eq]; rfl
theorem nil_list : (⟨#[]⟩ : ByteArray).toList = [] := by rw [ByteArray.toList_eq]
theorem ways (ts : List ByteArray) : ((unkS ts).toList == [45, 69, 82, 82, 32, 117, 110, 107, 110, 111, 119, 110, 13, 10]) = (!knownS ts) ∧ ((unkS ts).toList == ([] : List UInt8)) = okS ts ∧ (knownS ts = false → okS ts = false ∧ writesS ts = false) := by
  have hok : knownS ts = false → okS ts = false ∧ writesS ts = false := by
    cases ts with
    | nil => intro _; exact ⟨rfl, rfl⟩
    | cons x r =>
      intro h
      have h' : inB cmdsL (upT x) = false := h
      exact ⟨by show (inB cmdsL (upT x) && _) = false; rw [h']; rfl, by show (inB cmdsL (upT x) && _) = false; rw [h']; rfl⟩
  refine ⟨?_, ?_, hok⟩
  · unfold unkS
    cases hk : knownS ts with
    | false =>
      have : (if false = true then (if okS ts = true then (⟨#[]⟩ : ByteArray) else lineB ⟨#[45]⟩ argT) else lineB ⟨#[45]⟩ unkT).toList = unkB.toList := rfl
      rw [this, unk_list]
      rfl
    | true =>
      rw [if_pos rfl]
      cases okS ts with
      | true => rw [if_pos rfl, nil_list]; rfl
      | false => rw [if_neg (by decide), arg_list]; rfl
  · unfold unkS
    cases hk : knownS ts with
    | false =>
      rw [(hok hk).1]
      have : (if false = true then (if false = true then (⟨#[]⟩ : ByteArray) else lineB ⟨#[45]⟩ argT) else lineB ⟨#[45]⟩ unkT).toList = unkB.toList := rfl
      rw [this, unk_list]
      rfl
    | true =>
      rw [if_pos rfl]
      cases okS ts with
      | true => rw [if_pos rfl, nil_list]; rfl
      | false => rw [if_neg (by decide), arg_list]; rfl
theorem known_cons {ts : List ByteArray} {x : ByteArray} (h : ts[0]? = some x) : knownS ts = inB cmdsL (upT x) := by
  cases ts with
  | nil => simp at h
  | cons y r =>
    obtain rfl : y = x := by simpa using h
    rfl
theorem arities_walk (w : World) (ao : Option Addr) (len cap : Nat) (hv : RVars w) (hcode : len ≤ 1048576 → Code w ao len) :
    Calls Tryd.prog 4 #[.slice ao len cap] w fun e w' => e = .returned (.bool true) ∧ Below w.heap.size w w' := by
  by_cases hlen : len ≤ 1048576
  case neg =>
    have hbig : decide (1048576 < (len : Int)) = true := by simp; omega
    clear hv
    go_enter Tryd.func4, Tryd.ntmps4
    go_wp2_with fail
    refine (big_any _ ao len cap).mono ?_
    rintro e w1 ⟨rfl, rfl⟩
    rw [hbig]
    go_wp2
    go_ret
    exact ⟨rfl, Below.refl _ _⟩
  have hbig : decide (1048576 < (len : Int)) = false := by simp; omega
  have HD := hide (drawArity_any w ao len cap hlen (hcode hlen))
  have HPL := hide (fun W (h : Below w.heap.size w W) => drawPlaces_any W ao len cap hlen (code_keep (hcode hlen) h))
  have HV := hide hv
  clear hcode hv
  go_enter Tryd.func4, Tryd.ntmps4
  go_wp2_with fail
  refine (big_any _ ao len cap).mono ?_
  rintro e w1 ⟨rfl, e1⟩
  obtain rfl := e1.symm
  rw [hbig]
  clear hbig
  go_wp2_with fail
  refine HD.out.mono ?_
  rintro e w2 ⟨k, c, ts, rfl, h8, hz60, tx, b2⟩
  have B2 := hide b2
  have TX := hide tx
  have hz : ∀ x ∈ ts, x.size ≤ 1048576 := fun x hx => by have := hz60 x hx; omega
  have z2 := b2.size
  obtain ⟨hw1, hw2, hw3⟩ := ways ts
  have HUN := hide (fun W (h : TextsAt W (some ⟨k, 0, none⟩) ts) => implUnknown_any ts (some ⟨k, 0, none⟩) c W (by omega) h hz)
  have HAR := hide (fun W (h : TextsAt W (some ⟨k, 0, none⟩) ts) => implArityOk_any ts (some ⟨k, 0, none⟩) c W (by omega) h hz)
  have HWR := hide (fun W (h : TextsAt W (some ⟨k, 0, none⟩) ts) => implWrites_any ts (some ⟨k, 0, none⟩) c W (by omega) h hz)
  have HSP := hide (fun W (h : TextsAt W (some ⟨k, 0, none⟩) ts) => specArity_any ts (some ⟨k, 0, none⟩) c W (by omega) h hz)
  have HKN := hide (fun x h => known_cons (ts := ts) (x := x) h)
  obtain ⟨U, HU⟩ : ∃ U, Hid (unkS ts = U) := ⟨_, rfl⟩
  obtain ⟨K, HK⟩ : ∃ K, Hid (knownS ts = K) := ⟨_, rfl⟩
  obtain ⟨O, HO⟩ : ∃ O, Hid (okS ts = O) := ⟨_, rfl⟩
  obtain ⟨G, HG⟩ : ∃ G, Hid (writesS ts = G) := ⟨_, rfl⟩
  rw [HU.out] at hw1 hw2 HUN
  rw [HK.out] at hw1 hw3
  rw [HO.out] at hw2 hw3 HAR HSP
  rw [HG.out] at hw3 HWR
  clear b2 tx HD
  by_cases h0 : ts.length = 0
  · have h0' : ((ts.length : Int) == 0) = true := by rw [beq_iff_eq]; omega
    have hK : K = false := by
      rw [← HK.out, List.length_eq_zero_iff.1 h0]
      rfl
    subst hK
    obtain ⟨rfl, rfl⟩ := hw3 rfl
    clear h0
    go_wp2_with fail
    refine (HUN.out _ TX.out).mono ?_
    rintro e w3 ⟨rfl, b3⟩
    have B3 := hide (B2.out.trans (b3.mono z2))
    have T3 := hide (textsAt_keep TX.out b3)
    clear b3
    go_wp2_with fail
    refine (HAR.out _ T3.out).mono ?_
    rintro e w4 ⟨rfl, b4⟩
    go_wp2
    go_ret
    exact ⟨rfl, B3.out.trans (b4.mono B3.out.size)⟩
  have h0' : ((ts.length : Int) == 0) = false := by rw [beq_eq_false_iff_ne]; omega
  obtain ⟨x, HX⟩ : ∃ x, Hid (ts[0]? = some x) := ⟨ts[0]'(by omega), List.getElem?_eq_getElem (by omega)⟩
  have hxz : x.size ≤ 60 := hz60 x (List.mem_of_getElem? HX.out)
  have hcell : w2.cell? ⟨k, 0, none⟩ = some (.string x) := by
    obtain ⟨b, off, e1, -, hc⟩ := TX.out 0 (by omega)
    obtain ⟨rfl, rfl⟩ : k = b ∧ 0 = off := by simpa using e1
    rw [hc]
    have := HX.out
    rw [List.getElem?_eq_getElem (by omega)] at this
    exact congrArg (fun z => some (Value.string z)) (Option.some.inj this)
  have HKN2 : Hid (K = inB cmdsL (upT x)) := by show _ = _; rw [← HK.out]; exact HKN.out x HX.out
  obtain ⟨X, HXU⟩ : ∃ X, Hid (upT x = X) := ⟨_, rfl⟩
  rw [HXU.out] at HKN2
  have HUP := hide (fun W => specUpper_any x W (by omega))
  rw [show (⟨(x.data.toList.map upB).toArray⟩ : ByteArray) = X from HXU.out] at HUP
  have hpos : 0 < ts.length := by omega
  have hposi : (0 : Int) < (ts.length : Int) := by omega
  clear hz hz60 h0
  go_wp2_with fail
  refine (HUP.out _).mono ?_
  rintro e w3 ⟨rfl, b3⟩
  have B3 := hide (B2.out.trans (b3.mono z2))
  have T3 := hide (textsAt_keep TX.out b3)
  clear b3
  go_wp2_with fail
  refine (implCmds_any _).mono ?_
  rintro e w4 ⟨v, rfl, r4, b4⟩
  obtain ⟨a4, c4, rfl, t4⟩ := rowText_at r4
  have L4 := hide t4
  have B4 := hide (B3.out.trans (b4.mono B3.out.size))
  have T4 := hide (textsAt_keep T3.out b4)
  have hl41 : cmdsL.length = 41 := rfl
  have HL41 := hide hl41
  clear r4 t4 b4 hl41
  obtain ⟨n41, hn41⟩ : ∃ n : Nat, n = cmdsL.length := ⟨_, rfl⟩
  rw [← hn41]
  have hn41b : n41 = 41 := hn41.trans HL41.out
  have HN41 := hide hn41
  have hq41 : ((n41 : Int) == 41) = true := by rw [hn41b]; rfl
  have hle41 : n41 ≤ 41 := by omega
  clear hn41 hn41b
  go_wp2_with fail
  go_loopw [5, 7] (fun kv ii wr => ∃ (i : Nat) (B : Bool), kv = .bool B ∧ ii = .int .i64 (i : Int) ∧ i ≤ n41 ∧ Hid (inB (cmdsL.take i) X = B) ∧ wr = w4) (fun _ ii _ => n41 - (intOf ii).toNat)
  case atStart => exact ⟨0, false, rfl, rfl, Nat.zero_le _, rfl, rfl⟩
  case round =>
    obtain ⟨i, B, rfl, rfl, hi, HB, rfl⟩ := hrel
    by_cases hlt : i < n41
    · have hlt' : decide ((i : Int) < (n41 : Int)) = true := by simp; omega
      have hil : i < cmdsL.length := by rw [← HN41.out]; exact hlt
      have hnx := inB_take X hil
      rw [HB.out] at hnx
      obtain ⟨b, off, rfl, hbw, hcl⟩ := L4.out i hil
      have hi0 : (0 : Int) ≤ (i : Int) := by omega
      cases B with
      | true =>
        have HN2 : Hid (inB (cmdsL.take (i + 1)) X = true) := hnx
        clear hnx
        go_wp2
        go_roundw
        case rel => exact ⟨i + 1, true, rfl, by go_num, by omega, HN2, by trivial⟩
        case measure => simp [intOf]; omega
      | false =>
        by_cases hx : cmdsL[i] = X
        · have he := txt_eq hx
          have HN2 : Hid (inB (cmdsL.take (i + 1)) X = true) := by show _ = _; rw [hnx, decide_eq_true hx]; rfl
          clear hnx hx
          go_wp2
          go_roundw
          case rel => exact ⟨i + 1, true, rfl, by go_num, by omega, HN2, by trivial⟩
          case measure => simp [intOf]; omega
        · have he := txt_ne hx
          have HN2 : Hid (inB (cmdsL.take (i + 1)) X = false) := by show _ = _; rw [hnx, decide_eq_false hx]; rfl
          clear hnx hx
          go_wp2
          go_roundw
          case rel => exact ⟨i + 1, false, rfl, by go_num, by omega, HN2, by trivial⟩
          case measure => simp [intOf]; omega
    · have hlt' : decide ((i : Int) < (n41 : Int)) = false := by rw [decide_eq_false_iff_not]; omega
      obtain rfl : B = K := by rw [← HB.out, HKN2.out, List.take_of_length_le (by rw [← HN41.out]; omega)]
      go_wp2_with fail
      refine (HUN.out _ T4.out).mono ?_
      rintro e w5 ⟨rfl, b5⟩
      have B5 := hide (B4.out.trans (b5.mono B4.out.size))
      have T5 := hide (textsAt_keep T4.out b5)
      clear b5
      have haf : (!B == B) = false := by cases B <;> rfl
      have hoo : (!(O == O)) = false := by cases O <;> rfl
      cases B with
      | false =>
        obtain ⟨rfl, rfl⟩ := hw3 rfl
        go_wp2_with fail
        refine (HAR.out _ T5.out).mono ?_
        rintro e w6 ⟨rfl, b6⟩
        have B6 := hide (B5.out.trans (b6.mono B5.out.size))
        have T6 := hide (textsAt_keep T5.out b6)
        clear b6
        go_wp2_with fail
        refine (HAR.out _ T6.out).mono ?_
        rintro e w7 ⟨rfl, b7⟩
        have B7 := hide (B6.out.trans (b7.mono B6.out.size))
        have T7 := hide (textsAt_keep T6.out b7)
        clear b7
        go_wp2_with fail
        refine (HSP.out _ T7.out).mono ?_
        rintro e w8 ⟨rfl, b8⟩
        have B8 := hide (B7.out.trans (b8.mono B7.out.size))
        have T8 := hide (textsAt_keep T7.out b8)
        clear b8
        go_wp2_with fail
        refine (HWR.out _ T8.out).mono ?_
        rintro e w9 ⟨rfl, b9⟩
        have B9 := hide (B8.out.trans (b9.mono B8.out.size))
        have T9 := hide (textsAt_keep T8.out b9)
        clear b9
        go_wp2_with fail
        refine (HPL.out _ B9.out).mono ?_
        rintro e wp ⟨vp, zs, rfl, hzl, hzs, hownp, bp⟩
        obtain ⟨gp, capp, rfl⟩ : ∃ gp capp, vp = .slice (some ⟨gp, 0, none⟩) 12 capp := by
          rcases hownp.2 with ⟨h, h'⟩ | ⟨g, c, cur, rfl, _⟩
          · cases h'
          · exact ⟨g, c, rfl⟩
        obtain ⟨z0, hz0, hz0b⟩ : ∃ z : Nat, wp.cell? ⟨gp, 0, none⟩ = some (.int .i64 (z : Int)) ∧ z < 10000 := by
          have hl : 0 < zs.length := by rw [hzl]; decide
          exact ⟨zs[0], (hownp.cellAt 0 (by decide)).trans (by simp [hl, iv]), hzs _ (List.getElem_mem hl)⟩
        have BP := hide (B9.out.trans (bp.mono B9.out.size))
        clear bp hownp hzl hzs
        obtain ⟨T, HT⟩ : ∃ T, Hid (numB ((z0 : Int) - 5000) = T) := ⟨_, rfl⟩
        have hTz : T.size ≤ 21 := by rw [← HT.out]; exact numB_size _ (by omega) (by omega)
        have DC : Hid (∀ W, Calls Tryd.prog 16 #[.int .i64 ((z0 : Int) - 5000)] W fun e w' => e = .returned (.string T) ∧ Below W.heap.size W w') := fun W => by
          rw [← HT.out]
          exact decimal_any _ W (by omega) (by omega)
        have RI1 : Hid (∀ W, RVars W → Calls Tryd.prog 6 #[.string T] W fun e w' => e = .returned (.tuple #[.int .i64 ((z0 : Int) - 5000), .bool true]) ∧ Below W.heap.size W w') := fun W h => by
          have := implReadInt_any T W (by omega) h
          rw [← HT.out, valS_num _ (by omega) (by omega)] at this
          rw [← HT.out]
          exact this
        have RI2 : Hid (∀ W, RVars W → Calls Tryd.prog 6 #[.string (⟨#[48]⟩ ++ T)] W fun e w' => e = .returned (.tuple #[.int .i64 0, .bool false]) ∧ Below W.heap.size W w') := fun W h => by
          have := implReadInt_any (⟨#[48]⟩ ++ T) W (by rw [ByteArray.size_append]; have : (⟨#[48]⟩ : ByteArray).size = 1 := rfl; omega) h
          rw [← HT.out, zero_more (by omega) (by omega)] at this
          rw [← HT.out]
          exact this
        have hn : (((z0 : Int) - 5000) == ((z0 : Int) - 5000)) = true := beq_self_eq_true _
        go_wp2_with fail
        refine (DC.out _).mono ?_
        rintro e wq ⟨rfl, bq⟩
        have BQ := hide (BP.out.trans (bq.mono BP.out.size))
        clear bq
        go_wp2_with fail
        refine (RI1.out _ (rvars_below HV.out BQ.out)).mono ?_
        rintro e wr2 ⟨rfl, br⟩
        have BR := hide (BQ.out.trans (br.mono BQ.out.size))
        clear br
        go_wp2_with fail
        refine (DC.out _).mono ?_
        rintro e ws ⟨rfl, bs⟩
        have BS := hide (BR.out.trans (bs.mono BR.out.size))
        clear bs
        go_wp2_with fail
        refine (RI2.out _ (rvars_below HV.out BS.out)).mono ?_
        rintro e wt ⟨rfl, bt⟩
        have BT := hide (BS.out.trans (bt.mono BS.out.size))
        clear bt
        go_wp2
        go_ret
        exact ⟨rfl, BT.out⟩
      | true =>
        go_wp2_with fail
        refine (HAR.out _ T5.out).mono ?_
        rintro e w6 ⟨rfl, b6⟩
        have B6 := hide (B5.out.trans (b6.mono B5.out.size))
        have T6 := hide (textsAt_keep T5.out b6)
        clear b6
        go_wp2_with fail
        refine (HAR.out _ T6.out).mono ?_
        rintro e w7 ⟨rfl, b7⟩
        have B7 := hide (B6.out.trans (b7.mono B6.out.size))
        have T7 := hide (textsAt_keep T6.out b7)
        clear b7
        go_wp2_with fail
        refine (HSP.out _ T7.out).mono ?_
        rintro e w8 ⟨rfl, b8⟩
        have B8 := hide (B7.out.trans (b8.mono B7.out.size))
        have T8 := hide (textsAt_keep T7.out b8)
        clear b8
        go_wp2_with fail
        refine (HPL.out _ B8.out).mono ?_
        rintro e wp ⟨vp, zs, rfl, hzl, hzs, hownp, bp⟩
        obtain ⟨gp, capp, rfl⟩ : ∃ gp capp, vp = .slice (some ⟨gp, 0, none⟩) 12 capp := by
          rcases hownp.2 with ⟨h, h'⟩ | ⟨g, c, cur, rfl, _⟩
          · cases h'
          · exact ⟨g, c, rfl⟩
        obtain ⟨z0, hz0, hz0b⟩ : ∃ z : Nat, wp.cell? ⟨gp, 0, none⟩ = some (.int .i64 (z : Int)) ∧ z < 10000 := by
          have hl : 0 < zs.length := by rw [hzl]; decide
          exact ⟨zs[0], (hownp.cellAt 0 (by decide)).trans (by simp [hl, iv]), hzs _ (List.getElem_mem hl)⟩
        have BP := hide (B8.out.trans (bp.mono B8.out.size))
        clear bp hownp hzl hzs
        obtain ⟨T, HT⟩ : ∃ T, Hid (numB ((z0 : Int) - 5000) = T) := ⟨_, rfl⟩
        have hTz : T.size ≤ 21 := by rw [← HT.out]; exact numB_size _ (by omega) (by omega)
        have DC : Hid (∀ W, Calls Tryd.prog 16 #[.int .i64 ((z0 : Int) - 5000)] W fun e w' => e = .returned (.string T) ∧ Below W.heap.size W w') := fun W => by
          rw [← HT.out]
          exact decimal_any _ W (by omega) (by omega)
        have RI1 : Hid (∀ W, RVars W → Calls Tryd.prog 6 #[.string T] W fun e w' => e = .returned (.tuple #[.int .i64 ((z0 : Int) - 5000), .bool true]) ∧ Below W.heap.size W w') := fun W h => by
          have := implReadInt_any T W (by omega) h
          rw [← HT.out, valS_num _ (by omega) (by omega)] at this
          rw [← HT.out]
          exact this
        have RI2 : Hid (∀ W, RVars W → Calls Tryd.prog 6 #[.string (⟨#[48]⟩ ++ T)] W fun e w' => e = .returned (.tuple #[.int .i64 0, .bool false]) ∧ Below W.heap.size W w') := fun W h => by
          have := implReadInt_any (⟨#[48]⟩ ++ T) W (by rw [ByteArray.size_append]; have : (⟨#[48]⟩ : ByteArray).size = 1 := rfl; omega) h
          rw [← HT.out, zero_more (by omega) (by omega)] at this
          rw [← HT.out]
          exact this
        have hn : (((z0 : Int) - 5000) == ((z0 : Int) - 5000)) = true := beq_self_eq_true _
        go_wp2_with fail
        refine (DC.out _).mono ?_
        rintro e wq ⟨rfl, bq⟩
        have BQ := hide (BP.out.trans (bq.mono BP.out.size))
        clear bq
        go_wp2_with fail
        refine (RI1.out _ (rvars_below HV.out BQ.out)).mono ?_
        rintro e wr2 ⟨rfl, br⟩
        have BR := hide (BQ.out.trans (br.mono BQ.out.size))
        clear br
        go_wp2_with fail
        refine (DC.out _).mono ?_
        rintro e ws ⟨rfl, bs⟩
        have BS := hide (BR.out.trans (bs.mono BR.out.size))
        clear bs
        go_wp2_with fail
        refine (RI2.out _ (rvars_below HV.out BS.out)).mono ?_
        rintro e wt ⟨rfl, bt⟩
        have BT := hide (BS.out.trans (bt.mono BS.out.size))
        clear bt
        go_wp2
        go_ret
        exact ⟨rfl, BT.out⟩
end Go.Proofs.YtpibnhodlojajaaDoor
namespace Go.Proofs.YtpibnhodlojajaaDoor
open Go.RowKit Go.ChangeShapes
theorem code_of {w : World} {x : Addr} {len : Nat} {zs : List Int} (hl : len ≤ zs.length) (hcell : ∀ i, i < zs.length → w.cell? (x.add i) = some (.int .u8 (zs.getD i 0))) (hwz : ∀ n ∈ zs, (Lit.int .u8 n).wf = true) : Code w (some x) len := by
  intro j hj
  have hjl : j < zs.length := by omega
  have hc := hcell j hjl
  obtain ⟨b, off, spot⟩ := x
  have hspot : spot = none := by
    have h0 := hcell 0 (by omega)
    simpa [Addr.add] using World.cell?_spot h0
  subst hspot
  have hz : zs.getD j 0 = zs[j] := by simp [List.getD, hjl]
  have hb := bounds_u8 (hwz zs[j] (List.getElem_mem hjl))
  have ha : ((⟨b, off, none⟩ : Addr).add j) = ⟨b, off + j, none⟩ := by cases j <;> simp [Addr.add]
  rw [ha, hz] at hc
  obtain ⟨z, hzz⟩ := Int.eq_ofNat_of_zero_le hb.1
  rw [hzz] at hc
  refine ⟨b, off, z, rfl, ?_, hc, by omega⟩
  rcases Nat.lt_or_ge b w.heap.size with h | h
  · exact h
  · unfold World.cell? at hc
    rw [show w.heap[(⟨b, off + j, none⟩ : Addr).block]? = none from Array.getElem?_eq_none h] at hc
    cases hc
end Go.Proofs.YtpibnhodlojajaaDoor
