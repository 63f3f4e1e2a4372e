import Derived.Laws.StructEq
import Derived.Test.YtifjneldjjmeaaaGreatDoorTx13
import Derived.Test.YtifjneldjjmeaaaGreatDoorTx6
import Derived.Test.YtifjneldjjmeaaaGreatDoorTx12
set_option maxRecDepth 100000
set_option maxHeartbeats 1600000
namespace Go.Proofs.YtifjneldjjmeaaaGreatDoor
open Go.RowKit
def tellF (T : List EntD) (k : ByteArray) : ByteArray := match (getF T k).2 with | some _ => nilB | none => (getF T k).1
theorem bulkB_size {s : ByteArray} (h : s.size ≤ 1048500) : (bulkB s).size ≤ 1048576 := by
  have h1 := hdB_size ⟨#[36]⟩ s.size (Nat.le_refl 1) (by omega) (by omega)
  have h2 : (⟨#[13, 10]⟩ : ByteArray).size = 2 := rfl
  unfold bulkB
  rw [ByteArray.size_append, ByteArray.size_append]
  omega
theorem tellF_size {T : List EntD} (hT : TabR T) (k : ByteArray) : (tellF T k).size ≤ 1048576 := by
  have hn : nilB.size ≤ 1048576 := by decide
  unfold tellF getF
  cases h : (lookK T k 1).2.2 with
  | some e => exact hn
  | none =>
    have := (look_text hT k h).1
    cases h2 : (lookK T k 1).2.1 with
    | true => exact bulkB_size (by omega)
    | false => exact hn
theorem getEach_any (T : List EntD) (keys : List ByteArray) (ao : Option Addr) (cap : Nat) (w : World) (B b : Nat) (tb : TypeId) (hT : TabR T) (hW : WorkS tb w B b T) (hv : RVars w) (hl : keys.length ≤ 1048576) (hks : TextsAt w ao keys) :
    Calls Tryz.prog 76 #[.pointer (some ⟨b, 0, none⟩), .slice ao keys.length cap] w fun e w' => e = .returned (.string (arrB (keys.map (tellF T)))) ∧ Below w.heap.size w w' := by
  have HG := hide (fun k W (h : Below w.heap.size w W) => get_any T k W B b tb hT (workS_below hW h) (rvars_below hv h))
  have HV := hide (fun W (h : Below w.heap.size w W) => (rvars_below hv h).pow)
  have HK := hide hks
  have HZ : Hid (∀ x ∈ keys.map (tellF T), x.size ≤ 1048576) := fun x hx => by
    obtain ⟨k, -, rfl⟩ := List.mem_map.1 hx
    exact tellF_size hT k
  clear hT hW hv hks
  go_enter Tryz.func76, Tryz.ntmps76
  go_wp2
  go_loopw [5, 12] (fun vv ii wr => ∃ (k : Nat), ii = .int .i64 (k : Int) ∧ k ≤ keys.length ∧ Hid (wr.ownsRow w.heap.size 9 1 vv ((keys.take k).map (tellF T)).length (((keys.take k).map (tellF T)).map Value.string)) ∧ Hid (Below w.heap.size w wr)) (fun _ ii _ => keys.length - (intOf ii).toNat)
  case atStart => exact ⟨0, rfl, by omega, World.ownsRow_nil _ _ _ _, Below.refl _ _⟩
  case round =>
    obtain ⟨k, rfl, hk, HO, HB⟩ := hrel
    by_cases hlt : k < keys.length
    · have hlt' : decide ((k : Int) < (keys.length : Int)) = true := by simp; omega
      obtain ⟨b0, off, rfl, hbw, hc0⟩ := textsAt_keep HK.out HB.out k hlt
      have hws := HB.out.size
      have HY : Hid ((keys.take (k + 1)).map (tellF T) = (keys.take k).map (tellF T) ++ [tellF T keys[k]]) := by
        show _ = _
        rw [List.take_succ_eq_append_getElem hlt, List.map_append]
        rfl
      have HGK := hide (HG.out keys[k] wr HB.out)
      have HN := hide (fun W (h : Below wr.heap.size wr W) => implNil_any W (HV.out W (HB.out.trans (h.mono hws))))
      have hel : ((keys.take k).map (tellF T)).length ≤ 1048576 := by rw [List.length_map, List.length_take]; omega
      have HTE : Hid (tellF T keys[k] = match (getF T keys[k]).2 with | some _ => nilB | none => (getF T keys[k]).1) := rfl
      generalize (keys.take k).map (tellF T) = L at HO HY hel
      generalize tellF T keys[k] = tl at HY HTE
      generalize getF T keys[k] = G at HGK HTE
      generalize keys[k] = ky at hc0 HGK
      obtain ⟨rp, er⟩ := G
      simp only at HGK HTE
      have hi0 : (0 : Int) ≤ (k : Int) := by omega
      have hi1 : (k : Int) < (keys.length : Int) := by omega
      cases er with
      | some y =>
        have hte := HTE.out
        simp only at hte
        subst hte
        simp only [errV] at HGK
        go_wp2_with fail
        refine HGK.out.mono ?_
        rintro e w1 ⟨rfl, b1⟩
        have B1 := hide b1
        clear b1 hc0
        go_wp2_with fail
        refine (HN.out _ B1.out).mono ?_
        rintro e w2 ⟨rfl, b2⟩
        have B2 := hide (B1.out.trans (b2.mono B1.out.size))
        have O2 := hide (ownsRow_below HO.out B2.out)
        have h2 := B2.out.size
        clear b2
        go_wp2_with (at_builtin; go_loud (refine app_txt _ w.heap.size (by rfl) _ _ (by rfl) _ L nilB (by rfl) (ownsRow_below O2.out ((Below.refl _ w2).alloc (Nat.le_refl _) _)) w2.heap.size (by rfl) (heap_alloc_new w2 _) hel (by simp; omega) ?_; intro g5 cap5 w5 ho5 hb5 _ _ _; have HO5 := hide ho5; have HB5 := hide ((HB.out.trans (B2.out.mono hws)).trans (((Below.refl w2.heap.size w2).alloc (Nat.le_refl _) (.cells #[.string nilB] 9)).mono (Nat.le_trans hws h2) |>.trans hb5)); clear ho5 hb5))
        go_roundw
        case rel => exact ⟨k + 1, by go_num, by omega, by show World.ownsRow _ _ _ _ _ _ _; rw [HY.out]; exact HO5.out, HB5.out⟩
        case measure => simp [intOf]; omega
      | none =>
        have hte := HTE.out
        simp only at hte
        subst hte
        simp only [errV] at HGK
        go_wp2_with fail
        refine HGK.out.mono ?_
        rintro e w1 ⟨rfl, b1⟩
        have B1 := hide b1
        have O1 := hide (ownsRow_below HO.out b1)
        have h1 := b1.size
        clear b1 hc0
        go_wp2_with (at_builtin; go_loud (refine app_txt _ w.heap.size (by rfl) _ _ (by rfl) _ L tl (by rfl) (ownsRow_below O1.out ((Below.refl _ w1).alloc (Nat.le_refl _) _)) w1.heap.size (by rfl) (heap_alloc_new w1 _) hel (by simp; omega) ?_; intro g5 cap5 w5 ho5 hb5 _ _ _; have HO5 := hide ho5; have HB5 := hide ((HB.out.trans (B1.out.mono hws)).trans (((Below.refl w1.heap.size w1).alloc (Nat.le_refl _) (.cells #[.string tl] 9)).mono (Nat.le_trans hws h1) |>.trans hb5)); clear ho5 hb5))
        go_roundw
        case rel => exact ⟨k + 1, by go_num, by omega, by show World.ownsRow _ _ _ _ _ _ _; rw [HY.out]; exact HO5.out, HB5.out⟩
        case measure => simp [intOf]; omega
    · have hlt' : decide ((k : Int) < (keys.length : Int)) = false := by simp; omega
      have hke : k = keys.length := by omega
      subst hke
      have HO2 := HO.out
      rw [List.take_length] at HO2
      obtain ⟨ar, cr, rfl, hta⟩ := rowText_at (rowText_own HO2)
      have HAR := hide (implArray_any (keys.map (tellF T)) ar cr _ (by rw [List.length_map]; omega) hta HZ.out (HV.out _ HB.out))
      rw [List.length_map] at HAR
      simp only [List.length_map]
      clear HO2 hta HO
      go_wp2_with fail
      refine HAR.out.mono ?_
      rintro e w1 ⟨rfl, b1⟩
      have HB1 := hide (HB.out.trans (b1.mono HB.out.size))
      clear b1
      go_wp2
      go_ret
      exact ⟨rfl, HB1.out⟩
theorem putErr_cases (T : List EntD) : (putErr T = none ∧ TabR T) ∨ (putErr T = some tooMuch ∧ ¬ TabR T) := by
  unfold putErr
  cases h : tabB T with
  | true => exact .inl ⟨rfl, (tabB_iff T).1 h⟩
  | false => exact .inr ⟨rfl, fun hh => by rw [(tabB_iff T).2 hh] at h; cases h⟩
noncomputable def setEachF : List EntD → List ByteArray → Option ByteArray × List EntD
  | T, k :: x :: r => match putErr (putT T k (txt x)) with
    | some e => (some e, putT T k (txt x))
    | none => setEachF (putT T k (txt x)) r
  | T, _ => (none, T)
theorem setEachF_some {T : List EntD} {L : List ByteArray} {j : Nat} (h : j + 1 < L.length) {e : ByteArray} (he : putErr (putT T (L[j]'(by omega)) (txt L[j + 1])) = some e) : setEachF T (L.drop j) = (some e, putT T (L[j]'(by omega)) (txt L[j + 1])) := by
  rw [List.drop_eq_getElem_cons (by omega), List.drop_eq_getElem_cons h, setEachF, he]
theorem setEachF_none {T : List EntD} {L : List ByteArray} {j : Nat} (h : j + 1 < L.length) (he : putErr (putT T (L[j]'(by omega)) (txt L[j + 1])) = none) : setEachF T (L.drop j) = setEachF (putT T (L[j]'(by omega)) (txt L[j + 1])) (L.drop (j + 2)) := by
  rw [List.drop_eq_getElem_cons (by omega), List.drop_eq_getElem_cons h, setEachF, he]
theorem setEachF_end (T : List EntD) (L : List ByteArray) (j : Nat) (h : L.length ≤ j) : setEachF T (L.drop j) = (none, T) := by
  rw [List.drop_of_length_le h, setEachF]
  intro k x r h
  cases h
theorem setEach_any (T : List EntD) (L : List ByteArray) (ao : Option Addr) (cap : Nat) (w0 w : World) (b : Nat) (tb : TypeId) (htb : (tb == 40) = false) (htb9 : (tb == 9) = false) (hT : TabR T) (hW : WorkS tb w w0.heap.size b T) (h0 : Below w0.heap.size w0 w)
    (n : Nat) (hn : L.length = 2 * n) (hl : L.length ≤ 1048576) (hks : TextsAt w0 ao L) (hz : ∀ x ∈ L, x.size ≤ 1048576) :
    Calls Tryz.prog 77 #[.pointer (some ⟨b, 0, none⟩), .slice ao L.length cap] w fun e w' => e = .returned (errV (setEachF T L).1) ∧ WorkS tb w' w0.heap.size b (setEachF T L).2 ∧ Below w0.heap.size w w' := by
  have HK := hide hks
  have HZ := hide hz
  have H0 := hide h0
  have hw0 := h0.size
  have HW := hide hW
  have HT := hide hT
  have HNN := hide hn
  clear hks hz hT hW h0 hn
  go_enter Tryz.func77, Tryz.ntmps77
  go_wp2
  go_loopw [5] (fun ii wr => ∃ (p : Nat) (T1 : List EntD), ii = .int .i64 (p : Int) ∧ p ≤ L.length ∧ Hid (∃ j, p = 2 * j) ∧ Hid (WorkS tb wr w0.heap.size b T1) ∧ Hid (TabR T1) ∧ Hid (setEachF T L = setEachF T1 (L.drop p)) ∧ Hid (Below w0.heap.size w wr)) (fun ii _ => L.length - (intOf ii).toNat)
  case atStart => exact ⟨0, T, rfl, by omega, ⟨0, rfl⟩, HW.out, HT.out, by show _ = _; rw [List.drop_zero], Below.refl _ _⟩
  case round =>
    obtain ⟨m, T1, rfl, hj, HJ, HO, HT1, HE, HB⟩ := hrel
    by_cases hlt : m < L.length
    · have hlt' : decide ((m : Int) < (L.length : Int)) = true := by simp; omega
      have hlt1 : m + 1 < L.length := by
        obtain ⟨j, hjj⟩ := HJ.out
        have := HNN.out
        omega
      have HB0 := hide (H0.out.trans HB.out)
      have hwr := HB0.out.size
      obtain ⟨b0, off, e0, hbw, hc0⟩ := textsAt_keep HK.out HB0.out (m) hlt
      obtain ⟨b1, off1, e1, -, hc1⟩ := textsAt_keep HK.out HB0.out (m + 1) hlt1
      rw [e0] at e1
      cases e1
      subst e0
      have HS := hide (fun W (h : Below wr.heap.size wr W) => set_any T1 L[m] L[m + 1] W w0.heap.size b tb htb htb9 HT1.out (workS_below HO.out h) (Nat.le_trans hwr h.size) (HZ.out _ (List.getElem_mem hlt)) (HZ.out _ (List.getElem_mem hlt1)))
      have HPC := hide (putErr_cases (putT T1 L[m] (txt L[m + 1])))
      have HS1 := hide (fun e (h : putErr (putT T1 L[m] (txt L[m + 1])) = some e) => HE.out.trans (setEachF_some hlt1 h))
      have HS2 := hide (fun (h : putErr (putT T1 L[m] (txt L[m + 1])) = none) => HE.out.trans (setEachF_none hlt1 h))
      generalize putT T1 L[m] (txt L[m + 1]) = T2 at HS HPC HS1 HS2
      generalize L[m] = ky at hc0 HS
      generalize L[m + 1] = xx at hc1 HS
      have hi0 : (0 : Int) ≤ (m : Int) := by omega
      have hi1 : (m : Int) < (L.length : Int) := by omega
      have hw1 : IntKind.i64.wrap ((m : Int) + 1) = ((m + 1 : Nat) : Int) := by rw [IntKind.wrap_i64]; omega
      have hw2 : IntKind.i64.wrap ((m : Int) + 2) = ((m + 2 : Nat) : Int) := by rw [IntKind.wrap_i64]; omega
      have hi2 : (0 : Int) ≤ (m : Int) + 1 := by omega
      have hi3 : (m : Int) + 1 < (L.length : Int) := by omega
      go_upto_region 4 with fail
      go_region_law (go_simp; go_at_call 70; go_loud (refine (HS.out _ (Below.refl _ wr).drew).mono ?_; rintro e w2 ⟨rfl, s2, b2⟩; have W2 := hide s2; have B2 := hide (HB.out.drew.trans b2); clear s2 b2))
      all_goals
        rcases HPC.out with ⟨h2, h3⟩ | ⟨h2, h3⟩
        · have hs2 := hide (HS2.out h2)
          have ht2 := hide h3
          rw [h2]
          simp only [errV]
          clear h2 h3
          go_wp2
          go_roundw
          case rel => exact ⟨m + 2, T2, by go_num, by omega, by obtain ⟨j, hjj⟩ := HJ.out; exact ⟨j + 1, by omega⟩, W2.out, ht2.out, hs2.out, B2.out⟩
          case measure => simp [intOf]; omega
        · have hs1 := hide (HS1.out _ h2)
          rw [h2]
          simp only [errV]
          clear h2 h3
          go_wp2
          go_ret
          rw [hs1.out]
          exact ⟨rfl, W2.out, B2.out⟩
    · have hlt' : decide ((m : Int) < (L.length : Int)) = false := by simp; omega
      have hE := HE.out
      rw [setEachF_end T1 L (m) (by omega)] at hE
      have HE2 := hide hE
      clear hE
      go_wp2
      go_ret
      rw [HE2.out]
      exact ⟨rfl, HO.out, HB.out⟩
def getR (T : List EntD) (k : ByteArray) : ByteArray × Option ByteArray × List EntD := ((getF T k).1, (getF T k).2, T)
def lenR (T : List EntD) (k : ByteArray) : ByteArray × Option ByteArray × List EntD := (hdB ⟨#[58]⟩ (lookK T k 1).1.text.size, (lookK T k 1).2.2, T)
noncomputable def setR (T : List EntD) (k x : ByteArray) : ByteArray × Option ByteArray × List EntD := (lineB ⟨#[43]⟩ ⟨#[79, 75]⟩, putErr (putT T k (txt x)), putT T k (txt x))
def mgetR (T : List EntD) (L : List ByteArray) : ByteArray × Option ByteArray × List EntD := (arrB (L.map (tellF T)), none, T)
noncomputable def msetR (T : List EntD) (L : List ByteArray) : ByteArray × Option ByteArray × List EntD := (lineB ⟨#[43]⟩ ⟨#[79, 75]⟩, (setEachF T L).1, (setEachF T L).2)
theorem doGET_any (T : List EntD) (nm : ByteArray) (L : List ByteArray) (ao : Option Addr) (cap : Nat) (w0 w : World) (b : Nat) (tb : TypeId) (_htb : (tb == 40) = false) (_htb9 : (tb == 9) = false) (hT : TabR T) (hW : WorkS tb w w0.heap.size b T) (hv : RVars w0) (h0 : Below w0.heap.size w0 w) (hks : TextsAt w0 ao L) (_hz : ∀ x ∈ L, x.size ≤ 1000000) (hl : 1 ≤ L.length)  (n0 : (nm.toList == [71, 69, 84]) = true) :
    Calls Tryz.prog 37 #[.pointer (some ⟨b, 0, none⟩), .string nm, .slice ao L.length cap] w (DoP tb w0.heap.size b w (getR T L[0]).1 (getR T L[0]).2.1 (getR T L[0]).2.2) := by
  obtain ⟨b0, off, rfl, hbw, hc0⟩ := textsAt_keep hks h0 0 (by omega)
  rw [Nat.add_zero] at hc0
  have hi0 : (0 : Int) < (L.length : Int) := by omega
  have hN0 : 0 < L.length := by omega
  have HC := hide (get_any T L[0] w w0.heap.size b tb hT hW (rvars_below hv h0))
  have HW := hide (fun W (h : Below w.heap.size w W) => workS_below hW h)
  have hw0 := h0.size
  clear hT hW hv h0 hks _hz
  go_enter Tryz.func37, Tryz.ntmps37
  go_wp2_with fail
  refine HC.out.mono ?_
  rintro e w1 ⟨rfl, b1⟩
  have B1 := hide b1
  have W1 := hide (HW.out _ b1)
  clear b1
  go_wp2
  go_ret2
  exact ⟨rfl, W1.out, B1.out.mono hw0⟩
theorem doSET_any (T : List EntD) (nm : ByteArray) (L : List ByteArray) (ao : Option Addr) (cap : Nat) (w0 w : World) (b : Nat) (tb : TypeId) (htb : (tb == 40) = false) (htb9 : (tb == 9) = false) (hT : TabR T) (hW : WorkS tb w w0.heap.size b T) (_hv : RVars w0) (h0 : Below w0.heap.size w0 w) (hks : TextsAt w0 ao L) (hz : ∀ x ∈ L, x.size ≤ 1000000) (hl : 2 ≤ L.length)  (n0 : (nm.toList == [71, 69, 84]) = false) (n1 : (nm.toList == [83, 69, 84]) = true) :
    Calls Tryz.prog 37 #[.pointer (some ⟨b, 0, none⟩), .string nm, .slice ao L.length cap] w (DoP tb w0.heap.size b w (setR T L[0] L[1]).1 (setR T L[0] L[1]).2.1 (setR T L[0] L[1]).2.2) := by
  obtain ⟨b0, off, rfl, hbw, hc0⟩ := textsAt_keep hks h0 0 (by omega)
  obtain ⟨b1, off1, e1, -, hc1⟩ := textsAt_keep hks h0 1 (by omega)
  cases e1
  have hi0 : (0 : Int) < (L.length : Int) := by omega
  rw [Nat.add_zero] at hc0
  have hi1 : (1 : Int) < (L.length : Int) := by omega
  have hN0 : 0 < L.length := by omega
  have hN1 : 1 < L.length := by omega
  have HS := hide (fun W => implSimple_any ⟨#[79, 75]⟩ W (by decide))
  have HC := hide (fun W (h : Below w.heap.size w W) => set_any T L[0] L[1] W w0.heap.size b tb htb htb9 hT (workS_below hW h) (Nat.le_trans h0.size h.size) (by have := hz _ (List.getElem_mem (show 0 < L.length by omega)); omega) (by have := hz _ (List.getElem_mem (show 1 < L.length by omega)); omega))
  have KC := hide (fun X (hX : Below w.heap.size w X) => (And.intro ((hX.cell (p := ⟨b0, off, none⟩) hbw).trans hc0) ((hX.cell (p := ⟨b0, off + 1, none⟩) hbw).trans hc1)))
  have hw0 := h0.size
  clear hT hW _hv h0 hks hz
  go_enter Tryz.func37, Tryz.ntmps37
  go_upto_region 5 with fail
  go_region_law (first | (go_simp; go_at_call 69; go_loud (refine (HS.out _).mono ?_; rintro e w1 ⟨rfl, b1⟩; have E1 : Hid (Below w.heap.size w w1) := (Below.refl _ w).drew.trans b1; obtain ⟨v0, v1⟩ := KC.out _ E1.out; clear b1)) | (go_simp; go_at_call 70; go_loud (refine (HC.out _ E1.out).mono ?_; rintro e w2 ⟨rfl, s2, b2⟩; have S2 := hide s2; have B2 := hide ((E1.out.mono hw0).trans b2); clear s2 b2)))
  all_goals go_wp2
  all_goals go_ret2
  all_goals exact ⟨rfl, S2.out, B2.out⟩
theorem doSETNX_any (T : List EntD) (nm : ByteArray) (L : List ByteArray) (ao : Option Addr) (cap : Nat) (w0 w : World) (b : Nat) (tb : TypeId) (htb : (tb == 40) = false) (htb9 : (tb == 9) = false) (hT : TabR T) (hW : WorkS tb w w0.heap.size b T) (hv : RVars w0) (h0 : Below w0.heap.size w0 w) (hks : TextsAt w0 ao L) (hz : ∀ x ∈ L, x.size ≤ 1000000) (hl : 2 ≤ L.length)  (n0 : (nm.toList == [71, 69, 84]) = false) (n1 : (nm.toList == [83, 69, 84]) = false) (n2 : (nm.toList == [83, 69, 84, 78, 88]) = true) :
    Calls Tryz.prog 37 #[.pointer (some ⟨b, 0, none⟩), .string nm, .slice ao L.length cap] w (DoP tb w0.heap.size b w (setNewF T L[0] L[1]).1 (setNewF T L[0] L[1]).2.1 (setNewF T L[0] L[1]).2.2) := by
  obtain ⟨b0, off, rfl, hbw, hc0⟩ := textsAt_keep hks h0 0 (by omega)
  obtain ⟨b1, off1, e1, -, hc1⟩ := textsAt_keep hks h0 1 (by omega)
  cases e1
  have hi0 : (0 : Int) < (L.length : Int) := by omega
  rw [Nat.add_zero] at hc0
  have hi1 : (1 : Int) < (L.length : Int) := by omega
  have hN0 : 0 < L.length := by omega
  have hN1 : 1 < L.length := by omega
  have HC := hide (fun W (h : Below w.heap.size w W) => setNew_any T L[0] L[1] w0 W b tb htb htb9 hT (workS_below hW h) hv (h0.trans (h.mono h0.size)) (by have := hz _ (List.getElem_mem (show 0 < L.length by omega)); omega) (by have := hz _ (List.getElem_mem (show 1 < L.length by omega)); omega))
  clear hT hW hv h0 hks hz
  go_enter Tryz.func37, Tryz.ntmps37
  go_upto_region 7 with fail
  go_region_law (go_simp; go_at_call 71; go_loud (refine (HC.out _ (Below.refl _ w).drew).mono ?_; rintro e w1 ⟨rfl, s1, b1⟩; have S1 := hide s1; have B1 := hide ((Below.refl _ w).drew.trans b1); clear s1 b1))
  all_goals go_wp2
  all_goals go_ret2
  all_goals exact ⟨rfl, S1.out, B1.out⟩
theorem doGETSET_any (T : List EntD) (nm : ByteArray) (L : List ByteArray) (ao : Option Addr) (cap : Nat) (w0 w : World) (b : Nat) (tb : TypeId) (htb : (tb == 40) = false) (htb9 : (tb == 9) = false) (hT : TabR T) (hW : WorkS tb w w0.heap.size b T) (hv : RVars w0) (h0 : Below w0.heap.size w0 w) (hks : TextsAt w0 ao L) (hz : ∀ x ∈ L, x.size ≤ 1000000) (hl : 2 ≤ L.length)  (n0 : (nm.toList == [71, 69, 84]) = false) (n1 : (nm.toList == [83, 69, 84]) = false) (n2 : (nm.toList == [83, 69, 84, 78, 88]) = false) (n3 : (nm.toList == [71, 69, 84, 83, 69, 84]) = true) :
    Calls Tryz.prog 37 #[.pointer (some ⟨b, 0, none⟩), .string nm, .slice ao L.length cap] w (DoP tb w0.heap.size b w (getSetF T L[0] L[1]).1 (getSetF T L[0] L[1]).2.1 (getSetF T L[0] L[1]).2.2) := by
  obtain ⟨b0, off, rfl, hbw, hc0⟩ := textsAt_keep hks h0 0 (by omega)
  obtain ⟨b1, off1, e1, -, hc1⟩ := textsAt_keep hks h0 1 (by omega)
  cases e1
  have hi0 : (0 : Int) < (L.length : Int) := by omega
  rw [Nat.add_zero] at hc0
  have hi1 : (1 : Int) < (L.length : Int) := by omega
  have hN0 : 0 < L.length := by omega
  have hN1 : 1 < L.length := by omega
  have HC := hide (fun W (h : Below w.heap.size w W) => getSet_any T L[0] L[1] w0 W b tb htb htb9 hT (workS_below hW h) hv (h0.trans (h.mono h0.size)) (by have := hz _ (List.getElem_mem (show 0 < L.length by omega)); omega) (by have := hz _ (List.getElem_mem (show 1 < L.length by omega)); omega))
  clear hT hW hv h0 hks hz
  go_enter Tryz.func37, Tryz.ntmps37
  go_upto_region 9 with fail
  go_region_law (go_simp; go_at_call 72; go_loud (refine (HC.out _ (Below.refl _ w).drew).mono ?_; rintro e w1 ⟨rfl, s1, b1⟩; have S1 := hide s1; have B1 := hide ((Below.refl _ w).drew.trans b1); clear s1 b1))
  all_goals go_wp2
  all_goals go_ret2
  all_goals exact ⟨rfl, S1.out, B1.out⟩
theorem doAPPEND_any (T : List EntD) (nm : ByteArray) (L : List ByteArray) (ao : Option Addr) (cap : Nat) (w0 w : World) (b : Nat) (tb : TypeId) (htb : (tb == 40) = false) (htb9 : (tb == 9) = false) (hT : TabR T) (hW : WorkS tb w w0.heap.size b T) (hv : RVars w0) (h0 : Below w0.heap.size w0 w) (hks : TextsAt w0 ao L) (hz : ∀ x ∈ L, x.size ≤ 1000000) (hl : 2 ≤ L.length)  (n0 : (nm.toList == [71, 69, 84]) = false) (n1 : (nm.toList == [83, 69, 84]) = false) (n2 : (nm.toList == [83, 69, 84, 78, 88]) = false) (n3 : (nm.toList == [71, 69, 84, 83, 69, 84]) = false) (n4 : (nm.toList == [65, 80, 80, 69, 78, 68]) = true) :
    Calls Tryz.prog 37 #[.pointer (some ⟨b, 0, none⟩), .string nm, .slice ao L.length cap] w (DoP tb w0.heap.size b w (addF T L[0] L[1]).1 (addF T L[0] L[1]).2.1 (addF T L[0] L[1]).2.2) := by
  obtain ⟨b0, off, rfl, hbw, hc0⟩ := textsAt_keep hks h0 0 (by omega)
  obtain ⟨b1, off1, e1, -, hc1⟩ := textsAt_keep hks h0 1 (by omega)
  cases e1
  have hi0 : (0 : Int) < (L.length : Int) := by omega
  rw [Nat.add_zero] at hc0
  have hi1 : (1 : Int) < (L.length : Int) := by omega
  have hN0 : 0 < L.length := by omega
  have hN1 : 1 < L.length := by omega
  have HC := hide (fun W (h : Below w.heap.size w W) => add_any T L[0] L[1] w0 W b tb htb htb9 hT (workS_below hW h) hv (h0.trans (h.mono h0.size)) (by have := hz _ (List.getElem_mem (show 0 < L.length by omega)); omega) (by have := hz _ (List.getElem_mem (show 1 < L.length by omega)); omega))
  clear hT hW hv h0 hks hz
  go_enter Tryz.func37, Tryz.ntmps37
  go_upto_region 11 with fail
  go_region_law (go_simp; go_at_call 73; go_loud (refine (HC.out _ (Below.refl _ w).drew).mono ?_; rintro e w1 ⟨rfl, s1, b1⟩; have S1 := hide s1; have B1 := hide ((Below.refl _ w).drew.trans b1); clear s1 b1))
  all_goals go_wp2
  all_goals go_ret2
  all_goals exact ⟨rfl, S1.out, B1.out⟩
theorem doSTRLEN_any (T : List EntD) (nm : ByteArray) (L : List ByteArray) (ao : Option Addr) (cap : Nat) (w0 w : World) (b : Nat) (tb : TypeId) (_htb : (tb == 40) = false) (_htb9 : (tb == 9) = false) (hT : TabR T) (hW : WorkS tb w w0.heap.size b T) (hv : RVars w0) (h0 : Below w0.heap.size w0 w) (hks : TextsAt w0 ao L) (_hz : ∀ x ∈ L, x.size ≤ 1000000) (hl : 1 ≤ L.length)  (n0 : (nm.toList == [71, 69, 84]) = false) (n1 : (nm.toList == [83, 69, 84]) = false) (n2 : (nm.toList == [83, 69, 84, 78, 88]) = false) (n3 : (nm.toList == [71, 69, 84, 83, 69, 84]) = false) (n4 : (nm.toList == [65, 80, 80, 69, 78, 68]) = false) (n5 : (nm.toList == [83, 84, 82, 76, 69, 78]) = true) :
    Calls Tryz.prog 37 #[.pointer (some ⟨b, 0, none⟩), .string nm, .slice ao L.length cap] w (DoP tb w0.heap.size b w (lenR T L[0]).1 (lenR T L[0]).2.1 (lenR T L[0]).2.2) := by
  obtain ⟨b0, off, rfl, hbw, hc0⟩ := textsAt_keep hks h0 0 (by omega)
  rw [Nat.add_zero] at hc0
  have hi0 : (0 : Int) < (L.length : Int) := by omega
  have hN0 : 0 < L.length := by omega
  have HC := hide (length_any T L[0] w w0.heap.size b tb hT hW (rvars_below hv h0))
  have HW := hide (fun W (h : Below w.heap.size w W) => workS_below hW h)
  have hw0 := h0.size
  clear hT hW hv h0 hks _hz
  go_enter Tryz.func37, Tryz.ntmps37
  go_wp2_with fail
  refine HC.out.mono ?_
  rintro e w1 ⟨rfl, b1⟩
  have B1 := hide b1
  have W1 := hide (HW.out _ b1)
  clear b1
  go_wp2
  go_ret2
  exact ⟨rfl, W1.out, B1.out.mono hw0⟩
theorem doMGET_any (T : List EntD) (nm : ByteArray) (L : List ByteArray) (ao : Option Addr) (cap : Nat) (w0 w : World) (b : Nat) (tb : TypeId) (_htb : (tb == 40) = false) (_htb9 : (tb == 9) = false) (hT : TabR T) (hW : WorkS tb w w0.heap.size b T) (hv : RVars w0) (h0 : Below w0.heap.size w0 w) (hks : TextsAt w0 ao L) (_hz : ∀ x ∈ L, x.size ≤ 1000000) (hl : L.length ≤ 1048576)  (n0 : (nm.toList == [71, 69, 84]) = false) (n1 : (nm.toList == [83, 69, 84]) = false) (n2 : (nm.toList == [83, 69, 84, 78, 88]) = false) (n3 : (nm.toList == [71, 69, 84, 83, 69, 84]) = false) (n4 : (nm.toList == [65, 80, 80, 69, 78, 68]) = false) (n5 : (nm.toList == [83, 84, 82, 76, 69, 78]) = false) (n6 : (nm.toList == [73, 78, 67, 82]) = false) (n7 : (nm.toList == [68, 69, 67, 82]) = false) (n8 : (nm.toList == [73, 78, 67, 82, 66, 89]) = false) (n9 : (nm.toList == [68, 69, 67, 82, 66, 89]) = false) (n10 : (nm.toList == [77, 71, 69, 84]) = true) :
    Calls Tryz.prog 37 #[.pointer (some ⟨b, 0, none⟩), .string nm, .slice ao L.length cap] w (DoP tb w0.heap.size b w (mgetR T L).1 (mgetR T L).2.1 (mgetR T L).2.2) := by
  have HC := hide (getEach_any T L ao cap w w0.heap.size b tb hT hW (rvars_below hv h0) hl (textsAt_keep hks h0))
  have HW := hide (fun W (h : Below w.heap.size w W) => workS_below hW h)
  have hw0 := h0.size
  clear hT hW hv h0 hks _hz
  go_enter Tryz.func37, Tryz.ntmps37
  go_wp2_with fail
  refine HC.out.mono ?_
  rintro e w1 ⟨rfl, b1⟩
  have B1 := hide b1
  have W1 := hide (HW.out _ b1)
  clear b1
  go_wp2
  go_ret2
  exact ⟨rfl, W1.out, B1.out.mono hw0⟩
theorem doMSET_any (T : List EntD) (nm : ByteArray) (L : List ByteArray) (ao : Option Addr) (cap : Nat) (w0 w : World) (b : Nat) (tb : TypeId) (htb : (tb == 40) = false) (htb9 : (tb == 9) = false) (hT : TabR T) (hW : WorkS tb w w0.heap.size b T) (_hv : RVars w0) (h0 : Below w0.heap.size w0 w) (hks : TextsAt w0 ao L) (hz : ∀ x ∈ L, x.size ≤ 1000000) (n : Nat) (hn : L.length = 2 * n) (hl : L.length ≤ 1048576)  (n0 : (nm.toList == [71, 69, 84]) = false) (n1 : (nm.toList == [83, 69, 84]) = false) (n2 : (nm.toList == [83, 69, 84, 78, 88]) = false) (n3 : (nm.toList == [71, 69, 84, 83, 69, 84]) = false) (n4 : (nm.toList == [65, 80, 80, 69, 78, 68]) = false) (n5 : (nm.toList == [83, 84, 82, 76, 69, 78]) = false) (n6 : (nm.toList == [73, 78, 67, 82]) = false) (n7 : (nm.toList == [68, 69, 67, 82]) = false) (n8 : (nm.toList == [73, 78, 67, 82, 66, 89]) = false) (n9 : (nm.toList == [68, 69, 67, 82, 66, 89]) = false) (n10 : (nm.toList == [77, 71, 69, 84]) = false) (n11 : (nm.toList == [77, 83, 69, 84]) = true) :
    Calls Tryz.prog 37 #[.pointer (some ⟨b, 0, none⟩), .string nm, .slice ao L.length cap] w (DoP tb w0.heap.size b w (msetR T L).1 (msetR T L).2.1 (msetR T L).2.2) := by
  have HS := hide (implSimple_any ⟨#[79, 75]⟩ w (by decide))
  have HC := hide (fun W (h : Below w.heap.size w W) => setEach_any T L ao cap w0 W b tb htb htb9 hT (workS_below hW h) (h0.trans (h.mono h0.size)) n hn hl hks (fun x hx => by have := hz x hx; omega))
  have hw0 := h0.size
  clear hT hW _hv h0 hks hz hn
  go_enter Tryz.func37, Tryz.ntmps37
  go_wp2_with fail
  refine HS.out.mono ?_
  rintro e w1 ⟨rfl, b1⟩
  have E1 := hide b1
  clear b1
  go_wp2_with fail
  refine (HC.out w1 E1.out).mono ?_
  rintro e w2 ⟨rfl, s2, b2⟩
  have S2 := hide s2
  have B2 := hide ((E1.out.mono hw0).trans b2)
  clear s2 b2
  go_wp2
  go_ret2
  exact ⟨rfl, S2.out, B2.out⟩
theorem doOther_any (b : Nat) (nm : ByteArray) (sv x : Value) (w : World) (hx : ∃ tp p, x = .iface tp p) (hg : w.cell? ⟨0, 0, none⟩ = some x) (n0 : (nm.toList == [71, 69, 84]) = false) (n1 : (nm.toList == [83, 69, 84]) = false) (n2 : (nm.toList == [83, 69, 84, 78, 88]) = false) (n3 : (nm.toList == [71, 69, 84, 83, 69, 84]) = false) (n4 : (nm.toList == [65, 80, 80, 69, 78, 68]) = false) (n5 : (nm.toList == [83, 84, 82, 76, 69, 78]) = false) (n6 : (nm.toList == [73, 78, 67, 82]) = false) (n7 : (nm.toList == [68, 69, 67, 82]) = false) (n8 : (nm.toList == [73, 78, 67, 82, 66, 89]) = false) (n9 : (nm.toList == [68, 69, 67, 82, 66, 89]) = false) (n10 : (nm.toList == [77, 71, 69, 84]) = false) (n11 : (nm.toList == [77, 83, 69, 84]) = false) :
    Calls Tryz.prog 37 #[.pointer (some ⟨b, 0, none⟩), .string nm, sv] w fun e w' => e = .returned (.tuple #[.string ⟨#[]⟩, x]) ∧ Below w.heap.size w w' := by
  obtain ⟨tp, p, rfl⟩ := hx
  go_enter Tryz.func37, Tryz.ntmps37
  go_upto_region 26 with fail
  go_region_law (fail)
  all_goals go_wp2
  all_goals go_ret2
  all_goals exact ⟨rfl, (Below.refl _ w).drew⟩
theorem nine_bytes (l : List UInt8) (h : l.length = 9) : ∃ a b c d e f g i j, l = [a, b, c, d, e, f, g, i, j] := by
  match l, h with
  | [a, b, c, d, e, f, g, i, j], _ => exact ⟨a, b, c, d, e, f, g, i, j, rfl⟩
theorem eq_one (d : Nat) (a b : UInt8) (w : World) : (Op.equalIn (d + 1) 5 (b8 a) (b8 b)).run Tryz.prog w = .ok (decide (a = b)) w := by
  unfold b8
  rw [run_equalIn_int (P := Tryz.prog) w d 5 .u8 .u8 _ _ Tryz.underlying5]
  congr 1
  by_cases h : a = b
  · subst h
    simp
  · rw [decide_eq_false h, beq_eq_false_iff_ne]
    intro e
    exact h (UInt8.toNat_inj.1 (by omega))
theorem eq_nine (d : Nat) (he : ∀ (a b : UInt8) (w : World), (Op.equalIn d 5 (b8 a) (b8 b)).run Tryz.prog w = .ok (decide (a = b)) w) (w : World) (a0 a1 a2 a3 a4 a5 a6 a7 a8 b0 b1 b2 b3 b4 b5 b6 b7 b9 : UInt8) :
    (Op.equalIn (d + 1) 125 (.agg #[b8 a0, b8 a1, b8 a2, b8 a3, b8 a4, b8 a5, b8 a6, b8 a7, b8 a8]) (.agg #[b8 b0, b8 b1, b8 b2, b8 b3, b8 b4, b8 b5, b8 b6, b8 b7, b8 b9])).run Tryz.prog w = .ok (decide ([a0, a1, a2, a3, a4, a5, a6, a7, a8] = [b0, b1, b2, b3, b4, b5, b6, b7, b9])) w := by
  have hs : (Tryz.prog.info? 5).map (·.size) = some 1 := Tryz.infoBy
  cases hq : Tryz.prog.info? 5 with
  | none => simp [hq] at hs
  | some i =>
    have hi : i.size = 1 := by simpa [hq] using hs
    have hp : ∀ (cs : Array Value) (k : Nat) (v : Value) (w : World), cs[k]? = some v → (part 5 cs k).run Tryz.prog w = .ok v w := by
      intro cs k v w h
      simp [part, isAgg, run_underlying Tryz.underlying5, h]
    have p0 : ∀ (x0 x1 x2 x3 x4 x5 x6 x7 x8 : Value) (w : World), (part 5 #[x0, x1, x2, x3, x4, x5, x6, x7, x8] 0).run Tryz.prog w = .ok x0 w := fun _ _ _ _ _ _ _ _ _ _ => hp _ _ _ _ rfl
    have p1 : ∀ (x0 x1 x2 x3 x4 x5 x6 x7 x8 : Value) (w : World), (part 5 #[x0, x1, x2, x3, x4, x5, x6, x7, x8] 1).run Tryz.prog w = .ok x1 w := fun _ _ _ _ _ _ _ _ _ _ => hp _ _ _ _ rfl
    have p2 : ∀ (x0 x1 x2 x3 x4 x5 x6 x7 x8 : Value) (w : World), (part 5 #[x0, x1, x2, x3, x4, x5, x6, x7, x8] 2).run Tryz.prog w = .ok x2 w := fun _ _ _ _ _ _ _ _ _ _ => hp _ _ _ _ rfl
    have p3 : ∀ (x0 x1 x2 x3 x4 x5 x6 x7 x8 : Value) (w : World), (part 5 #[x0, x1, x2, x3, x4, x5, x6, x7, x8] 3).run Tryz.prog w = .ok x3 w := fun _ _ _ _ _ _ _ _ _ _ => hp _ _ _ _ rfl
    have p4 : ∀ (x0 x1 x2 x3 x4 x5 x6 x7 x8 : Value) (w : World), (part 5 #[x0, x1, x2, x3, x4, x5, x6, x7, x8] 4).run Tryz.prog w = .ok x4 w := fun _ _ _ _ _ _ _ _ _ _ => hp _ _ _ _ rfl
    have p5 : ∀ (x0 x1 x2 x3 x4 x5 x6 x7 x8 : Value) (w : World), (part 5 #[x0, x1, x2, x3, x4, x5, x6, x7, x8] 5).run Tryz.prog w = .ok x5 w := fun _ _ _ _ _ _ _ _ _ _ => hp _ _ _ _ rfl
    have p6 : ∀ (x0 x1 x2 x3 x4 x5 x6 x7 x8 : Value) (w : World), (part 5 #[x0, x1, x2, x3, x4, x5, x6, x7, x8] 6).run Tryz.prog w = .ok x6 w := fun _ _ _ _ _ _ _ _ _ _ => hp _ _ _ _ rfl
    have p7 : ∀ (x0 x1 x2 x3 x4 x5 x6 x7 x8 : Value) (w : World), (part 5 #[x0, x1, x2, x3, x4, x5, x6, x7, x8] 7).run Tryz.prog w = .ok x7 w := fun _ _ _ _ _ _ _ _ _ _ => hp _ _ _ _ rfl
    have p8 : ∀ (x0 x1 x2 x3 x4 x5 x6 x7 x8 : Value) (w : World), (part 5 #[x0, x1, x2, x3, x4, x5, x6, x7, x8] 8).run Tryz.prog w = .ok x8 w := fun _ _ _ _ _ _ _ _ _ _ => hp _ _ _ _ rfl
    simp [Op.equalIn, run_underlying Tryz.underlying125, sizeOf, typeInfo, hq, hi]
    simp [List.range', Sem.run_bind, p0, p1, p2, p3, p4, p5, p6, p7, p8, he]
    by_cases h0 : a0 = b0
    · by_cases h1 : a1 = b1
      · by_cases h2 : a2 = b2
        · by_cases h3 : a3 = b3
          · by_cases h4 : a4 = b4
            · by_cases h5 : a5 = b5
              · by_cases h6 : a6 = b6
                · by_cases h7 : a7 = b7
                  · by_cases h8 : a8 = b9
                    · simp [h0, h1, h2, h3, h4, h5, h6, h7, h8]
                    · simp [h0, h1, h2, h3, h4, h5, h6, h7, h8]
                  · simp [h0, h1, h2, h3, h4, h5, h6, h7]
                · simp [h0, h1, h2, h3, h4, h5, h6]
              · simp [h0, h1, h2, h3, h4, h5]
            · simp [h0, h1, h2, h3, h4]
          · simp [h0, h1, h2, h3]
        · simp [h0, h1, h2]
      · simp [h0, h1]
    · simp [h0]
theorem eql_names (s t : ByteArray) (w : World) : (binOp .eql 125 (.agg (nmC s)) (.agg (nmC t))).run Tryz.prog w = .ok (.bool (decide (padN s = padN t))) w := by
  obtain ⟨a0, a1, a2, a3, a4, a5, a6, a7, a8, ha⟩ := nine_bytes _ (padN_length s)
  obtain ⟨b0, b1, b2, b3, b4, b5, b6, b7, b9, hb⟩ := nine_bytes _ (padN_length t)
  rw [run_eql_struct]
  unfold nmC
  rw [ha, hb]
  have := eq_nine 9999 (eq_one 9998) w a0 a1 a2 a3 a4 a5 a6 a7 a8 b0 b1 b2 b3 b4 b5 b6 b7 b9
  rw [show (10000 : Nat) = 9999 + 1 from rfl]
  simp only [List.map_cons, List.map_nil]
  rw [this]
  rfl
theorem names_same {s X : ByteArray} (hs : s ∈ cmdsL) (hX : nmT X = X) : decide (padN s = padN X) = decide (s = X) := by
  have h := nmC_eq hX hs
  by_cases e : s = X
  · rw [e]
    simp
  · rw [decide_eq_false e, decide_eq_false]
    intro h2
    exact e (h.1 (by unfold nmC; rw [h2]))
def readsL : List ByteArray := [⟨#[80, 73, 78, 71]⟩, ⟨#[69, 67, 72, 79]⟩, ⟨#[71, 69, 84]⟩, ⟨#[83, 84, 82, 76, 69, 78]⟩, ⟨#[77, 71, 69, 84]⟩, ⟨#[69, 88, 73, 83, 84, 83]⟩, ⟨#[84, 89, 80, 69]⟩, ⟨#[84, 84, 76]⟩, ⟨#[75, 69, 89, 83]⟩, ⟨#[68, 66, 83, 73, 90, 69]⟩, ⟨#[76, 76, 69, 78]⟩, ⟨#[76, 82, 65, 78, 71, 69]⟩, ⟨#[76, 73, 78, 68, 69, 88]⟩, ⟨#[72, 71, 69, 84]⟩, ⟨#[72, 76, 69, 78]⟩, ⟨#[72, 71, 69, 84, 65, 76, 76]⟩, ⟨#[72, 75, 69, 89, 83]⟩, ⟨#[83, 73, 83, 77, 69, 77, 66, 69, 82]⟩, ⟨#[83, 67, 65, 82, 68]⟩, ⟨#[83, 77, 69, 77, 66, 69, 82, 83]⟩]
def writesS (ts : List ByteArray) : Bool := match ts with | [] => false | x :: _ => inB cmdsL (upT x) && !inB readsL (upT x)
def effS (x : ByteArray) : Int := if inB readsL x then 0 else 1
theorem effs_alike : ∀ p ∈ cmdsL.zip cmdsK, effS p.1 = p.2.2 := by decide +kernel
end Go.Proofs.YtifjneldjjmeaaaGreatDoor
