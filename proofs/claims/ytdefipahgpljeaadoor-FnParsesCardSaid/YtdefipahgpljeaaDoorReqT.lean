/- Requests as texts: what RequestText writes, on both sides. -/
import Derived.Test.YtdefipahgpljeaaDoorReqI4
import Derived.Test.YtdefipahgpljeaaDoorSegN
namespace Go.Proofs.YtdefipahgpljeaaDoor
open Go.RowKit

/-- A number's decimal text. -/
def decB (n : Nat) : ByteArray := ⟨(Wd.decS (n : Int)).toArray⟩
def crlfB : ByteArray := ⟨#[13, 10]⟩
/-- A mark, a number, CR and LF. -/
def headB (m : ByteArray) (n : Nat) : ByteArray := (m ++ decB n) ++ crlfB
/-- One argument. -/
def argB (x : ByteArray) : ByteArray := (headB ⟨#[36]⟩ x.size ++ x) ++ crlfB
def argsB : ByteArray → List ByteArray → ByteArray
  | s, [] => s
  | s, x :: r => argsB (s ++ argB x) r
/-- The text of a request. -/
def reqT (ts : List ByteArray) : ByteArray := argsB (headB ⟨#[42]⟩ ts.length) ts
def reqR (ts : List ByteArray) : ByteArray := if okTs ts = true then reqT ts else ⟨#[]⟩
theorem decB_size {n : Nat} (h : n ≤ 99) : (decB n).size ≤ 2 := decS_len n h
theorem headB_size {m : ByteArray} {n : Nat} (hm : m.size ≤ 1) (h : n ≤ 99) : (headB m n).size ≤ 5 := by
  have := decB_size h
  unfold headB
  simp only [ByteArray.size_append]
  have : crlfB.size = 2 := rfl
  omega
theorem argB_size {x : ByteArray} (h : x.size ≤ 60) : (argB x).size ≤ 67 := by
  have := headB_size (m := ⟨#[36]⟩) (n := x.size) (by show 1 ≤ 1; omega) (by omega)
  unfold argB
  simp only [ByteArray.size_append]
  have : crlfB.size = 2 := rfl
  omega
theorem argB_cat (s x : ByteArray) : ((((s ++ ⟨#[36]⟩) ++ decB x.size) ++ crlfB) ++ x) ++ crlfB = s ++ argB x := by
  unfold argB headB
  simp only [ByteArray.append_assoc]

set_option maxRecDepth 100000 in
theorem headLine_any (m : ByteArray) (n : Nat) (w : World) (hm : m.size ≤ 1) (h : n ≤ 99) : Calls Tryd.prog 19 #[.string m, .int .i64 (n : Int)] w fun e w' => e = .returned (.string (headB m n)) ∧ w' = w := by
  have HD : Hid (∀ W, Calls Tryd.prog 32 #[.int .i64 (n : Int)] W fun e w' => e = .returned (.string (decB n)) ∧ w' = W) := fun W => implDec_small n W (by omega)
  have HE : Hid (headB m n = (m ++ decB n) ++ ⟨#[13, 10]⟩) := rfl
  have hd := decB_size h
  generalize decB n = D at HD HE hd
  rw [HE.out]
  go_enter Tryd.func19, Tryd.ntmps19
  go_wp2_with (go_at_call 32; refine (HD.out _).mono ?_; rintro e w' ⟨rfl, rfl⟩)
  go_ret
  exact ⟨rfl, rfl⟩

theorem argsB_next {ts : List ByteArray} {k : Nat} {S x : ByteArray} (h : k < ts.length) (hx : ts[k] = x) : argsB S (ts.drop k) = argsB (S ++ argB x) (ts.drop (k + 1)) := by
  rw [List.drop_eq_getElem_cons h, hx, argsB]
theorem argsB_end {ts : List ByteArray} {k : Nat} {S : ByteArray} (h : ts.length ≤ k) : argsB S (ts.drop k) = S := by
  rw [List.drop_eq_nil_of_le h, argsB]

set_option maxRecDepth 100000 in
set_option maxHeartbeats 1000000 in
theorem implReqText_any (ts : List ByteArray) (ao : Option Addr) (cap : Nat) (w : World) (hl : ts.length ≤ 1048576) (hts : TextsAt w ao ts) (hz : ∀ x ∈ ts, x.size ≤ 1048576) :
    Calls Tryd.prog 7 #[.slice ao ts.length cap] w fun e w' => e = .returned (.tuple #[.string (reqR ts), .bool (okTs ts)]) ∧ Below w.heap.size w w' := by
  have HO := hide (argsOk_any ts ao cap w hl hts hz)
  have HT := hide hts
  clear hts hz
  by_cases hok : okTs ts = true
  · have h8 : ts.length ≤ 8 ∧ ∀ x ∈ ts, x.size ≤ 60 := by
      unfold okTs at hok
      simp only [Bool.and_eq_true, decide_eq_true_eq, List.all_eq_true] at hok
      exact hok
    have HZ := hide h8.2
    have h8l := h8.1
    clear h8
    obtain ⟨R, HR⟩ : ∃ R, Hid (reqT ts = R) := ⟨_, rfl⟩
    have HRR : Hid (reqR ts = R) := by show _ = _; unfold reqR; rw [if_pos hok]; exact HR.out
    rw [hok] at HO ⊢
    rw [HRR.out]
    clear HRR hok
    have HH := hide (fun W => headLine_any ⟨#[42]⟩ ts.length W (by show 1 ≤ 1; omega) (by omega))
    obtain ⟨S0, HS0⟩ : ∃ S0, Hid (headB ⟨#[42]⟩ ts.length = S0) := ⟨_, rfl⟩
    have hS0 : S0.size ≤ 5 := by rw [← HS0.out]; exact headB_size (by show 1 ≤ 1; omega) (by omega)
    have HR0 : Hid (argsB S0 ts = R) := by show _ = _; rw [← HS0.out]; exact HR.out
    rw [HS0.out] at HH
    clear HR HS0
    go_enter Tryd.func7, Tryd.ntmps7
    go_wp2_with (first | (go_at_call 18; refine (HO.out).mono ?_; rintro e w1 ⟨rfl, rfl⟩) | (go_at_call 19; refine (HH.out _).mono ?_; rintro e w1 ⟨rfl, rfl⟩))
    go_loop [4, 15] (fun tt ii => ∃ (k : Nat) (S : ByteArray), tt = .string S ∧ ii = .int .i64 k ∧ k ≤ ts.length ∧ S.size ≤ 5 + 67 * k ∧ Hid (argsB S (ts.drop k) = R)) (fun _ ii => ts.length - (intOf ii).toNat)
    case atStart => exact ⟨0, S0, rfl, rfl, Nat.zero_le _, by omega, HR0⟩
    case round =>
      obtain ⟨k, S, rfl, rfl, hk, hS, HA⟩ := hrel
      by_cases hlt : k < ts.length
      · have hlt' : decide ((k : Int) < (ts.length : Int)) = true := by simp; omega
        obtain ⟨b, off, hao, hbw, hcell⟩ := HT.out k hlt
        subst hao
        have hi0 : (0 : Int) ≤ (k : Int) := by omega
        have hi1 : (k : Int) < (ts.length : Int) := by omega
        have hxz := HZ.out ts[k] (List.getElem_mem hlt)
        obtain ⟨x, hx⟩ : ∃ x, Hid (ts[k] = x) := ⟨ts[k], rfl⟩
        rw [hx.out] at hcell hxz
        have HN : Hid (argsB (S ++ argB x) (ts.drop (k + 1)) = R) := by show _ = _; rw [← HA.out, argsB_next hlt hx.out]
        have HX := hide (fun W => headLine_any ⟨#[36]⟩ x.size W (by show 1 ≤ 1; omega) (by omega))
        obtain ⟨D, HD⟩ : ∃ D, Hid (headB ⟨#[36]⟩ x.size = D) := ⟨_, rfl⟩
        have hDz : D.size ≤ 5 := by rw [← HD.out]; exact headB_size (by show 1 ≤ 1; omega) (by omega)
        have HAB : Hid (argB x = (D ++ x) ++ ⟨#[13, 10]⟩) := by show _ = _; unfold argB; rw [HD.out]; rfl
        have hAz := argB_size hxz
        rw [HAB.out] at hAz HN
        rw [HD.out] at HX
        have hc2 : (⟨#[13, 10]⟩ : ByteArray).size = 2 := rfl
        clear HD
        go_wp2_with (go_at_call 19; refine (HX.out _).mono ?_; rintro e w1 ⟨rfl, rfl⟩)
        go_round
        case rel => exact ⟨k + 1, _, rfl, by go_num, by omega, by rw [ByteArray.size_append]; omega, HN⟩
        case measure => simp [intOf]; omega
      · have hfin : Hid (S = R) := by show _ = _; rw [← HA.out, argsB_end (by omega)]
        go_wp2
        go_ret2
        rw [hfin.out]
        exact ⟨rfl, Below.refl _ _⟩
  · have hok' : okTs ts = false := by simpa using hok
    have HRR : Hid (reqR ts = ⟨#[]⟩) := by show _ = _; unfold reqR; rw [if_neg hok]
    rw [hok'] at HO ⊢
    rw [HRR.out]
    go_enter Tryd.func7, Tryd.ntmps7
    go_wp2_with (go_at_call 18; refine (HO.out).mono ?_; rintro e w1 ⟨rfl, rfl⟩)
    go_ret2
    exact ⟨rfl, Below.refl _ _⟩

set_option maxRecDepth 100000 in
set_option maxHeartbeats 1000000 in
theorem specReqText_any (ts : List ByteArray) (ao : Option Addr) (cap : Nat) (w : World) (hl : ts.length ≤ 1048576) (hts : TextsAt w ao ts) (hz : ∀ x ∈ ts, x.size ≤ 1048576) :
    Calls Tryd.prog 36 #[.slice ao ts.length cap] w fun e w' => e = .returned (.tuple #[.string (reqR ts), .bool (okTs ts)]) ∧ Below w.heap.size w w' := by
  have HT := hide hts
  have HZ := hide hz
  clear hts hz
  by_cases h8 : 8 < ts.length
  · have h8' : decide (8 < (ts.length : Int)) = true := by simp; omega
    have hok : okTs ts = false := by unfold okTs; rw [decide_eq_false (by omega)]; rfl
    have HRR : Hid (reqR ts = ⟨#[]⟩) := by show _ = _; unfold reqR; rw [if_neg (by rw [hok]; decide)]
    rw [hok, HRR.out]
    go_enter Tryd.func36, Tryd.ntmps36
    go_wp2
    go_ret2
    exact ⟨rfl, Below.refl _ _⟩
  · have h8' : decide (8 < (ts.length : Int)) = false := by simp; omega
    have HOK : Hid (okTs ts = ts.all (fun x => decide (x.size ≤ 60))) := by show _ = _; unfold okTs; rw [decide_eq_true (by omega)]; rfl
    have HH : Hid (∀ W, Calls Tryd.prog 40 #[.int .i64 (ts.length : Int)] W fun e w' => e = .returned (.string (decB ts.length)) ∧ Below W.heap.size W w') := fun W => decimal_any _ W (by omega) (by omega)
    have hdz := decB_size (n := ts.length) (by omega)
    have HS0 : Hid (reqT ts = argsB ((⟨#[42]⟩ ++ decB ts.length) ++ ⟨#[13, 10]⟩) ts) := rfl
    generalize decB ts.length = D0 at HH hdz HS0
    have hc1 : (⟨#[42]⟩ : ByteArray).size = 1 := rfl
    have hc2 : (⟨#[13, 10]⟩ : ByteArray).size = 2 := rfl
    have hc3 : (⟨#[36]⟩ : ByteArray).size = 1 := rfl
    go_enter Tryd.func36, Tryd.ntmps36
    go_wp2_with (go_at_call 40; refine (HH.out _).mono ?_; rintro e w1 ⟨rfl, b1⟩)
    have hS0 : (((⟨#[42]⟩ : ByteArray) ++ D0) ++ ⟨#[13, 10]⟩).size ≤ 5 := by rw [ByteArray.size_append, ByteArray.size_append]; omega
    generalize ((⟨#[42]⟩ : ByteArray) ++ D0) ++ ⟨#[13, 10]⟩ = S0 at hS0 HS0
    have B1 := hide b1
    clear b1 HH hdz
    go_loopw [4, 5] (fun tt ii wr => ∃ (k : Nat) (S : ByteArray), tt = .string S ∧ ii = .int .i64 k ∧ k ≤ ts.length ∧ S.size ≤ 5 + 67 * k ∧ Hid (argsB S (ts.drop k) = reqT ts) ∧ Hid (∀ j (hj : j < ts.length), j < k → ts[j].size ≤ 60) ∧ Hid (Below w.heap.size w wr)) (fun _ ii _ => ts.length - (intOf ii).toNat)
    case atStart => exact ⟨0, S0, rfl, rfl, Nat.zero_le _, by omega, HS0.out.symm, fun j _ hj => absurd hj (by omega), B1⟩
    case round =>
      obtain ⟨k, S, rfl, rfl, hk, hS, HA, H60, HB⟩ := hrel
      by_cases hlt : k < ts.length
      · have hlt' : decide ((k : Int) < (ts.length : Int)) = true := by simp; omega
        obtain ⟨b, off, hao, hbw, hcell⟩ := textsAt_keep HT.out HB.out k hlt
        subst hao
        have hi0 : (0 : Int) ≤ (k : Int) := by omega
        have hi1 : (k : Int) < (ts.length : Int) := by omega
        have hxz := HZ.out ts[k] (List.getElem_mem hlt)
        obtain ⟨x, hx⟩ : ∃ x, Hid (ts[k] = x) := ⟨ts[k], rfl⟩
        rw [hx.out] at hcell hxz
        by_cases h60 : 60 < x.size
        · have h60' : decide (60 < (x.size : Int)) = true := by simp; omega
          have hok : Hid (okTs ts = false) := by
            show _ = _
            rw [HOK.out, List.all_eq_false]
            exact ⟨ts[k], List.getElem_mem hlt, by rw [hx.out]; simp; omega⟩
          have HRR : Hid (reqR ts = ⟨#[]⟩) := by show _ = _; unfold reqR; rw [if_neg (by rw [hok.out]; decide)]
          go_wp2
          go_ret2
          rw [hok.out, HRR.out]
          exact ⟨rfl, HB.out⟩
        · have h60' : decide (60 < (x.size : Int)) = false := by simp; omega
          have HN : Hid (argsB (S ++ argB x) (ts.drop (k + 1)) = reqT ts) := by show _ = _; rw [← HA.out, argsB_next hlt hx.out]
          have HCT := hide (argB_cat S x)
          have hAz := argB_size (x := x) (by omega)
          have HX : Hid (∀ W, Calls Tryd.prog 40 #[.int .i64 (x.size : Int)] W fun e w' => e = .returned (.string (decB x.size)) ∧ Below W.heap.size W w') := fun W => decimal_any _ W (by omega) (by omega)
          have hDz := decB_size (n := x.size) (by omega)
          have HCC : Hid (((((S ++ ⟨#[36]⟩) ++ decB x.size) ++ ⟨#[13, 10]⟩) ++ x) ++ ⟨#[13, 10]⟩ = S ++ argB x) := HCT.out
          obtain ⟨D, HD⟩ : ∃ D, Hid (decB x.size = D) := ⟨_, rfl⟩
          rw [HD.out] at HX hDz HCC
          have m1 : ¬ (9223372036854775807 < S.size + 1) := by omega
          have m2 : ¬ (9223372036854775807 < S.size + 1 + D.size) := by omega
          have m3 : ¬ (9223372036854775807 < S.size + 1 + D.size + 2) := by omega
          have m4 : ¬ (9223372036854775807 < S.size + 1 + D.size + 2 + x.size) := by omega
          have m5 : ¬ (9223372036854775807 < S.size + 1 + D.size + 2 + x.size + 2) := by omega
          have KS : Hid (∀ X, Below wr.heap.size wr X → X.cell? ⟨b, off + k, none⟩ = some (.string x)) := fun X hX => (hX.cell (p := ⟨b, off + k, none⟩) hbw).trans hcell
          clear HD HCT
          go_wp2_with fail
          go_region_held3 (fun w' => w'.cell? ⟨b, off + k, none⟩ = some (.string x)) (first | (exact KS.out _ (Below.refl _ _)) | (exact KS.out _ (Below.refl _ _).drew) | (exact KS.out _ ((Below.refl _ _).drew.trans b2)) | fail) ((go_at_call 40; refine (HX.out _).mono ?_; rintro e w2 ⟨rfl, b2⟩))
          go_wp2
          go_roundw
          case rel =>
            refine ⟨k + 1, _, rfl, by go_num, by omega, ?_, ?_, fun j hj hjk => ?_, HB.out.trans (((Below.refl _ _).drew.trans b2).mono HB.out.size)⟩
            · rw [HCC.out, ByteArray.size_append]; omega
            · show _ = _
              rw [HCC.out]; exact HN.out
            · by_cases e : j = k
              · subst e; rw [hx.out]; omega
              · exact H60.out j hj (by omega)
          case measure => simp [intOf]; omega
      · have hok : Hid (okTs ts = true) := by
          show _ = _
          rw [HOK.out, List.all_eq_true]
          intro x hx
          obtain ⟨j, hj, rfl⟩ := List.mem_iff_getElem.1 hx
          exact decide_eq_true (H60.out j hj (by omega))
        have hfin : Hid (S = reqR ts) := by show _ = _; unfold reqR; rw [if_pos hok.out, ← HA.out, argsB_end (by omega)]
        go_wp2
        go_ret2
        rw [hok.out, ← hfin.out]
        exact ⟨rfl, HB.out⟩
end Go.Proofs.YtdefipahgpljeaaDoor
