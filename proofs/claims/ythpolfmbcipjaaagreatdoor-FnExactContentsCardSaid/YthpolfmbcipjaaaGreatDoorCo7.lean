import Derived.Test.YthpolfmbcipjaaaGreatDoorCo6
import Derived.Test.YthpolfmbcipjaaaGreatDoorCo0
import Derived.Test.YthpolfmbcipjaaaGreatDoorCo2
set_option maxRecDepth 100000
set_option maxHeartbeats 1000000
namespace Go.Proofs.YthpolfmbcipjaaaGreatDoor
open Go.RowKit
def sizeD (q : Int) (fs : List ChangeD) : Nat := if 1 ≤ (textD q fs).size then (frameB (textD q fs)).size else 0
theorem textD_small (q : Int) (fs : List ChangeD) : (textD q fs).size ≤ 9000 := by
  unfold textD
  split
  · rename_i h
    unfold textOkD at h
    simp only [Bool.and_eq_true, decide_eq_true_eq] at h
    exact h.2
  · exact Nat.zero_le _
def batchesOf (s : ByteArray) (l : List (Nat × Nat)) : List BatchD := l.map fun x => ⟨rdSeq (s.extract x.1 x.2), rdChanges (s.extract x.1 x.2)⟩
theorem batchesOf_snoc (s : ByteArray) (l : List (Nat × Nat)) (x : Nat × Nat) : batchesOf s (l ++ [x]) = batchesOf s l ++ [⟨rdSeq (s.extract x.1 x.2), rdChanges (s.extract x.1 x.2)⟩] := by simp [batchesOf]
theorem batchesOf_len (s : ByteArray) (l : List (Nat × Nat)) : (batchesOf s l).length = l.length := by simp [batchesOf]
def plsB : Nat → List BatchD → List Nat
  | _, [] => []
  | e, b :: r => e :: plsB (e + sizeD b.seq b.chs) r
theorem plsB_len : ∀ (l : List BatchD) (e : Nat), (plsB e l).length = l.length
  | [], _ => rfl
  | b :: r, e => by simp [plsB, plsB_len r]
theorem plsB_shift (h : Nat) : ∀ (l : List BatchD) (e : Nat), plsB (h + e) l = (plsB e l).map (h + ·)
  | [], _ => rfl
  | b :: r, e => by
    simp only [plsB, List.map_cons]
    rw [Nat.add_assoc, plsB_shift h r]
def plsOf : Nat → List (Nat × Nat) → List Nat
  | _, [] => []
  | e, x :: r => e :: plsOf x.2 r
theorem plsOf_len : ∀ (l : List (Nat × Nat)) (e : Nat), (plsOf e l).length = l.length
  | [], _ => rfl
  | x :: r, e => by simp [plsOf, plsOf_len r]
theorem plsOf_snoc2 (y : Nat × Nat) : ∀ (l : List (Nat × Nat)) (x : Nat × Nat) (e : Nat), plsOf e (x :: l ++ [y]) = plsOf e (x :: l) ++ [endOf (x :: l)]
  | [], x, e => rfl
  | z :: l, x, e => by
    have h := plsOf_snoc2 y l z x.2
    have h2 : endOf (x :: z :: l) = endOf (z :: l) := by simp [endOf, List.getLast?_cons]
    rw [h2]
    show e :: plsOf x.2 (z :: l ++ [y]) = e :: (plsOf x.2 (z :: l) ++ [endOf (z :: l)])
    rw [h]
theorem plsOf_snoc (l : List (Nat × Nat)) (x : Nat × Nat) : plsOf 0 (l ++ [x]) = plsOf 0 l ++ [endOf l] := by
  cases l with
  | nil => rfl
  | cons y r => exact plsOf_snoc2 x r y 0
theorem frame_sizeD {s : ByteArray} {i : Nat} {x : Nat × Nat} (h : frB s i = some x) (hr : rdOk (s.extract x.1 x.2) = true) : i + sizeD (rdSeq (s.extract x.1 x.2)) (rdChanges (s.extract x.1 x.2)) = x.2 := by
  obtain ⟨h1, h2, h3⟩ := frB_size h
  unfold sizeD
  rw [(rd_text hr).2, if_pos h2]
  exact h1
theorem plsOf_B (s : ByteArray) : ∀ (l : List (Nat × Nat)) (e : Nat), chained s e l → (∀ x ∈ l, rdOk (s.extract x.1 x.2) = true) → plsOf e l = plsB e (batchesOf s l)
  | [], _, _, _ => rfl
  | x :: r, e, hc, hr => by
    show e :: plsOf x.2 r = e :: plsB (e + sizeD (rdSeq (s.extract x.1 x.2)) (rdChanges (s.extract x.1 x.2))) (batchesOf s r)
    rw [frame_sizeD hc.1 (hr x (List.mem_cons_self ..)), plsOf_B s r x.2 hc.2 (fun y hy => hr y (List.mem_cons_of_mem _ hy))]
theorem chained_take {s : ByteArray} : ∀ (l r : List (Nat × Nat)) (e : Nat), chained s e (l ++ r) → chained s e l
  | [], _, _, _ => trivial
  | x :: l, r, _, h => ⟨h.1, chained_take l r x.2 h.2⟩
def segPls (n : Int) (s : ByteArray) : List Nat := plsB (frameB ⟨(headL n.toNat (segFrom n s)).toArray⟩).size (segBatches n s)
theorem head_frame {n : Int} {s : ByteArray} {x : Nat × Nat} {f : Nat} (h : frB s 0 = some x) (hf : hdFrom n (s.extract x.1 x.2) = some f) : (frameB ⟨(headL n.toNat f).toArray⟩).size = x.2 := by
  rw [← ((hdFrom_iff _ _ _).1 hf).2.2.2]
  have := (frB_size h).1
  omega
theorem segPls_none {n : Int} {s : ByteArray} (h : segRead n s = none) : segPls n s = [] := by
  unfold segPls
  rw [(seg_none h).2.1]
  rfl
theorem segPls_tail {n : Int} {s : ByteArray} {x : Nat × Nat} {r l : List (Nat × Nat)} {f : Nat} (hu : unf s = x :: r) (hf : hdFrom n (s.extract x.1 x.2) = some f) {T : ByteArray} (hT : s.extract x.2 s.size = T)
    (hl : (ris T (frs T (T.size + 1) 0) (-1) 0).1 = batchesOf T l) (hp : ∃ rest, frs T (T.size + 1) 0 = l ++ rest) (hr : ∀ y ∈ l, rdOk (T.extract y.1 y.2) = true) : segPls n s = (plsOf 0 l).map (x.2 + ·) := by
  obtain ⟨rest, hp⟩ := hp
  obtain ⟨h1, h2, h3⟩ := seg_tail hu (-1)
  have hc : chained T 0 l := chained_take l rest 0 (by rw [← hp]; exact frs_chained T _ _)
  obtain ⟨k1, k2, k3, k4⟩ := seg_some (segRead_some hu hf)
  unfold segPls
  rw [k1, k2, head_frame h1 hf, ← h2, hT, hl, plsOf_B T l 0 hc hr, ← plsB_shift, Nat.add_zero]
theorem l01In_yes (x a b : Int) (w : World) (h1 : a ≤ x) (h2 : x ≤ b) :
    Calls Tryz.prog 70 #[.int .i64 x, .int .i64 a, .int .i64 b] w fun e w' => e = .returned (.bool true) ∧ w' = w := by
  have h1' : decide (a ≤ x) = true := by simp; omega
  have h2' : decide (x ≤ b) = true := by simp; omega
  go_enter Tryz.func70, Tryz.ntmps70
  go_wp2
  go_ret
  exact ⟨rfl, rfl⟩
theorem l01In_no (x a b : Int) (w : World) (h : x < a ∨ b < x) :
    Calls Tryz.prog 70 #[.int .i64 x, .int .i64 a, .int .i64 b] w fun e w' => e = .returned (.bool false) ∧ w' = w := by
  by_cases h1 : a ≤ x
  · have h1' : decide (a ≤ x) = true := by simp; omega
    have h2' : decide (x ≤ b) = false := by simp; omega
    go_enter Tryz.func70, Tryz.ntmps70
    go_wp2
    go_ret
    exact ⟨rfl, rfl⟩
  · have h1' : decide (a ≤ x) = false := by simp; omega
    go_enter Tryz.func70, Tryz.ntmps70
    go_wp2
    go_ret
    exact ⟨rfl, rfl⟩
theorem figure_any (x : Int) (w : World) (h0 : 0 ≤ x) (h1 : x < 16) :
    Calls Tryz.prog 143 #[.int .i64 x] w fun e w' => e = .returned (.int .u8 (Wd.figI x)) ∧ w' = w := by
  by_cases h : x < 10
  · rw [Wd.figI_low x h]
    go_enter Tryz.func143, Tryz.ntmps143
    go_wp2
    go_ret
    exact ⟨rfl, rfl⟩
  · rw [Wd.figI_high x h]
    go_enter Tryz.func143, Tryz.ntmps143
    go_wp2
    go_ret
    refine ⟨?_, rfl⟩
    show Ending.returned (.int .u8 (97 + x - 10)) = _
    rw [show 97 + x - 10 = 87 + x from by omega]
theorem dec_zero (w : World) : Calls Tryz.prog 99 #[.int .i64 0] w fun e w' => e = .returned (.string ⟨(Wd.decS 0).toArray⟩) ∧ w' = w := by
  go_enter Tryz.func99, Tryz.ntmps99
  go_wp2
  go_ret
  exact ⟨rfl, rfl⟩
theorem conv_one (W : World) (d : Nat) (hd : d < 16) :
    (convert 110 9 (.slice (some ⟨W.heap.size, 0, none⟩) 1 1)).run Tryz.prog (W.alloc (.cells #[.int .u8 (Wd.figI (d : Int))] 5)) = .ok (.string ⟨#[Wd.figB d]⟩) (W.alloc (.cells #[.int .u8 (Wd.figI (d : Int))] 5)) := by
  refine run_convert_bytes_back (P := Tryz.prog) (W.alloc (.cells #[.int .u8 (Wd.figI (d : Int))] 5)) 110 9 5 ⟨W.heap.size, 0, none⟩ 1 [Wd.figB d] Tryz.underlying110 Tryz.underlying5 Tryz.underlying9 ?_
  intro j hj
  exact cells_new W #[.int .u8 (Wd.figI (d : Int))] 5 j _ (by
    have : j = 0 := by simpa using hj
    subst this
    simp [Wd.figB_val d hd])
theorem dec_pos (n : Nat) (w : World) (h0 : 0 < n) (h1 : n ≤ 9223372036854775807) :
    Calls Tryz.prog 99 #[.int .i64 n] w fun e w' => e = .returned (.string ⟨(Wd.decA 20 n []).toArray⟩) ∧ Below w.heap.size w w' := by
  have hz : ((n : Int) == 0) = false := by simp; omega
  have hneg : decide ((n : Int) < 0) = false := by simp
  go_enter Tryz.func99, Tryz.ntmps99
  go_wp2
  go_loopw [0, 4] (fun t v wr => ∃ (f m : Nat) (acc : List UInt8), t = .int .i64 m ∧ v = .string ⟨acc.toArray⟩ ∧ m < 10 ^ f ∧ m ≤ 9223372036854775807 ∧ acc.length + f = 20 ∧ Hid (Wd.decA f m acc = Wd.decA 20 n []) ∧ Below w.heap.size w wr) (fun t _ _ => (intOf t).toNat)
  case atStart => exact ⟨20, n, [], rfl, rfl, by omega, h1, rfl, rfl, Below.refl _ _⟩
  case round =>
    obtain ⟨f, m, acc, rfl, rfl, hm, hm2, hl, hacc, hb⟩ := hrel
    have hbs := hb.size
    by_cases hlt : 0 < m
    · obtain ⟨f, rfl⟩ : ∃ g, f = g + 1 := by
        cases f with
        | zero => simp at hm; omega
        | succ g => exact ⟨g, rfl⟩
      have hne : ((m : Int) != 0) = true := by simp; omega
      obtain ⟨d, hd, hd10, hdi⟩ : ∃ d : Nat, Hid (m % 10 = d) ∧ d < 10 ∧ (m : Int) % 10 = (d : Int) := ⟨_, rfl, by omega, by omega⟩
      have hfac := hide (Wd.decA_step f m acc (by omega))
      have hdiv : m / 10 < 10 ^ f := Nat.div_lt_of_lt_mul (by rw [Nat.mul_comm, ← Nat.pow_succ]; exact hm)
      have hcv := conv_one wr d (by omega)
      go_wp2_with (go_at_call 143; refine (figure_any _ _ (by omega) (by omega)).mono ?_; rintro e w1 ⟨rfl, rfl⟩)
      go_roundw
      case rel =>
        refine ⟨f, m / 10, Wd.figB d :: acc, by go_num, congrArg Value.string (cat_list [Wd.figB d] acc), hdiv, by omega, by simp; omega, ?_, hb.alloc hbs _⟩
        show _ = _
        rw [← hacc.out, hfac.out, hd.out]
      case measure => simp [intOf]; omega
    · have hm0 : m = 0 := by omega
      subst hm0
      have hfin := hide ((Wd.decA_zero f acc).symm.trans hacc.out)
      go_wp2
      go_ret
      rw [← hfin.out]
      exact ⟨rfl, hb⟩
theorem dec_neg (n : Nat) (w : World) (h0 : 0 < n) (h1 : n ≤ 9223372036854775808) :
    Calls Tryz.prog 99 #[.int .i64 (-(n : Int))] w fun e w' => e = .returned (.string ⟨(45 :: Wd.decA 20 n []).toArray⟩) ∧ Below w.heap.size w w' := by
  have hz : (-(n : Int) == 0) = false := by simp; omega
  have hneg : decide (-(n : Int) < 0) = true := by simp; omega
  have H1 := hide h1
  clear h1
  go_enter Tryz.func99, Tryz.ntmps99
  go_wp2
  go_loopw [0, 4] (fun t v wr => ∃ (f m : Nat) (acc : List UInt8), t = .int .i64 (-(m : Int)) ∧ v = .string ⟨acc.toArray⟩ ∧ m < 10 ^ f ∧ Hid (m ≤ 9223372036854775808) ∧ acc.length + f = 20 ∧ Hid (Wd.decA f m acc = Wd.decA 20 n []) ∧ Below w.heap.size w wr) (fun t _ _ => (- intOf t).toNat)
  case atStart => exact ⟨20, n, [], rfl, rfl, by have := H1.out; omega, H1, rfl, rfl, Below.refl _ _⟩
  case round =>
    obtain ⟨f, m, acc, rfl, rfl, hm, HM2, hl, hacc, hb⟩ := hrel
    have hbs := hb.size
    by_cases hlt : 0 < m
    · obtain ⟨f, rfl⟩ : ∃ g, f = g + 1 := by
        cases f with
        | zero => simp at hm; omega
        | succ g => exact ⟨g, rfl⟩
      have hne : (-(m : Int) != 0) = true := by simp; omega
      obtain ⟨d, hd, hd10, hdi⟩ : ∃ d : Nat, Hid (m % 10 = d) ∧ d < 10 ∧ (-(m : Int)).tmod 10 = -(d : Int) := ⟨_, rfl, by omega, by rw [Int.neg_tmod, Int.tmod_eq_emod_of_nonneg (by omega)]; omega⟩
      obtain ⟨q, hq, hqi⟩ : ∃ q : Nat, Hid (m / 10 = q) ∧ (-(m : Int)).tdiv 10 = -(q : Int) := ⟨_, rfl, by rw [Int.neg_tdiv, Int.tdiv_eq_ediv_of_nonneg (by omega)]; omega⟩
      have hq2 : q ≤ 922337203685477580 := by have := HM2.out; have := hq.out; omega
      have hqm : q < m := by have := hq.out; omega
      have hfac := hide (Wd.decA_step f m acc (by omega))
      have hdiv : q < 10 ^ f := by rw [← hq.out]; exact Nat.div_lt_of_lt_mul (by rw [Nat.mul_comm, ← Nat.pow_succ]; exact hm)
      have hcv := conv_one wr d (by omega)
      by_cases hd0 : 0 < d
      · have hdn : decide (-(d : Int) < 0) = true := by simp; omega
        go_wp2_with (go_at_call 143; refine (figure_any _ _ (by omega) (by omega)).mono ?_; rintro e w1 ⟨rfl, rfl⟩)
        go_roundw
        case rel =>
          refine ⟨f, q, Wd.figB d :: acc, by go_num, congrArg Value.string (cat_list [Wd.figB d] acc), hdiv, by show q ≤ 9223372036854775808; omega, by simp; omega, ?_, hb.alloc hbs _⟩
          show _ = _
          rw [← hacc.out, hfac.out, hd.out, hq.out]
        case measure => simp [intOf]; omega
      · have hd1 : d = 0 := by omega
        subst hd1
        rw [show ((0 : Nat) : Int) = 0 from rfl] at hcv hdi
        go_wp2_with (go_at_call 143; refine (figure_any _ _ (by omega) (by omega)).mono ?_; rintro e w1 ⟨rfl, rfl⟩)
        go_roundw
        case rel =>
          refine ⟨f, q, Wd.figB 0 :: acc, by go_num, congrArg Value.string (cat_list [Wd.figB 0] acc), hdiv, by show q ≤ 9223372036854775808; omega, by simp; omega, ?_, hb.alloc hbs _⟩
          show _ = _
          rw [← hacc.out, hfac.out, hd.out, hq.out]
        case measure => simp [intOf]; omega
    · have hm0 : m = 0 := by omega
      subst hm0
      have hfin := hide ((Wd.decA_zero f acc).symm.trans hacc.out)
      go_wp2
      go_ret
      rw [← hfin.out]
      exact ⟨congrArg (fun x => Ending.returned (Value.string x)) (cat_list [45] acc), hb⟩
theorem decimal_any (n : Int) (w : World) (h0 : -9223372036854775808 ≤ n) (h1 : n ≤ 9223372036854775807) :
    Calls Tryz.prog 99 #[.int .i64 n] w fun e w' => e = .returned (.string ⟨(Wd.decS n).toArray⟩) ∧ Below w.heap.size w w' := by
  by_cases hz : n = 0
  · subst hz
    exact (dec_zero w).mono fun e w' ⟨he, hw⟩ => ⟨he, hw ▸ Below.refl _ _⟩
  · by_cases hn : n < 0
    · obtain ⟨m, hm⟩ := Int.eq_ofNat_of_zero_le (show 0 ≤ -n by omega)
      have e : n = -(m : Int) := by omega
      subst e
      have es : Wd.decS (-(m : Int)) = 45 :: Wd.decA 20 m [] := by unfold Wd.decS; rw [if_neg hz, if_pos hn, Int.natAbs_neg, Int.natAbs_natCast]
      rw [es]
      exact dec_neg m w (by omega) (by omega)
    · obtain ⟨m, rfl⟩ := Int.eq_ofNat_of_zero_le (show 0 ≤ n by omega)
      have es : Wd.decS (m : Int) = Wd.decA 20 m [] := by unfold Wd.decS; rw [if_neg hz, if_neg hn, Int.natAbs_natCast]
      rw [es]
      exact dec_pos m w (by omega) (by omega)
theorem smalls_lows : ((List.range 10).all fun n => (((⟨#[48, 49, 50, 51, 52, 53, 54, 55, 56, 57, 97, 98, 99, 100, 101, 102, 103, 104, 105, 106, 107, 108, 109, 110, 111, 112, 113, 114, 115, 116, 117, 118, 119, 120, 121, 122]⟩ : ByteArray).extract n (n + 1)).data.toList == Wd.decS (n : Int))) = true := by kernel_rfl
theorem smalls_low (n : Nat) (h : n < 10) : (⟨#[48, 49, 50, 51, 52, 53, 54, 55, 56, 57, 97, 98, 99, 100, 101, 102, 103, 104, 105, 106, 107, 108, 109, 110, 111, 112, 113, 114, 115, 116, 117, 118, 119, 120, 121, 122]⟩ : ByteArray).extract n (n + 1) = ⟨(Wd.decS (n : Int)).toArray⟩ := by
  have := (List.all_eq_true.1 smalls_lows) n (List.mem_range.2 h)
  apply ByteArray.ext
  apply Array.toList_inj.1
  exact eq_of_beq this
theorem smalls_all : ((List.range 100).all fun n => decide (n < 10) || (((⟨#[48, 48, 48, 49, 48, 50, 48, 51, 48, 52, 48, 53, 48, 54, 48, 55, 48, 56, 48, 57, 49, 48, 49, 49, 49, 50, 49, 51, 49, 52, 49, 53, 49, 54, 49, 55, 49, 56, 49, 57, 50, 48, 50, 49, 50, 50, 50, 51, 50, 52, 50, 53, 50, 54, 50, 55, 50, 56, 50, 57, 51, 48, 51, 49, 51, 50, 51, 51, 51, 52, 51, 53, 51, 54, 51, 55, 51, 56, 51, 57, 52, 48, 52, 49, 52, 50, 52, 51, 52, 52, 52, 53, 52, 54, 52, 55, 52, 56, 52, 57, 53, 48, 53, 49, 53, 50, 53, 51, 53, 52, 53, 53, 53, 54, 53, 55, 53, 56, 53, 57, 54, 48, 54, 49, 54, 50, 54, 51, 54, 52, 54, 53, 54, 54, 54, 55, 54, 56, 54, 57, 55, 48, 55, 49, 55, 50, 55, 51, 55, 52, 55, 53, 55, 54, 55, 55, 55, 56, 55, 57, 56, 48, 56, 49, 56, 50, 56, 51, 56, 52, 56, 53, 56, 54, 56, 55, 56, 56, 56, 57, 57, 48, 57, 49, 57, 50, 57, 51, 57, 52, 57, 53, 57, 54, 57, 55, 57, 56, 57, 57]⟩ : ByteArray).extract (n * 2) (n * 2 + 2)).data.toList == Wd.decS (n : Int))) = true := by kernel_rfl
theorem smalls_high (n : Nat) (h0 : 10 ≤ n) (h : n < 100) : (⟨#[48, 48, 48, 49, 48, 50, 48, 51, 48, 52, 48, 53, 48, 54, 48, 55, 48, 56, 48, 57, 49, 48, 49, 49, 49, 50, 49, 51, 49, 52, 49, 53, 49, 54, 49, 55, 49, 56, 49, 57, 50, 48, 50, 49, 50, 50, 50, 51, 50, 52, 50, 53, 50, 54, 50, 55, 50, 56, 50, 57, 51, 48, 51, 49, 51, 50, 51, 51, 51, 52, 51, 53, 51, 54, 51, 55, 51, 56, 51, 57, 52, 48, 52, 49, 52, 50, 52, 51, 52, 52, 52, 53, 52, 54, 52, 55, 52, 56, 52, 57, 53, 48, 53, 49, 53, 50, 53, 51, 53, 52, 53, 53, 53, 54, 53, 55, 53, 56, 53, 57, 54, 48, 54, 49, 54, 50, 54, 51, 54, 52, 54, 53, 54, 54, 54, 55, 54, 56, 54, 57, 55, 48, 55, 49, 55, 50, 55, 51, 55, 52, 55, 53, 55, 54, 55, 55, 55, 56, 55, 57, 56, 48, 56, 49, 56, 50, 56, 51, 56, 52, 56, 53, 56, 54, 56, 55, 56, 56, 56, 57, 57, 48, 57, 49, 57, 50, 57, 51, 57, 52, 57, 53, 57, 54, 57, 55, 57, 56, 57, 57]⟩ : ByteArray).extract (n * 2) (n * 2 + 2) = ⟨(Wd.decS (n : Int)).toArray⟩ := by
  have := (List.all_eq_true.1 smalls_all) n (List.mem_range.2 h)
  simp only [Bool.or_eq_true, decide_eq_true_eq] at this
  rcases this with h' | h'
  · omega
  · apply ByteArray.ext
    apply Array.toList_inj.1
    exact eq_of_beq h'
theorem small_any (n : Nat) (w : World) (h : n < 100) :
    Calls Tryz.prog 227 #[.int .i64 n] w fun e w' => e = .returned (.string ⟨(Wd.decS (n : Int)).toArray⟩) ∧ w' = w := by
  by_cases hn : n < 10
  · have hn' : decide ((n : Int) < 10) = true := by simp; omega
    obtain ⟨R, hR⟩ : ∃ R : ByteArray, (⟨(Wd.decS (n : Int)).toArray⟩ : ByteArray) = R := ⟨_, rfl⟩
    have hcut := cut_at ⟨#[48, 49, 50, 51, 52, 53, 54, 55, 56, 57, 97, 98, 99, 100, 101, 102, 103, 104, 105, 106, 107, 108, 109, 110, 111, 112, 113, 114, 115, 116, 117, 118, 119, 120, 121, 122]⟩ n (n + 1) (n : Int) ((n : Int) + 1) R rfl (by omega) (by omega) (by show n + 1 ≤ 36; omega) ((smalls_low n hn).trans hR)
    rw [hR]
    clear hR
    go_enter Tryz.func227, Tryz.ntmps227
    go_wp2
    go_ret
    exact ⟨rfl, rfl⟩
  · have hn' : decide ((n : Int) < 10) = false := by simp; omega
    obtain ⟨R, hR⟩ : ∃ R : ByteArray, (⟨(Wd.decS (n : Int)).toArray⟩ : ByteArray) = R := ⟨_, rfl⟩
    have hcut := cut_at ⟨#[48, 48, 48, 49, 48, 50, 48, 51, 48, 52, 48, 53, 48, 54, 48, 55, 48, 56, 48, 57, 49, 48, 49, 49, 49, 50, 49, 51, 49, 52, 49, 53, 49, 54, 49, 55, 49, 56, 49, 57, 50, 48, 50, 49, 50, 50, 50, 51, 50, 52, 50, 53, 50, 54, 50, 55, 50, 56, 50, 57, 51, 48, 51, 49, 51, 50, 51, 51, 51, 52, 51, 53, 51, 54, 51, 55, 51, 56, 51, 57, 52, 48, 52, 49, 52, 50, 52, 51, 52, 52, 52, 53, 52, 54, 52, 55, 52, 56, 52, 57, 53, 48, 53, 49, 53, 50, 53, 51, 53, 52, 53, 53, 53, 54, 53, 55, 53, 56, 53, 57, 54, 48, 54, 49, 54, 50, 54, 51, 54, 52, 54, 53, 54, 54, 54, 55, 54, 56, 54, 57, 55, 48, 55, 49, 55, 50, 55, 51, 55, 52, 55, 53, 55, 54, 55, 55, 55, 56, 55, 57, 56, 48, 56, 49, 56, 50, 56, 51, 56, 52, 56, 53, 56, 54, 56, 55, 56, 56, 56, 57, 57, 48, 57, 49, 57, 50, 57, 51, 57, 52, 57, 53, 57, 54, 57, 55, 57, 56, 57, 57]⟩ (n * 2) (n * 2 + 2) ((n : Int) * 2) ((n : Int) * 2 + 2) R (by omega) (by omega) (by omega) (by show n * 2 + 2 ≤ 200; omega) ((smalls_high n (by omega) h).trans hR)
    rw [hR]
    clear hR
    go_enter Tryz.func227, Tryz.ntmps227
    go_wp2
    go_ret
    exact ⟨rfl, rfl⟩
theorem implDec_small (n : Nat) (w : World) (h : n < 100) :
    Calls Tryz.prog 178 #[.int .i64 n] w fun e w' => e = .returned (.string ⟨(Wd.decS (n : Int)).toArray⟩) ∧ w' = w := by
  have h1 : decide ((0 : Int) ≤ (n : Int)) = true := by simp
  have h2 : decide ((n : Int) < 100) = true := by simp; omega
  have F : ∀ W : World, Calls Tryz.prog 223 #[.int .i64 n, .int .i64 10] W fun e w' => e = .returned (.string ⟨(Wd.decS (n : Int)).toArray⟩) ∧ w' = W := by
    intro W
    go_enter Tryz.func223, Tryz.ntmps223
    go_wp2_with (go_at_call 227; refine (small_any n _ h).mono ?_; rintro e w' ⟨rfl, rfl⟩)
    go_ret
    exact ⟨rfl, rfl⟩
  have I : ∀ W : World, Calls Tryz.prog 214 #[.int .i64 n] W fun e w' => e = .returned (.string ⟨(Wd.decS (n : Int)).toArray⟩) ∧ w' = W := by
    intro W
    go_enter Tryz.func214, Tryz.ntmps214
    go_wp2_with (go_at_call 223; refine (F _).mono ?_; rintro e w' ⟨rfl, rfl⟩)
    go_ret
    exact ⟨rfl, rfl⟩
  have S : ∀ W : World, Calls Tryz.prog 194 #[.int .i64 n] W fun e w' => e = .returned (.string ⟨(Wd.decS (n : Int)).toArray⟩) ∧ w' = W := by
    intro W
    go_enter Tryz.func194, Tryz.ntmps194
    go_wp2_with (go_at_call 214; refine (I _).mono ?_; rintro e w' ⟨rfl, rfl⟩)
    go_ret
    exact ⟨rfl, rfl⟩
  go_enter Tryz.func178, Tryz.ntmps178
  go_wp2_with (go_at_call 194; refine (S _).mono ?_; rintro e w' ⟨rfl, rfl⟩)
  go_ret
  exact ⟨rfl, rfl⟩
def segNm (n : Int) : ByteArray := if 0 ≤ n ∧ n ≤ 99 then ⟨(98 :: Wd.decS n).toArray⟩ else ⟨#[]⟩
theorem segNm_in (n : Nat) (h : n ≤ 99) : segNm n = (⟨#[98]⟩ : ByteArray) ++ ⟨(Wd.decS (n : Int)).toArray⟩ := by
  unfold segNm
  rw [if_pos (by omega)]
  apply ByteArray.ext
  apply Array.toList_inj.1
  simp
theorem segNm_out (n : Int) (h : n < 0 ∨ 99 < n) : segNm n = ⟨#[]⟩ := by unfold segNm; rw [if_neg (by omega)]
theorem decS_len : ∀ n : Nat, n ≤ 99 → (Wd.decS (n : Int)).length ≤ 2 := by
  have : ((List.range 100).all fun n => decide ((Wd.decS (n : Int)).length ≤ 2)) = true := by kernel_rfl
  intro n hn
  have := (List.all_eq_true.1 this) n (List.mem_range.2 (by omega))
  simpa using this
theorem right_any (n : Int) (b : Bool) (w : World) (h : (decide (0 ≤ n) && decide (n ≤ 99)) = b) : Calls Tryz.prog 174 #[.int .i64 n] w fun e w' => e = .returned (.bool b) ∧ w' = w := by
  by_cases h0 : 0 ≤ n
  · have h0' : decide (0 ≤ n) = true := by simp; omega
    rw [h0', Bool.true_and] at h
    subst h
    go_enter Tryz.func174, Tryz.ntmps174
    go_wp2
    go_ret
    exact ⟨rfl, rfl⟩
  · have h0' : decide (0 ≤ n) = false := by simp; omega
    rw [h0', Bool.false_and] at h
    subst h
    go_enter Tryz.func174, Tryz.ntmps174
    go_wp2
    go_ret
    exact ⟨rfl, rfl⟩
theorem name_any (n : Int) (w : World) : Calls Tryz.prog 151 #[.int .i64 n] w fun e w' => e = .returned (.string (segNm n)) ∧ w' = w := by
  by_cases h : 0 ≤ n ∧ n ≤ 99
  · obtain ⟨m, rfl⟩ := Int.eq_ofNat_of_zero_le h.1
    have hE := hide (segNm_in m (by omega))
    have hl := decS_len m (by omega)
    have hb : (decide ((0 : Int) ≤ (m : Int)) && decide ((m : Int) ≤ 99)) = true := by simp; omega
    go_enter Tryz.func151, Tryz.ntmps151
    go_wp2_with (first | (go_at_call 174; refine (right_any _ _ _ hb).mono ?_; rintro e w' ⟨rfl, rfl⟩) | (go_at_call 178; refine (implDec_small m _ (by omega)).mono ?_; rintro e w' ⟨rfl, rfl⟩))
    go_ret
    rw [hE.out]
    exact ⟨rfl, rfl⟩
  · have hE := hide (segNm_out n (by omega))
    have hb : (decide ((0 : Int) ≤ n) && decide (n ≤ 99)) = false := by simp; omega
    go_enter Tryz.func151, Tryz.ntmps151
    go_wp2_with (first | (go_at_call 174; refine (right_any _ _ _ hb).mono ?_; rintro e w' ⟨rfl, rfl⟩))
    go_ret
    rw [hE.out]
    exact ⟨rfl, rfl⟩
theorem implSegName_any (n : Int) (w : World) : Calls Tryz.prog 112 #[.int .i64 n] w fun e w' => e = .returned (.string (segNm n)) ∧ w' = w := by
  go_enter Tryz.func112, Tryz.ntmps112
  go_wp2_with (first | (go_at_call 151; refine (name_any _ _).mono ?_; rintro e w' ⟨rfl, rfl⟩))
  go_ret
  exact ⟨rfl, rfl⟩
theorem specSegName_any (n : Int) (w : World) : Calls Tryz.prog 59 #[.int .i64 n] w fun e w' => e = .returned (.string (segNm n)) ∧ Below w.heap.size w w' := by
  by_cases h : 0 ≤ n ∧ n ≤ 99
  · obtain ⟨m, rfl⟩ := Int.eq_ofNat_of_zero_le h.1
    have hE := hide (segNm_in m (by omega))
    have hl := decS_len m (by omega)
    go_enter Tryz.func59, Tryz.ntmps59
    go_wp2_with (first | (go_at_call 70; refine (l01In_yes _ _ _ _ (by omega) (by omega)).mono ?_; rintro e w' ⟨rfl, rfl⟩) | (go_at_call 99; refine (decimal_any m _ (by omega) (by omega)).mono ?_; rintro e w1 ⟨rfl, b1⟩))
    go_ret
    rw [hE.out]
    exact ⟨rfl, b1⟩
  · have hE := hide (segNm_out n (by omega))
    go_enter Tryz.func59, Tryz.ntmps59
    go_wp2_with (first | (go_at_call 70; refine (l01In_no _ _ _ _ (by omega)).mono ?_; rintro e w' ⟨rfl, rfl⟩))
    go_ret
    rw [hE.out]
    exact ⟨rfl, Below.refl _ _⟩
structure FileD where
  name : ByteArray
  text : ByteArray
  kept : Int
def FilesAt (w : World) (ao : Option Addr) (fs : List FileD) : Prop := ∀ j (h : j < fs.length), ∃ b off : Nat, ao = some ⟨b, off, none⟩ ∧ b < w.heap.size ∧
  w.cell? ⟨b, off + j * 3, none⟩ = some (.string fs[j].name) ∧ w.cell? ⟨b, off + j * 3 + 1, none⟩ = some (.string fs[j].text) ∧ w.cell? ⟨b, off + j * 3 + 2, none⟩ = some (.int .i64 fs[j].kept)
theorem filesAt_keep {w w' : World} {ao : Option Addr} {fs : List FileD} (h : FilesAt w ao fs) (hb : Below w.heap.size w w') : FilesAt w' ao fs := by
  intro j hj
  obtain ⟨b, off, h1, h2, h3, h4, h5⟩ := h j hj
  exact ⟨b, off, h1, Nat.lt_of_lt_of_le h2 hb.size, (hb.cell (p := ⟨b, off + j * 3, none⟩) h2).trans h3, (hb.cell (p := ⟨b, off + j * 3 + 1, none⟩) h2).trans h4, (hb.cell (p := ⟨b, off + j * 3 + 2, none⟩) h2).trans h5⟩
def szF (F : FileD) (n : Int) : Int := if n < F.name.size then -1 else if n < F.name.size + F.text.size then -1 else n - F.name.size - F.text.size
theorem szFile_any (F : FileD) (n : Int) (w : World) (h0 : 0 ≤ n) (h1 : n ≤ 1048576) (hN : F.name.size ≤ maxLen) (hX : F.text.size ≤ maxLen) :
    Calls Tryz.prog 83 #[.agg #[.string F.name, .string F.text, .int .i64 F.kept], .int .i64 n] w fun e w' => e = .returned (.int .i64 (szF F n)) ∧ Below w.heap.size w w' := by
  obtain ⟨a, b, k⟩ := F
  simp only [szF] at hN hX ⊢
  unfold maxLen at hN hX
  by_cases h2 : n < a.size
  · have h2' : decide (n - (a.size : Int) < 0) = true := by simp; omega
    rw [if_pos h2]
    go_enter Tryz.func83, Tryz.ntmps83
    go_wp2
    go_ret
    exact ⟨rfl, (Below.refl _ w).alloc (Nat.le_refl _) _⟩
  · have h2' : decide (n - (a.size : Int) < 0) = false := by simp; omega
    rw [if_neg h2]
    by_cases h3 : n < a.size + b.size
    · have h3' : decide (n - (a.size : Int) - (b.size : Int) < 0) = true := by simp; omega
      rw [if_pos h3]
      go_enter Tryz.func83, Tryz.ntmps83
      go_wp2
      go_ret
      exact ⟨rfl, (Below.refl _ w).alloc (Nat.le_refl _) _⟩
    · have h3' : decide (n - (a.size : Int) - (b.size : Int) < 0) = false := by simp; omega
      rw [if_neg h3]
      go_enter Tryz.func83, Tryz.ntmps83
      go_wp2
      go_ret
      exact ⟨rfl, (Below.refl _ w).alloc (Nat.le_refl _) _⟩
end Go.Proofs.YthpolfmbcipjaaaGreatDoor
