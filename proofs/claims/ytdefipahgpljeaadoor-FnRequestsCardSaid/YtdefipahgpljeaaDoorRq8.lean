import Derived.WalkSmall
import Derived.OpenShut
import Derived.Test.YtdefipahgpljeaaDoorRq7
import Derived.Test.YtdefipahgpljeaaDoorRq0
import Derived.Test.YtdefipahgpljeaaDoorRq6
set_option maxRecDepth 100000
set_option maxHeartbeats 6400000
namespace Go.Proofs.YtdefipahgpljeaaDoor
open Go.RowKit
theorem bt_right (A X : ByteArray) (p : Nat) (h : p < X.size) : Wd.bt (A ++ X) (A.size + p) = Wd.bt X p := by
  have h1 : A.size + p < (A ++ X).size := by rw [ByteArray.size_append]; omega
  rw [← Wd.bt_eq _ _ h1, ← Wd.bt_eq _ _ h, ByteArray.getElem_append_right (by omega)]
  congr 2
  omega
theorem ext_mid (A D Y : ByteArray) : (A ++ (D ++ Y)).extract A.size (A.size + D.size) = D := by
  apply ByteArray.ext
  apply Array.toList_inj.1
  rw [Lib.extract_data, ByteArray.data_append, Array.toList_append, ByteArray.data_append, Array.toList_append]
  rw [List.drop_left' (by rw [Array.length_toList]; rfl), Nat.add_sub_cancel_left, List.take_left' (by rw [Array.length_toList]; rfl)]
theorem ext_end (A D : ByteArray) : (A ++ D).extract A.size (A ++ D).size = D := by
  have := ext_mid A D ⟨#[]⟩
  rw [show D ++ (⟨#[]⟩ : ByteArray) = D from ByteArray.append_empty] at this
  rw [ByteArray.size_append]
  exact this
theorem dec_all : ((List.range 61).all fun n => decide (1 ≤ (decB n).size) && decide ((decB n).size ≤ 2) && (decide ((decB n).size = 1) || decide (Wd.bt (decB n) 0 ≠ 48)) && decide (Wd.numF (decB n) (decB n).size = n) && (List.range (decB n).size).all (fun p => decide (48 ≤ Wd.bt (decB n) p) && decide (Wd.bt (decB n) p ≤ 57))) = true := by kernel_rfl
theorem dec_facts (n : Nat) (h : n ≤ 60) : 1 ≤ (decB n).size ∧ (decB n).size ≤ 2 ∧ ((decB n).size = 1 ∨ Wd.bt (decB n) 0 ≠ 48) ∧ Wd.numF (decB n) (decB n).size = n ∧ ∀ p, p < (decB n).size → 48 ≤ Wd.bt (decB n) p ∧ Wd.bt (decB n) p ≤ 57 := by
  have := (List.all_eq_true.1 dec_all) n (List.mem_range.2 (by omega))
  simp only [Bool.and_eq_true, Bool.or_eq_true, decide_eq_true_eq, List.all_eq_true, List.mem_range] at this
  obtain ⟨⟨⟨⟨h1, h2⟩, h3⟩, h4⟩, h5⟩ := this
  exact ⟨h1, h2, h3, h4, fun p hp => h5 p hp⟩
theorem headB_eq (m B : ByteArray) (n : Nat) : headB m n ++ B = m ++ (decB n ++ (crlfB ++ B)) := by
  unfold headB
  simp only [ByteArray.append_assoc]
theorem crlf_at (P B : ByteArray) : crlf (P ++ (crlfB ++ B)) P.size = 1 := by
  have hz : (P ++ (crlfB ++ B)).size = P.size + (2 + B.size) := by rw [ByteArray.size_append, ByteArray.size_append]; rfl
  have h0 := bt_right P (crlfB ++ B) 0 (by rw [ByteArray.size_append]; show 0 < 2 + _; omega)
  have h1 := bt_right P (crlfB ++ B) 1 (by rw [ByteArray.size_append]; show 1 < 2 + _; omega)
  rw [bt_more B (by show 0 < 2; omega), Nat.add_zero] at h0
  rw [bt_more B (by show 1 < 2; omega)] at h1
  exact crlf_is (h0.trans rfl) (by omega) (h1.trans rfl)
theorem head_here (A m B : ByteArray) (n lim : Nat) (hm : m.size = 1) (hn : n ≤ 60) (hl : n ≤ lim) :
    headSt (A ++ (headB m n ++ B)) (A.size + 1) lim = 1 ∧ figE (A ++ (headB m n ++ B)) (A.size + 1) = A.size + 1 + (decB n).size ∧ numV (A ++ (headB m n ++ B)) (A.size + 1) = n := by
  obtain ⟨d1, d2, d3, d4, d5⟩ := dec_facts n hn
  have es : A ++ (headB m n ++ B) = (A ++ m) ++ (decB n ++ (crlfB ++ B)) := by rw [headB_eq]; simp only [ByteArray.append_assoc]
  have ec : A ++ (headB m n ++ B) = ((A ++ m) ++ decB n) ++ (crlfB ++ B) := by rw [headB_eq]; simp only [ByteArray.append_assoc]
  have hX : (A ++ m).size = A.size + 1 := by rw [ByteArray.size_append, hm]
  have hcr : crlf (A ++ (headB m n ++ B)) (A.size + 1 + (decB n).size) = 1 := by
    have := crlf_at ((A ++ m) ++ decB n) B
    rw [ByteArray.size_append, hX, ← ec] at this
    exact this
  obtain ⟨hc1, hc2, hc3⟩ := crlf_yes hcr
  have hbt : ∀ p, p < (decB n).size → Wd.bt (A ++ (headB m n ++ B)) (A.size + 1 + p) = Wd.bt (decB n) p := by
    intro p hp
    have := bt_right (A ++ m) (decB n ++ (crlfB ++ B)) p (by rw [ByteArray.size_append]; omega)
    rw [hX, ← es, bt_more _ hp] at this
    exact this
  have hfig : figE (A ++ (headB m n ++ B)) (A.size + 1) = A.size + 1 + (decB n).size := by
    refine figE_is (by omega) (fun p h1 h2 => ?_) (fun h => by rw [hc2] at h; omega)
    have := hbt (p - (A.size + 1)) (by omega)
    rw [show A.size + 1 + (p - (A.size + 1)) = p by omega] at this
    rw [this]
    exact ⟨by omega, d5 _ (by omega)⟩
  have htx : numTx (A ++ (headB m n ++ B)) (A.size + 1) = decB n := by
    unfold numTx
    rw [hfig, es, ← hX]
    exact ext_mid _ _ _
  have hnv : numV (A ++ (headB m n ++ B)) (A.size + 1) = n := by
    unfold numV
    rw [htx]
    exact d4
  refine ⟨?_, hfig, hnv⟩
  unfold headSt
  rw [if_neg (by omega), if_pos ⟨by rw [htx]; omega, by rw [htx]; omega, by rw [htx]; exact d3, by rw [hnv]; exact hl⟩, hfig]
  exact hcr
def argsT : List ByteArray → ByteArray
  | [] => ⟨#[]⟩
  | x :: r => argB x ++ argsT r
theorem argsB_T : ∀ (ts : List ByteArray) (s : ByteArray), argsB s ts = s ++ argsT ts
  | [], s => (ByteArray.append_empty (b := s)).symm
  | x :: r, s => by rw [argsB, argsB_T r, argsT, ByteArray.append_assoc]
theorem argB_eq (x Y : ByteArray) : argB x ++ Y = headB ⟨#[36]⟩ x.size ++ (x ++ (crlfB ++ Y)) := by
  unfold argB
  simp only [ByteArray.append_assoc]
theorem rd_args : ∀ (ts : List ByteArray) (A : ByteArray) (acc : List ByteArray), (∀ x ∈ ts, x.size ≤ 60) → rdArgs (A ++ argsT ts) ts.length A.size acc = (1, (A ++ argsT ts).size, acc ++ ts)
  | [], A, acc, _ => by
    rw [argsT, show A ++ (⟨#[]⟩ : ByteArray) = A from ByteArray.append_empty, List.append_nil]
    rfl
  | x :: r, A, acc, h => by
    have hx := h x List.mem_cons_self
    have hs : A ++ argsT (x :: r) = A ++ (headB ⟨#[36]⟩ x.size ++ (x ++ (crlfB ++ argsT r))) := by rw [argsT, argB_eq]
    have hs2 : A ++ argsT (x :: r) = (A ++ headB ⟨#[36]⟩ x.size) ++ (x ++ (crlfB ++ argsT r)) := by rw [hs, ByteArray.append_assoc]
    have hs3 : A ++ argsT (x :: r) = ((A ++ headB ⟨#[36]⟩ x.size) ++ x) ++ (crlfB ++ argsT r) := by rw [hs2]; exact (ByteArray.append_assoc ..).symm
    have hs4 : A ++ argsT (x :: r) = (A ++ argB x) ++ argsT r := by rw [argsT, ByteArray.append_assoc]
    obtain ⟨k1, k2, k3⟩ := head_here A ⟨#[36]⟩ (x ++ (crlfB ++ argsT r)) x.size 60 rfl hx hx
    rw [← hs] at k1 k2 k3
    have hP : (A ++ headB ⟨#[36]⟩ x.size).size = A.size + 1 + (decB x.size).size + 2 := by
      unfold headB
      simp only [ByteArray.size_append]
      show A.size + (1 + (decB x.size).size + 2) = _
      omega
    have hPz : (A ++ argsT (x :: r)).size = A.size + 1 + (decB x.size).size + 2 + x.size + 2 + (argsT r).size := by
      rw [hs2, ByteArray.size_append, hP, ByteArray.size_append, ByteArray.size_append]
      show _ + (_ + (2 + _)) = _
      omega
    have hone : Wd.bt (A ++ argsT (x :: r)) A.size = 36 := by
      have := bt_right A (headB ⟨#[36]⟩ x.size ++ (x ++ (crlfB ++ argsT r))) 0 (by rw [headB_eq, ByteArray.size_append]; show 0 < 1 + _; omega)
      rw [← hs, Nat.add_zero] at this
      rw [this, headB_eq, bt_more _ (by show 0 < 1; omega)]
      rfl
    have hcr : crlf (A ++ argsT (x :: r)) (A.size + 1 + (decB x.size).size + 2 + x.size) = 1 := by
      have := crlf_at ((A ++ headB ⟨#[36]⟩ x.size) ++ x) (argsT r)
      rw [ByteArray.size_append, hP, ← hs3] at this
      exact this
    have hst : argSt (A ++ argsT (x :: r)) A.size = 1 := by
      unfold argSt headM oneSt
      rw [if_neg (show ¬ (A ++ argsT (x :: r)).size ≤ A.size by omega), if_neg (show ¬ Wd.bt (A ++ argsT (x :: r)) A.size ≠ 36 by omega), if_neg (show ¬ (1 : Nat) ≠ 1 by omega), k1, if_neg (show ¬ (1 : Nat) ≠ 1 by omega), k2, k3, if_neg (by omega)]
      exact hcr
    have hex : (A ++ argsT (x :: r)).extract (A.size + 1 + (decB x.size).size + 2) (A.size + 1 + (decB x.size).size + 2 + x.size) = x := by
      rw [hs2, ← hP]
      exact ext_mid _ _ _
    have hA : (A ++ argB x).size = A.size + 1 + (decB x.size).size + 2 + x.size + 2 := by
      have h1 := congrArg ByteArray.size hs4
      rw [ByteArray.size_append (a := A ++ argB x)] at h1
      omega
    show rdArgs _ (r.length + 1) _ _ = _
    rw [rd_yes hst, k2, k3, hex, ← hA, hs4, rd_args r (A ++ argB x) (acc ++ [x]) (fun y hy => h y (List.mem_cons_of_mem _ hy)), List.append_assoc]
    rfl
theorem okTs_parts {ts : List ByteArray} (h : okTs ts = true) : ts.length ≤ 8 ∧ ∀ x ∈ ts, x.size ≤ 60 := by
  unfold okTs at h
  simp only [Bool.and_eq_true, decide_eq_true_eq, List.all_eq_true] at h
  exact h
theorem argsB_sizeQ : ∀ (ts : List ByteArray) (s : ByteArray), (∀ x ∈ ts, x.size ≤ 60) → (argsB s ts).size ≤ s.size + 67 * ts.length
  | [], s, _ => Nat.le_refl _
  | x :: r, s, h => by
    have h1 := argsB_sizeQ r (s ++ argB x) (fun y hy => h y (List.mem_cons_of_mem _ hy))
    have h2 := argB_size (h x List.mem_cons_self)
    rw [ByteArray.size_append] at h1
    simp only [argsB, List.length_cons]
    omega
theorem parse_req (ts : List ByteArray) (h : okTs ts = true) : parse (reqT ts) = (1, (reqT ts).size, ts) := by
  obtain ⟨h8, hz⟩ := okTs_parts h
  have hs : reqT ts = (⟨#[]⟩ : ByteArray) ++ (headB ⟨#[42]⟩ ts.length ++ argsT ts) := by unfold reqT; rw [argsB_T]; exact (ByteArray.empty_append (b := _)).symm
  have hs2 : reqT ts = headB ⟨#[42]⟩ ts.length ++ argsT ts := by unfold reqT; rw [argsB_T]
  obtain ⟨k1, k2, k3⟩ := head_here ⟨#[]⟩ ⟨#[42]⟩ (argsT ts) ts.length 8 rfl (by omega) h8
  rw [← hs] at k1 k2 k3
  have e1 : (⟨#[]⟩ : ByteArray).size + 1 = 1 := rfl
  rw [e1] at k1 k2 k3
  have hH : (headB ⟨#[42]⟩ ts.length).size = 1 + (decB ts.length).size + 2 := by
    unfold headB
    simp only [ByteArray.size_append]
    rfl
  have h0 : Wd.bt (reqT ts) 0 = 42 := by
    rw [hs2, headB_eq, bt_more _ (by show 0 < 1; omega)]
    rfl
  have hsz : (reqT ts).size ≠ 0 := by rw [hs2, ByteArray.size_append]; omega
  unfold parse
  rw [if_neg hsz, if_neg (show ¬ Wd.bt (reqT ts) 0 ≠ 42 by omega), if_pos k1, k2, k3, ← hH, hs2, rd_args ts _ [] hz]
  rfl
theorem reqT_pos (ts : List ByteArray) : 0 < (reqT ts).size := by
  unfold reqT
  rw [argsB_T, headB_eq, ByteArray.size_append]
  show 0 < 1 + _
  omega
theorem parse_cut (ts : List ByteArray) (h : okTs ts = true) (k : Nat) (hk : k < (reqT ts).size) : (parse ((reqT ts).extract 0 k)).1 = 0 := by
  rcases Nat.eq_zero_or_pos (parse ((reqT ts).extract 0 k)).1 with h0 | h0
  · exact h0
  · have hsp : (reqT ts).extract 0 k ++ (reqT ts).extract k (reqT ts).size = reqT ts := by
      apply ByteArray.ext
      apply Array.toList_inj.1
      rw [ByteArray.data_append, Array.toList_append, Lib.extract_data, Lib.extract_data, List.drop_zero, Nat.sub_zero]
      have e : (reqT ts).size - k = ((reqT ts).data.toList.drop k).length := by rw [List.length_drop, Array.length_toList]; rfl
      rw [e, List.take_length, List.take_append_drop]
    have h1 := parse_more ((reqT ts).extract 0 k) ((reqT ts).extract k (reqT ts).size) (by omega)
    rw [hsp, parse_req ts h] at h1
    have h2 := (parse_facts ((reqT ts).extract 0 k)).2.1
    rw [← h1, ByteArray.size_extract] at h2
    simp only at h2
    omega
def allT : List (List ByteArray) → ByteArray
  | [] => ⟨#[]⟩
  | x :: r => reqT x ++ allT r
def endT (L : List (List ByteArray)) (j : Nat) : Nat := (allT (L.take j)).size
theorem allT_snoc : ∀ (L : List (List ByteArray)) (x : List ByteArray), allT (L ++ [x]) = allT L ++ reqT x
  | [], x => by
    show reqT x ++ (⟨#[]⟩ : ByteArray) = (⟨#[]⟩ : ByteArray) ++ reqT x
    exact (ByteArray.append_empty (b := reqT x)).trans (ByteArray.empty_append (b := reqT x)).symm
  | y :: r, x => by rw [List.cons_append, allT, allT_snoc r, allT, ByteArray.append_assoc]
theorem allT_next (L : List (List ByteArray)) (i : Nat) (h : i < L.length) : allT (L.take (i + 1)) = allT (L.take i) ++ reqT L[i] := by
  rw [List.take_succ_eq_append_getElem h, allT_snoc]
theorem reqs_cut : ∀ (L : List (List ByteArray)) (A : ByteArray) (acc : List (List ByteArray)) (f k : Nat), (∀ x ∈ L, okTs x = true) → k ≤ (allT L).size → k < f →
    ∃ j, j ≤ L.length ∧ endT L j ≤ k ∧ (j < L.length → k < endT L (j + 1)) ∧ reqsF (A ++ (allT L).extract 0 k) f A.size acc = (acc ++ L.take j, A.size + endT L j, false)
  | [], A, acc, f, k, _, hk, hf => by
    obtain ⟨f, rfl⟩ : ∃ f', f = f' + 1 := ⟨f - 1, by omega⟩
    have hk0 : k = 0 := by have : (allT []).size = 0 := rfl; omega
    subst hk0
    refine ⟨0, Nat.le_refl _, Nat.le_refl _, fun h => absurd h (by simp), ?_⟩
    have hC : (allT []).extract 0 0 = ⟨#[]⟩ := rfl
    rw [hC, reqsF_no (T := ⟨#[]⟩) (c := 0) (ext_end A ⟨#[]⟩) rfl (by decide)]
    simp [endT, allT]
    rfl
  | x :: r, A, acc, f, k, h, hk, hf => by
    obtain ⟨f, rfl⟩ : ∃ f', f = f' + 1 := ⟨f - 1, by omega⟩
    have hx := h x List.mem_cons_self
    have hT := parse_req x hx
    have hp := reqT_pos x
    have hz : (allT (x :: r)).size = (reqT x).size + (allT r).size := by rw [allT, ByteArray.size_append]
    have he1 : endT (x :: r) 1 = (reqT x).size := by
      show (reqT x ++ (⟨#[]⟩ : ByteArray)).size = _
      rw [show reqT x ++ (⟨#[]⟩ : ByteArray) = reqT x from ByteArray.append_empty]
    rcases Nat.lt_or_ge k (reqT x).size with hlt | hge
    · refine ⟨0, Nat.zero_le _, Nat.zero_le _, fun _ => by rw [he1]; exact hlt, ?_⟩
      have hC : (allT (x :: r)).extract 0 k = (reqT x).extract 0 k := by rw [allT, ext_more _ (by omega)]
      rw [hC, reqsF_no (c := 0) (ext_end A _) (parse_cut x hx k hlt) (by decide)]
      simp [endT, allT]
      rfl
    · have hC : (allT (x :: r)).extract 0 k = reqT x ++ (allT r).extract 0 (k - (reqT x).size) := by
        apply ByteArray.ext
        apply Array.toList_inj.1
        have hd : (reqT x).data.toList.length = (reqT x).size := Array.length_toList
        rw [allT, ByteArray.data_append, Array.toList_append, Lib.extract_data, Lib.extract_data, ByteArray.data_append, Array.toList_append, List.drop_zero, List.drop_zero, Nat.sub_zero, Nat.sub_zero, List.take_append, hd, List.take_of_length_le (by omega)]
      have hpm := parse_more (reqT x) ((allT r).extract 0 (k - (reqT x).size)) (by rw [hT]; exact Nat.one_ne_zero)
      rw [hT] at hpm
      obtain ⟨j, j1, j2, j3, j4⟩ := reqs_cut r (A ++ reqT x) (acc ++ [x]) f (k - (reqT x).size) (fun y hy => h y (List.mem_cons_of_mem _ hy)) (by omega) (by omega)
      have hen : ∀ i, endT (x :: r) (i + 1) = (reqT x).size + endT r i := fun i => by unfold endT; rw [List.take_succ_cons, allT, ByteArray.size_append]
      refine ⟨j + 1, by simpa using j1, by rw [hen]; omega, fun hj => by rw [hen]; have := j3 (by simpa using hj); omega, ?_⟩
      rw [hC, reqsF_yes (ext_end A _) (p := (reqT x).size) (L := x) (by rw [hpm]) (by rw [hpm]) (by rw [hpm]), ← ByteArray.append_assoc, ← ByteArray.size_append, j4, ByteArray.size_append, hen, List.take_succ_cons, List.append_assoc, Nat.add_assoc]
      rfl
theorem reqs_all (L : List (List ByteArray)) (h : ∀ x ∈ L, okTs x = true) : reqs (allT L) = (L, (allT L).size, false) := by
  obtain ⟨j, j1, j2, j3, j4⟩ := reqs_cut L ⟨#[]⟩ [] ((allT L).size + 1) (allT L).size h (Nat.le_refl _) (Nat.lt_succ_self _)
  have hmono : ∀ i, endT L i ≤ (allT L).size := by
    intro i
    have : ∀ (a b : List (List ByteArray)), (allT (a ++ b)).size = (allT a).size + (allT b).size := by
      intro a b
      induction a with
      | nil => show _ = 0 + _; rw [Nat.zero_add]; rfl
      | cons y r ih => rw [List.cons_append, allT, allT, ByteArray.size_append, ByteArray.size_append, ih, Nat.add_assoc]
    have h1 := this (L.take i) (L.drop i)
    rw [List.take_append_drop] at h1
    unfold endT
    omega
  have hj : j = L.length := by
    rcases Nat.lt_or_ge j L.length with hl | hl
    · have := j3 hl; have := hmono (j + 1); omega
    · omega
  subst hj
  rw [extract_all, show (⟨#[]⟩ : ByteArray) ++ allT L = allT L from ByteArray.empty_append] at j4
  unfold reqs
  have e0 : (⟨#[]⟩ : ByteArray).size = 0 := rfl
  rw [e0] at j4
  rw [j4, List.take_length, List.nil_append, Nat.zero_add]
  unfold endT
  rw [List.take_length]
theorem reqs_some (L : List (List ByteArray)) (h : ∀ x ∈ L, okTs x = true) (k : Nat) (hk : k ≤ (allT L).size) : ∃ j, j ≤ L.length ∧ endT L j ≤ k ∧ (j < L.length → k < endT L (j + 1)) ∧ reqs ((allT L).extract 0 k) = (L.take j, endT L j, false) := by
  obtain ⟨j, j1, j2, j3, j4⟩ := reqs_cut L ⟨#[]⟩ [] (k + 1) k h hk (Nat.lt_succ_self _)
  rw [show (⟨#[]⟩ : ByteArray) ++ (allT L).extract 0 k = (allT L).extract 0 k from ByteArray.empty_append] at j4
  have e0 : (⟨#[]⟩ : ByteArray).size = 0 := rfl
  rw [e0, Nat.zero_add, List.nil_append] at j4
  refine ⟨j, j1, j2, j3, ?_⟩
  unfold reqs
  rw [ByteArray.size_extract, Nat.min_eq_left hk, Nat.sub_zero]
  exact j4
def TellsQ (L : List (List ByteArray)) (p : Nat) (b : Bool) (w : World) (e : Ending) (w' : World) : Prop :=
  Below w.heap.size w w' ∧ ∃ ao cap, e = .returned (.tuple #[.slice ao L.length cap, .int .i64 (p : Int), .bool b]) ∧ RowTT w' w.heap.size (.slice ao L.length cap) L
theorem tellsQ_of {R : List (List ByteArray) × Nat × Bool} {w : World} {e : Ending} {w' : World} (h : ReqsLeft R w e w') : TellsQ R.1 R.2.1 R.2.2 w e w' := by
  obtain ⟨hb, v, he, hv⟩ := h
  obtain ⟨ao, cap, rfl, _⟩ := rowTT_at hv
  exact ⟨hb, ao, cap, he, hv⟩
theorem sameRow_same (ts : List ByteArray) (ao ao2 : Option Addr) (cap cap2 : Nat) (w : World) (hl : ts.length ≤ maxLen) (h1 : TextsAt w ao ts) (h2 : TextsAt w ao2 ts) :
    Calls Tryd.prog 9 #[.slice ao ts.length cap, .slice ao2 ts.length cap2] w fun e w' => e = .returned (.bool true) ∧ Below w.heap.size w w' := by
  have H1 := hide h1
  have H2 := hide h2
  clear h1 h2
  unfold maxLen at hl
  have hne : (!((ts.length : Int) == (ts.length : Int))) = false := by simp
  go_enter Tryd.func9, Tryd.ntmps9
  go_wp2
  go_loopw [5] (fun ii wr => ∃ (k q : Nat), ii = .int .i64 k ∧ k ≤ ts.length ∧ wr = w.drewN q) (fun ii _ => ts.length - (intOf ii).toNat)
  case atStart => exact ⟨0, 0, rfl, Nat.zero_le _, rfl⟩
  case round =>
    obtain ⟨k, q, rfl, hk, rfl⟩ := hrel
    by_cases hlt : k < ts.length
    · have hlt' : decide ((k : Int) < (ts.length : Int)) = true := by simp; omega
      obtain ⟨b, off, rfl, hbw, hc0⟩ := H1.out k hlt
      obtain ⟨b', off', rfl, hbw', hd0⟩ := H2.out k hlt
      generalize ts[k] = F at hc0 hd0
      have hi0 : (0 : Int) ≤ (k : Int) := by omega
      have hi1 : (k : Int) < (ts.length : Int) := by omega
      have hee : (F.toList == F.toList) = true := beq_self_eq_true _
      go_wp2
      go_quiet (fail)
      go_wp2
      go_roundw
      case rel => exact ⟨k + 1, q + nq, by go_num, by omega, rfl⟩
      case measure => simp [intOf]; omega
    · have hlt' : decide ((k : Int) < (ts.length : Int)) = false := by simp; omega
      go_wp2
      go_ret
      exact ⟨rfl, drewN_below w q⟩
theorem code_keep {w0 w : World} {ao : Option Addr} {len : Nat} (h : Code w0 ao len) (hb : Below w0.heap.size w0 w) : Code w ao len := by
  intro j hj
  obtain ⟨b, off, z, h1, h2, h3, h4⟩ := h j hj
  exact ⟨b, off, z, h1, Nat.lt_of_lt_of_le h2 hb.size, (hb.cell (p := ⟨b, off + j, none⟩) h2).trans h3, h4⟩
theorem big_any (w : World) (ao : Option Addr) (len cap : Nat) :
    Calls Tryd.prog 5 #[.slice ao len cap] w fun e w' => e = .returned (.bool (decide (1048576 < (len : Int)))) ∧ w' = w := by
  go_enter Tryd.func5, Tryd.ntmps5
  go_wp2
  go_ret
  exact ⟨rfl, rfl⟩
def endsR (L : List (List ByteArray)) (k : Nat) : List Nat := (List.range (k + 1)).map (endT L)
theorem endsR_len (L : List (List ByteArray)) (k : Nat) : (endsR L k).length = k + 1 := by simp [endsR]
theorem endsR_succ (L : List (List ByteArray)) (k : Nat) : endsR L (k + 1) = endsR L k ++ [endT L (k + 1)] := by
  unfold endsR
  rw [List.range_succ (n := k + 1), List.map_append]
  rfl
theorem endsR_get (L : List (List ByteArray)) (k j : Nat) (h : j ≤ k) : (endsR L k)[j]? = some (endT L j) := by
  unfold endsR
  rw [List.getElem?_map, List.getElem?_range (by omega)]
  rfl
theorem int_cellQ {w : World} {B g n cap : Nat} {L : List Nat} (h : w.ownsRow B 3 1 (.slice (some ⟨g, 0, none⟩) n cap) n (L.map iv)) (j : Nat) (hj : j < n) (x : Nat) (hx : L[j]? = some x) :
    w.cell? ⟨g, j, none⟩ = some (.int .i64 (x : Int)) := by
  rw [h.cellAt j (by omega), List.getElem?_map, hx]; rfl
theorem rem_natQ (z n : Nat) : (z : Int) % ((n : Int) + 1) = ((z % (n + 1) : Nat) : Int) := by simp
theorem reqT_small {ts : List ByteArray} (h : okTs ts = true) : (reqT ts).size ≤ 541 := by
  obtain ⟨h8, hz⟩ := okTs_parts h
  have h1 := argsB_sizeQ ts (headB ⟨#[42]⟩ ts.length) hz
  have h2 := headB_size (m := ⟨#[42]⟩) (n := ts.length) (by show 1 ≤ 1; omega) (by omega)
  unfold reqT
  omega
theorem allT_size : ∀ (L : List (List ByteArray)), (∀ x ∈ L, okTs x = true) → (allT L).size ≤ 541 * L.length
  | [], _ => Nat.le_refl _
  | x :: r, h => by
    have h1 := allT_size r (fun y hy => h y (List.mem_cons_of_mem _ hy))
    have h2 := reqT_small (h x List.mem_cons_self)
    rw [allT, ByteArray.size_append, List.length_cons]
    omega
theorem reqR_yes {ts : List ByteArray} (h : okTs ts = true) : reqR ts = reqT ts := by unfold reqR; rw [if_pos h]
def pingL : List ByteArray := [⟨#[80, 73, 78, 71]⟩, ⟨#[120]⟩]
theorem parse_ping : parse ⟨#[80, 73, 78, 71, 32, 32, 120, 32, 13, 10, 42, 49]⟩ = (1, 10, pingL) := by kernel_rfl
theorem requestsDrawn_walk (w : World) (ao : Option Addr) (len cap : Nat) (m : Int) (hm : MaxL w m) (hcode : len ≤ 1048576 → Code w ao len) :
    Calls Tryd.prog 3 #[.slice ao len cap] w fun e w' => e = .returned (.bool true) ∧ Below w.heap.size w w' := by
  by_cases hlen : len ≤ 1048576
  case neg =>
    have hbig : decide (1048576 < (len : Int)) = true := by simp; omega
    clear hm
    go_enter Tryd.func3, Tryd.ntmps3
    go_wp2_with fail
    refine (big_any _ ao len cap).mono ?_
    rintro e w1 ⟨rfl, rfl⟩
    rw [hbig]
    go_wp2
    go_ret
    exact ⟨rfl, Below.refl _ _⟩
  have hbig : decide (1048576 < (len : Int)) = false := by simp; omega
  have HD := hide (drawWords_any w ao len cap hlen (hcode hlen))
  have HPL := hide (fun W (h : Below w.heap.size w W) => drawPlaces_any W ao len cap hlen (code_keep (hcode hlen) h))
  have HM := hide hm
  have hw0 : 1 < w.heap.size := hm.2
  clear hcode hm
  go_enter Tryd.func3, Tryd.ntmps3
  go_wp2_with fail
  refine (big_any _ ao len cap).mono ?_
  rintro e w1 ⟨rfl, e1⟩
  obtain rfl := e1.symm
  rw [hbig]
  clear hbig
  go_wp2_with fail
  refine HD.out.mono ?_
  rintro e w2 ⟨aL, cL, L, rfl, hrt, hL4, hok, b2⟩
  have B2 := hide b2
  have RT := hide (rowTT_rows hrt)
  have HOK := hide hok
  have z2 := b2.size
  have hAz : ∀ k, (allT (L.take k)).size ≤ 3000 := fun k => by
    have := allT_size (L.take k) (fun x hx => HOK.out x (List.mem_of_mem_take hx))
    rw [List.length_take] at this
    omega
  have HAZ := hide hAz
  have HAL := hide (reqs_all L hok)
  have HSM := hide (fun k => reqs_some L hok k)
  clear b2 hrt hok hAz HD
  go_wp2_with fail
  go_loopg [4, 5, 6] L.length (fun gg vs en ii wr => ∃ k : Nat, k + gg = L.length ∧ k ≤ L.length ∧ ii = .int .i64 (k : Int) ∧ vs = .string (allT (L.take k)) ∧ Hid (wr.ownsRow w2.heap.size 3 1 en (endsR L k).length ((endsR L k).map iv)) ∧ Hid (Below w2.heap.size w2 wr))
  case atStart =>
    refine ⟨0, by omega, by omega, rfl, rfl, ?_, (Below.refl _ _).alloc (Nat.le_refl _) _⟩
    exact World.ownsRow_lit (e := 3) (size := 1) w2 #[.int .i64 0] 1 (Nat.le_refl _) (by decide) rfl
  case round =>
    obtain ⟨k, hgk, hk, rfl, rfl, HE, HB⟩ := hrel
    have hA := HAZ.out k
    have hbs := HB.out.size
    cases gk with
    | succ g0 =>
      have hlt : k < L.length := by omega
      have hlt' : decide ((k : Int) < (L.length : Int)) = true := by simp; omega
      have hi0 : (0 : Int) ≤ (k : Int) := by omega
      have hi1 : (k : Int) < (L.length : Int) := by omega
      obtain ⟨b, off, rfl, hbw, a1, c1, hc0, t1⟩ := rowsAt_keep RT.out HB.out k hlt
      have hoK := HOK.out L[k] (List.getElem_mem hlt)
      have hcat := (allT_next L k hlt).symm
      have hA2 := HAZ.out (k + 1)
      have hES := hide (endsR_succ L k)
      have hEL := endsR_len L k
      have hET : Hid (endT L (k + 1) = (allT (L.take (k + 1))).size) := rfl
      obtain ⟨x, hx⟩ : ∃ x, Hid (L[k] = x) := ⟨L[k], hide rfl⟩
      rw [hx.out] at hc0 t1 hoK hcat
      have hXz := reqT_small hoK
      have hpt := okTs_parts hoK
      have T1 := hide t1
      have HRQ : Hid (Calls Tryd.prog 7 #[.slice a1 x.length c1] wr fun e w' => e = .returned (.tuple #[.string (reqT x), .bool true]) ∧ Below wr.heap.size wr w') := by
        have h := implReqText_any x a1 c1 wr (by omega) t1 (fun y hy => by have := hpt.2 y hy; omega)
        rw [reqR_yes hoK, hoK] at h
        exact h
      generalize allT (L.take k) = A at hcat hA ⊢
      generalize reqT x = X at hcat hXz HRQ
      obtain ⟨A2, hA2e⟩ : ∃ A2, allT (L.take (k + 1)) = A2 := ⟨_, rfl⟩
      rw [hA2e] at hcat hA2 hET
      have HA2 := hide hA2e
      have hEl2 : (endsR L k).length ≤ 1000000 := by omega
      clear hA2e t1 hoK hpt hEL
      go_wp2_with fail
      refine HRQ.out.mono ?_
      rintro e w3 ⟨rfl, b3⟩
      have B3 := hide b3
      clear b3
      go_wp2_with (at_builtin; refine app_int _ w2 w2.heap.size rfl _ _ rfl _ (endsR L k) rfl (ownsRow_below HE.out B3.out) rfl hEl2 (HB.out.trans (B3.out.mono hbs)) (Nat.le_trans hbs B3.out.size) ?_; intro v' w6 hown6 hb6 hs6)
      go_roundg g0
      case measure => omega
      case rel =>
        refine ⟨k + 1, by omega, by omega, by go_num, by rw [HA2.out], ?_, hb6⟩
        show World.ownsRow _ _ _ _ _ _ _
        rw [hES.out, hET.out]
        exact hown6
    | zero =>
      have hlt' : decide ((k : Int) < (L.length : Int)) = false := by simp; omega
      have hke : k = L.length := by omega
      subst hke
      rw [List.take_length] at hA ⊢
      obtain ⟨ge, cape, rfl⟩ : ∃ ge cape, u5 = .slice (some ⟨ge, 0, none⟩) (L.length + 1) cape := by
        rcases HE.out.2 with ⟨h, h'⟩ | ⟨g, c, cur, h, _⟩
        · rw [endsR_len] at h'; omega
        · exact ⟨g, c, by rw [endsR_len] at h; exact h⟩
      have HE2 : Hid (wr.ownsRow w2.heap.size 3 1 (.slice (some ⟨ge, 0, none⟩) (L.length + 1) cape) (L.length + 1) ((endsR L L.length).map iv)) := by
        have h := HE.out
        rw [endsR_len] at h
        exact h
      clear HE
      have hB02 := hide (B2.out.trans (HB.out.mono z2))
      obtain ⟨S, hS⟩ : ∃ S, Hid (allT L = S) := ⟨_, rfl⟩
      rw [hS.out] at hA HAL HSM ⊢
      have C8 := hide (fun W (hm : MaxL W m) => (implReqs_any S m W (by omega) hm).mono (fun e w' => tellsQ_of))
      rw [HAL.out] at C8
      have hss : ((S.size : Int) != (S.size : Int)) = false := by simp
      have hll : ((L.length : Int) != (L.length : Int)) = false := by simp
      clear HAL hS
      go_wp2_with fail
      refine (C8.out _ (maxL_below HM.out hw0 hB02.out)).mono ?_
      rintro e w7 ⟨b7, aA, cA, rfl, r7⟩
      have R7 := hide (rowTT_rows r7)
      have B7 := hide (HB.out.trans (b7.mono hbs))
      have E7 := hide (ownsRow_below HE2.out b7)
      have s7 := B7.out.size
      clear b7 r7 HE2 HB hB02 C8
      go_wp2_with fail
      obtain ⟨wO, hwO⟩ : ∃ wO, wO = w7 := ⟨_, rfl⟩
      rw [← hwO] at R7 B7 E7 s7
      go_loopg [12] L.length (fun gg ii wr => ∃ k : Nat, k + gg = L.length ∧ k ≤ L.length ∧ ii = .int .i64 (k : Int) ∧ Hid (Below wO.heap.size wO wr))
      case atStart => exact ⟨0, by omega, by omega, rfl, by rw [hwO]; exact Below.refl _ _⟩
      case round =>
        clear hwO
        obtain ⟨k, hgk2, hk2, rfl, HB8⟩ := hrel
        have hs8 := HB8.out.size
        cases gk with
        | succ g0 =>
          have hlt2 : k < L.length := by omega
          have hlt3 : decide ((k : Int) < (L.length : Int)) = true := by simp; omega
          have hi0 : (0 : Int) ≤ (k : Int) := by omega
          have hi1 : (k : Int) < (L.length : Int) := by omega
          obtain ⟨b, off, rfl, hbw, a1, c1, hc0, t1⟩ := rowsAt_keep R7.out HB8.out k hlt2
          obtain ⟨b', off', rfl, hbw', a2, c2, hd0, t2⟩ := rowsAt_keep RT.out (B7.out.trans (HB8.out.mono s7)) k hlt2
          have hF := (okTs_parts (HOK.out L[k] (List.getElem_mem hlt2))).1
          generalize L[k] = F at hc0 hd0 t1 t2 hF
          have T1 := hide t1
          have T2 := hide t2
          have HBw := hide hbw
          have HBw' := hide hbw'
          clear t1 t2 hbw hbw'
          have HSR : Hid (∀ W, Below wr.heap.size wr W → Calls Tryd.prog 9 #[.slice a1 F.length c1, .slice a2 F.length c2] W fun e w' => e = .returned (.bool true) ∧ Below W.heap.size W w') :=
            fun W hW => sameRow_same F a1 a2 c1 c2 W (by unfold maxLen; omega) (textsAt_keep T1.out hW) (textsAt_keep T2.out hW)
          go_wp2_with fail
          go_region_held3 (fun w' => w'.cell? ⟨b, off + k, none⟩ = some (.slice a1 F.length c1) ∧ w'.cell? ⟨b', off' + k, none⟩ = some (.slice a2 F.length c2)) (first | go_keep | (exact ⟨(b1.cell (p := ⟨b, off + k, none⟩) HBw.out).trans hc0, (b1.cell (p := ⟨b', off' + k, none⟩) HBw'.out).trans hd0⟩)) ((go_at_call 9; refine (HSR.out _ (by first | exact Below.refl _ _ | exact (Below.refl _ _).drew)).mono ?_; rintro e w9 ⟨rfl, b1⟩))
          go_wp2
          go_roundg g0
          case measure => omega
          case rel => exact ⟨k + 1, by omega, by omega, by go_num, HB8.out.trans (((Below.refl _ _).drew.trans b1).mono HB8.out.size)⟩
        | zero =>
          have hlt3 : decide ((k : Int) < (L.length : Int)) = false := by simp; omega
          have hke : k = L.length := by omega
          subst hke
          have B8 := hide (B7.out.trans (HB8.out.mono s7))
          have E8 := hide (ownsRow_below E7.out HB8.out)
          have B08 := hide (B2.out.trans (B8.out.mono z2))
          have z8 := B08.out.size
          clear HB8 B7 E7 R7 RT
          go_wp2_with fail
          refine (HPL.out _ B08.out).mono ?_
          rintro e w9 ⟨vp, zs, rfl, hzl, hzs, hownp, b9⟩
          obtain ⟨gp, capp, rfl⟩ : ∃ gp capp, vp = .slice (some ⟨gp, 0, none⟩) 12 capp := by
            rcases hownp.2 with ⟨h, h'⟩ | ⟨g, c, cur, rfl, _⟩
            · cases h'
            · exact ⟨g, c, rfl⟩
          obtain ⟨z0, hz0⟩ : ∃ z : Nat, w9.cell? ⟨gp, 0, none⟩ = some (.int .i64 (z : Int)) := by
            have hl : 0 < zs.length := by rw [hzl]; decide
            exact ⟨zs[0], (hownp.cellAt 0 (by decide)).trans (by simp [hl, iv])⟩
          have E9 := hide (ownsRow_below E8.out b9)
          have B09 := hide (B08.out.trans (b9.mono z8))
          have z9 := B09.out.size
          clear b9 hownp hzl hzs E8 B8 B08
          obtain ⟨kk, hkk, hrem⟩ : ∃ kk : Nat, kk ≤ S.size ∧ (z0 : Int) % ((S.size : Int) + 1) = (kk : Int) := ⟨z0 % (S.size + 1), by have := Nat.mod_lt z0 (show 0 < S.size + 1 by omega); omega, rem_natQ _ _⟩
          have hne0 : ¬ ((S.size : Int) + 1) = 0 := by omega
          obtain ⟨j, hj, hj2, hj3, hj4⟩ := HSM.out kk hkk
          obtain ⟨K, hK⟩ : ∃ K, S.extract 0 kk = K := ⟨_, rfl⟩
          have hKz : K.size ≤ 3000 := by rw [← hK, ByteArray.size_extract]; omega
          have hcut := cut_to9 S kk (kk : Int) K rfl hkk hK
          rw [hK] at hj4
          have hjl : (L.take j).length = j := by rw [List.length_take]; omega
          obtain ⟨E, hE⟩ : ∃ E, Hid (endT L j = E) := ⟨_, rfl⟩
          have C9 : Hid (∀ W, MaxL W m → Calls Tryd.prog 8 #[.string K] W fun e w' => Below W.heap.size W w' ∧ ∃ a c, e = .returned (.tuple #[.slice a j c, .int .i64 (E : Int), .bool false])) := fun W hW => by
            refine (implReqs_any K m W (by omega) hW).mono ?_
            rintro e w' h
            rw [hj4] at h
            obtain ⟨hb, a, c, he, -⟩ := tellsQ_of h
            exact ⟨hb, a, c, by rw [he, ← hE.out, ← hjl]; simp [hjl]⟩
          have hE9 := int_cellQ E9.out j (by omega) _ (endsR_get L L.length j hj)
          rw [hE.out] at hE9
          have hE91 : Hid (j < L.length → w9.cell? ⟨ge, j + 1, none⟩ = some (.int .i64 (endT L (j + 1) : Int))) := fun h => int_cellQ E9.out (j + 1) (by omega) _ (endsR_get L L.length (j + 1) (by omega))
          have hgE : ge < w9.heap.size := (E9.out.lt ge rfl).2
          have hEE : ((E : Int) != (E : Int)) = false := by simp
          have hjL : decide ((L.length : Int) < (j : Int)) = false := by simp; omega
          have hji0 : (0 : Int) ≤ (j : Int) := by omega
          have hji1 : (j : Int) < (L.length : Int) + 1 := by omega
          clear hK hj4 HSM hjl hE
          go_wp2_with fail
          refine (C9.out _ (maxL_below HM.out hw0 B09.out)).mono ?_
          rintro e w10 ⟨b10, a10, c10, rfl⟩
          have hc10 := (b10.cell (p := ⟨ge, j, none⟩) hgE).trans hE9
          have hc11 : Hid (j < L.length → w10.cell? ⟨ge, j + 1, none⟩ = some (.int .i64 (endT L (j + 1) : Int))) := fun h => (b10.cell (p := ⟨ge, j + 1, none⟩) hgE).trans (hE91.out h)
          have B010 := hide (B09.out.trans (b10.mono z9))
          have z10 := B010.out.size
          have CP : Hid (∀ W, MaxL W m → Calls Tryd.prog 11 #[.string ⟨#[80, 73, 78, 71, 32, 32, 120, 32, 13, 10, 42, 49]⟩] W fun e w' => Below W.heap.size W w' ∧ ∃ a c, e = .returned (.tuple #[.slice a 2 c, .int .i64 10, .int .i64 1]) ∧ TextsAt w' a pingL) := fun W hW => by
            refine (implParse_any _ m W (by show 12 ≤ _; omega) hW).mono ?_
            rintro e w' h
            obtain ⟨hb, a, c, he, hr⟩ := tells_of h
            rw [parse_ping] at he hr
            exact ⟨hb, a, c, he, rowText_rows hr⟩
          have HSP : Hid (∀ W a c b c2, TextsAt W a pingL → TextsAt W b pingL → Calls Tryd.prog 9 #[.slice a 2 c, .slice b 2 c2] W fun e w' => e = .returned (.bool true) ∧ Below W.heap.size W w') := fun W a c b c2 h1 h2 => sameRow_same pingL a b c c2 W (by show 2 ≤ _; unfold maxLen; omega) h1 h2
          have HM10 := hide (maxL_below HM.out hw0 B010.out)
          clear b10 hE9 hE91 E9 C9
          by_cases hjn : j < L.length
          · have hjn' : decide ((j : Int) < (L.length : Int)) = true := by simp; omega
            have hc12 := hc11.out hjn
            have hj5 := hj3 hjn
            generalize endT L (j + 1) = E1 at hc12 hj5
            have hle : decide ((E1 : Int) ≤ (kk : Int)) = false := by simp; omega
            have hji2 : (0 : Int) ≤ (j : Int) + 1 := by omega
            have hji3 : (j : Int) + 1 < (L.length : Int) + 1 := by omega
            clear hj3 hc11
            go_wp2_with fail
            refine (CP.out _ HM10.out).mono ?_
            rintro e w11 ⟨b11, a11, c11, rfl, t11⟩
            have B011 := hide (B010.out.trans (b11.mono z10))
            have z11 := B011.out.size
            obtain ⟨w12, hw12⟩ : ∃ w12, w12 = w11.alloc (.cells #[.string ⟨#[80, 73, 78, 71]⟩, .string ⟨#[120]⟩] 9) := ⟨_, rfl⟩
            have b12 : Below w11.heap.size w11 w12 := by rw [hw12]; exact (Below.refl _ w11).alloc (Nat.le_refl _) _
            have TA := hide (textsAt_keep t11 b12)
            have TB : Hid (TextsAt w12 (some ⟨w11.heap.size, 0, none⟩) pingL) := by
              have hb : w12.heap[w11.heap.size]? = some (.cells (pingL.map Value.string).toArray 9 (0, 0)) := by rw [hw12]; exact heap_alloc_new _ _
              exact fun j hj => ⟨w11.heap.size, 0, rfl, (Array.getElem?_eq_some_iff.1 hb).1, by rw [Nat.zero_add]; exact texts_cells pingL hb j _ (List.getElem?_eq_getElem hj)⟩
            have B012 := hide (B011.out.trans (b12.mono z11))
            have z12 := B012.out.size
            clear b11 t11 b12
            go_wp2_with fail
            rw [← hw12]
            clear hw12
            refine (HSP.out _ _ _ _ _ TA.out TB.out).mono ?_
            rintro e w13 ⟨rfl, b13⟩
            have B013 := hide (B012.out.trans (b13.mono z12))
            clear b13
            go_wp2
            go_ret
            exact ⟨rfl, B013.out⟩
          · have hjn' : decide ((j : Int) < (L.length : Int)) = false := by simp; omega
            clear hj3 hc11
            go_wp2_with fail
            refine (CP.out _ HM10.out).mono ?_
            rintro e w11 ⟨b11, a11, c11, rfl, t11⟩
            have B011 := hide (B010.out.trans (b11.mono z10))
            have z11 := B011.out.size
            obtain ⟨w12, hw12⟩ : ∃ w12, w12 = w11.alloc (.cells #[.string ⟨#[80, 73, 78, 71]⟩, .string ⟨#[120]⟩] 9) := ⟨_, rfl⟩
            have b12 : Below w11.heap.size w11 w12 := by rw [hw12]; exact (Below.refl _ w11).alloc (Nat.le_refl _) _
            have TA := hide (textsAt_keep t11 b12)
            have TB : Hid (TextsAt w12 (some ⟨w11.heap.size, 0, none⟩) pingL) := by
              have hb : w12.heap[w11.heap.size]? = some (.cells (pingL.map Value.string).toArray 9 (0, 0)) := by rw [hw12]; exact heap_alloc_new _ _
              exact fun j hj => ⟨w11.heap.size, 0, rfl, (Array.getElem?_eq_some_iff.1 hb).1, by rw [Nat.zero_add]; exact texts_cells pingL hb j _ (List.getElem?_eq_getElem hj)⟩
            have B012 := hide (B011.out.trans (b12.mono z11))
            have z12 := B012.out.size
            clear b11 t11 b12
            go_wp2_with fail
            rw [← hw12]
            clear hw12
            refine (HSP.out _ _ _ _ _ TA.out TB.out).mono ?_
            rintro e w13 ⟨rfl, b13⟩
            have B013 := hide (B012.out.trans (b13.mono z12))
            clear b13
            go_wp2
            go_ret
            exact ⟨rfl, B013.out⟩
end Go.Proofs.YtdefipahgpljeaaDoor
namespace Go.Proofs.YtdefipahgpljeaaDoor
open Go.RowKit Go.ChangeShapes
theorem code_of {w : World} {x : Addr} {len : Nat} {zs : List Int} (hl : len ≤ zs.length) (hcell : ∀ i, i < zs.length → w.cell? (x.add i) = some (.int .u8 (zs.getD i 0))) (hwz : ∀ n ∈ zs, (Lit.int .u8 n).wf = true) : Code w (some x) len := by
  intro j hj
  have hjl : j < zs.length := by omega
  have hc := hcell j hjl
  obtain ⟨b, off, spot⟩ := x
  have hspot : spot = none := by
    have h0 := hcell 0 (by omega)
    simpa [Addr.add] using World.cell?_spot h0
  subst hspot
  have hz : zs.getD j 0 = zs[j] := by simp [List.getD, hjl]
  have hb := bounds_u8 (hwz zs[j] (List.getElem_mem hjl))
  have ha : ((⟨b, off, none⟩ : Addr).add j) = ⟨b, off + j, none⟩ := by cases j <;> simp [Addr.add]
  rw [ha, hz] at hc
  obtain ⟨z, hzz⟩ := Int.eq_ofNat_of_zero_le hb.1
  rw [hzz] at hc
  refine ⟨b, off, z, rfl, ?_, hc, by omega⟩
  rcases Nat.lt_or_ge b w.heap.size with h | h
  · exact h
  · unfold World.cell? at hc
    rw [show w.heap[(⟨b, off + j, none⟩ : Addr).block]? = none from Array.getElem?_eq_none h] at hc
    cases hc
end Go.Proofs.YtdefipahgpljeaaDoor
