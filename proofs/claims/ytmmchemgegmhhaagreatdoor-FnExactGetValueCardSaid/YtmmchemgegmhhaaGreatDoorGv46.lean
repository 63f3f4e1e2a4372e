import Derived.Test.YtmmchemgegmhhaaGreatDoorGv44
import Derived.Test.YtmmchemgegmhhaaGreatDoorGv45
import Derived.Test.YtmmchemgegmhhaaGreatDoorGv3
import Derived.Test.YtmmchemgegmhhaaGreatDoorGv5
set_option maxRecDepth 100000
set_option maxHeartbeats 1600000
namespace Go.Proofs.YtmmchemgegmhhaaGreatDoor
open Go.RowKit
theorem risEndL (s : ByteArray) : ∀ (l : List (Nat × Nat)) (last : Int) (e : Nat), chained s e l → (ris s l last e).2 = e + totD (ris s l last e).1
  | [], _, _, _ => rfl
  | x :: r, last, e, h => by
    unfold ris
    split
    · rename_i hx
      rw [risEndL s r _ x.2 h.2]
      have := frame_sizeD h.1 hx.1
      simp only [totD]
      omega
    · rfl
theorem risAtL (s : ByteArray) : ∀ (l : List (Nat × Nat)) (last : Int) (e : Nat), chained s e l → ∀ j b, (ris s l last e).1[j]? = some b → ∃ y, frB s (e + totD ((ris s l last e).1.take j)) = some y ∧ rdOk (s.extract y.1 y.2) = true ∧ rdSeq (s.extract y.1 y.2) = b.seq ∧ rdChanges (s.extract y.1 y.2) = b.chs
  | [], _, _, _, j, b, h => by simp [ris] at h
  | x :: r, last, e, hc, j, b, h => by
    by_cases hx : rdOk (s.extract x.1 x.2) = true ∧ last < rdSeq (s.extract x.1 x.2)
    · have hf := frame_sizeD hc.1 hx.1
      have he : (ris s (x :: r) last e).1 = ⟨rdSeq (s.extract x.1 x.2), rdChanges (s.extract x.1 x.2)⟩ :: (ris s r (rdSeq (s.extract x.1 x.2)) x.2).1 := by rw [ris_more hx.1 hx.2]
      rw [he] at h ⊢
      have ih := risAtL s r (rdSeq (s.extract x.1 x.2)) x.2 hc.2
      generalize (ris s r (rdSeq (s.extract x.1 x.2)) x.2).1 = R at h ih ⊢
      have hx1 := hx.1
      clear he hx
      cases j with
      | zero =>
        rw [List.getElem?_cons_zero, Option.some.injEq] at h
        rw [List.take_zero, show e + totD [] = e from rfl]
        exact ⟨x, hc.1, hx1, by rw [← h], by rw [← h]⟩
      | succ j =>
        rw [List.getElem?_cons_succ] at h
        obtain ⟨y, h1, h2⟩ := ih j b h
        refine ⟨y, ?_, h2⟩
        rw [← h1, List.take_succ_cons]
        have : e + totD (⟨rdSeq (s.extract x.1 x.2), rdChanges (s.extract x.1 x.2)⟩ :: R.take j) = x.2 + totD (R.take j) := by
          simp only [totD]
          omega
        rw [this]
    · have he : (ris s (x :: r) last e).1 = [] := by unfold ris; rw [if_neg hx]
      rw [he] at h
      simp at h
theorem seg_places {fs : List FileD} {S : SegD} (hS : S ∈ segsL fs) : ∃ F ∈ fs, fileD fs (segNm (S.num : Int)) = some F ∧ S.fin = S.hd + totD S.bs ∧ ∀ j (hj : j < S.bs.length), ∃ y, frB F.text (S.hd + totD (S.bs.take j)) = some y ∧ rdOk (F.text.extract y.1 y.2) = true ∧ rdSeq (F.text.extract y.1 y.2) = S.bs[j].seq ∧ rdChanges (F.text.extract y.1 y.2) = S.bs[j].chs := by
  obtain ⟨-, -, F, hF, h1, h2⟩ := segsTo_mem (segsL_mem hS)
  have hr : S.right = true := by
    unfold segsL at hS
    split at hS
    · rename_i hok
      unfold segsOk at hok
      simp only [Bool.and_eq_true] at hok
      exact List.all_eq_true.1 hok.2.1 S hS
    · exact absurd hS List.not_mem_nil
  refine ⟨F, hF, h2, ?_⟩
  have e1 : S.bs = segBatches (S.num : Int) F.text := by rw [h1]; rfl
  have e2 : S.fin = segEnd (S.num : Int) F.text := by rw [h1]; rfl
  have e3 : S.frm = segFrom (S.num : Int) F.text := by rw [h1]; rfl
  have e4 : S.right = segOk (S.num : Int) F.text := by rw [h1]; rfl
  rw [e4] at hr
  clear h1
  cases hu : unf F.text with
  | nil =>
    have : segRead (S.num : Int) F.text = none := by unfold segRead; rw [hu]
    unfold segOk at hr
    rw [this] at hr
    cases hr
  | cons x r =>
    cases hf : hdFrom (S.num : Int) (F.text.extract x.1 x.2) with
    | none =>
      have : segRead (S.num : Int) F.text = none := by unfold segRead; rw [hu]; simp only [hf]
      unfold segOk at hr
      rw [this] at hr
      cases hr
    | some f =>
      obtain ⟨k1, k2, k3, -⟩ := seg_some (segRead_some hu hf)
      have hc := unf_chained F.text
      rw [hu] at hc
      have hh : S.hd = x.2 := by
        unfold SegD.hd
        rw [e3, k1]
        have := head_frame hc.1 hf
        simpa using this
      refine ⟨?_, ?_⟩
      · rw [e2, k3, e1, k2, hh]
        exact risEndL _ _ _ _ hc.2
      · intro j hj
        have hb : (ris F.text r (-1) x.2).1[j]? = some S.bs[j] := by
          rw [← k2, ← e1]
          exact List.getElem?_eq_getElem hj
        have := risAtL F.text r (-1) x.2 hc.2 j S.bs[j] hb
        rw [← k2, ← e1] at this
        rw [hh]
        exact this
theorem segsTo_rise (fs : List FileD) : ∀ k, (segsTo fs k).Pairwise (fun a b => a.num < b.num)
  | 0 => List.Pairwise.nil
  | k + 1 => by
    cases h : fileD fs (segNm (k : Int)) with
    | none => rw [segsTo_none h]; exact segsTo_rise fs k
    | some F =>
      rw [segsTo_some h, List.pairwise_append]
      refine ⟨segsTo_rise fs k, by simp, fun a ha b hb => ?_⟩
      rw [List.mem_singleton] at hb
      subst hb
      exact (segsTo_mem ha).1
theorem segsL_rise (fs : List FileD) : (segsL fs).Pairwise (fun a b => a.num < b.num) := by
  unfold segsL
  split
  · exact List.Pairwise.filter _ (segsTo_rise fs 100)
  · exact List.Pairwise.nil
structure PlD where
  seg : Int
  pos : Int
  size : Nat
def plcsTo (S : SegD) : Nat → List PlD
  | 0 => []
  | k + 1 => plcsTo S k ++ (match S.bs[k]? with | some b => [⟨(S.num : Int), ((S.hd + totD (S.bs.take k) : Nat) : Int), sizeD b.seq b.chs⟩] | none => [])
def plcs (S : SegD) : List PlD := plcsTo S S.bs.length
def placesL (l : List SegD) : List PlD := l.flatMap plcs
theorem plcsTo_mem {S : SegD} {x : PlD} : ∀ {k : Nat}, x ∈ plcsTo S k → ∃ j, ∃ h : j < S.bs.length, j < k ∧ x = ⟨(S.num : Int), ((S.hd + totD (S.bs.take j) : Nat) : Int), sizeD S.bs[j].seq S.bs[j].chs⟩
  | 0, h => absurd h List.not_mem_nil
  | k + 1, h => by
    unfold plcsTo at h
    rcases List.mem_append.1 h with h | h
    · obtain ⟨j, hj, h1, h2⟩ := plcsTo_mem h
      exact ⟨j, hj, by omega, h2⟩
    · by_cases hk : k < S.bs.length
      · rw [List.getElem?_eq_getElem hk] at h
        simp only [List.mem_singleton] at h
        exact ⟨k, hk, by omega, h⟩
      · rw [List.getElem?_eq_none (by omega)] at h
        simp at h
theorem plcsTo_has {S : SegD} {j : Nat} (hj : j < S.bs.length) : ∀ {k : Nat}, j < k → (⟨(S.num : Int), ((S.hd + totD (S.bs.take j) : Nat) : Int), sizeD S.bs[j].seq S.bs[j].chs⟩ : PlD) ∈ plcsTo S k
  | 0, h => absurd h (by omega)
  | k + 1, h => by
    unfold plcsTo
    rcases Nat.lt_or_ge j k with h1 | h1
    · exact List.mem_append_left _ (plcsTo_has hj h1)
    · obtain rfl : j = k := by omega
      refine List.mem_append_right _ ?_
      rw [List.getElem?_eq_getElem hj]
      simp
theorem plcsTo_apart {S : SegD} (hok : ∀ b ∈ S.bs, textOkD b.seq b.chs = true) : ∀ k, (plcsTo S k).Pairwise (fun a b => a.pos ≠ b.pos)
  | 0 => List.Pairwise.nil
  | k + 1 => by
    unfold plcsTo
    rw [List.pairwise_append]
    refine ⟨plcsTo_apart hok k, by split <;> simp, fun a ha b hb => ?_⟩
    obtain ⟨j, hj, hjk, rfl⟩ := plcsTo_mem ha
    by_cases hk : k < S.bs.length
    · rw [List.getElem?_eq_getElem hk] at hb
      simp only [List.mem_singleton] at hb
      subst hb
      have := totD_lt hok hjk (by omega)
      show ((S.hd + totD (S.bs.take j) : Nat) : Int) ≠ ((S.hd + totD (S.bs.take k) : Nat) : Int)
      omega
    · rw [List.getElem?_eq_none (by omega)] at hb
      simp at hb
theorem places_apart {fs : List FileD} : (placesL (segsL fs)).Pairwise (fun a b => ¬ (a.seg = b.seg ∧ a.pos = b.pos)) := by
  have hm : ∀ S ∈ segsL fs, ∀ b ∈ S.bs, textOkD b.seq b.chs = true := fun S hS => segsL_ok hS
  have hr := segsL_rise fs
  generalize segsL fs = l at hm hr
  unfold placesL
  induction l with
  | nil => exact List.Pairwise.nil
  | cons S r ih =>
    rw [List.flatMap_cons, List.pairwise_append]
    have hr2 := List.pairwise_cons.1 hr
    refine ⟨List.Pairwise.imp (fun h e => h e.2) (plcsTo_apart (hm S List.mem_cons_self) S.bs.length), ih (fun T hT => hm T (List.mem_cons_of_mem _ hT)) hr2.2, fun a ha b hb e => ?_⟩
    obtain ⟨j, hj, -, rfl⟩ := plcsTo_mem ha
    obtain ⟨T, hT, hb⟩ := List.mem_flatMap.1 hb
    obtain ⟨i, hi, -, rfl⟩ := plcsTo_mem hb
    have := hr2.1 T hT
    have h2 : (S.num : Int) = (T.num : Int) := e.1
    omega
def sumT (dir : List SpotD) : List PlD → Nat
  | [] => 0
  | x :: r => (if toldB dir x.seg x.pos then x.size else 0) + sumT dir r
theorem sumT_app (dir : List SpotD) : ∀ a b : List PlD, sumT dir (a ++ b) = sumT dir a + sumT dir b
  | [], b => by simp [sumT]
  | x :: r, b => by simp only [List.cons_append, sumT, sumT_app dir r b]; omega
theorem sumT_nil : ∀ P : List PlD, sumT [] P = 0
  | [] => rfl
  | x :: r => by simp only [sumT, sumT_nil r]; rfl
theorem told_snoc (dir : List SpotD) (S : SpotD) (seg pos : Int) : toldB (dir ++ [S]) seg pos = (toldB dir seg pos || ((S.seg == seg) && (S.pos == pos))) := by
  unfold toldB
  rw [List.any_append]
  simp
theorem sumT_old (dir : List SpotD) (S : SpotD) (h : toldB dir S.seg S.pos = true) : ∀ P, sumT (dir ++ [S]) P = sumT dir P
  | [] => rfl
  | x :: r => by
    have ih := sumT_old dir S h r
    simp only [sumT, ih, told_snoc]
    congr 1
    cases h1 : ((S.seg == x.seg) && (S.pos == x.pos)) with
    | false => rw [Bool.or_false]
    | true =>
      rw [Bool.and_eq_true] at h1
      rw [← eq_of_beq h1.1, ← eq_of_beq h1.2, h]
      rfl
theorem sumT_far (dir : List SpotD) (S : SpotD) : ∀ P : List PlD, (∀ x ∈ P, ¬ (x.seg = S.seg ∧ x.pos = S.pos)) → sumT (dir ++ [S]) P = sumT dir P
  | [], _ => rfl
  | x :: r, hP => by
    have ih := sumT_far dir S r (fun y hy => hP y (List.mem_cons_of_mem _ hy))
    simp only [sumT, ih, told_snoc]
    have h1 : ((S.seg == x.seg) && (S.pos == x.pos)) = false := by
      cases h : ((S.seg == x.seg) && (S.pos == x.pos)) with
      | false => rfl
      | true =>
        rw [Bool.and_eq_true] at h
        exact absurd ⟨(eq_of_beq h.1).symm, (eq_of_beq h.2).symm⟩ (hP x List.mem_cons_self)
    rw [h1, Bool.or_false]
theorem sumT_new (dir : List SpotD) (S : SpotD) (h : toldB dir S.seg S.pos = false) : ∀ (P : List PlD) (x : PlD), P.Pairwise (fun a b => ¬ (a.seg = b.seg ∧ a.pos = b.pos)) → x ∈ P → x.seg = S.seg → x.pos = S.pos → sumT (dir ++ [S]) P = sumT dir P + x.size
  | [], x, _, hx, _, _ => absurd hx List.not_mem_nil
  | y :: r, x, hp, hx, h1, h2 => by
    have hp2 := List.pairwise_cons.1 hp
    rcases List.mem_cons.1 hx with rfl | hx
    · have hf := sumT_far dir S r (fun z hz e => hp2.1 z hz ⟨by rw [h1, e.1], by rw [h2, e.2]⟩)
      simp only [sumT, hf, told_snoc, h1, h2, h, beq_self_eq_true, Bool.and_self, Bool.or_true, if_true]
      simp
      omega
    · have ih := sumT_new dir S h r x hp2.2 hx h1 h2
      simp only [sumT, ih, told_snoc]
      have h3 : ((S.seg == y.seg) && (S.pos == y.pos)) = false := by
        cases h : ((S.seg == y.seg) && (S.pos == y.pos)) with
        | false => rfl
        | true =>
          rw [Bool.and_eq_true] at h
          exact absurd ⟨by rw [h1]; exact (eq_of_beq h.1).symm, by rw [h2]; exact (eq_of_beq h.2).symm⟩ (hp2.1 x hx)
      rw [h3, Bool.or_false]
      omega
def liveN (fs : List FileD) (dir : List SpotD) : Nat := sumT dir (placesL (segsL fs))
theorem liveN_step {fs : List FileD} {k : Nat} (h : k < (dirD fs).length) :
    liveN fs ((dirD fs).take (k + 1)) = liveN fs ((dirD fs).take k) + (if toldB ((dirD fs).take k) (dirD fs)[k].seg (dirD fs)[k].pos then 0 else sizeD (batSeq (recAt fs (dirD fs)[k].seg (dirD fs)[k].pos)) (batChs (recAt fs (dirD fs)[k].seg (dirD fs)[k].pos)))
    ∧ (diskOkD fs = true → batOk (recAt fs (dirD fs)[k].seg (dirD fs)[k].pos) = true) := by
  obtain ⟨S, hS, h1, j, hj, h2, h3, -⟩ := spots_tell (List.getElem_mem h)
  obtain ⟨F, hF, hf, -, hpl⟩ := seg_places hS
  obtain ⟨y, hy1, hy2, hy3, hy4⟩ := hpl j hj
  have hsz : F.text.size ≤ 20000 ∧ S.hd + totD (S.bs.take j) ≤ F.text.size := by
    refine ⟨?_, ?_⟩
    · have hd : diskOkD fs = true := by
        unfold segsL at hS
        split at hS
        · rename_i hok
          unfold segsOk at hok
          simp only [Bool.and_eq_true] at hok
          exact hok.1
        · exact absurd hS List.not_mem_nil
      exact ((disk_files hd).2 F hF).2.2.1
    · have := frB_bounds _ _ _ hy1
      omega
  have hrec : recAt fs (dirD fs)[k].seg (dirD fs)[k].pos = some (F.text.extract y.1 y.2) := by
    rw [h1, h2, recAt_frame hf hsz.2 hsz.1, hy1]
    rfl
  refine ⟨?_, fun _ => by rw [hrec]; exact hy2⟩
  unfold liveN
  rw [List.take_succ_eq_append_getElem h]
  cases ht : toldB ((dirD fs).take k) (dirD fs)[k].seg (dirD fs)[k].pos with
  | true =>
    rw [sumT_old _ _ ht, if_pos rfl]
    rfl
  | false =>
    rw [sumT_new _ _ ht _ ⟨(S.num : Int), ((S.hd + totD (S.bs.take j) : Nat) : Int), sizeD S.bs[j].seq S.bs[j].chs⟩ places_apart (List.mem_flatMap.2 ⟨S, hS, plcsTo_has hj hj⟩) h1.symm h2.symm, hrec]
    simp only [batSeq, batChs, Option.map_some, Option.getD_some, hy3, hy4]
    simp
theorem isNaN_str (s : ByteArray) (w : World) : Calls Tryz.prog 185 #[.string s] w fun e w' => e = .returned (.bool false) ∧ w' = w := by
  have h : (s.toList == s.toList) = true := beq_self_eq_true _
  go_enter Tryz.func185, Tryz.ntmps185
  go_wp2
  go_ret
  exact ⟨rfl, rfl⟩
def cmpI (a b : ByteArray) : Int := if Op.bytesLess a.toList b.toList = true then -1 else if (a.toList == b.toList) = true then 0 else 1
theorem compare_str (a b : ByteArray) (w : World) : Calls Tryz.prog 142 #[.string a, .string b] w fun e w' => e = .returned (.int .i64 (cmpI a b)) ∧ w' = w := by
  have HN := hide isNaN_str
  unfold cmpI
  cases h1 : Op.bytesLess a.toList b.toList with
  | true =>
    rw [if_pos rfl]
    go_enter Tryz.func142, Tryz.ntmps142
    go_wp2_with fail
    refine (HN.out _ _).mono ?_
    rintro e w1 ⟨rfl, rfl⟩
    go_wp2_with fail
    refine (HN.out _ _).mono ?_
    rintro e w1 ⟨rfl, rfl⟩
    go_wp2
    go_ret
    exact ⟨rfl, rfl⟩
  | false =>
    rw [if_neg (by decide)]
    cases h2 : (a.toList == b.toList) with
    | true =>
      rw [if_pos rfl]
      go_enter Tryz.func142, Tryz.ntmps142
      go_wp2_with fail
      refine (HN.out _ _).mono ?_
      rintro e w1 ⟨rfl, rfl⟩
      go_wp2_with fail
      refine (HN.out _ _).mono ?_
      rintro e w1 ⟨rfl, rfl⟩
      go_wp2
      go_ret
      exact ⟨rfl, rfl⟩
    | false =>
      rw [if_neg (by decide)]
      go_enter Tryz.func142, Tryz.ntmps142
      go_wp2_with fail
      refine (HN.out _ _).mono ?_
      rintro e w1 ⟨rfl, rfl⟩
      go_wp2_with fail
      refine (HN.out _ _).mono ?_
      rintro e w1 ⟨rfl, rfl⟩
      go_wp2
      go_ret
      exact ⟨rfl, rfl⟩
theorem spotCmp_any (A : SpotD) (key : ByteArray) (w : World) : Calls Tryz.prog 141 #[.agg #[.string A.key, .int .i64 A.seg, .int .i64 A.pos, .int .i64 A.seq], .string key] w fun e w' => e = .returned (.int .i64 (cmpI A.key key)) ∧ Below w.heap.size w w' := by
  go_enter Tryz.func141, Tryz.ntmps141
  go_wp2_with fail
  refine (compare_str _ _ _).mono ?_
  rintro e w1 ⟨rfl, rfl⟩
  go_wp2
  go_ret
  exact ⟨rfl, (Below.refl _ w).alloc (Nat.le_refl _) _⟩
theorem name_eqS {a b : ByteArray} (h : a.toList = b.toList) : a = b :=
  Decidable.byContradiction fun hne => by
    have h1 := (toList_ne).2 hne
    rw [h, beq_self_eq_true] at h1
    cases h1
theorem fourC {W : World} {g : Nat} {a b c d : Value} {t : TypeId} (h : W.heap[g]? = some (.cells #[a, b, c, d] t (0, 0))) : W.cell? ⟨g, 0, none⟩ = some a ∧ W.cell? ⟨g, 1, none⟩ = some b ∧ W.cell? ⟨g, 2, none⟩ = some c ∧ W.cell? ⟨g, 3, none⟩ = some d ∧ W.frozen? ⟨g, 0, none⟩ = false ∧ W.frozen? ⟨g, 1, none⟩ = false ∧ W.frozen? ⟨g, 2, none⟩ = false ∧ W.frozen? ⟨g, 3, none⟩ = false :=
  ⟨(cell_of_row W g 0 _ _ (0, 0) h).trans rfl, (cell_of_row W g 1 _ _ (0, 0) h).trans rfl, (cell_of_row W g 2 _ _ (0, 0) h).trans rfl, (cell_of_row W g 3 _ _ (0, 0) h).trans rfl, frozen_of_row W g 0 _ _ h, frozen_of_row W g 1 _ _ h, frozen_of_row W g 2 _ _ h, frozen_of_row W g 3 _ _ h⟩
theorem search_any (D : List SpotD) (ad : Option Addr) (cd : Nat) (key : ByteArray) (w : World) (hl : D.length ≤ 1000000) (hs : srtS D) (hds : SpotsAt w ad D) :
    Calls Tryz.prog 140 #[.slice ad D.length cd, .string key, .func (.func 141) #[] #[]] w fun e w' => (∃ (p : Nat) (b : Bool), e = .returned (.tuple #[.int .i64 p, .bool b]) ∧ (b = true → ∃ h : p < D.length, findS D key = some D[p]) ∧ (b = false → findS D key = none)) ∧ Below w.heap.size w w' := by
  have HD := hide hds
  have HS := hide hs
  have HC := hide spotCmp_any
  clear hds hs
  go_enter Tryz.func140, Tryz.ntmps140
  go_wp2_with fail
  go_loopw [9, 10] (fun ii jj wr => ∃ (i j : Nat), ii = .int .i64 i ∧ jj = .int .i64 j ∧ i ≤ j ∧ j ≤ D.length ∧ Hid (∀ k (h : k < D.length), k < i → Op.bytesLess D[k].key.toList key.toList = true) ∧ Hid (∀ k (h : k < D.length), j ≤ k → Op.bytesLess D[k].key.toList key.toList = false) ∧ Hid (Below w.heap.size w wr)) (fun ii jj _ => (intOf jj).toNat - (intOf ii).toNat)
  case atStart => exact ⟨0, D.length, rfl, rfl, Nat.zero_le _, Nat.le_refl _, fun k h hk => absurd hk (by omega), fun k h hk => absurd hk (by omega), Below.refl _ _⟩
  case round =>
    obtain ⟨i, j, rfl, rfl, hij, hjn, HI, HJ, HB⟩ := hrel
    by_cases hlt : i < j
    · have hlt' : decide ((i : Int) < (j : Int)) = true := by simp; omega
      obtain ⟨m, hm⟩ : ∃ m : Nat, (i + j) / 2 = m := ⟨_, rfl⟩
      have hmi : i ≤ m ∧ m < j := by omega
      have hmD : m < D.length := by omega
      obtain ⟨b, off, rfl, hbw, hc0, hc1, hc2, hc3⟩ := spotsAt_keep HD.out HB.out m hmD
      have hi0 : (0 : Int) ≤ ((i : Int) + (j : Int)) / 2 := by omega
      have hi1 : ((i : Int) + (j : Int)) / 2 < (D.length : Int) := by omega
      have hin : (((i : Int) + (j : Int)) / 2).toNat = m := by omega
      have hie : ((i : Int) + (j : Int)) / 2 = (m : Int) := by omega
      obtain ⟨A, HA⟩ : ∃ A, Hid (D[m] = A) := ⟨_, hide rfl⟩
      rw [HA.out] at hc0 hc1 hc2 hc3
      go_wp2_with fail
      refine (HC.out A key _).mono ?_
      rintro e w1 ⟨rfl, b1⟩
      have HB1 := hide (HB.out.trans (b1.mono HB.out.size))
      clear b1 hc0 hc1 hc2 hc3
      cases hl2 : Op.bytesLess A.key.toList key.toList with
      | true =>
        have hx : cmpI A.key key = -1 := by unfold cmpI; rw [if_pos hl2]
        rw [hx]
        have HI2 : Hid (∀ k (h : k < D.length), k < m + 1 → Op.bytesLess D[k].key.toList key.toList = true) := fun k h hk => by
          rcases Nat.lt_or_ge k m with h2 | h2
          · have h3 := List.pairwise_iff_getElem.1 HS.out k m h hmD h2
            rw [HA.out] at h3
            exact less_trans h3 hl2
          · obtain rfl : k = m := by omega
            rw [HA.out]
            exact hl2
        clear hl2 hx
        go_wp2
        go_roundw
        case rel => exact ⟨m + 1, j, by go_num, rfl, by omega, by omega, HI2, HJ, HB1⟩
        case measure => simp [intOf]; omega
      | false =>
        obtain ⟨x, hx, hx0⟩ : ∃ x, cmpI A.key key = x ∧ 0 ≤ x := by
          refine ⟨_, rfl, ?_⟩
          unfold cmpI
          rw [hl2, if_neg (by decide)]
          split <;> decide
        rw [hx]
        have hx1 : decide (x < 0) = false := by simp; omega
        have HJ2 : Hid (∀ k (h : k < D.length), m ≤ k → Op.bytesLess D[k].key.toList key.toList = false) := fun k h hk => by
          rcases Nat.lt_or_ge m k with h2 | h2
          · have h3 := List.pairwise_iff_getElem.1 HS.out m k hmD h h2
            rw [HA.out] at h3
            cases h4 : Op.bytesLess D[k].key.toList key.toList with
            | false => rfl
            | true => rw [less_trans h3 h4] at hl2; cases hl2
          · obtain rfl : k = m := by omega
            rw [HA.out]
            exact hl2
        clear hl2 hx
        go_wp2
        go_roundw
        case rel => exact ⟨i, m, rfl, rfl, by omega, by omega, HI, HJ2, HB1⟩
        case measure => simp [intOf]; omega
    · have hlt' : decide ((i : Int) < (j : Int)) = false := by simp; omega
      obtain rfl : i = j := by omega
      by_cases hin : i < D.length
      · have hin' : decide ((i : Int) < (D.length : Int)) = true := by simp; omega
        obtain ⟨b, off, rfl, hbw, hc0, hc1, hc2, hc3⟩ := spotsAt_keep HD.out HB.out i hin
        have hi0 : (0 : Int) ≤ (i : Int) := by omega
        have hi1 : (i : Int) < (D.length : Int) := by omega
        obtain ⟨A, HA⟩ : ∃ A, Hid (D[i] = A) := ⟨_, hide rfl⟩
        rw [HA.out] at hc0 hc1 hc2 hc3
        have hl2 := HJ.out i hin (Nat.le_refl _)
        rw [HA.out] at hl2
        go_wp2_with fail
        refine (HC.out A key _).mono ?_
        rintro e w1 ⟨rfl, b1⟩
        have HB1 := hide (HB.out.trans (b1.mono HB.out.size))
        clear b1 hc0 hc1 hc2 hc3
        cases hq : (A.key.toList == key.toList) with
        | true =>
          have hx : cmpI A.key key = 0 := by unfold cmpI; rw [hl2, if_neg (by decide), if_pos hq]
          have HF : Hid (findS D key = some D[i]) := by
            have := findS_mem HS.out (List.getElem_mem hin)
            rw [HA.out, name_eqS (eq_of_beq hq)] at this
            rw [HA.out]
            exact this
          rw [hx]
          clear hl2 hx hq
          go_wp2
          refine bodyPost_ret (results_tmp2 rfl _ _ _) rfl ?_
          exact ⟨⟨i, true, rfl, fun _ => ⟨hin, HF.out⟩, fun h => by cases h⟩, HB1.out⟩
        | false =>
          have hx : cmpI A.key key = 1 := by unfold cmpI; rw [hl2, if_neg (by decide), hq, if_neg (by decide)]
          have HF : Hid (findS D key = none) := by
            refine List.find?_eq_none.2 (fun S hS e => ?_)
            obtain ⟨k, hk, rfl⟩ := List.mem_iff_getElem.1 hS
            have e2 := eq_of_beq e
            rcases Nat.lt_trichotomy k i with h2 | h2 | h2
            · have h3 := HI.out k hk h2
              rw [e2, less_irrefl] at h3
              cases h3
            · subst h2
              rw [HA.out] at e
              rw [hq] at e
              cases e
            · have h3 := List.pairwise_iff_getElem.1 HS.out i k hin hk h2
              rw [HA.out, e2, hl2] at h3
              cases h3
          rw [hx]
          clear hl2 hx hq
          go_wp2
          refine bodyPost_ret (results_tmp2 rfl _ _ _) rfl ?_
          exact ⟨⟨i, false, rfl, fun h => by (cases h), fun _ => HF.out⟩, HB1.out⟩
      · have hin' : decide ((i : Int) < (D.length : Int)) = false := by simp; omega
        have HF : Hid (findS D key = none) := by
          refine List.find?_eq_none.2 (fun S hS e => ?_)
          obtain ⟨k, hk, rfl⟩ := List.mem_iff_getElem.1 hS
          have h3 := HI.out k hk (by omega)
          rw [eq_of_beq e, less_irrefl] at h3
          cases h3
        go_wp2
        refine bodyPost_ret (results_tmp2 rfl _ _ _) rfl ?_
        exact ⟨⟨i, false, rfl, fun h => by (cases h), fun _ => HF.out⟩, HB.out⟩
theorem box4s {W w0 : World} {β B : Nat} {c0 c1 c2 c3 : Value} {t : TypeId} (a0 a1 a2 a3 : Value) (hb : W.heap[β]? = some (.cells #[c0, c1, c2, c3] t (0, 0))) (h0 : Below B w0 W) (hB : B ≤ β) (W6 : World) (hW : W6 = (((W.setCell ⟨β, 0, none⟩ a0).setCell ⟨β, 1, none⟩ a1).setCell ⟨β, 2, none⟩ a2).setCell ⟨β, 3, none⟩ a3) :
    W6.heap[β]? = some (.cells #[a0, a1, a2, a3] t (0, 0)) ∧ Below B w0 W6 := by
  have d0 := (heap_setCell_same W β 0 _ _ a0 hb).trans rfl
  have d1 := (heap_setCell_same _ β 1 _ _ a1 d0).trans rfl
  have d2 := (heap_setCell_same _ β 2 _ _ a2 d1).trans rfl
  have d3 := (heap_setCell_same _ β 3 _ _ a3 d2).trans rfl
  subst hW
  exact ⟨by rw [d3]; rfl, (((h0.setCell (p := ⟨β, 0, none⟩) hB _).setCell (p := ⟨β, 1, none⟩) hB _).setCell (p := ⟨β, 2, none⟩) hB _).setCell (p := ⟨β, 3, none⟩) hB _⟩
def outSp : Option SpotD → SpotD
  | none => ⟨⟨#[]⟩, 0, 0, 0⟩
  | some S => S
theorem spotOf_any (D : List SpotD) (ad : Option Addr) (cd : Nat) (key : ByteArray) (w : World) (hl : D.length ≤ 1000000) (hs : srtS D) (hds : SpotsAt w ad D) :
    Calls Tryz.prog 93 #[.slice ad D.length cd, .string key] w fun e w' => e = .returned (.tuple #[.agg #[.string (outSp (findS D key)).key, .int .i64 (outSp (findS D key)).seg, .int .i64 (outSp (findS D key)).pos, .int .i64 (outSp (findS D key)).seq], .bool (findS D key).isSome]) ∧ Below w.heap.size w w' := by
  have HD := hide hds
  have HSE := hide (fun W h => search_any D ad cd key W hl hs h)
  clear hds hs
  obtain ⟨wb, hwb⟩ : ∃ wb, wb = w.alloc (.cells #[.string ⟨#[]⟩, .int .i64 0, .int .i64 0, .int .i64 0] 89) := ⟨_, rfl⟩
  have HB0 : Hid (Below w.heap.size w wb) := by rw [hwb]; exact (Below.refl _ w).alloc (Nat.le_refl _) _
  have HBK : Hid (wb.heap[w.heap.size]? = some (.cells #[.string ⟨#[]⟩, .int .i64 0, .int .i64 0, .int .i64 0] 89 (0, 0))) := by rw [hwb]; exact heap_alloc_new w _
  go_enter Tryz.func93, Tryz.ntmps93
  go_wp2_with fail
  rw [← hwb]
  clear hwb
  refine (HSE.out _ (spotsAt_keep HD.out HB0.out)).mono ?_
  rintro e w1 ⟨⟨p, b, rfl, hb1, hb2⟩, b1⟩
  have HW1 := hide (HB0.out.trans (b1.mono HB0.out.size))
  have HBK1 := hide ((b1.block _ (heap_lt HBK.out)).trans HBK.out)
  clear b1
  obtain ⟨x0, x1, x2, x3, f0, f1, f2, f3⟩ := fourC HBK1.out
  cases b with
  | false =>
    have HF := hide (hb2 rfl)
    clear hb1 hb2
    go_wp2
    obtain ⟨y0, y1⟩ := box4s (.string ⟨#[]⟩) (.int .i64 0) (.int .i64 0) (.int .i64 0) HBK1.out HW1.out (Nat.le_refl _) _ rfl
    obtain ⟨z0, z1, z2, z3, -⟩ := fourC y0
    refine bodyPost_ret (v := .tuple #[.agg #[.string ⟨#[]⟩, .int .i64 0, .int .i64 0, .int .i64 0], .bool false]) ?_ rfl ?_
    · simp [results, Tryz.results93, go_sem, z0, z1, z2, z3]
    · rw [HF.out]
      exact ⟨rfl, y1⟩
  | true =>
    obtain ⟨hp, hF⟩ := hb1 rfl
    have HF := hide hF
    obtain ⟨bb, off, rfl, hbw, hc0, hc1, hc2, hc3⟩ := spotsAt_keep HD.out HW1.out p hp
    clear hb1 hb2 hF
    generalize D[p] = A at hc0 hc1 hc2 hc3 HF
    have hi0 : (0 : Int) ≤ (p : Int) := by omega
    have hi1 : (p : Int) < (D.length : Int) := by omega
    go_wp2
    obtain ⟨y0, y1⟩ := box4s (.string A.key) (.int .i64 A.seg) (.int .i64 A.pos) (.int .i64 A.seq) HBK1.out HW1.out (Nat.le_refl _) _ rfl
    obtain ⟨z0, z1, z2, z3, -⟩ := fourC y0
    refine bodyPost_ret (v := .tuple #[.agg #[.string A.key, .int .i64 A.seg, .int .i64 A.pos, .int .i64 A.seq], .bool true]) ?_ rfl ?_
    · simp [results, Tryz.results93, go_sem, z0, z1, z2, z3]
    · rw [HF.out]
      exact ⟨rfl, y1⟩
theorem app_change0 {ops : Array Oper} {rest : List Oper} {o : Oper} {a : Act} {Q : Exit → Act → World → Prop} (W : World) (B : Nat) (hgd : o.guard = none) (s y : Operand)
    (ho : o.op = .call { callee := .builtin .append, args := #[s, y], argTypes := #[33, 33] }) (ao : Option Addr) (F : ChangeD) (hs : a.eval s = .slice ao 0 0)
    (k : Nat) (hx : a.eval y = .slice (some ⟨k, 0, none⟩) 1 1) (hblk : W.heap[k]? = some (.cells #[.string F.key, .string F.value, .bool F.gone] 144 (0, 0))) (hbase : B ≤ W.heap.size)
    (h : ∀ g cap w', w'.ownsRow B 144 3 (.slice (some ⟨g, 0, none⟩) 1 cap) [F].length (cellsChange [F]) → Below B W w' → B ≤ g → g < w'.heap.size → wpList Tryz.prog ops Q rest (a.put o.dst (.slice (some ⟨g, 0, none⟩) 1 cap)) w') :
    wpList Tryz.prog ops Q (o :: rest) a W := by
  obtain ⟨i0, hi, hz0, hz1, hz2⟩ := info_parts Tryz.infoChange
  have hnew := fun j u (hj : (cellsChange [F])[j]? = some u) => World.news_of_block hblk j u hj
  have hlc : (cellsChange [F]).length = 1 * i0.size := by rw [cellsChange_length, hz1]; rfl
  obtain ⟨g, cap, w', hr, h2, h3, h4, h5⟩ := run_append_lies (P := Tryz.prog) W 33 o.type B 144 i0 (.agg #[.string ⟨#[]⟩, .string ⟨#[]⟩, .bool false]) 3 40 Tryz.underlying33 hi hz0 hz1 hz2 rfl (by decide) (.slice none 0 0) 0 [] (World.ownsRow_nil _ _ _ _) ⟨k, 0, none⟩ 1 1 (cellsChange [F]) (by rw [cellsChange_length]; rfl)
    hnew (cellsChange_one [F]) (by omega) (by unfold maxLen; omega) (by omega) hbase W.heap.size rfl
  have hr2 : (Builtin.append_ #[33, 33] o.type #[.slice ao 0 0, .slice (some ⟨k, 0, none⟩) 1 1]).run Tryz.prog W = .ok (.slice (some ⟨g, 0, none⟩) (0 + 1) cap) w' := by
    cases ao with
    | none => exact hr
    | some b =>
      rw [← hr, run_append_nil W 33 o.type 144 i0 _ Tryz.underlying33 hi hz0 ⟨k, 0, none⟩ 1 1 (cellsChange [F]) hlc hnew (by omega) (by omega) (by rw [hz2]; omega),
        run_append_grow W 33 o.type 144 i0 _ Tryz.underlying33 hi hz0 b 0 0 [] (by simp) (fun j v hj => by simp at hj) ⟨k, 0, none⟩ 1 1 (cellsChange [F]) hlc hnew (by omega) (by omega) (by rw [hz2, nextslicecap_zero (by omega)]; omega)]
      simp
  refine wpList_plain hgd fun K hK => ?_
  unfold Oper.wp execOp
  simp only [ho, resolve, invoke, builtin, Sem.run_bind, Sem.run_pure, Result.andThen_ok, List.map_toArray, List.map_cons, List.map_nil, hs, hx, hr2]
  refine hK _ _ (h g cap w' h2 ((Below.refl B W).grown h3 hbase (fun k hk => by cases hk)) ?_ h5)
  rcases h4 with h4 | rfl
  · cases h4
  · exact hbase
end Go.Proofs.YtmmchemgegmhhaaGreatDoor
