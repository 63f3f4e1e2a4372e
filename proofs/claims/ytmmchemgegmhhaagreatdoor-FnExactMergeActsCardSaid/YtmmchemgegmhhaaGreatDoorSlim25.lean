import Derived.Laws.StructEq
import Derived.Test.YtmmchemgegmhhaaGreatDoorSlim16
import Derived.Test.YtmmchemgegmhhaaGreatDoorSlim7
import Derived.Test.YtmmchemgegmhhaaGreatDoorSlim17
import Derived.Test.YtmmchemgegmhhaaGreatDoorSlim2
import Derived.Test.YtmmchemgegmhhaaGreatDoorSlim8
import Derived.Test.YtmmchemgegmhhaaGreatDoorSlim19
import Derived.Test.YtmmchemgegmhhaaGreatDoorSlim5
import Derived.Test.YtmmchemgegmhhaaGreatDoorSlim13
import Derived.Test.YtmmchemgegmhhaaGreatDoorSlim24
import Derived.Test.YtmmchemgegmhhaaGreatDoorSlim1
import Derived.Test.YtmmchemgegmhhaaGreatDoorSlim0
import Derived.Test.YtmmchemgegmhhaaGreatDoorSlim15
set_option maxRecDepth 100000
set_option maxHeartbeats 3200000
namespace Go.Proofs.YtmmchemgegmhhaaGreatDoor
open Go.RowKit
def findS (dir : List SpotD) (key : ByteArray) : Option SpotD := dir.find? fun S => S.key.toList == key.toList
def liveB (dir : List SpotD) (seg pos q : Int) (C : ChangeD) : Bool := ((findS dir C.key).map fun S => (S.seg == seg) && ((S.pos == pos) && (S.seq == q))).getD false
def liveI (dir : List SpotD) (seg pos q : Int) (chs : List ChangeD) : List ChangeD := chs.filter (liveB dir seg pos q)
def keptB (seg pos : Int) (C : ChangeD) (S : SpotD) : Bool := (S.key.toList == C.key.toList) && ((S.seg == seg) && (S.pos == pos))
def keptOne (dir : List SpotD) (seg pos : Int) (C : ChangeD) : List ChangeD := (dir.filter (keptB seg pos C)).map fun _ => C
def keptS (dir : List SpotD) (seg pos : Int) (chs : List ChangeD) : List ChangeD := chs.flatMap (keptOne dir seg pos)
def toldB (dir : List SpotD) (seg pos : Int) : Bool := dir.any fun S => (S.seg == seg) && (S.pos == pos)
theorem liveI_take {dir : List SpotD} {seg pos q : Int} {chs : List ChangeD} {k : Nat} (h : k < chs.length) : liveI dir seg pos q (chs.take (k + 1)) = liveI dir seg pos q (chs.take k) ++ (if liveB dir seg pos q chs[k] then [chs[k]] else []) := by
  unfold liveI
  rw [List.take_succ_eq_append_getElem h, List.filter_append]
  congr 1
  cases hb : liveB dir seg pos q chs[k] <;> simp [hb]
theorem liveI_len (dir : List SpotD) (seg pos q : Int) (chs : List ChangeD) : (liveI dir seg pos q chs).length ≤ chs.length := List.length_filter_le _ _
theorem filter_key {dir : List SpotD} (h : srtS dir) (key : ByteArray) : (dir.filter fun S => S.key.toList == key.toList) = (findS dir key).toList := by
  unfold findS
  induction dir with
  | nil => rfl
  | cons A r ih =>
    have hr : srtS r := (List.pairwise_cons.1 h).2
    have ha := (List.pairwise_cons.1 h).1
    cases hk : (A.key.toList == key.toList) with
    | true =>
      have : (r.filter fun S => S.key.toList == key.toList) = [] := by
        rw [List.filter_eq_nil_iff]
        intro S hS e
        have h1 := ha S hS
        rw [eq_of_beq hk, eq_of_beq e, less_irrefl] at h1
        cases h1
      simp [hk, this]
    | false => simp only [List.filter_cons, hk, List.find?_cons]; exact ih hr
theorem kept_one {dir : List SpotD} (h : srtS dir) {seg pos q : Int} (hq : ∀ S ∈ dir, S.seg = seg → S.pos = pos → S.seq = q) (C : ChangeD) : keptOne dir seg pos C = if liveB dir seg pos q C then [C] else [] := by
  unfold keptOne keptB liveB
  have hf : (dir.filter fun S => (S.key.toList == C.key.toList) && ((S.seg == seg) && (S.pos == pos))) = (dir.filter fun S => S.key.toList == C.key.toList).filter fun S => (S.seg == seg) && (S.pos == pos) := by
    rw [List.filter_filter]
    congr 1
    funext S
    rw [Bool.and_comm]
  rw [hf, filter_key h]
  cases hs : findS dir C.key with
  | none => rfl
  | some S =>
    have hm : S ∈ dir := List.mem_of_find?_eq_some hs
    simp only [Option.toList_some, Option.map_some, Option.getD_some]
    cases h1 : ((S.seg == seg) && (S.pos == pos)) with
    | true =>
      rw [Bool.and_eq_true] at h1
      have h2 : (S.seq == q) = true := by rw [beq_iff_eq]; exact hq S hm (eq_of_beq h1.1) (eq_of_beq h1.2)
      simp [h1.1, h1.2, h2]
    | false =>
      have h2 : ((S.seg == seg) && ((S.pos == pos) && (S.seq == q))) = false := by rw [← Bool.and_assoc, h1]; rfl
      simp [h1, h2]
theorem kept_live {dir : List SpotD} (h : srtS dir) {seg pos q : Int} (hq : ∀ S ∈ dir, S.seg = seg → S.pos = pos → S.seq = q) : ∀ chs : List ChangeD, keptS dir seg pos chs = liveI dir seg pos q chs
  | [] => rfl
  | C :: r => by
    have ih := kept_live h hq r
    unfold keptS liveI at ih ⊢
    rw [List.flatMap_cons, kept_one h hq, ih, List.filter_cons]
    split <;> simp
theorem findS_mem {dir : List SpotD} (h : srtS dir) {S : SpotD} (hS : S ∈ dir) : findS dir S.key = some S := by
  have h1 : S ∈ (dir.filter fun T => T.key.toList == S.key.toList) := List.mem_filter.2 ⟨hS, beq_self_eq_true _⟩
  rw [filter_key h] at h1
  cases hf : findS dir S.key with
  | none => rw [hf] at h1; simp at h1
  | some T => rw [hf] at h1; simp at h1; rw [h1]
theorem told_live {dir : List SpotD} (h : srtS dir) {seg pos q : Int} {chs : List ChangeD} (hq : ∀ S ∈ dir, S.seg = seg → S.pos = pos → S.seq = q ∧ ∃ C ∈ chs, C.key = S.key) : toldB dir seg pos = decide (0 < (liveI dir seg pos q chs).length) := by
  cases ht : toldB dir seg pos with
  | true =>
    unfold toldB at ht
    rw [List.any_eq_true] at ht
    obtain ⟨S, hS, e⟩ := ht
    rw [Bool.and_eq_true] at e
    obtain ⟨h1, C, hC, hk⟩ := hq S hS (eq_of_beq e.1) (eq_of_beq e.2)
    have hL : C ∈ liveI dir seg pos q chs := by
      refine List.mem_filter.2 ⟨hC, ?_⟩
      unfold liveB
      rw [hk, findS_mem h hS]
      simp [e.1, e.2, h1]
    symm
    rw [decide_eq_true_eq]
    exact List.length_pos_of_mem hL
  | false =>
    symm
    rw [decide_eq_false_iff_not]
    intro hp
    obtain ⟨C, hC⟩ := List.exists_mem_of_length_pos hp
    have hb := (List.mem_filter.1 hC).2
    unfold liveB at hb
    cases hf : findS dir C.key with
    | none => rw [hf] at hb; simp at hb
    | some S =>
      rw [hf] at hb
      simp only [Option.map_some, Option.getD_some, Bool.and_eq_true] at hb
      have hm : S ∈ dir := List.mem_of_find?_eq_some hf
      unfold toldB at ht
      rw [List.any_eq_false] at ht
      exact ht S hm (by rw [Bool.and_eq_true]; exact ⟨hb.1, hb.2.1⟩)
theorem spots_chs (seg pos q : Int) : ∀ (chs : List ChangeD) (dir : List SpotD), ∀ S ∈ chsIn seg pos q dir chs, S ∈ dir ∨ (S.seg = seg ∧ S.pos = pos ∧ S.seq = q ∧ ∃ C ∈ chs, C.key = S.key ∧ C.gone = false)
  | [], dir, S, h => .inl h
  | A :: r, dir, S, h => by
    unfold chsIn at h
    rcases spots_chs seg pos q r _ S h with h | ⟨h1, h2, h3, C, hC, h4⟩
    · rcases set_mem.1 h with ⟨hg, rfl⟩ | ⟨h, -⟩
      · exact .inr ⟨rfl, rfl, rfl, A, List.mem_cons_self, rfl, hg⟩
      · exact .inl h
    · exact .inr ⟨h1, h2, h3, C, List.mem_cons_of_mem _ hC, h4⟩
def tellsB (S : SpotD) (e : Nat) (bs : List BatchD) (j : Nat) : Prop := ∃ h : j < bs.length, S.pos = ((e + totD (bs.take j) : Nat) : Int) ∧ S.seq = bs[j].seq ∧ ∃ C ∈ bs[j].chs, C.key = S.key ∧ C.gone = false
theorem spots_bats (seg : Int) : ∀ (bs : List BatchD) (dir : List SpotD) (e : Nat), ∀ S ∈ batsIn seg dir e bs, S ∈ dir ∨ (S.seg = seg ∧ ∃ j, tellsB S e bs j)
  | [], dir, e, S, h => .inl h
  | b :: r, dir, e, S, h => by
    unfold batsIn at h
    rcases spots_bats seg r _ _ S h with h | ⟨h1, j, hj, h2, h3⟩
    · rcases spots_chs seg e b.seq b.chs dir S h with h | ⟨h1, h2, h3⟩
      · exact .inl h
      · exact .inr ⟨h1, 0, by simp, by simpa [totD] using h2, h3⟩
    · refine .inr ⟨h1, j + 1, by simpa using hj, ?_, ?_⟩
      · rw [h2, List.take_succ_cons]
        simp only [totD]
        omega
      · simpa using h3
theorem spots_segs : ∀ (l : List SegD) (dir : List SpotD), ∀ S ∈ dirSegs dir l, S ∈ dir ∨ ∃ s ∈ l, S.seg = (s.num : Int) ∧ ∃ j, tellsB S s.hd s.bs j
  | [], dir, S, h => .inl h
  | s :: r, dir, S, h => by
    unfold dirSegs at h
    rcases spots_segs r _ S h with h | ⟨t, ht, h1⟩
    · rcases spots_bats _ s.bs dir s.hd S h with h | ⟨h1, h2⟩
      · exact .inl h
      · exact .inr ⟨s, List.mem_cons_self, h1, h2⟩
    · exact .inr ⟨t, List.mem_cons_of_mem _ ht, h1⟩
theorem spots_tell {fs : List FileD} {S : SpotD} (h : S ∈ dirD fs) : ∃ s ∈ segsL fs, S.seg = (s.num : Int) ∧ ∃ j, tellsB S s.hd s.bs j := by
  rcases spots_segs (segsL fs) [] S h with h | h
  · exact absurd h List.not_mem_nil
  · exact h
theorem segs_same {fs : List FileD} {s t : SegD} (hs : s ∈ segsL fs) (ht : t ∈ segsL fs) (h : s.num = t.num) : s = t := by
  obtain ⟨-, -, F, -, h1, h2⟩ := segsTo_mem (segsL_mem hs)
  obtain ⟨-, -, G, -, h3, h4⟩ := segsTo_mem (segsL_mem ht)
  rw [h] at h1 h2
  rw [h2] at h4
  cases h4
  rw [h1, ← h3]
theorem size_pos {q : Int} {cs : List ChangeD} (h : textOkD q cs = true) : 0 < sizeD q cs := by
  have h1 : 1 ≤ (textD q cs).size := by
    unfold textD
    rw [if_pos h]
    show 1 ≤ (batchL q.toNat cs).toArray.size
    rw [List.size_toArray]
    unfold batchL headB
    simp
  unfold sizeD
  rw [if_pos h1]
  unfold frameB
  simp only [ByteArray.size_append]
  omega
theorem totD_lt {bs : List BatchD} (hb : ∀ b ∈ bs, textOkD b.seq b.chs = true) {j k : Nat} (hj : j < k) (hk : k ≤ bs.length) : totD (bs.take j) < totD (bs.take k) := by
  induction k with
  | zero => omega
  | succ k ih =>
    rw [List.take_succ_eq_append_getElem (by omega), totD_snoc]
    have := size_pos (hb bs[k] (List.getElem_mem _))
    rcases Nat.lt_or_ge j k with h | h
    · have := ih h (by omega); omega
    · obtain rfl : j = k := by omega
      omega
theorem totD_inj {bs : List BatchD} (hb : ∀ b ∈ bs, textOkD b.seq b.chs = true) {j k : Nat} (hj : j < bs.length) (hk : k < bs.length) (h : totD (bs.take j) = totD (bs.take k)) : j = k := by
  rcases Nat.lt_trichotomy j k with h1 | h1 | h1
  · have := totD_lt hb h1 (by omega); omega
  · exact h1
  · have := totD_lt hb h1 (by omega); omega
theorem dirD_srt (fs : List FileD) : srtS (dirD fs) := by
  unfold dirD
  generalize segsL fs = l
  have hb : ∀ (seg : Int) (bs : List BatchD) (dir : List SpotD) (e : Nat), srtS dir → srtS (batsIn seg dir e bs) := by
    intro seg bs
    induction bs with
    | nil => intro dir e h; exact h
    | cons b r ih => intro dir e h; unfold batsIn; exact ih _ _ (srtS_chs seg e b.seq b.chs dir h)
  have hl : ∀ (l : List SegD) (dir : List SpotD), srtS dir → srtS (dirSegs dir l) := by
    intro l
    induction l with
    | nil => intro dir h; exact h
    | cons s r ih => intro dir h; unfold dirSegs; exact ih _ (hb _ _ _ _ h)
  exact hl l [] List.Pairwise.nil
theorem spot_place {fs : List FileD} {s : SegD} (hs : s ∈ segsL fs) {j : Nat} (hj : j < s.bs.length) : ∀ S ∈ dirD fs, S.seg = (s.num : Int) → S.pos = ((s.hd + totD (s.bs.take j) : Nat) : Int) → S.seq = s.bs[j].seq ∧ ∃ C ∈ s.bs[j].chs, C.key = S.key := by
  intro S hS h1 h2
  obtain ⟨t, ht, h3, k, hk, h4, h5, C, hC, h6, -⟩ := spots_tell hS
  obtain rfl : s = t := segs_same hs ht (by omega)
  obtain rfl : j = k := totD_inj (segsL_ok hs) hj hk (by omega)
  exact ⟨h5, C, hC, h6⟩
theorem kept_live_at {fs : List FileD} {s : SegD} (hs : s ∈ segsL fs) {j : Nat} (hj : j < s.bs.length) : keptS (dirD fs) (s.num : Int) ((s.hd + totD (s.bs.take j) : Nat) : Int) s.bs[j].chs = liveI (dirD fs) (s.num : Int) ((s.hd + totD (s.bs.take j) : Nat) : Int) s.bs[j].seq s.bs[j].chs :=
  kept_live (dirD_srt fs) (fun S hS h1 h2 => (spot_place hs hj S hS h1 h2).1) _
theorem told_live_at {fs : List FileD} {s : SegD} (hs : s ∈ segsL fs) {j : Nat} (hj : j < s.bs.length) : toldB (dirD fs) (s.num : Int) ((s.hd + totD (s.bs.take j) : Nat) : Int) = decide (0 < (liveI (dirD fs) (s.num : Int) ((s.hd + totD (s.bs.take j) : Nat) : Int) s.bs[j].seq s.bs[j].chs).length) :=
  told_live (dirD_srt fs) (fun S hS h1 h2 => spot_place hs hj S hS h1 h2)
theorem isNaN_str (s : ByteArray) (w : World) : Calls Tryz.prog 185 #[.string s] w fun e w' => e = .returned (.bool false) ∧ w' = w := by
  have h : (s.toList == s.toList) = true := beq_self_eq_true _
  go_enter Tryz.func185, Tryz.ntmps185
  go_wp2
  go_ret
  exact ⟨rfl, rfl⟩
def cmpI (a b : ByteArray) : Int := if Op.bytesLess a.toList b.toList = true then -1 else if (a.toList == b.toList) = true then 0 else 1
theorem compare_str (a b : ByteArray) (w : World) : Calls Tryz.prog 142 #[.string a, .string b] w fun e w' => e = .returned (.int .i64 (cmpI a b)) ∧ w' = w := by
  have HN := hide isNaN_str
  unfold cmpI
  cases h1 : Op.bytesLess a.toList b.toList with
  | true =>
    rw [if_pos rfl]
    go_enter Tryz.func142, Tryz.ntmps142
    go_wp2_with fail
    refine (HN.out _ _).mono ?_
    rintro e w1 ⟨rfl, rfl⟩
    go_wp2_with fail
    refine (HN.out _ _).mono ?_
    rintro e w1 ⟨rfl, rfl⟩
    go_wp2
    go_ret
    exact ⟨rfl, rfl⟩
  | false =>
    rw [if_neg (by decide)]
    cases h2 : (a.toList == b.toList) with
    | true =>
      rw [if_pos rfl]
      go_enter Tryz.func142, Tryz.ntmps142
      go_wp2_with fail
      refine (HN.out _ _).mono ?_
      rintro e w1 ⟨rfl, rfl⟩
      go_wp2_with fail
      refine (HN.out _ _).mono ?_
      rintro e w1 ⟨rfl, rfl⟩
      go_wp2
      go_ret
      exact ⟨rfl, rfl⟩
    | false =>
      rw [if_neg (by decide)]
      go_enter Tryz.func142, Tryz.ntmps142
      go_wp2_with fail
      refine (HN.out _ _).mono ?_
      rintro e w1 ⟨rfl, rfl⟩
      go_wp2_with fail
      refine (HN.out _ _).mono ?_
      rintro e w1 ⟨rfl, rfl⟩
      go_wp2
      go_ret
      exact ⟨rfl, rfl⟩
theorem spotCmp_any (A : SpotD) (key : ByteArray) (w : World) : Calls Tryz.prog 141 #[.agg #[.string A.key, .int .i64 A.seg, .int .i64 A.pos, .int .i64 A.seq], .string key] w fun e w' => e = .returned (.int .i64 (cmpI A.key key)) ∧ Below w.heap.size w w' := by
  go_enter Tryz.func141, Tryz.ntmps141
  go_wp2_with fail
  refine (compare_str _ _ _).mono ?_
  rintro e w1 ⟨rfl, rfl⟩
  go_wp2
  go_ret
  exact ⟨rfl, (Below.refl _ w).alloc (Nat.le_refl _) _⟩
theorem name_eqS {a b : ByteArray} (h : a.toList = b.toList) : a = b :=
  Decidable.byContradiction fun hne => by
    have h1 := (toList_ne).2 hne
    rw [h, beq_self_eq_true] at h1
    cases h1
theorem fourC {W : World} {g : Nat} {a b c d : Value} {t : TypeId} (h : W.heap[g]? = some (.cells #[a, b, c, d] t (0, 0))) : W.cell? ⟨g, 0, none⟩ = some a ∧ W.cell? ⟨g, 1, none⟩ = some b ∧ W.cell? ⟨g, 2, none⟩ = some c ∧ W.cell? ⟨g, 3, none⟩ = some d ∧ W.frozen? ⟨g, 0, none⟩ = false ∧ W.frozen? ⟨g, 1, none⟩ = false ∧ W.frozen? ⟨g, 2, none⟩ = false ∧ W.frozen? ⟨g, 3, none⟩ = false :=
  ⟨(cell_of_row W g 0 _ _ (0, 0) h).trans rfl, (cell_of_row W g 1 _ _ (0, 0) h).trans rfl, (cell_of_row W g 2 _ _ (0, 0) h).trans rfl, (cell_of_row W g 3 _ _ (0, 0) h).trans rfl, frozen_of_row W g 0 _ _ h, frozen_of_row W g 1 _ _ h, frozen_of_row W g 2 _ _ h, frozen_of_row W g 3 _ _ h⟩
theorem search_any (D : List SpotD) (ad : Option Addr) (cd : Nat) (key : ByteArray) (w : World) (hl : D.length ≤ 1000000) (hs : srtS D) (hds : SpotsAt w ad D) :
    Calls Tryz.prog 140 #[.slice ad D.length cd, .string key, .func (.func 141) #[] #[]] w fun e w' => (∃ (p : Nat) (b : Bool), e = .returned (.tuple #[.int .i64 p, .bool b]) ∧ (b = true → ∃ h : p < D.length, findS D key = some D[p]) ∧ (b = false → findS D key = none)) ∧ Below w.heap.size w w' := by
  have HD := hide hds
  have HS := hide hs
  have HC := hide spotCmp_any
  clear hds hs
  go_enter Tryz.func140, Tryz.ntmps140
  go_wp2_with fail
  go_loopw [9, 10] (fun ii jj wr => ∃ (i j : Nat), ii = .int .i64 i ∧ jj = .int .i64 j ∧ i ≤ j ∧ j ≤ D.length ∧ Hid (∀ k (h : k < D.length), k < i → Op.bytesLess D[k].key.toList key.toList = true) ∧ Hid (∀ k (h : k < D.length), j ≤ k → Op.bytesLess D[k].key.toList key.toList = false) ∧ Hid (Below w.heap.size w wr)) (fun ii jj _ => (intOf jj).toNat - (intOf ii).toNat)
  case atStart => exact ⟨0, D.length, rfl, rfl, Nat.zero_le _, Nat.le_refl _, fun k h hk => absurd hk (by omega), fun k h hk => absurd hk (by omega), Below.refl _ _⟩
  case round =>
    obtain ⟨i, j, rfl, rfl, hij, hjn, HI, HJ, HB⟩ := hrel
    by_cases hlt : i < j
    · have hlt' : decide ((i : Int) < (j : Int)) = true := by simp; omega
      obtain ⟨m, hm⟩ : ∃ m : Nat, (i + j) / 2 = m := ⟨_, rfl⟩
      have hmi : i ≤ m ∧ m < j := by omega
      have hmD : m < D.length := by omega
      obtain ⟨b, off, rfl, hbw, hc0, hc1, hc2, hc3⟩ := spotsAt_keep HD.out HB.out m hmD
      have hi0 : (0 : Int) ≤ ((i : Int) + (j : Int)) / 2 := by omega
      have hi1 : ((i : Int) + (j : Int)) / 2 < (D.length : Int) := by omega
      have hin : (((i : Int) + (j : Int)) / 2).toNat = m := by omega
      have hie : ((i : Int) + (j : Int)) / 2 = (m : Int) := by omega
      obtain ⟨A, HA⟩ : ∃ A, Hid (D[m] = A) := ⟨_, hide rfl⟩
      rw [HA.out] at hc0 hc1 hc2 hc3
      go_wp2_with fail
      refine (HC.out A key _).mono ?_
      rintro e w1 ⟨rfl, b1⟩
      have HB1 := hide (HB.out.trans (b1.mono HB.out.size))
      clear b1 hc0 hc1 hc2 hc3
      cases hl2 : Op.bytesLess A.key.toList key.toList with
      | true =>
        have hx : cmpI A.key key = -1 := by unfold cmpI; rw [if_pos hl2]
        rw [hx]
        have HI2 : Hid (∀ k (h : k < D.length), k < m + 1 → Op.bytesLess D[k].key.toList key.toList = true) := fun k h hk => by
          rcases Nat.lt_or_ge k m with h2 | h2
          · have h3 := List.pairwise_iff_getElem.1 HS.out k m h hmD h2
            rw [HA.out] at h3
            exact less_trans h3 hl2
          · obtain rfl : k = m := by omega
            rw [HA.out]
            exact hl2
        clear hl2 hx
        go_wp2
        go_roundw
        case rel => exact ⟨m + 1, j, by go_num, rfl, by omega, by omega, HI2, HJ, HB1⟩
        case measure => simp [intOf]; omega
      | false =>
        obtain ⟨x, hx, hx0⟩ : ∃ x, cmpI A.key key = x ∧ 0 ≤ x := by
          refine ⟨_, rfl, ?_⟩
          unfold cmpI
          rw [hl2, if_neg (by decide)]
          split <;> decide
        rw [hx]
        have hx1 : decide (x < 0) = false := by simp; omega
        have HJ2 : Hid (∀ k (h : k < D.length), m ≤ k → Op.bytesLess D[k].key.toList key.toList = false) := fun k h hk => by
          rcases Nat.lt_or_ge m k with h2 | h2
          · have h3 := List.pairwise_iff_getElem.1 HS.out m k hmD h h2
            rw [HA.out] at h3
            cases h4 : Op.bytesLess D[k].key.toList key.toList with
            | false => rfl
            | true => rw [less_trans h3 h4] at hl2; cases hl2
          · obtain rfl : k = m := by omega
            rw [HA.out]
            exact hl2
        clear hl2 hx
        go_wp2
        go_roundw
        case rel => exact ⟨i, m, rfl, rfl, by omega, by omega, HI, HJ2, HB1⟩
        case measure => simp [intOf]; omega
    · have hlt' : decide ((i : Int) < (j : Int)) = false := by simp; omega
      obtain rfl : i = j := by omega
      by_cases hin : i < D.length
      · have hin' : decide ((i : Int) < (D.length : Int)) = true := by simp; omega
        obtain ⟨b, off, rfl, hbw, hc0, hc1, hc2, hc3⟩ := spotsAt_keep HD.out HB.out i hin
        have hi0 : (0 : Int) ≤ (i : Int) := by omega
        have hi1 : (i : Int) < (D.length : Int) := by omega
        obtain ⟨A, HA⟩ : ∃ A, Hid (D[i] = A) := ⟨_, hide rfl⟩
        rw [HA.out] at hc0 hc1 hc2 hc3
        have hl2 := HJ.out i hin (Nat.le_refl _)
        rw [HA.out] at hl2
        go_wp2_with fail
        refine (HC.out A key _).mono ?_
        rintro e w1 ⟨rfl, b1⟩
        have HB1 := hide (HB.out.trans (b1.mono HB.out.size))
        clear b1 hc0 hc1 hc2 hc3
        cases hq : (A.key.toList == key.toList) with
        | true =>
          have hx : cmpI A.key key = 0 := by unfold cmpI; rw [hl2, if_neg (by decide), if_pos hq]
          have HF : Hid (findS D key = some D[i]) := by
            have := findS_mem HS.out (List.getElem_mem hin)
            rw [HA.out, name_eqS (eq_of_beq hq)] at this
            rw [HA.out]
            exact this
          rw [hx]
          clear hl2 hx hq
          go_wp2
          refine bodyPost_ret (results_tmp2 rfl _ _ _) rfl ?_
          exact ⟨⟨i, true, rfl, fun _ => ⟨hin, HF.out⟩, fun h => by cases h⟩, HB1.out⟩
        | false =>
          have hx : cmpI A.key key = 1 := by unfold cmpI; rw [hl2, if_neg (by decide), hq, if_neg (by decide)]
          have HF : Hid (findS D key = none) := by
            refine List.find?_eq_none.2 (fun S hS e => ?_)
            obtain ⟨k, hk, rfl⟩ := List.mem_iff_getElem.1 hS
            have e2 := eq_of_beq e
            rcases Nat.lt_trichotomy k i with h2 | h2 | h2
            · have h3 := HI.out k hk h2
              rw [e2, less_irrefl] at h3
              cases h3
            · subst h2
              rw [HA.out] at e
              rw [hq] at e
              cases e
            · have h3 := List.pairwise_iff_getElem.1 HS.out i k hin hk h2
              rw [HA.out, e2, hl2] at h3
              cases h3
          rw [hx]
          clear hl2 hx hq
          go_wp2
          refine bodyPost_ret (results_tmp2 rfl _ _ _) rfl ?_
          exact ⟨⟨i, false, rfl, fun h => by (cases h), fun _ => HF.out⟩, HB1.out⟩
      · have hin' : decide ((i : Int) < (D.length : Int)) = false := by simp; omega
        have HF : Hid (findS D key = none) := by
          refine List.find?_eq_none.2 (fun S hS e => ?_)
          obtain ⟨k, hk, rfl⟩ := List.mem_iff_getElem.1 hS
          have h3 := HI.out k hk (by omega)
          rw [eq_of_beq e, less_irrefl] at h3
          cases h3
        go_wp2
        refine bodyPost_ret (results_tmp2 rfl _ _ _) rfl ?_
        exact ⟨⟨i, false, rfl, fun h => by (cases h), fun _ => HF.out⟩, HB.out⟩
theorem box4s {W w0 : World} {β B : Nat} {c0 c1 c2 c3 : Value} {t : TypeId} (a0 a1 a2 a3 : Value) (hb : W.heap[β]? = some (.cells #[c0, c1, c2, c3] t (0, 0))) (h0 : Below B w0 W) (hB : B ≤ β) (W6 : World) (hW : W6 = (((W.setCell ⟨β, 0, none⟩ a0).setCell ⟨β, 1, none⟩ a1).setCell ⟨β, 2, none⟩ a2).setCell ⟨β, 3, none⟩ a3) :
    W6.heap[β]? = some (.cells #[a0, a1, a2, a3] t (0, 0)) ∧ Below B w0 W6 := by
  have d0 := (heap_setCell_same W β 0 _ _ a0 hb).trans rfl
  have d1 := (heap_setCell_same _ β 1 _ _ a1 d0).trans rfl
  have d2 := (heap_setCell_same _ β 2 _ _ a2 d1).trans rfl
  have d3 := (heap_setCell_same _ β 3 _ _ a3 d2).trans rfl
  subst hW
  exact ⟨by rw [d3]; rfl, (((h0.setCell (p := ⟨β, 0, none⟩) hB _).setCell (p := ⟨β, 1, none⟩) hB _).setCell (p := ⟨β, 2, none⟩) hB _).setCell (p := ⟨β, 3, none⟩) hB _⟩
def outSp : Option SpotD → SpotD
  | none => ⟨⟨#[]⟩, 0, 0, 0⟩
  | some S => S
theorem spotOf_any (D : List SpotD) (ad : Option Addr) (cd : Nat) (key : ByteArray) (w : World) (hl : D.length ≤ 1000000) (hs : srtS D) (hds : SpotsAt w ad D) :
    Calls Tryz.prog 93 #[.slice ad D.length cd, .string key] w fun e w' => e = .returned (.tuple #[.agg #[.string (outSp (findS D key)).key, .int .i64 (outSp (findS D key)).seg, .int .i64 (outSp (findS D key)).pos, .int .i64 (outSp (findS D key)).seq], .bool (findS D key).isSome]) ∧ Below w.heap.size w w' := by
  have HD := hide hds
  have HSE := hide (fun W h => search_any D ad cd key W hl hs h)
  clear hds hs
  obtain ⟨wb, hwb⟩ : ∃ wb, wb = w.alloc (.cells #[.string ⟨#[]⟩, .int .i64 0, .int .i64 0, .int .i64 0] 89) := ⟨_, rfl⟩
  have HB0 : Hid (Below w.heap.size w wb) := by rw [hwb]; exact (Below.refl _ w).alloc (Nat.le_refl _) _
  have HBK : Hid (wb.heap[w.heap.size]? = some (.cells #[.string ⟨#[]⟩, .int .i64 0, .int .i64 0, .int .i64 0] 89 (0, 0))) := by rw [hwb]; exact heap_alloc_new w _
  go_enter Tryz.func93, Tryz.ntmps93
  go_wp2_with fail
  rw [← hwb]
  clear hwb
  refine (HSE.out _ (spotsAt_keep HD.out HB0.out)).mono ?_
  rintro e w1 ⟨⟨p, b, rfl, hb1, hb2⟩, b1⟩
  have HW1 := hide (HB0.out.trans (b1.mono HB0.out.size))
  have HBK1 := hide ((b1.block _ (heap_lt HBK.out)).trans HBK.out)
  clear b1
  obtain ⟨x0, x1, x2, x3, f0, f1, f2, f3⟩ := fourC HBK1.out
  cases b with
  | false =>
    have HF := hide (hb2 rfl)
    clear hb1 hb2
    go_wp2
    obtain ⟨y0, y1⟩ := box4s (.string ⟨#[]⟩) (.int .i64 0) (.int .i64 0) (.int .i64 0) HBK1.out HW1.out (Nat.le_refl _) _ rfl
    obtain ⟨z0, z1, z2, z3, -⟩ := fourC y0
    refine bodyPost_ret (v := .tuple #[.agg #[.string ⟨#[]⟩, .int .i64 0, .int .i64 0, .int .i64 0], .bool false]) ?_ rfl ?_
    · simp [results, Tryz.results93, go_sem, z0, z1, z2, z3]
    · rw [HF.out]
      exact ⟨rfl, y1⟩
  | true =>
    obtain ⟨hp, hF⟩ := hb1 rfl
    have HF := hide hF
    obtain ⟨bb, off, rfl, hbw, hc0, hc1, hc2, hc3⟩ := spotsAt_keep HD.out HW1.out p hp
    clear hb1 hb2 hF
    generalize D[p] = A at hc0 hc1 hc2 hc3 HF
    have hi0 : (0 : Int) ≤ (p : Int) := by omega
    have hi1 : (p : Int) < (D.length : Int) := by omega
    go_wp2
    obtain ⟨y0, y1⟩ := box4s (.string A.key) (.int .i64 A.seg) (.int .i64 A.pos) (.int .i64 A.seq) HBK1.out HW1.out (Nat.le_refl _) _ rfl
    obtain ⟨z0, z1, z2, z3, -⟩ := fourC y0
    refine bodyPost_ret (v := .tuple #[.agg #[.string A.key, .int .i64 A.seg, .int .i64 A.pos, .int .i64 A.seq], .bool true]) ?_ rfl ?_
    · simp [results, Tryz.results93, go_sem, z0, z1, z2, z3]
    · rw [HF.out]
      exact ⟨rfl, y1⟩
theorem app_change0 {ops : Array Oper} {rest : List Oper} {o : Oper} {a : Act} {Q : Exit → Act → World → Prop} (W : World) (B : Nat) (hgd : o.guard = none) (s y : Operand)
    (ho : o.op = .call { callee := .builtin .append, args := #[s, y], argTypes := #[33, 33] }) (ao : Option Addr) (F : ChangeD) (hs : a.eval s = .slice ao 0 0)
    (k : Nat) (hx : a.eval y = .slice (some ⟨k, 0, none⟩) 1 1) (hblk : W.heap[k]? = some (.cells #[.string F.key, .string F.value, .bool F.gone] 144 (0, 0))) (hbase : B ≤ W.heap.size)
    (h : ∀ g cap w', w'.ownsRow B 144 3 (.slice (some ⟨g, 0, none⟩) 1 cap) [F].length (cellsChange [F]) → Below B W w' → B ≤ g → g < w'.heap.size → wpList Tryz.prog ops Q rest (a.put o.dst (.slice (some ⟨g, 0, none⟩) 1 cap)) w') :
    wpList Tryz.prog ops Q (o :: rest) a W := by
  obtain ⟨i0, hi, hz0, hz1, hz2⟩ := info_parts Tryz.infoChange
  have hnew := fun j u (hj : (cellsChange [F])[j]? = some u) => World.news_of_block hblk j u hj
  have hlc : (cellsChange [F]).length = 1 * i0.size := by rw [cellsChange_length, hz1]; rfl
  obtain ⟨g, cap, w', hr, h2, h3, h4, h5⟩ := run_append_lies (P := Tryz.prog) W 33 o.type B 144 i0 (.agg #[.string ⟨#[]⟩, .string ⟨#[]⟩, .bool false]) 3 40 Tryz.underlying33 hi hz0 hz1 hz2 rfl (by decide) (.slice none 0 0) 0 [] (World.ownsRow_nil _ _ _ _) ⟨k, 0, none⟩ 1 1 (cellsChange [F]) (by rw [cellsChange_length]; rfl)
    hnew (cellsChange_one [F]) (by omega) (by unfold maxLen; omega) (by omega) hbase W.heap.size rfl
  have hr2 : (Builtin.append_ #[33, 33] o.type #[.slice ao 0 0, .slice (some ⟨k, 0, none⟩) 1 1]).run Tryz.prog W = .ok (.slice (some ⟨g, 0, none⟩) (0 + 1) cap) w' := by
    cases ao with
    | none => exact hr
    | some b =>
      rw [← hr, run_append_nil W 33 o.type 144 i0 _ Tryz.underlying33 hi hz0 ⟨k, 0, none⟩ 1 1 (cellsChange [F]) hlc hnew (by omega) (by omega) (by rw [hz2]; omega),
        run_append_grow W 33 o.type 144 i0 _ Tryz.underlying33 hi hz0 b 0 0 [] (by simp) (fun j v hj => by simp at hj) ⟨k, 0, none⟩ 1 1 (cellsChange [F]) hlc hnew (by omega) (by omega) (by rw [hz2, nextslicecap_zero (by omega)]; omega)]
      simp
  refine wpList_plain hgd fun K hK => ?_
  unfold Oper.wp execOp
  simp only [ho, resolve, invoke, builtin, Sem.run_bind, Sem.run_pure, Result.andThen_ok, List.map_toArray, List.map_cons, List.map_nil, hs, hx, hr2]
  refine hK _ _ (h g cap w' h2 ((Below.refl B W).grown h3 hbase (fun k hk => by cases hk)) ?_ h5)
  rcases h4 with h4 | rfl
  · cases h4
  · exact hbase
def LiveAt (w : World) (B : Nat) (v : Value) (L : List ChangeD) : Prop := (∃ ao, v = .slice ao 0 0 ∧ L = []) ∨ (0 < L.length ∧ w.ownsRow B 144 3 v L.length (cellsChange L))
theorem liveAt_below {w w' : World} {B : Nat} {v : Value} {L : List ChangeD} (h : LiveAt w B v L) (hb : Below w.heap.size w w') : LiveAt w' B v L := by
  rcases h with h | ⟨h0, h⟩
  · exact .inl h
  · exact .inr ⟨h0, ownsRow_below h hb⟩
theorem liveAt_at {w : World} {B : Nat} {v : Value} {L : List ChangeD} (h : LiveAt w B v L) : ∃ ao cap, v = .slice ao L.length cap ∧ ChangesAt w ao L := by
  rcases h with ⟨ao, rfl, rfl⟩ | ⟨-, h⟩
  · exact ⟨ao, 0, rfl, fun j hj => absurd hj (by simp)⟩
  · exact rowChange_at (rowChange_own h)
theorem eql_spot4 (k1 k2 : ByteArray) (a1 a2 b1 b2 q1 q2 : Int) (r : Bool) (h : ((k1.toList == k2.toList) && ((a1 == a2) && ((b1 == b2) && (q1 == q2)))) = r) : ∀ W : World, (binOp .eql 89 (.agg #[.string k1, .int .i64 a1, .int .i64 b1, .int .i64 q1]) (.agg #[.string k2, .int .i64 a2, .int .i64 b2, .int .i64 q2])).run Tryz.prog W = .ok (.bool r) W := by
  intro W
  have hst : Tryz.prog.stoodInHeld 89 = false := by kernel_rfl
  have hfl : Tryz.prog.underlying 89 = some (.struct (Tryz.prog.fieldsOf 89)) := by kernel_rfl
  rw [run_eql_struct, run_equalIn_struct W 9999 89 _ _ hfl hst]
  clear hfl hst
  subst h
  cases h1 : (k1.toList == k2.toList) <;> cases h2 : (a1 == a2) <;> cases h3 : (b1 == b2) <;> cases h4 : (q1 == q2) <;> simp [go_sem, h1, h2, h3, h4]
def SpotG (wn wx : World) (β : Nat) (T : SpotD) : Prop := wx.heap[β]? = some (.cells #[.string T.key, .int .i64 T.seg, .int .i64 T.pos, .int .i64 T.seq] 89 (0, 0)) ∧ wn.heap.size ≤ β ∧ Below wn.heap.size wn wx
theorem spotG_new {wn w2 : World} (T : SpotD) (e2 : Below wn.heap.size wn w2) : SpotG wn (w2.alloc (.cells #[.string T.key, .int .i64 T.seg, .int .i64 T.pos, .int .i64 T.seq] 89)) w2.heap.size T :=
  ⟨heap_alloc_new w2 _, e2.size, e2.alloc e2.size _⟩
theorem spotG_old {wn w2 : World} {β : Nat} {c0 c1 c2 c3 : Value} (T : SpotD) (e2 : Below wn.heap.size wn w2) (hb : w2.heap[β]? = some (.cells #[c0, c1, c2, c3] 89 (0, 0))) (wb : wn.heap.size ≤ β) :
    SpotG wn ((((w2.setCell ⟨β, 0, none⟩ (.string T.key)).setCell ⟨β, 1, none⟩ (.int .i64 T.seg)).setCell ⟨β, 2, none⟩ (.int .i64 T.pos)).setCell ⟨β, 3, none⟩ (.int .i64 T.seq)) β T := by
  obtain ⟨y0, y1⟩ := box4s (.string T.key) (.int .i64 T.seg) (.int .i64 T.pos) (.int .i64 T.seq) hb e2 wb _ rfl
  exact ⟨y0, wb, y1⟩
theorem liveChanges_any (D : List SpotD) (S : SegD) (j g : Nat) (ar a a' : Option Addr) (cr c c' K : Nat) (w : World) (hD : D.length ≤ 1000000) (hsD : srtS D) (hg : g < w.heap.size) (hc6 : w.cell? ⟨g, 6, none⟩ = some (.slice ar D.length cr)) (hds : SpotsAt w ar D) (hj : j < S.bs.length) (hb : BatchesAt w a S.bs) (hp : RowNat w K (.slice a' S.pls.length c') S.pls) (hl : S.bs[j].chs.length ≤ 40) :
    Calls Tryz.prog 104 #[.pointer (some ⟨g, 0, none⟩), .agg #[.int .i64 (S.num : Int), .int .i64 (S.frm : Int), .slice a S.bs.length c, .slice a' S.pls.length c', .int .i64 (S.fin : Int), .bool S.right, .bool S.torn], .int .i64 (j : Int)] w fun e w' => (∃ ao cap, e = .returned (.slice ao (liveI D (S.num : Int) (S.pls[j]'(by rw [S.pls_len]; exact hj) : Int) S.bs[j].seq S.bs[j].chs).length cap) ∧ ChangesAt w' ao (liveI D (S.num : Int) (S.pls[j]'(by rw [S.pls_len]; exact hj) : Int) S.bs[j].seq S.bs[j].chs)) ∧ Below w.heap.size w w' := by
  have HD := hide hds
  have HPL := hide S.pls_len
  obtain ⟨gp, hgp, hgpw, hgc⟩ := rowNat_at hp j (by have := HPL.out; omega)
  obtain ⟨b0, off0, hab, hbw, hc0, a2, c2, hc1, hch⟩ := hb j hj
  subst hab hgp
  have HCH := hide hch
  have HSO := hide (fun key W h => spotOf_any D ar cr key W hD hsD h)
  obtain ⟨P, HP⟩ : ∃ P, Hid ((S.pls[j]'(by have := HPL.out; omega) : Nat) = P) := ⟨_, hide rfl⟩
  rw [HP.out] at hgc ⊢
  obtain ⟨q, HQ⟩ : ∃ q, Hid (S.bs[j].seq = q) := ⟨_, hide rfl⟩
  obtain ⟨cs, HCS⟩ : ∃ q, Hid (S.bs[j].chs = q) := ⟨_, hide rfl⟩
  rw [HQ.out] at hc0 ⊢
  rw [HCS.out] at hc1 HCH hl ⊢
  clear hb hp hds hch hsD
  obtain ⟨np, HNP⟩ : ∃ n, Hid (S.pls.length = n) := ⟨_, hide rfl⟩
  rw [HNP.out]
  have hjp : j < np := by have := HPL.out; have := HNP.out; omega
  obtain ⟨nb, HNB⟩ : ∃ n, Hid (S.bs.length = n) := ⟨_, hide rfl⟩
  rw [HNB.out] at hj ⊢
  obtain ⟨wb, hwb⟩ : ∃ wb, wb = (w.alloc (.cells #[.int .i64 (S.num : Int), .int .i64 (S.frm : Int), .slice (some ⟨b0, off0, none⟩) nb c, .slice (some ⟨gp, 0, none⟩) np c', .int .i64 (S.fin : Int), .bool S.right, .bool S.torn] 161)).alloc (.cells #[.int .i64 q, .slice a2 cs.length c2] 96) := ⟨_, rfl⟩
  have HB0 : Hid (Below w.heap.size w wb) := by rw [hwb]; exact ((Below.refl _ w).alloc (Nat.le_refl _) _).alloc (by simp) _
  have hbs : wb.heap.size = w.heap.size + 2 := by rw [hwb]; simp
  have HBK : Hid (wb.heap[w.heap.size]? = some (.cells #[.int .i64 (S.num : Int), .int .i64 (S.frm : Int), .slice (some ⟨b0, off0, none⟩) nb c, .slice (some ⟨gp, 0, none⟩) np c', .int .i64 (S.fin : Int), .bool S.right, .bool S.torn] 161 (0, 0))) := by rw [hwb]; exact (Below.heap_alloc _ _ _ (by simp)).trans (heap_alloc_new w _)
  have HBB : Hid (wb.heap[w.heap.size + 1]? = some (.cells #[.int .i64 q, .slice a2 cs.length c2] 96 (0, 0))) := by
    rw [hwb]
    have := heap_alloc_new (w.alloc (.cells #[.int .i64 (S.num : Int), .int .i64 (S.frm : Int), .slice (some ⟨b0, off0, none⟩) nb c, .slice (some ⟨gp, 0, none⟩) np c', .int .i64 (S.fin : Int), .bool S.right, .bool S.torn] 161)) (.cells #[.int .i64 q, .slice a2 cs.length c2] 96)
    rwa [World.size_alloc] at this
  have hi0 : (0 : Int) ≤ (j : Int) := by omega
  have hi1 : (j : Int) < (nb : Int) := by omega
  have hi2 : (j : Int) < (np : Int) := by omega
  go_enter Tryz.func104, Tryz.ntmps104
  go_wp2_with fail
  rw [← hwb]
  clear hwb hc0 hc1
  have hw6 : wb.cell? ⟨g, 6, none⟩ = some (.slice ar D.length cr) := (HB0.out.cell (p := ⟨g, 6, none⟩) hg).trans hc6
  have hwp : wb.cell? ⟨gp, j, none⟩ = some (.int .i64 (P : Int)) := (HB0.out.cell (p := ⟨gp, j, none⟩) hgpw).trans hgc
  have hgw : g < wb.heap.size := by omega
  have hgpw2 : gp < wb.heap.size := by omega
  obtain ⟨hz0, -, -, hz3, -⟩ := seven_cells HBK.out
  have hz8 : wb.cell? ⟨w.heap.size + 1, 0, none⟩ = some (.int .i64 q) := (cell_of_row wb _ 0 _ _ (0, 0) HBB.out).trans rfl
  clear hc6 hgc
  go_loopw [8, 24] (fun vo ii wr => ∃ (k : Nat), ii = .int .i64 k ∧ k ≤ cs.length ∧ Hid (LiveAt wr wb.heap.size vo (liveI D (S.num : Int) (P : Int) q (cs.take k))) ∧ Hid (Below wb.heap.size wb wr)) (fun _ ii _ => cs.length - (intOf ii).toNat)
  case atStart => exact ⟨0, rfl, Nat.zero_le _, .inl ⟨_, rfl, rfl⟩, Below.refl _ _⟩
  case round =>
    obtain ⟨k, rfl, hk, HO, HB⟩ := hrel
    have hws := HB.out.size
    by_cases hlt : k < cs.length
    · have hlt' : decide ((k : Int) < (cs.length : Int)) = true := by simp; omega
      obtain ⟨b, off, rfl, hbw2, hd0, hd1, hd2⟩ := changesAt_keep HCH.out (HB0.out.trans (HB.out.mono HB0.out.size)) k hlt
      have htk := hide (liveI_take (dir := D) (seg := (S.num : Int)) (pos := (P : Int)) (q := q) hlt)
      generalize cs[k] = A at hd0 hd1 hd2 htk
      obtain ⟨L, HL⟩ : ∃ L, Hid (liveI D (S.num : Int) (P : Int) q (cs.take k) = L) := ⟨_, hide rfl⟩
      have hLl : L.length ≤ 1048576 := by
        have := liveI_len D (S.num : Int) (P : Int) q (cs.take k)
        rw [HL.out, List.length_take] at this
        omega
      rw [HL.out] at HO htk
      have hk0 : (0 : Int) ≤ (k : Int) := by omega
      have hk1 : (k : Int) < (cs.length : Int) := by omega
      obtain ⟨wn, hwn⟩ : ∃ x, x = wr.alloc (.cells #[.string A.key, .string A.value, .bool A.gone] 144) := ⟨_, rfl⟩
      have BN0 : Hid (Below wr.heap.size wr wn) := by rw [hwn]; exact (Below.refl _ _).alloc (Nat.le_refl _) _
      have BN : Hid (Below wb.heap.size wb wn) := HB.out.trans (BN0.out.mono hws)
      have HBN : Hid (wn.heap[wr.heap.size]? = some (.cells #[.string A.key, .string A.value, .bool A.gone] 144 (0, 0))) := by rw [hwn]; exact heap_alloc_new _ _
      have hnl : wr.heap.size < wn.heap.size := heap_lt HBN.out
      have hwbn : wb.heap.size ≤ wn.heap.size := BN.out.size
      have HON := hide (liveAt_below HO.out BN0.out)
      have KS : Hid (∀ X, Below wn.heap.size wn X → (X.cell? ⟨g, 6, none⟩ = some (.slice ar D.length cr) ∧ X.cell? ⟨wr.heap.size, 0, none⟩ = some (.string A.key))) := fun X hX => ⟨((BN.out.trans (hX.mono BN.out.size)).cell (p := ⟨g, 6, none⟩) hgw).trans hw6, (hX.cell (p := ⟨wr.heap.size, 0, none⟩) hnl).trans ((cell_of_row wn _ 0 _ _ (0, 0) HBN.out).trans rfl)⟩
      obtain ⟨T, HTT⟩ : ∃ T, Hid (outSp (findS D A.key) = T) := ⟨_, hide rfl⟩
      obtain ⟨bt, HBT⟩ : ∃ T, Hid ((findS D A.key).isSome = T) := ⟨_, hide rfl⟩
      have HSA : Hid (∀ X, Below wn.heap.size wn X → Calls Tryz.prog 93 #[.slice ar D.length cr, .string A.key] X fun e w' => e = .returned (.tuple #[.agg #[.string T.key, .int .i64 T.seg, .int .i64 T.pos, .int .i64 T.seq], .bool bt]) ∧ Below X.heap.size X w') := fun X hX => by
        have h := HSO.out A.key X (spotsAt_keep HD.out (HB0.out.trans ((BN.out.trans (hX.mono BN.out.size)).mono HB0.out.size)))
        rw [HTT.out, HBT.out] at h
        exact h
      obtain ⟨hkq0, hkq1⟩ := KS.out wn (Below.refl _ _)
      go_upto_region 20 with fail
      rw [← hwn]
      clear hwn hd0 hd1 hd2
      go_cut [11, 12] from 99 (fun s11 s12 wx => ∃ β, s11 = .pointer (some ⟨β, 0, none⟩) ∧ s12 = .bool bt ∧ SpotG wn wx β T)
      case first =>
        rename_i hJ9 hK9
        go_region_held3 (fun w' => w'.cell? ⟨g, 6, none⟩ = some (.slice ar D.length cr) ∧ w'.cell? ⟨wr.heap.size, 0, none⟩ = some (.string A.key)) ((refine KS.out _ ?_; first | (exact (((e2.setCell (p := ⟨_, 0, none⟩) wbb _).setCell (p := ⟨_, 1, none⟩) wbb _).setCell (p := ⟨_, 2, none⟩) wbb _).setCell (p := ⟨_, 3, none⟩) wbb _) | (exact e2) | (exact e2.alloc e2.size _) | (exact (Below.refl _ _).drew) | (exact ((Below.refl _ wn).alloc (Nat.le_refl _) _).drew) | fail)) ((first | (go_at_call 93; refine (HSA.out _ ?_).mono ?_; exact (Below.refl _ _).drew; rintro e w2 ⟨rfl, b2⟩; have e2 : Below wn.heap.size wn w2 := ((Below.refl _ _).drew).trans b2) | (go_at_call 93; refine (HSA.out _ ?_).mono ?_; exact ((Below.refl _ wn).alloc (Nat.le_refl _) _).drew; rintro e w2 ⟨rfl, b2⟩; have e2 : Below wn.heap.size wn w2 := (((Below.refl _ wn).alloc (Nat.le_refl _) _).drew).trans (b2.mono (by simp)); have q2 : Hid (w2.heap[wn.heap.size]? = some (.cells #[.string ⟨#[]⟩, .int .i64 0, .int .i64 0, .int .i64 0] 89 (0, 0))) := (b2.block _ (by simp)).trans (heap_alloc_new wn _); have wbb := Nat.le_refl wn.heap.size; obtain ⟨xx0, xx1, xx2, xx3, ff0, ff1, ff2, ff3⟩ := fourC q2.out)))
        all_goals (refine hK9 _ _ (Met.intro (hJ9 _ _ ?_)); (repeat apply Exists.intro); refine ⟨?_, rfl⟩)
        all_goals (refine ⟨_, rfl, rfl, ?_⟩; first | (have qq := q2.out; exact spotG_old T e2 qq wbb) | (exact spotG_new T e2))
      case rest =>
        obtain ⟨β, rfl, rfl, hG1, hG2, hG3⟩ := hcut
        have B9 := hide hG3
        have hG9 := hide hG1
        obtain ⟨hx0, hx1, hx2, hx3, -⟩ := fourC hG1
        have BW := hide (BN.out.trans (hG3.mono BN.out.size))
        have hn0 := (hG3.cell (p := ⟨wr.heap.size, 0, none⟩) hnl).trans ((cell_of_row wn _ 0 _ _ (0, 0) HBN.out).trans rfl)
        have hn1 := (hG3.cell (p := ⟨wr.heap.size, 1, none⟩) hnl).trans ((cell_of_row wn _ 1 _ _ (0, 0) HBN.out).trans rfl)
        have hn2 := (hG3.cell (p := ⟨wr.heap.size, 2, none⟩) hnl).trans ((cell_of_row wn _ 2 _ _ (0, 0) HBN.out).trans rfl)
        have hs0 := (BW.out.cell (p := ⟨w.heap.size, 0, none⟩) (heap_lt HBK.out)).trans hz0
        have hs3 := (BW.out.cell (p := ⟨w.heap.size, 3, none⟩) (heap_lt HBK.out)).trans hz3
        have hs8 := (BW.out.cell (p := ⟨w.heap.size + 1, 0, none⟩) (heap_lt HBB.out)).trans hz8
        have hsp := (BW.out.cell (p := ⟨gp, j, none⟩) hgpw2).trans hwp
        have hgd : Tryz.prog.eqGuardType Tryz.prog.depth 89 = false := by kernel_rfl
        have HO9 := hide (liveAt_below HON.out hG3)
        clear hG1 hG3 hkq0 hkq1 KS HSA
        obtain ⟨r, HRR⟩ : ∃ r, Hid (((T.key.toList == A.key.toList) && ((T.seg == (S.num : Int)) && ((T.pos == (P : Int)) && (T.seq == q)))) = r) := ⟨_, hide rfl⟩
        have heql := eql_spot4 T.key A.key T.seg (S.num : Int) T.pos (P : Int) T.seq q r HRR.out
        have HLB : Hid (liveB D (S.num : Int) (P : Int) q A = (bt && r)) := by
          show _ = _
          rw [← HRR.out, ← HBT.out, ← HTT.out]
          unfold liveB
          cases hf : findS D A.key with
          | none => rfl
          | some Z =>
            have hkz := List.find?_some hf
            simp only [outSp, Option.map_some, Option.getD_some, Option.isSome_some, Bool.true_and, hkz]
        cases bt with
        | false =>
          rw [HLB.out, Bool.false_and, if_neg (by decide), List.append_nil] at htk
          go_wp2_with fail
          go_quiet (fail)
          go_wp2_with fail
          go_roundw
          case rel =>
            refine ⟨k + 1, by go_num, by omega, ?_, below_drewN BW.out _⟩
            show LiveAt _ _ _ _
            rw [htk.out]
            exact liveAt_below HO9.out (drewN_below _ _)
          case measure => simp [intOf]; omega
        | true =>
          cases r with
          | false =>
            rw [HLB.out, Bool.true_and, if_neg (by decide), List.append_nil] at htk
            go_wp2_with fail
            go_quiet (fail)
            go_wp2_with fail
            go_roundw
            case rel =>
              refine ⟨k + 1, by go_num, by omega, ?_, below_drewN BW.out _⟩
              show LiveAt _ _ _ _
              rw [htk.out]
              exact liveAt_below HO9.out (drewN_below _ _)
            case measure => simp [intOf]; omega
          | true =>
            rw [HLB.out, Bool.true_and, if_pos rfl] at htk
            rcases HO9.out with ⟨ao5, hu5, hL5⟩ | ⟨h05, ho5⟩
            · subst hu5
              have HL5 := hide hL5
              clear hL5
              go_wp2_with fail
              go_quiet (fail)
              have B9d := hide (below_drewN BW.out nq)
              have hs9 : wb.heap.size ≤ wc.heap.size := BW.out.size
              go_wp2_with (at_builtin; refine app_change0 _ wb.heap.size (by rfl) _ _ (by rfl) ao5 A (by rfl) wc.heap.size (by rfl) (heap_alloc_new (wc.drewN nq) _) (by simp; omega) ?_; intro g5 cap5 w5 ho5 hb5 hg5 hgl5; have HO5 := hide ho5; have HB5 := hide hb5; clear ho5 hb5 hg5 hgl5)
              go_roundw
              case rel =>
                refine ⟨k + 1, by go_num, by omega, ?_, (B9d.out.alloc (by show _ ≤ wc.heap.size; omega) _).trans HB5.out⟩
                show LiveAt _ _ _ _
                rw [htk.out, HL5.out]
                exact .inr ⟨by simp, HO5.out⟩
              case measure => simp [intOf]; omega
            · have HO6 := hide ho5
              clear ho5
              go_wp2_with fail
              go_quiet (fail)
              have B9d := hide (below_drewN BW.out nq)
              have HO7 := hide (ownsRow_below HO6.out (drewN_below _ nq))
              have hs9 : wb.heap.size ≤ wc.heap.size := BW.out.size
              go_wp2_with (at_builtin; refine app_change _ wb.heap.size (by rfl) _ _ (by rfl) _ L A (by rfl) (HO7.out.alloc _) wc.heap.size (by rfl) (heap_alloc_new (wc.drewN nq) _) hLl (by simp; omega) ?_; intro g5 cap5 w5 ho5 hb5 hg5 hgl5; have HO5 := hide ho5; have HB5 := hide hb5; clear ho5 hb5 hg5 hgl5)
              go_roundw
              case rel =>
                refine ⟨k + 1, by go_num, by omega, ?_, (B9d.out.alloc (by show _ ≤ wc.heap.size; omega) _).trans HB5.out⟩
                show LiveAt _ _ _ _
                rw [htk.out]
                exact .inr ⟨by simp, HO5.out⟩
              case measure => simp [intOf]; omega
    · have hlt' : decide ((k : Int) < (cs.length : Int)) = false := by simp; omega
      have hke : k = cs.length := by omega
      subst hke
      rw [List.take_length] at HO
      obtain ⟨ao9, cap9, hv9, hat9⟩ := liveAt_at HO.out
      subst hv9
      have HAT := hide hat9
      clear hat9
      go_wp2
      go_ret
      exact ⟨⟨_, _, rfl, HAT.out⟩, HB0.out.trans (HB.out.mono HB0.out.size)⟩
theorem implShort_yes (s : ByteArray) (w : World) (h : s.size ≤ 20000) :
    Calls Tryz.prog 225 #[.string s] w fun e w' => e = .returned (.tuple #[.string (⟨(Wd.varF 5 s.size).toArray⟩ ++ s), .bool true]) ∧ Below w.heap.size w w' := by
  have hl := Wd.varF_length 5 s.size
  go_enter Tryz.func225, Tryz.ntmps225
  go_wp2_with (first | (go_at_call 83; refine (implVar_yes s.size _ (by omega)).mono ?_; rintro e w1 ⟨rfl, hb1⟩))
  go_ret2
  exact ⟨rfl, hb1⟩
end Go.Proofs.YtmmchemgegmhhaaGreatDoor
