import Derived.Laws.MakeOwn
import Derived.Lib.SmallJoins
import Derived.OpenShut
import Derived.Deep.LoopGhost
import Derived.Maps.OwnSet
import Derived.Lib.Strings
import Derived.Sort.Walk0
import Derived.Test.YtmmchemgegmhhaaGreatDoorFo0
import Derived.Test.YtmmchemgegmhhaaGreatDoorFo2
import Derived.Test.YtmmchemgegmhhaaGreatDoorFo1
import Derived.Test.YtmmchemgegmhhaaGreatDoorFo3
import Derived.Test.YtmmchemgegmhhaaGreatDoorFo6
import Derived.Test.YtmmchemgegmhhaaGreatDoorFo7
set_option maxRecDepth 100000
set_option maxHeartbeats 3200000
namespace Go.Proofs.YtmmchemgegmhhaaGreatDoor
open Go.RowKit
structure SpotD where
  key : ByteArray
  seg : Int
  pos : Int
  seq : Int
def SpotsAt (w : World) (ao : Option Addr) (fs : List SpotD) : Prop := ∀ j (h : j < fs.length), ∃ b off : Nat, ao = some ⟨b, off, none⟩ ∧ b < w.heap.size ∧
  w.cell? ⟨b, off + j * 4, none⟩ = some (.string fs[j].key) ∧ w.cell? ⟨b, off + j * 4 + 1, none⟩ = some (.int .i64 fs[j].seg) ∧ w.cell? ⟨b, off + j * 4 + 2, none⟩ = some (.int .i64 fs[j].pos) ∧ w.cell? ⟨b, off + j * 4 + 3, none⟩ = some (.int .i64 fs[j].seq)
theorem spotsAt_keep {w w' : World} {ao : Option Addr} {fs : List SpotD} (h : SpotsAt w ao fs) (hb : Below w.heap.size w w') : SpotsAt w' ao fs := by
  intro j hj
  obtain ⟨b, off, h1, h2, h3, h4, h5, h6⟩ := h j hj
  exact ⟨b, off, h1, Nat.lt_of_lt_of_le h2 hb.size, (hb.cell (p := ⟨b, off + j * 4, none⟩) h2).trans h3, (hb.cell (p := ⟨b, off + j * 4 + 1, none⟩) h2).trans h4, (hb.cell (p := ⟨b, off + j * 4 + 2, none⟩) h2).trans h5, (hb.cell (p := ⟨b, off + j * 4 + 3, none⟩) h2).trans h6⟩
def SpotsIn (C : Array Value) (fs : List SpotD) (k : Nat) : Prop := ∀ j (h : j < fs.length), j < k → C[j * 4]? = some (.string fs[j].key) ∧ C[j * 4 + 1]? = some (.int .i64 fs[j].seg) ∧ C[j * 4 + 2]? = some (.int .i64 fs[j].pos) ∧ C[j * 4 + 3]? = some (.int .i64 fs[j].seq)
theorem Tryz.infoSpot : (Tryz.prog.info? 89).map (fun i => (i.zero, i.size, i.bytes)) = some (some (.agg #[.string ⟨#[]⟩, .int .i64 0, .int .i64 0, .int .i64 0]), 4, 40) := by kernel_rfl
theorem spotsAt_own {w : World} {g : Nat} {C : Array Value} {t : TypeId} {fs : List SpotD} (h : w.heap[g]? = some (.cells C t (0, 0))) (hC : SpotsIn C fs fs.length) : SpotsAt w (some ⟨g, 0, none⟩) fs := by
  intro j hj
  obtain ⟨h0, h1, h2, h3⟩ := hC j hj hj
  have hg : g < w.heap.size := (Array.getElem?_eq_some_iff.1 h).1
  refine ⟨g, 0, rfl, hg, ?_, ?_, ?_, ?_⟩
  · rw [Nat.zero_add, cell_of_row w g _ C t (0, 0) h, h0]
  · rw [Nat.zero_add, cell_of_row w g _ C t (0, 0) h, h1]
  · rw [Nat.zero_add, cell_of_row w g _ C t (0, 0) h, h2]
  · rw [Nat.zero_add, cell_of_row w g _ C t (0, 0) h, h3]
def cellsSpot : List SpotD → List Value
  | [] => []
  | A :: r => .string A.key :: .int .i64 A.seg :: .int .i64 A.pos :: .int .i64 A.seq :: cellsSpot r
theorem cellsSpot_append : ∀ (a b : List SpotD), cellsSpot (a ++ b) = cellsSpot a ++ cellsSpot b
  | [], _ => rfl
  | A :: r, b => by simp [cellsSpot, cellsSpot_append r b]
theorem cellsSpot_length : ∀ a : List SpotD, (cellsSpot a).length = a.length * 4
  | [] => rfl
  | A :: r => by simp [cellsSpot, cellsSpot_length r]; omega
theorem cellsSpot_one : ∀ (a : List SpotD), ∀ u ∈ cellsSpot a, u.oneCell' = true
  | [], u, h => absurd h List.not_mem_nil
  | A :: r, u, h => by
    simp only [cellsSpot, List.mem_cons] at h
    rcases h with rfl | rfl | rfl | rfl | h
    · rfl
    · rfl
    · rfl
    · rfl
    · exact cellsSpot_one r u h
theorem cellsSpot_get : ∀ (a : List SpotD) (j : Nat) (h : j < a.length), (cellsSpot a)[j * 4]? = some (.string a[j].key) ∧ (cellsSpot a)[j * 4 + 1]? = some (.int .i64 a[j].seg) ∧ (cellsSpot a)[j * 4 + 2]? = some (.int .i64 a[j].pos) ∧ (cellsSpot a)[j * 4 + 3]? = some (.int .i64 a[j].seq)
  | [], _, h => absurd h (by simp)
  | A :: r, 0, _ => by simp [cellsSpot]
  | A :: r, j + 1, h => by
    have := cellsSpot_get r j (by simpa using h)
    have e : (j + 1) * 4 = j * 4 + 4 := by omega
    simp only [cellsSpot, e]
    simpa using this
def RowSpot (w : World) (B : Nat) (v : Value) (fs : List SpotD) : Prop := (v = .slice none 0 0 ∧ fs = []) ∨
  ∃ (g cap : Nat) (C : Array Value), v = .slice (some ⟨g, 0, none⟩) fs.length cap ∧ B ≤ g ∧ w.heap[g]? = some (.cells C 89 (0, 0)) ∧ fs.length * 4 ≤ C.size ∧ SpotsIn C fs fs.length
theorem rowSpot_at {w : World} {B : Nat} {v : Value} {fs : List SpotD} (h : RowSpot w B v fs) : ∃ ao cap, v = .slice ao fs.length cap ∧ SpotsAt w ao fs := by
  rcases h with ⟨rfl, rfl⟩ | ⟨g, cap, C, rfl, _, hC, _, hI⟩
  · exact ⟨none, 0, rfl, fun j hj => absurd hj (by simp)⟩
  · exact ⟨_, cap, rfl, spotsAt_own hC hI⟩
theorem rowSpot_lt {w : World} {B : Nat} {v : Value} {fs : List SpotD} (h : RowSpot w B v fs) : ∀ g, v.ownBlock = some g → B ≤ g ∧ g < w.heap.size := by
  rcases h with ⟨rfl, rfl⟩ | ⟨g, cap, C, rfl, hB, hC, _, hI⟩
  · intro g h; cases h
  · intro g' h
    obtain rfl : g = g' := by simpa [Value.ownBlock] using h
    exact ⟨hB, (Array.getElem?_eq_some_iff.1 hC).1⟩
theorem rowSpot_keep {w w' : World} {B : Nat} {v : Value} {fs : List SpotD} (h : RowSpot w B v fs) (hk : ∀ g, v.ownBlock = some g → w'.heap[g]? = w.heap[g]?) : RowSpot w' B v fs := by
  rcases h with ⟨rfl, rfl⟩ | ⟨g, cap, C, rfl, hB, hC, hs, hI⟩
  · exact .inl ⟨rfl, rfl⟩
  · exact .inr ⟨g, cap, C, rfl, hB, (hk g rfl).trans hC, hs, hI⟩
theorem rowSpot_below {w w' : World} {B : Nat} {v : Value} {fs : List SpotD} (h : RowSpot w B v fs) (hb : Below w.heap.size w w') : RowSpot w' B v fs :=
  rowSpot_keep h (fun g hg => hb.block g (rowSpot_lt h g hg).2)
theorem rowSpot_grown {w w' : World} {B : Nat} {v : Value} {fs : List SpotD} {r : Option Nat} (h : RowSpot w B v fs) (hb : w.grownBy w' r) (hr : ∀ g, v.ownBlock = some g → some g ≠ r) : RowSpot w' B v fs :=
  rowSpot_keep h (fun g hg => hb.block g (rowSpot_lt h g hg).2 (hr g hg))
theorem rowSpot_le {w : World} {B B' : Nat} {v : Value} {fs : List SpotD} (h : RowSpot w B v fs) (hB : B' ≤ B) : RowSpot w B' v fs := by
  rcases h with h | ⟨g, cap, C, h1, h2, h3⟩
  · exact .inl h
  · exact .inr ⟨g, cap, C, h1, by omega, h3⟩
theorem take_getSpot {C : Array Value} {xs : List Value} {n : Nat} (h : C.toList.take n = xs) {j : Nat} {u : Value} (hj : j < n) (hu : xs[j]? = some u) : C[j]? = some u := by
  rw [← h, List.getElem?_take_of_lt hj] at hu
  simpa using hu
theorem rowSpot_own {w : World} {B : Nat} {v : Value} {fs : List SpotD} (h : w.ownsRow B 89 4 v fs.length (cellsSpot fs)) : RowSpot w B v fs := by
  rcases h.2 with ⟨rfl, hn⟩ | ⟨g, cap, cur, rfl, hB, hC, hle, _, hs, ht⟩
  · exact .inl ⟨rfl, List.eq_nil_of_length_eq_zero hn⟩
  · refine .inr ⟨g, cap, cur, rfl, hB, hC, by omega, ?_⟩
    intro j hj _
    obtain ⟨h0, h1, h2, h3⟩ := cellsSpot_get fs j hj
    exact ⟨take_getSpot ht (by omega) h0, take_getSpot ht (by omega) h1, take_getSpot ht (by omega) h2, take_getSpot ht (by omega) h3⟩
theorem app_spot {ops : Array Oper} {rest : List Oper} {o : Oper} {a : Act} {Q : Exit → Act → World → Prop} (W : World) (B : Nat) (hgd : o.guard = none) (s y : Operand)
    (ho : o.op = .call { callee := .builtin .append, args := #[s, y], argTypes := #[28, 28] }) (v : Value) (l : List SpotD) (F : SpotD) (hs : a.eval s = v)
    (hown : W.ownsRow B 89 4 v l.length (cellsSpot l)) (k : Nat) (hx : a.eval y = .slice (some ⟨k, 0, none⟩) 1 1) (hblk : W.heap[k]? = some (.cells #[.string F.key, .int .i64 F.seg, .int .i64 F.pos, .int .i64 F.seq] 89 (0, 0)))
    (hlen : l.length ≤ 1048576) (hbase : B ≤ W.heap.size)
    (h : ∀ g cap w', w'.ownsRow B 89 4 (.slice (some ⟨g, 0, none⟩) (l.length + 1) cap) (l ++ [F]).length (cellsSpot (l ++ [F])) → Below B W w' → B ≤ g → g < w'.heap.size → wpList Tryz.prog ops Q rest (a.put o.dst (.slice (some ⟨g, 0, none⟩) (l.length + 1) cap)) w') :
    wpList Tryz.prog ops Q (o :: rest) a W := by
  obtain ⟨i0, hi, hz0, hz1, hz2⟩ := info_parts Tryz.infoSpot
  refine wpList_append_lies W hgd s y 28 ho B 89 i0 (.agg #[.string ⟨#[]⟩, .int .i64 0, .int .i64 0, .int .i64 0]) 4 40 Tryz.underlying28 hi hz0 hz1 hz2 rfl (by decide) v l.length (cellsSpot l) hs hown ⟨k, 0, none⟩ 1 1 (cellsSpot [F]) hx (by rw [cellsSpot_length]; rfl)
    (fun j u hj => World.news_of_block hblk j u hj) (cellsSpot_one [F]) (by omega) (by unfold maxLen; omega) (by omega) hbase W.heap.size rfl ?_
  intro g cap w' hown' hgrow hg hgl
  have hlt := hown.lt
  refine h g cap w' ?_ ((Below.refl B W).grown hgrow hbase (fun k hk => (hlt k hk).1)) ?_ hgl
  · rw [cellsSpot_append, List.length_append]
    exact hown'
  · rcases hg with hg | rfl
    · exact (hlt g hg).1
    · exact hbase
def spLt (k : ByteArray) (A : SpotD) : Bool := Op.bytesLess A.key.toList k.toList
def spGt (k : ByteArray) (A : SpotD) : Bool := !Op.bytesLess A.key.toList k.toList && !(A.key.toList == k.toList)
def setD (fs : List SpotD) (s : SpotD) (gone : Bool) : List SpotD := fs.filter (spLt s.key) ++ (if gone then [] else [s]) ++ fs.filter (spGt s.key)
theorem lt_gt_le (k : ByteArray) : ∀ fs : List SpotD, (fs.filter (spLt k)).length + (fs.filter (spGt k)).length ≤ fs.length
  | [] => Nat.le_refl _
  | A :: r => by
    have ih := lt_gt_le k r
    simp only [List.filter_cons, List.length_cons]
    cases h1 : spLt k A with
    | true =>
      have h2 : spGt k A = false := by unfold spLt at h1; unfold spGt; rw [h1]; rfl
      rw [h2]; simp; omega
    | false =>
      cases h2 : spGt k A <;> simp <;> omega
theorem setD_le (fs : List SpotD) (s : SpotD) (gone : Bool) : (setD fs s gone).length ≤ fs.length + 1 := by
  have := lt_gt_le s.key fs
  unfold setD
  cases gone <;> simp <;> omega
def chsIn (seg pos q : Int) (dir : List SpotD) : List ChangeD → List SpotD
  | [] => dir
  | A :: r => chsIn seg pos q (setD dir ⟨A.key, seg, pos, q⟩ A.gone) r
def batsIn (seg : Int) (dir : List SpotD) (pos : Nat) : List BatchD → List SpotD
  | [] => dir
  | b :: r => batsIn seg (chsIn seg (pos : Int) b.seq dir b.chs) (pos + sizeD b.seq b.chs) r
theorem chsIn_len (seg pos q : Int) : ∀ (l : List ChangeD) (dir : List SpotD), (chsIn seg pos q dir l).length ≤ dir.length + l.length
  | [], dir => Nat.le_refl _
  | A :: r, dir => by
    have h1 := chsIn_len seg pos q r (setD dir ⟨A.key, seg, pos, q⟩ A.gone)
    have h2 := setD_le dir ⟨A.key, seg, pos, q⟩ A.gone
    simp only [chsIn, List.length_cons]
    omega
def chsN : List BatchD → Nat
  | [] => 0
  | b :: r => b.chs.length + chsN r
theorem batsIn_len (seg : Int) : ∀ (l : List BatchD) (dir : List SpotD) (pos : Nat), (batsIn seg dir pos l).length ≤ dir.length + chsN l
  | [], dir, _ => Nat.le_refl _
  | b :: r, dir, pos => by
    have h1 := batsIn_len seg r (chsIn seg (pos : Int) b.seq dir b.chs) (pos + sizeD b.seq b.chs)
    have h2 := chsIn_len seg (pos : Int) b.seq b.chs dir
    simp only [batsIn, chsN]
    omega
theorem varF_pos (n : Nat) : 1 ≤ (Wd.varF 5 n).length := by
  unfold Wd.varF
  split <;> simp
theorem changeB_three (A : ChangeD) : 3 ≤ (changeB A).size := by
  have h1 := shortB_len A.key
  have h2 := shortB_len A.value
  have h3 := varF_pos A.key.size
  have h4 := varF_pos A.value.size
  have h5 : (flagB A.gone).size = 1 := by cases A.gone <;> rfl
  unfold changeB
  rw [ByteArray.size_append, ByteArray.size_append]
  omega
theorem changesL_three : ∀ l : List ChangeD, 3 * l.length ≤ (changesL l).length
  | [] => Nat.le_refl _
  | A :: r => by
    have h1 := changesL_three r
    have h2 := changeB_three A
    have h3 : (changeB A).data.toList.length = (changeB A).size := rfl
    simp only [changesL, List.length_append, List.length_cons]
    omega
theorem rd_three (t : ByteArray) : 3 * (rdChanges t).length ≤ t.size := by
  cases h : rdOk t with
  | false => simp [rdChanges, h]
  | true =>
    obtain ⟨h1, h2⟩ := rd_text h
    have h3 := changesL_three (rdChanges t)
    have h4 : (textD (rdSeq t) (rdChanges t)).size = (batchL (rdSeq t).toNat (rdChanges t)).length := by unfold textD; rw [if_pos h1]; rfl
    rw [h2] at h4
    unfold batchL at h4
    rw [List.length_append] at h4
    omega
theorem ris_three (s : ByteArray) : ∀ (l : List (Nat × Nat)) (i : Nat) (last : Int) (e : Nat), i ≤ s.size → chained s i l → 3 * chsN (ris s l last e).1 + i ≤ s.size
  | [], i, _, _, hi, _ => by simp [ris, chsN]; exact hi
  | x :: r, i, last, e, hi, hc => by
    obtain ⟨hf, hr⟩ := hc
    have hb := frB_bounds s i x hf
    have ht := rd_three (s.extract x.1 x.2)
    rw [ByteArray.size_extract] at ht
    by_cases h : rdOk (s.extract x.1 x.2) = true ∧ last < rdSeq (s.extract x.1 x.2)
    · rw [ris_more h.1 h.2]
      have ih := ris_three s r x.2 (rdSeq (s.extract x.1 x.2)) x.2 hb.2.2 hr
      simp only [chsN]
      omega
    · rw [ris_no h]
      simp [chsN]
      exact hi
theorem segBatches_three (n : Int) (s : ByteArray) : 3 * chsN (segBatches n s) ≤ 20000 := by
  by_cases hs : s.size ≤ 20000
  · unfold segBatches segRead
    have hc := unf_chained s
    cases hu : unf s with
    | nil => exact Nat.zero_le _
    | cons x r =>
      rw [hu] at hc
      simp only []
      cases hh : hdFrom n (s.extract x.1 x.2) with
      | none => exact Nat.zero_le _
      | some f =>
        have := ris_three s r x.2 (-1) x.2 (frB_bounds s 0 x hc.1).2.2 hc.2
        show 3 * chsN (ris s r (-1) x.2).1 ≤ 20000
        omega
  · unfold segBatches segRead
    have hu : unf s = [] := by unfold unf; rw [if_neg hs]
    rw [hu]
    exact Nat.zero_le _
theorem chsIn_snoc (seg pos q : Int) : ∀ (l : List ChangeD) (dir : List SpotD) (A : ChangeD), chsIn seg pos q dir (l ++ [A]) = setD (chsIn seg pos q dir l) ⟨A.key, seg, pos, q⟩ A.gone
  | [], _, _ => rfl
  | B :: r, dir, A => chsIn_snoc seg pos q r (setD dir ⟨B.key, seg, pos, q⟩ B.gone) A
def totD : List BatchD → Nat
  | [] => 0
  | b :: r => sizeD b.seq b.chs + totD r
theorem batsIn_snoc (seg : Int) : ∀ (l : List BatchD) (b : BatchD) (dir : List SpotD) (e : Nat), batsIn seg dir e (l ++ [b]) = chsIn seg ((e + totD l : Nat) : Int) b.seq (batsIn seg dir e l) b.chs
  | [], _, _, _ => rfl
  | c :: r, b, dir, e => by
    have h := batsIn_snoc seg r b (chsIn seg (e : Int) c.seq dir c.chs) (e + sizeD c.seq c.chs)
    simp only [List.cons_append, batsIn, totD]
    rw [h, Nat.add_assoc]
theorem plsB_get : ∀ (l : List BatchD) (e j : Nat) (h : j < (plsB e l).length), (plsB e l)[j] = e + totD (l.take j)
  | [], _, _, h => absurd h (by simp [plsB])
  | b :: r, e, 0, _ => by simp [plsB, totD]
  | b :: r, e, j + 1, h => by
    have h' : j < (plsB (e + sizeD b.seq b.chs) r).length := by simpa [plsB] using h
    have := plsB_get r (e + sizeD b.seq b.chs) j h'
    simp only [plsB, List.getElem_cons_succ, List.take_succ_cons, totD]
    rw [this]
    omega
theorem chsN_snoc : ∀ (l : List BatchD) (b : BatchD), chsN (l ++ [b]) = chsN l + b.chs.length
  | [], b => by simp [chsN]
  | c :: r, b => by simp only [List.cons_append, chsN]; rw [chsN_snoc r b]; omega
theorem chsN_take_le (l : List BatchD) (j : Nat) : chsN (l.take j) ≤ chsN l := by
  have h := List.take_append_drop j l
  have : ∀ (a b : List BatchD), chsN (a ++ b) = chsN a + chsN b := by
    intro a
    induction a with
    | nil => intro b; simp [chsN]
    | cons c r ih => intro b; simp only [List.cons_append, chsN]; rw [ih]; omega
  have h2 := this (l.take j) (l.drop j)
  rw [h] at h2
  omega
def SegD.hd (s : SegD) : Nat := (frameB ⟨(headL s.num s.frm).toArray⟩).size
def dirSegs : List SpotD → List SegD → List SpotD
  | dir, [] => dir
  | dir, s :: r => dirSegs (batsIn (s.num : Int) dir s.hd s.bs) r
theorem dirSegs_snoc : ∀ (l : List SegD) (dir : List SpotD) (s : SegD), dirSegs dir (l ++ [s]) = batsIn (s.num : Int) (dirSegs dir l) s.hd s.bs
  | [], _, _ => rfl
  | _ :: r, _, s => dirSegs_snoc r _ s
def segsN : List SegD → Nat
  | [] => 0
  | s :: r => chsN s.bs + segsN r
theorem segsN_snoc : ∀ (l : List SegD) (s : SegD), segsN (l ++ [s]) = segsN l + chsN s.bs
  | [], s => by simp [segsN]
  | c :: r, s => by simp only [List.cons_append, segsN]; rw [segsN_snoc r s]; omega
theorem segsN_le : ∀ (l : List SegD), (∀ s ∈ l, 3 * chsN s.bs ≤ 20000) → 3 * segsN l ≤ 20000 * l.length
  | [], _ => by simp [segsN]
  | c :: r, h => by
    have h1 := segsN_le r (fun s hs => h s (List.mem_cons_of_mem _ hs))
    have h2 := h c (List.mem_cons_self ..)
    simp only [segsN, List.length_cons]
    omega
theorem dirSegs_len : ∀ (l : List SegD) (dir : List SpotD), (dirSegs dir l).length ≤ dir.length + segsN l
  | [], dir => Nat.le_refl _
  | s :: r, dir => by
    have h1 := dirSegs_len r (batsIn (s.num : Int) dir s.hd s.bs)
    have h2 := batsIn_len (s.num : Int) s.bs dir s.hd
    simp only [dirSegs, segsN]
    omega
def dirD (fs : List FileD) : List SpotD := dirSegs [] (segsL fs)
theorem segsL_three {fs : List FileD} {s : SegD} (h : s ∈ segsL fs) : 3 * chsN s.bs ≤ 20000 := by
  obtain ⟨-, -, F, -, hF, -⟩ := segsTo_mem (segsL_mem h)
  rw [hF]
  exact segBatches_three _ _
theorem segsL_N (fs : List FileD) : segsN (segsL fs) ≤ 666700 := by
  have h1 := segsN_le (segsL fs) (fun s hs => segsL_three hs)
  have h2 := segsL_len fs
  omega
theorem dirD_len (fs : List FileD) : (dirD fs).length ≤ 666700 := by
  have h1 := dirSegs_len (segsL fs) []
  have h2 := segsL_N fs
  unfold dirD
  simp at h1
  omega
theorem segsN_take_le : ∀ (l : List SegD) (j : Nat), segsN (l.take j) ≤ segsN l
  | [], j => by simp [segsN]
  | _ :: _, 0 => by simp [segsN]
  | c :: r, j + 1 => by
    have := segsN_take_le r j
    simp only [List.take_succ_cons, segsN]
    omega
theorem ris_ok (s : ByteArray) : ∀ (l : List (Nat × Nat)) (last : Int) (e : Nat), ∀ b ∈ (ris s l last e).1, textOkD b.seq b.chs = true
  | [], _, _, _, h => absurd h (by simp [ris])
  | x :: r, last, e, b, h => by
    by_cases hc : rdOk (s.extract x.1 x.2) = true ∧ last < rdSeq (s.extract x.1 x.2)
    · rw [ris_more hc.1 hc.2] at h
      rcases List.mem_cons.1 h with rfl | h
      · exact (rd_text hc.1).1
      · exact ris_ok s r _ _ b h
    · rw [ris_no hc] at h
      exact absurd h List.not_mem_nil
theorem segBatches_ok {n : Int} {s : ByteArray} {b : BatchD} (h : b ∈ segBatches n s) : textOkD b.seq b.chs = true := by
  cases hr : segRead n s with
  | none => rw [(seg_none hr).2.1] at h; exact absurd h List.not_mem_nil
  | some q =>
    obtain ⟨f, bs, e⟩ := q
    rw [(seg_some hr).2.1] at h
    cases hu : unf s with
    | nil => rw [segRead_nil hu] at hr; simp at hr
    | cons x r =>
      cases hh : hdFrom n (s.extract x.1 x.2) with
      | none => rw [segRead_head hu hh] at hr; simp at hr
      | some f' =>
        rw [segRead_some hu hh] at hr
        simp only [Option.some.injEq, Prod.mk.injEq] at hr
        refine ris_ok s r (-1) x.2 b ?_
        rw [hr.2]
        exact h
theorem textOk_small {q : Int} {cs : List ChangeD} (h : textOkD q cs = true) : cs.length ≤ 40 ∧ (0 ≤ q ∧ q ≤ 1000000000) ∧ ∀ A ∈ cs, A.key.size ≤ 20 ∧ A.value.size ≤ 2000 := by
  unfold textOkD at h
  simp only [Bool.and_eq_true] at h
  have h1 := batchOkD_bounds h.1
  refine ⟨h1.2.2.2, ⟨h1.1, h1.2.1⟩, ?_⟩
  have h2 := h.1
  unfold batchOkD at h2
  simp only [Bool.and_eq_true] at h2
  exact okChg_small cs none h2.2.2
theorem segsL_ok {fs : List FileD} {s : SegD} (h : s ∈ segsL fs) : ∀ b ∈ s.bs, textOkD b.seq b.chs = true := by
  obtain ⟨-, -, F, -, hF, -⟩ := segsTo_mem (segsL_mem h)
  intro b hb
  rw [hF] at hb
  exact segBatches_ok hb
def keysUp (m : Nat) (dir : List SpotD) : Prop := ∀ A ∈ dir, A.key.size ≤ m
theorem keysUp_set {m : Nat} {dir : List SpotD} {F : SpotD} {gone : Bool} (h : keysUp m dir) (hF : F.key.size ≤ m) : keysUp m (setD dir F gone) := by
  intro A hA
  unfold setD at hA
  rcases List.mem_append.1 hA with hA | hA
  · rcases List.mem_append.1 hA with hA | hA
    · exact h A (List.mem_filter.1 hA).1
    · cases gone
      · obtain rfl : A = F := by simpa using hA
        exact hF
      · simp at hA
  · exact h A (List.mem_filter.1 hA).1
theorem keysUp_chs {m : Nat} (seg pos q : Int) : ∀ (l : List ChangeD) (dir : List SpotD), keysUp m dir → (∀ A ∈ l, A.key.size ≤ m) → keysUp m (chsIn seg pos q dir l)
  | [], _, h, _ => h
  | A :: r, _, h, hl => keysUp_chs seg pos q r _ (keysUp_set h (hl A (List.mem_cons_self ..))) (fun B hB => hl B (List.mem_cons_of_mem _ hB))
theorem keysUp_bats {m : Nat} (seg : Int) : ∀ (l : List BatchD) (dir : List SpotD) (e : Nat), keysUp m dir → (∀ b ∈ l, ∀ A ∈ b.chs, A.key.size ≤ m) → keysUp m (batsIn seg dir e l)
  | [], _, _, h, _ => h
  | b :: r, _, _, h, hl => keysUp_bats seg r _ _ (keysUp_chs seg _ _ b.chs _ h (hl b (List.mem_cons_self ..))) (fun c hc => hl c (List.mem_cons_of_mem _ hc))
theorem keysUp_segs {m : Nat} : ∀ (l : List SegD) (dir : List SpotD), keysUp m dir → (∀ s ∈ l, ∀ b ∈ s.bs, ∀ A ∈ b.chs, A.key.size ≤ m) → keysUp m (dirSegs dir l)
  | [], _, h, _ => h
  | s :: r, _, h, hl => keysUp_segs r _ (keysUp_bats _ s.bs _ _ h (hl s (List.mem_cons_self ..))) (fun c hc => hl c (List.mem_cons_of_mem _ hc))
theorem dirD_keys (fs : List FileD) : keysUp 20 (dirD fs) :=
  keysUp_segs (segsL fs) [] (fun _ hA => absurd hA List.not_mem_nil) (fun _ hs b hb A hA => ((textOk_small (segsL_ok hs b hb)).2.2 A hA).1)
theorem okFrom_mem : ∀ (fs : List FileD) (p : Option ByteArray), okFrom p fs = true → ∀ F ∈ fs, fileOkD F = true
  | [], _, _, _, h => absurd h List.not_mem_nil
  | G :: r, none, h, F, hF => by
    simp only [okFrom, Bool.and_eq_true] at h
    rcases List.mem_cons.1 hF with rfl | hF
    · exact h.1
    · exact okFrom_mem r _ h.2 F hF
  | G :: r, some p, h, F, hF => by
    simp only [okFrom, Bool.and_eq_true] at h
    rcases List.mem_cons.1 hF with rfl | hF
    · exact h.1
    · exact okFrom_mem r _ h.2.2 F hF
theorem ok_file {F : FileD} (h : fileOkD F = true) : 1 ≤ F.name.size ∧ F.name.size ≤ 8 ∧ F.text.size ≤ 20000 ∧ 0 ≤ F.kept ∧ F.kept ≤ F.text.size := by
  simp only [fileOkD, nameOkD, Bool.and_eq_true, decide_eq_true_eq] at h
  omega
theorem disk_files {fs : List FileD} (h : diskOkD fs = true) : fs.length ≤ 30 ∧ ∀ F ∈ fs, 1 ≤ F.name.size ∧ F.name.size ≤ 8 ∧ F.text.size ≤ 20000 ∧ 0 ≤ F.kept ∧ F.kept ≤ F.text.size := by
  simp only [diskOkD, Bool.and_eq_true, decide_eq_true_eq] at h
  exact ⟨h.1, fun F hF => ok_file (okFrom_mem fs none h.2 F hF)⟩
end Go.Proofs.YtmmchemgegmhhaaGreatDoor
namespace Go.Proofs.YtmmchemgegmhhaaGreatDoor
open Go.RowKit Go.Maps
def kl (s : ByteArray) : Lit := .string s.data.toList
theorem kl_inj {a b : ByteArray} (h : kl a = kl b) : a = b := by
  unfold kl at h
  cases a; cases b
  simp at h
  simp [h]
theorem kl_ne {a b : ByteArray} (h : a ≠ b) : kl a ≠ kl b := fun e => h (kl_inj e)
theorem kl_key (s : ByteArray) : WideAt.IsKeyLit (kl s) := by
  unfold kl
  exact trivial
theorem toList_ne {a b : ByteArray} : (a.toList == b.toList) = false ↔ a ≠ b := by
  rw [beq_eq_false_iff_ne]
  constructor
  · intro h e; exact h (by rw [e])
  · intro h e; exact h (by rw [Lib.toList_data, Lib.toList_data] at e; cases a; cases b; simp at e; simp [e])
theorem less_trans {a b c : List UInt8} (h1 : Op.bytesLess a b = true) (h2 : Op.bytesLess b c = true) : Op.bytesLess a c = true := by
  rw [Go.Proofs.bytesLess_eq, decide_eq_true_eq] at *
  exact List.lt_trans h1 h2
theorem less_irrefl (a : List UInt8) : Op.bytesLess a a = false := by
  rw [Go.Proofs.bytesLess_eq, decide_eq_false_iff_not]
  exact List.lt_irrefl a
theorem less_total {a b : List UInt8} (h1 : Op.bytesLess a b = false) (h2 : a ≠ b) : Op.bytesLess b a = true := by
  rw [Go.Proofs.bytesLess_eq] at *
  rw [decide_eq_true_eq]
  rw [decide_eq_false_iff_not] at h1
  exact Decidable.byContradiction fun h => h2 (List.le_antisymm (List.not_lt.1 h) (List.not_lt.1 h1))
end Go.Proofs.YtmmchemgegmhhaaGreatDoor
namespace Go.Proofs.YtmmchemgegmhhaaGreatDoor
open Go.RowKit
def lessF (nm : ByteArray) (F : FileD) : Bool := Op.bytesLess F.name.toList nm.toList
def moreF (nm : ByteArray) (F : FileD) : Bool := !(Op.bytesLess F.name.toList nm.toList || F.name.toList == nm.toList)
def otherF (nm : ByteArray) (F : FileD) : Bool := !(F.name.toList == nm.toList)
def putD (fs : List FileD) (F : FileD) : List FileD := fs.filter (lessF F.name) ++ [F] ++ fs.filter (moreF F.name)
def withoutD (fs : List FileD) (nm : ByteArray) : List FileD := fs.filter (otherF nm)
def srt (fs : List FileD) : Prop := fs.Pairwise (fun a b => Op.bytesLess a.name.toList b.name.toList = true)
theorem okFrom_some : ∀ (fs : List FileD) (p : ByteArray), okFrom (some p) fs = true ↔ ((∀ F ∈ fs, fileOkD F = true) ∧ (∀ F ∈ fs, Op.bytesLess p.toList F.name.toList = true) ∧ srt fs)
  | [], p => by simp [okFrom, srt]
  | F :: r, p => by
    simp only [okFrom, Bool.and_eq_true, okFrom_some r F.name, srt, List.pairwise_cons, List.mem_cons, forall_eq_or_imp]
    constructor
    · rintro ⟨h1, h2, h3, h4, h5⟩
      exact ⟨⟨h1, h3⟩, ⟨h2, fun G hG => less_trans h2 (h4 G hG)⟩, h4, h5⟩
    · rintro ⟨⟨h1, h3⟩, ⟨h2, _⟩, h4, h5⟩
      exact ⟨h1, h2, h3, h4, h5⟩
theorem okFrom_none (fs : List FileD) : okFrom none fs = true ↔ ((∀ F ∈ fs, fileOkD F = true) ∧ srt fs) := by
  cases fs with
  | nil => simp [okFrom, srt]
  | cons F r =>
    simp only [okFrom, Bool.and_eq_true, okFrom_some r F.name, srt, List.pairwise_cons, List.mem_cons, forall_eq_or_imp]
    constructor
    · rintro ⟨h1, h3, h4, h5⟩
      exact ⟨⟨h1, h3⟩, h4, h5⟩
    · rintro ⟨⟨h1, h3⟩, h4, h5⟩
      exact ⟨h1, h3, h4, h5⟩
theorem disk_iff (fs : List FileD) : diskOkD fs = true ↔ (fs.length ≤ 30 ∧ (∀ F ∈ fs, fileOkD F = true) ∧ srt fs) := by
  rw [diskOkD, Bool.and_eq_true, decide_eq_true_eq, okFrom_none]
theorem mem_putD {fs : List FileD} {F G : FileD} : G ∈ putD fs F ↔ (G ∈ fs ∧ lessF F.name G = true) ∨ G = F ∨ (G ∈ fs ∧ moreF F.name G = true) := by
  simp [putD]
theorem srt_putD {fs : List FileD} (F : FileD) (h : srt fs) : srt (putD fs F) := by
  unfold putD srt
  rw [List.pairwise_append, List.pairwise_append]
  refine ⟨⟨List.Pairwise.filter _ h, by simp, ?_⟩, List.Pairwise.filter _ h, ?_⟩
  · intro a ha b hb
    rw [List.mem_singleton] at hb
    subst hb
    exact (List.mem_filter.1 ha).2
  · intro a ha b hb
    have hb2 := (List.mem_filter.1 hb).2
    simp only [moreF, Bool.not_eq_true', Bool.or_eq_false_iff, beq_eq_false_iff_ne] at hb2
    have hFb : Op.bytesLess F.name.toList b.name.toList = true := less_total hb2.1 hb2.2
    rcases List.mem_append.1 ha with ha | ha
    · exact less_trans (List.mem_filter.1 ha).2 hFb
    · rw [List.mem_singleton] at ha
      subst ha
      exact hFb
theorem srt_without {fs : List FileD} (nm : ByteArray) (h : srt fs) : srt (withoutD fs nm) := List.Pairwise.filter _ h
theorem len_putD_le (fs : List FileD) (F : FileD) : (putD fs F).length ≤ fs.length + 1 := by
  have key : ∀ l : List FileD, (l.filter (lessF F.name)).length + (l.filter (moreF F.name)).length ≤ l.length := by
    intro l
    induction l with
    | nil => simp
    | cons G r ih =>
      simp only [List.filter_cons]
      by_cases h1 : lessF F.name G = true
      · have h2 : moreF F.name G = false := by simp only [lessF] at h1; simp [moreF, h1]
        simp [h1, h2]; omega
      · by_cases h2 : moreF F.name G = true
        · simp [h1, h2]; omega
        · simp [h1, h2]; omega
  have := key fs
  simp only [putD, List.length_append, List.length_singleton]
  omega
structure ActD where
  kind : Int
  name : ByteArray
  text : ByteArray
  toN : ByteArray
def actF (fs : List FileD) (A : ActD) : FileD := (fileD fs A.name).getD ⟨A.name, ⟨#[]⟩, 0⟩
def rawD (fs : List FileD) (A : ActD) : Option (List FileD) :=
  if A.kind = 1 then some (putD fs ⟨(actF fs A).name, (actF fs A).text ++ A.text, (actF fs A).kept⟩)
  else if (fileD fs A.name).isSome = false then none
  else if A.kind = 2 then some (putD fs ⟨(actF fs A).name, (actF fs A).text, (actF fs A).text.size⟩)
  else if A.kind = 3 then (if (decide ((actF fs A).kept < ((actF fs A).text.size : Int)) || (A.toN.toList == A.name.toList) || !nameOkD A.toN) = true then none else some (putD (withoutD fs A.name) ⟨A.toN, (actF fs A).text, (actF fs A).kept⟩))
  else if A.kind = 4 then some (withoutD fs A.name)
  else none
def actOk (fs : List FileD) (A : ActD) : Bool := diskOkD fs && (nameOkD A.name && (!(!(A.kind == 3) && !A.toN.toList.isEmpty) && !(!(A.kind == 1) && !A.text.toList.isEmpty)))
def actD (fs : List FileD) (A : ActD) : Option (List FileD) := if actOk fs A = true then (rawD fs A).bind (fun g => if diskOkD g = true then some g else none) else none
theorem actD_no {fs : List FileD} {A : ActD} (h : actOk fs A = false) : actD fs A = none := by rw [actD, if_neg (by rw [h]; decide)]
theorem actD_raw {fs : List FileD} {A : ActD} (h : actOk fs A = true) (hr : rawD fs A = none) : actD fs A = none := by rw [actD, if_pos h, hr]; rfl
theorem actD_bad {fs g : List FileD} {A : ActD} (h : actOk fs A = true) (hr : rawD fs A = some g) (hg : diskOkD g = false) : actD fs A = none := by
  rw [actD, if_pos h, hr]
  show (if diskOkD g = true then some g else none) = none
  rw [if_neg (by rw [hg]; decide)]
theorem actD_yes {fs g : List FileD} {A : ActD} (h : actOk fs A = true) (hr : rawD fs A = some g) (hg : diskOkD g = true) : actD fs A = some g := by
  rw [actD, if_pos h, hr]
  show (if diskOkD g = true then some g else none) = some g
  rw [if_pos hg]
def actsF : List FileD → List ActD → List FileD × Nat
  | fs, [] => (fs, 0)
  | fs, A :: r => match actD fs A with
    | none => (fs, 0)
    | some g => ((actsF g r).1, (actsF g r).2 + 1)
theorem actsF_no {fs : List FileD} {qs : List ActD} {k : Nat} (h : k < qs.length) (hA : actD fs qs[k] = none) : actsF fs (qs.drop k) = (fs, 0) := by
  rw [List.drop_eq_getElem_cons h, actsF, hA]
theorem actsF_yes {fs g : List FileD} {qs : List ActD} {k : Nat} (h : k < qs.length) (hA : actD fs qs[k] = some g) : actsF fs (qs.drop k) = ((actsF g (qs.drop (k + 1))).1, (actsF g (qs.drop (k + 1))).2 + 1) := by
  rw [List.drop_eq_getElem_cons h, actsF, hA]
theorem actsF_end {fs : List FileD} {qs : List ActD} {k : Nat} (h : qs.length ≤ k) : actsF fs (qs.drop k) = (fs, 0) := by
  rw [List.drop_eq_nil_of_le h, actsF]
theorem actD_ok {fs g : List FileD} {A : ActD} (h : actD fs A = some g) : diskOkD g = true := by
  unfold actD at h
  split at h
  · cases hr : rawD fs A with
    | none => rw [hr] at h; cases h
    | some x =>
      rw [hr] at h
      have h2 : (if diskOkD x = true then some x else none) = some g := h
      split at h2
      · cases h2; assumption
      · cases h2
  · cases h
def ActsAt (w : World) (ao : Option Addr) (qs : List ActD) : Prop := ∀ j (h : j < qs.length), ∃ b off : Nat, ao = some ⟨b, off, none⟩ ∧ b < w.heap.size ∧
  w.cell? ⟨b, off + j * 4, none⟩ = some (.int .i64 qs[j].kind) ∧ w.cell? ⟨b, off + j * 4 + 1, none⟩ = some (.string qs[j].name) ∧ w.cell? ⟨b, off + j * 4 + 2, none⟩ = some (.string qs[j].text) ∧ w.cell? ⟨b, off + j * 4 + 3, none⟩ = some (.string qs[j].toN)
theorem actsAt_keep {w w' : World} {ao : Option Addr} {qs : List ActD} (h : ActsAt w ao qs) (hb : Below w.heap.size w w') : ActsAt w' ao qs := by
  intro j hj
  obtain ⟨b, off, h1, h2, h3, h4, h5, h6⟩ := h j hj
  exact ⟨b, off, h1, Nat.lt_of_lt_of_le h2 hb.size, (hb.cell (p := ⟨b, off + j * 4, none⟩) h2).trans h3, (hb.cell (p := ⟨b, off + j * 4 + 1, none⟩) h2).trans h4, (hb.cell (p := ⟨b, off + j * 4 + 2, none⟩) h2).trans h5, (hb.cell (p := ⟨b, off + j * 4 + 3, none⟩) h2).trans h6⟩
end Go.Proofs.YtmmchemgegmhhaaGreatDoor
