import Derived.Test.YtmmchemgegmhhaaGreatDoorFo6
import Derived.Test.YtmmchemgegmhhaaGreatDoorFo1
import Derived.Test.YtmmchemgegmhhaaGreatDoorFo5
import Derived.Test.YtmmchemgegmhhaaGreatDoorFo0
set_option maxRecDepth 100000
set_option maxHeartbeats 800000
namespace Go.Proofs.YtmmchemgegmhhaaGreatDoor
open Go.RowKit
theorem diskOk_any (fs : List FileD) (ao : Option Addr) (cap : Nat) (w : World) (hl : fs.length ≤ 1048576) (hfs : FilesAt w ao fs) (hsz : ∀ F ∈ fs, F.name.size ≤ maxLen ∧ F.text.size ≤ maxLen) :
    Calls Tryz.prog 158 #[.agg #[.slice ao fs.length cap]] w fun e w' => e = .returned (.bool (diskOkD fs)) ∧ Below w.heap.size w w' := by
  have HF := hide hfs
  have HS := hide hsz
  clear hfs hsz
  obtain ⟨R, HR⟩ : ∃ R, Hid (diskOkD fs = R) := ⟨_, hide rfl⟩
  rw [HR.out]
  by_cases h30 : (30 : Int) < (fs.length : Int)
  · have h30' : decide ((30 : Int) < (fs.length : Int)) = true := by simp; omega
    have hR : R = false := by rw [← HR.out, diskOkD, show decide (fs.length ≤ 30) = false from by simp; omega]; rfl
    subst hR
    go_enter Tryz.func158, Tryz.ntmps158
    go_wp2
    go_ret
    exact ⟨rfl, (Below.refl _ w).alloc (Nat.le_refl _) _⟩
  · have h30' : decide ((30 : Int) < (fs.length : Int)) = false := by simp; omega
    have HR0 : Hid (okFrom (prevOf fs 0) (fs.drop 0) = R) := by show _ = _; rw [← HR.out, diskOkD, show decide (fs.length ≤ 30) = true from by simp; omega]; rfl
    go_enter Tryz.func158, Tryz.ntmps158
    go_wp2
    go_loopw [12] (fun ii wr => ∃ (k : Nat), ii = .int .i64 k ∧ k ≤ fs.length ∧ Hid (okFrom (prevOf fs k) (fs.drop k) = R) ∧ Hid (Below (w.heap.size + 1) (w.alloc (.cells #[.slice ao fs.length cap] 27)) wr)) (fun ii _ => fs.length - (intOf ii).toNat)
    case atStart => exact ⟨0, rfl, Nat.zero_le _, HR0, Below.refl _ _⟩
    case round =>
      obtain ⟨k, rfl, hk, HK, HB⟩ := hrel
      have HB0 : Hid (Below w.heap.size w wr) := ((Below.refl _ w).alloc (Nat.le_refl _) _).trans (HB.out.mono (by omega))
      by_cases hlt : k < fs.length
      · have hlt' : decide ((k : Int) < (fs.length : Int)) = true := by simp; omega
        have hsw : w.heap.size + 1 ≤ wr.heap.size := by have := HB.out.size; simpa using this
        obtain ⟨b, off, rfl, hbw, hc0, hc1, hc2⟩ := filesAt_keep HF.out HB0.out k hlt
        have hbox : wr.cell? ⟨w.heap.size, 0, none⟩ = some (.slice (some ⟨b, off, none⟩) fs.length cap) := (HB.out.cell (p := ⟨w.heap.size, 0, none⟩) (by simp)).trans (by rw [cell_of_row _ _ _ _ _ (0, 0) (heap_alloc_new w _)]; rfl)
        obtain ⟨hs1, hs2⟩ := HS.out fs[k] (List.getElem_mem hlt)
        obtain ⟨F, HFk⟩ : ∃ F, Hid (fs[k] = F) := ⟨fs[k], hide rfl⟩
        rw [HFk.out] at hc0 hc1 hc2 hs1 hs2
        have hi0 : (0 : Int) ≤ (k : Int) := by omega
        have hi1 : (k : Int) < (fs.length : Int) := by omega
        go_wp2_with fail
        refine (fileOk_any F _ hs1 hs2).mono ?_
        rintro e w1 ⟨rfl, b1⟩
        have b2 : Below wr.heap.size wr w1 := ((Below.refl _ wr).alloc (Nat.le_refl _) _).trans (b1.mono (by simp))
        have hbox1 : w1.cell? ⟨w.heap.size, 0, none⟩ = some (.slice (some ⟨b, off, none⟩) fs.length cap) := (b2.cell (p := ⟨w.heap.size, 0, none⟩) (by show w.heap.size < _; omega)).trans hbox
        have hfile1 : w1.heap[wr.heap.size]? = some (.cells #[.string F.name, .string F.text, .int .i64 F.kept] 74 (0, 0)) := (b1.block _ (by simp)).trans (heap_alloc_new wr _)
        have hg0 : w1.cell? ⟨wr.heap.size, 0, none⟩ = some (.string F.name) := (cell_of_row w1 wr.heap.size 0 _ _ (0, 0) hfile1).trans rfl
        have HB1 : Hid (Below (w.heap.size + 1) (w.alloc (.cells #[.slice (some ⟨b, off, none⟩) fs.length cap] 27)) w1) := HB.out.trans (b2.mono hsw)
        have HB2 : Hid (Below w.heap.size w w1) := HB0.out.trans (b2.mono (by omega))
        clear b1 hfile1 hbox hc0 hc1 hc2
        cases hok : fileOkD F
        · have hR : Hid (R = false) := by show _ = _; rw [← HK.out, okFrom_bad hlt (by rw [HFk.out]; exact hok)]
          go_wp2
          go_ret
          rw [hR.out]
          exact ⟨rfl, HB2.out⟩
        · cases hk0 : decide (0 < k)
          · have hkz : k = 0 := by simpa using hk0
            have HK1 : Hid (okFrom (prevOf fs (k + 1)) (fs.drop (k + 1)) = R) := by show _ = _; rw [← HK.out]; subst hkz; exact (okFrom_first hlt (by rw [HFk.out]; exact hok)).symm
            clear hkz
            go_wp2_with fail
            go_quiet (fail)
            go_wp2
            go_roundw
            case rel => exact ⟨k + 1, by go_num, by omega, HK1, below_drewN HB1.out _⟩
            case measure => simp [intOf]; omega
          · have hkp : 0 < k := by simpa using hk0
            obtain ⟨b', off', hbe, hbw', hd0, hd1, hd2⟩ := filesAt_keep HF.out HB2.out (k - 1) (by omega)
            obtain ⟨rfl, rfl⟩ : b = b' ∧ off = off' := by simpa using hbe
            obtain ⟨F', HFk'⟩ : ∃ F', Hid (fs[k - 1] = F') := ⟨fs[k - 1], hide rfl⟩
            rw [HFk'.out] at hd0
            clear hd1 hd2 hbe
            have HD := hide (okFrom_more hlt hkp (by rw [HFk.out]; exact hok))
            have hw : IntKind.i64.wrap ((k : Int) - 1) = ((k - 1 : Nat) : Int) := by rw [IntKind.wrap_i64]; omega
            have hj0 : (0 : Int) ≤ ((k - 1 : Nat) : Int) := by omega
            have hj1 : ((k - 1 : Nat) : Int) < (fs.length : Int) := by omega
            go_wp2_with fail
            go_quiet (fail)
            cases hless : Op.bytesLess F'.name.toList F.name.toList
            · have hR : Hid (R = false) := by show _ = _; rw [← HK.out, HD.out, HFk.out, HFk'.out, hless]; rfl
              go_wp2
              go_ret
              rw [hR.out]
              exact ⟨rfl, below_drewN HB2.out _⟩
            · have HK1 : Hid (okFrom (prevOf fs (k + 1)) (fs.drop (k + 1)) = R) := by show _ = _; rw [← HK.out, HD.out, HFk.out, HFk'.out, hless, Bool.true_and]
              go_wp2
              go_roundw
              case rel => exact ⟨k + 1, by go_num, by omega, HK1, below_drewN HB1.out _⟩
              case measure => simp [intOf]; omega
      · have hlt' : decide ((k : Int) < (fs.length : Int)) = false := by simp; omega
        have hR : Hid (R = true) := by show _ = _; rw [← HK.out, okFrom_end (by omega)]
        go_wp2
        go_ret
        rw [hR.out]
        exact ⟨rfl, HB0.out⟩
def keptD (fs : List FileD) : Bool := fs.all (fun F => !decide (F.kept < (F.text.size : Int)))
def allKeptD (fs : List FileD) : Bool := diskOkD fs && keptD fs
theorem kept_bad {fs : List FileD} {k : Nat} (h : k < fs.length) (hF : decide (fs[k].kept < (fs[k].text.size : Int)) = true) : keptD (fs.drop k) = false := by
  rw [List.drop_eq_getElem_cons h, keptD, List.all_cons, hF]; rfl
theorem kept_more {fs : List FileD} {k : Nat} (h : k < fs.length) (hF : decide (fs[k].kept < (fs[k].text.size : Int)) = false) : keptD (fs.drop k) = keptD (fs.drop (k + 1)) := by
  rw [List.drop_eq_getElem_cons h, keptD, List.all_cons, hF]; rfl
theorem kept_end {fs : List FileD} {k : Nat} (h : fs.length ≤ k) : keptD (fs.drop k) = true := by
  rw [List.drop_eq_nil_of_le h]; rfl
def fileD (fs : List FileD) (name : ByteArray) : Option FileD := fs.find? (fun F => F.name.toList == name.toList)
theorem fileD_hit {fs : List FileD} {name : ByteArray} {k : Nat} (h : k < fs.length) (hF : (fs[k].name.toList == name.toList) = true) : fileD (fs.drop k) name = some fs[k] := by
  rw [List.drop_eq_getElem_cons h, fileD, List.find?_cons, hF]
theorem fileD_miss {fs : List FileD} {name : ByteArray} {k : Nat} (h : k < fs.length) (hF : (fs[k].name.toList == name.toList) = false) : fileD (fs.drop k) name = fileD (fs.drop (k + 1)) name := by
  rw [List.drop_eq_getElem_cons h, fileD, List.find?_cons, hF]; rfl
theorem fileD_end {fs : List FileD} {name : ByteArray} {k : Nat} (h : fs.length ≤ k) : fileD (fs.drop k) name = none := by
  rw [List.drop_eq_nil_of_le h]; rfl
theorem small_max {n : Nat} (h : n ≤ 1048576) : n ≤ maxLen := by unfold maxLen; omega
structure SegD where
  num : Nat
  frm : Nat
  bs : List BatchD
  fin : Nat
  right : Bool
  torn : Bool
def SegD.pls (s : SegD) : List Nat := plsB (frameB ⟨(headL s.num s.frm).toArray⟩).size s.bs
theorem SegD.pls_len (s : SegD) : s.pls.length = s.bs.length := plsB_len _ _
def segTorn (n : Int) (s : ByteArray) : Bool := segOk n s && decide (segEnd n s < s.size)
def segOfFile (n : Nat) (F : FileD) : SegD := ⟨n, segFrom n F.text, segBatches n F.text, segEnd n F.text, segOk n F.text, segTorn n F.text⟩
theorem segOfFile_pls (n : Nat) (F : FileD) : (segOfFile n F).pls = segPls n F.text := rfl
def segD (fs : List FileD) (n : Nat) : Option SegD := (fileD fs (segNm n)).map (segOfFile n)
def segsTo (fs : List FileD) : Nat → List SegD
  | 0 => []
  | k + 1 => segsTo fs k ++ (segD fs k).toList
theorem segsTo_none {fs : List FileD} {k : Nat} (h : fileD fs (segNm k) = none) : segsTo fs (k + 1) = segsTo fs k := by
  show segsTo fs k ++ (segD fs k).toList = _
  unfold segD
  rw [h]
  exact List.append_nil _
theorem segsTo_some {fs : List FileD} {k : Nat} {F : FileD} (h : fileD fs (segNm k) = some F) : segsTo fs (k + 1) = segsTo fs k ++ [segOfFile k F] := by
  show segsTo fs k ++ (segD fs k).toList = _
  unfold segD
  rw [h]
  rfl
theorem segsTo_len (fs : List FileD) : ∀ k, (segsTo fs k).length ≤ k
  | 0 => Nat.le_refl _
  | k + 1 => by
    have := segsTo_len fs k
    cases h : fileD fs (segNm k) with
    | none => rw [segsTo_none h]; omega
    | some F => rw [segsTo_some h, List.length_append, List.length_singleton]; omega
theorem segFrom_le (n : Nat) (s : ByteArray) : segFrom n s ≤ 99 := by
  cases hr : segRead n s with
  | none => rw [(seg_none hr).1]; omega
  | some q =>
    obtain ⟨f, bs, e⟩ := q
    rw [(seg_some hr).1]
    cases hu : unf s with
    | nil => rw [segRead_nil hu] at hr; simp at hr
    | cons x r =>
      cases hh : hdFrom n (s.extract x.1 x.2) with
      | none => rw [segRead_head hu hh] at hr; simp at hr
      | some f' =>
        have := hdFrom_le hh
        rw [segRead_some hu hh] at hr
        simp only [Option.some.injEq, Prod.mk.injEq] at hr
        omega
theorem segsTo_mem {fs : List FileD} : ∀ {k : Nat} {s : SegD}, s ∈ segsTo fs k → s.num < k ∧ s.frm ≤ 99 ∧ ∃ F ∈ fs, s = segOfFile s.num F ∧ fileD fs (segNm s.num) = some F
  | 0, _, h => absurd h List.not_mem_nil
  | k + 1, s, h => by
    cases hf : fileD fs (segNm k) with
    | none =>
      rw [segsTo_none hf] at h
      have := segsTo_mem h
      exact ⟨by omega, this.2⟩
    | some F =>
      rw [segsTo_some hf] at h
      rcases List.mem_append.1 h with h | h
      · have := segsTo_mem h
        exact ⟨by omega, this.2⟩
      · obtain rfl : s = segOfFile k F := by simpa using h
        exact ⟨Nat.lt_succ_self _, segFrom_le _ _, F, List.mem_of_find?_eq_some hf, rfl, hf⟩
def topFrom (l : List SegD) : Nat := l.foldl (fun m s => max m s.frm) 0
theorem topFrom_snoc (l : List SegD) (s : SegD) : topFrom (l ++ [s]) = max (topFrom l) s.frm := by simp [topFrom]
theorem topFrom_le (l : List SegD) (m : Nat) (h : ∀ s ∈ l, s.frm ≤ m) : topFrom l ≤ m := by
  unfold topFrom
  suffices H : ∀ (l : List SegD) (k : Nat), k ≤ m → (∀ s ∈ l, s.frm ≤ m) → l.foldl (fun m s => max m s.frm) k ≤ m from H l 0 (Nat.zero_le _) h
  intro l
  induction l with
  | nil => intro k hk _; exact hk
  | cons a r ih =>
    intro k hk hl
    exact ih _ (by have := hl a (List.mem_cons_self ..); show max k a.frm ≤ m; omega) (fun s hs => hl s (List.mem_cons_of_mem _ hs))
def counting (m : Nat) (l : List SegD) : List SegD := l.filter (fun s => decide (m ≤ s.num))
theorem counting_snoc_in {m : Nat} {l : List SegD} {s : SegD} (h : m ≤ s.num) : counting m (l ++ [s]) = counting m l ++ [s] := by simp [counting, h]
theorem counting_snoc_out {m : Nat} {l : List SegD} {s : SegD} (h : s.num < m) : counting m (l ++ [s]) = counting m l := by simp [counting, h]
theorem counting_len (m : Nat) (l : List SegD) : (counting m l).length ≤ l.length := List.length_filter_le _ _
def allRight (l : List SegD) : Bool := l.all SegD.right
theorem allRight_snoc (l : List SegD) (s : SegD) : allRight (l ++ [s]) = (allRight l && s.right) := by simp [allRight]
theorem allRight_app (l r : List SegD) : allRight (l ++ r) = (allRight l && allRight r) := by simp [allRight]
theorem counting_app (m : Nat) (l r : List SegD) : counting m (l ++ r) = counting m l ++ counting m r := by simp [counting]
def segsC (fs : List FileD) : List SegD := counting (topFrom (segsTo fs 100)) (segsTo fs 100)
def segsOk (fs : List FileD) : Bool := diskOkD fs && (allRight (segsC fs) && decide (0 < (segsC fs).length))
def segsL (fs : List FileD) : List SegD := if segsOk fs then segsC fs else []
theorem segsOk_disk {fs : List FileD} (h : diskOkD fs = false) : segsOk fs = false ∧ segsL fs = [] := by
  have : segsOk fs = false := by unfold segsOk; rw [h]; rfl
  exact ⟨this, by unfold segsL; rw [this]; rfl⟩
theorem segsOk_wrong {fs : List FileD} (h : allRight (segsC fs) = false) : segsOk fs = false ∧ segsL fs = [] := by
  have : segsOk fs = false := by unfold segsOk; rw [h]; simp
  exact ⟨this, by unfold segsL; rw [this]; rfl⟩
theorem segsOk_rest {fs : List FileD} (hd : diskOkD fs = true) (h : allRight (segsC fs) = true) : segsOk fs = decide (0 < (segsC fs).length) ∧ segsL fs = segsC fs := by
  have h1 : segsOk fs = decide (0 < (segsC fs).length) := by unfold segsOk; rw [hd, h]; simp
  refine ⟨h1, ?_⟩
  unfold segsL
  rw [h1]
  by_cases he : 0 < (segsC fs).length
  · rw [decide_eq_true he]; rfl
  · rw [decide_eq_false he, show segsC fs = [] from List.eq_nil_of_length_eq_zero (by omega)]; rfl
theorem segsC_len (fs : List FileD) : (segsC fs).length ≤ 100 := Nat.le_trans (counting_len _ _) (segsTo_len fs 100)
theorem segsL_len (fs : List FileD) : (segsL fs).length ≤ 100 := by
  unfold segsL
  split
  · exact segsC_len fs
  · exact Nat.zero_le _
theorem segsL_mem {fs : List FileD} {s : SegD} (h : s ∈ segsL fs) : s ∈ segsTo fs 100 := by
  unfold segsL at h
  split at h
  · exact (List.mem_filter.1 h).1
  · exact absurd h List.not_mem_nil
def riseI : Int → List Int → Bool
  | _, [] => true
  | last, q :: r => decide (last < q) && riseI q r
def seqsOf (l : List SegD) : List Int := l.flatMap fun s => s.bs.map BatchD.seq
theorem seqsOf_cons (s : SegD) (l : List SegD) : seqsOf (s :: l) = s.bs.map BatchD.seq ++ seqsOf l := by simp [seqsOf]
def seqsRise (fs : List FileD) : Bool := segsOk fs && riseI (-1) (seqsOf (segsL fs))
theorem Tryz.info3 : (Tryz.prog.info? 3).map (fun i => (i.zero, i.size, i.bytes)) = some (some (.int .i64 0), 1, 8) := by kernel_rfl
def iv (n : Nat) : Value := .int .i64 (n : Int)
theorem Tryz.infoSeg : (Tryz.prog.info? 161).map (fun i => (i.zero, i.size, i.bytes)) = some (some (.agg #[.int .i64 0, .int .i64 0, .slice none 0 0, .slice none 0 0, .int .i64 0, .bool false, .bool false]), 7, 80) := by kernel_rfl
theorem rowBatch_far {w w' : World} {B : Nat} {v : Value} {bs : List BatchD} {r : Option Nat} (h : RowBatch w B v bs) (hg : w.grownBy w' r) (hr : ∀ g, r = some g → ∃ C t, w.heap[g]? = some (.cells C t (0, 0)) ∧ t ≠ 96 ∧ t ≠ 144) : RowBatch w' B v bs := by
  rcases h with h | ⟨g, cap, C, rfl, hB, hC, hs, hI⟩
  · exact .inl h
  · refine .inr ⟨g, cap, C, rfl, hB, (hg.block g (Array.getElem?_eq_some_iff.1 hC).1 (fun e => ?_)).trans hC, hs, fun j hj => ?_, hI.2⟩
    · obtain ⟨C', t, h1, h2, h3⟩ := hr g e.symm
      rw [hC] at h1
      cases h1
      exact h2 rfl
    · obtain ⟨k1, x, k2, k3, k4⟩ := hI.1 j hj
      refine ⟨k1, x, k2, rowChange_grown k3 hg (fun k hk e => ?_), k4⟩
      obtain ⟨C1, h0⟩ := change_block k3 hk
      obtain ⟨C', t, h1, h2, h3⟩ := hr k e.symm
      rw [h0] at h1
      cases h1
      exact h3 rfl
def RowNat (w : World) (B : Nat) (v : Value) (l : List Nat) : Prop := w.ownsRow B 3 1 v l.length (l.map iv)
theorem rowNat_below {w w' : World} {B : Nat} {v : Value} {l : List Nat} (h : RowNat w B v l) (hb : Below w.heap.size w w') : RowNat w' B v l := ownsRow_below h hb
theorem rowNat_le {w : World} {B B' : Nat} {v : Value} {l : List Nat} (h : RowNat w B v l) (hB : B' ≤ B) : RowNat w B' v l := ownsRow_mono h hB
theorem rowNat_nil (w : World) (B : Nat) : RowNat w B (.slice none 0 0) [] := World.ownsRow_nil _ _ _ _
theorem rowNat_form {w : World} {B : Nat} {v : Value} {l : List Nat} (h : RowNat w B v l) : ∃ ao cap, v = .slice ao l.length cap := slice_form h
theorem rowNat_far {w w' : World} {B : Nat} {v : Value} {l : List Nat} {r : Option Nat} (h : RowNat w B v l) (hg : w.grownBy w' r) (hr : ∀ g, r = some g → ∃ C t, w.heap[g]? = some (.cells C t (0, 0)) ∧ t ≠ 3) : RowNat w' B v l := by
  refine World.ownsRow.kept h hg ?_
  cases hv : v.ownBlock with
  | none => exact .inl rfl
  | some g =>
    refine .inr (fun e => ?_)
    obtain ⟨C, hC⟩ := owns_block h hv
    obtain ⟨C', t, h1, h2⟩ := hr g e.symm
    rw [hC] at h1
    cases h1
    exact h2 rfl
theorem rowNat_at {w : World} {B n cap : Nat} {ao : Option Addr} {l : List Nat} (h : RowNat w B (.slice ao n cap) l) (j : Nat) (hj : j < l.length) : ∃ g, ao = some ⟨g, 0, none⟩ ∧ g < w.heap.size ∧ w.cell? ⟨g, j, none⟩ = some (.int .i64 (l[j] : Int)) := by
  rcases h.2 with ⟨_, hn⟩ | ⟨g, cap', cur, hv, hB, hC, hle, _, hs, ht⟩
  · omega
  · cases hv
    refine ⟨g, rfl, (Array.getElem?_eq_some_iff.1 hC).1, ?_⟩
    exact (cell_of_row w g j _ _ (0, 0) hC).trans (take_getChange ht (by omega) (by simp [iv, hj]))
def cellsSeg : List SegD → List Value → List Value → List Value
  | s :: r, x :: y, p :: q => .int .i64 (s.num : Int) :: .int .i64 (s.frm : Int) :: x :: p :: .int .i64 (s.fin : Int) :: .bool s.right :: .bool s.torn :: cellsSeg r y q
  | _, _, _ => []
theorem cellsSeg_append : ∀ (a : List SegD) (y q : List Value) (s : SegD) (x p : Value), y.length = a.length → q.length = a.length → cellsSeg (a ++ [s]) (y ++ [x]) (q ++ [p]) = cellsSeg a y q ++ [.int .i64 (s.num : Int), .int .i64 (s.frm : Int), x, p, .int .i64 (s.fin : Int), .bool s.right, .bool s.torn]
  | [], [], [], _, _, _, _, _ => rfl
  | [], _ :: _, _, _, _, _, h, _ => absurd h (by simp)
  | [], [], _ :: _, _, _, _, _, h => absurd h (by simp)
  | _ :: _, [], _, _, _, _, h, _ => absurd h (by simp)
  | _ :: _, _ :: _, [], _, _, _, _, h => absurd h (by simp)
  | A :: r, z :: y, u :: q, s, x, p, h, h' => by simp only [List.cons_append, cellsSeg]; rw [cellsSeg_append r y q s x p (by simpa using h) (by simpa using h')]
theorem cellsSeg_get : ∀ (a : List SegD) (y q : List Value) (j : Nat) (s : SegD) (x p : Value), a[j]? = some s → y[j]? = some x → q[j]? = some p → (cellsSeg a y q)[j * 7]? = some (.int .i64 (s.num : Int)) ∧ (cellsSeg a y q)[j * 7 + 1]? = some (.int .i64 (s.frm : Int)) ∧ (cellsSeg a y q)[j * 7 + 2]? = some x ∧
    (cellsSeg a y q)[j * 7 + 3]? = some p ∧ (cellsSeg a y q)[j * 7 + 4]? = some (.int .i64 (s.fin : Int)) ∧ (cellsSeg a y q)[j * 7 + 5]? = some (.bool s.right) ∧ (cellsSeg a y q)[j * 7 + 6]? = some (.bool s.torn)
  | [], _, _, _, _, _, _, h, _, _ => absurd h (by simp)
  | _ :: _, [], _, _, _, _, _, _, h, _ => absurd h (by simp)
  | _ :: _, _ :: _, [], _, _, _, _, _, _, h => absurd h (by simp)
  | A :: r, z :: y, u :: q, 0, s, x, p, h, h', h2 => by simp at h h' h2; subst h h' h2; simp [cellsSeg]
  | A :: r, z :: y, u :: q, j + 1, s, x, p, h, h', h2 => by
    have := cellsSeg_get r y q j s x p (by simpa using h) (by simpa using h') (by simpa using h2)
    have e : (j + 1) * 7 = j * 7 + 7 := by omega
    simp only [cellsSeg, e]
    simpa using this
def BuildG (w : World) (B K : Nat) (v : Value) (l : List SegD) : Prop :=
  ∃ vs ps : List Value, vs.length = l.length ∧ ps.length = l.length ∧ w.ownsRow B 161 7 v l.length (cellsSeg l vs ps) ∧ (∀ (j : Nat) (x : Value) (s : SegD), vs[j]? = some x → l[j]? = some s → RowBatch w K x s.bs) ∧
    (∀ (j : Nat) (x : Value) (s : SegD), ps[j]? = some x → l[j]? = some s → RowNat w K x s.pls)
theorem buildG_nil (w : World) (B K : Nat) : BuildG w B K (.slice none 0 0) [] := ⟨[], [], rfl, rfl, World.ownsRow_nil _ _ _ _, fun j x b h => by simp at h, fun j x b h => by simp at h⟩
theorem buildG_below {w w' : World} {B K : Nat} {v : Value} {l : List SegD} (h : BuildG w B K v l) (hb : Below w.heap.size w w') : BuildG w' B K v l := by
  obtain ⟨vs, ps, h0, h1, h2, h3, h4⟩ := h
  exact ⟨vs, ps, h0, h1, ownsRow_below h2 hb, fun j x b hx hj => rowBatch_below (h3 j x b hx hj) hb, fun j x b hx hj => rowNat_below (h4 j x b hx hj) hb⟩
theorem buildG_mono {w : World} {B B' K K' : Nat} {v : Value} {l : List SegD} (h : BuildG w B K v l) (hB : B' ≤ B) (hK : K' ≤ K) : BuildG w B' K' v l := by
  obtain ⟨vs, ps, h0, h1, h2, h3, h4⟩ := h
  exact ⟨vs, ps, h0, h1, ownsRow_mono h2 hB, fun j x b hx hj => rowBatch_le (h3 j x b hx hj) hK, fun j x b hx hj => rowNat_le (h4 j x b hx hj) hK⟩
theorem buildG_form {w : World} {B K : Nat} {v : Value} {l : List SegD} (h : BuildG w B K v l) : ∃ ao cap, v = .slice ao l.length cap := by
  obtain ⟨vs, ps, -, -, h2, -⟩ := h
  exact slice_form h2
theorem buildG_at {w : World} {B K cap n : Nat} {ao : Option Addr} {l : List SegD} (h : BuildG w B K (.slice ao n cap) l) (j : Nat) (hj : j < l.length) : ∃ g, ao = some ⟨g, 0, none⟩ ∧ g < w.heap.size ∧
    w.cell? ⟨g, j * 7, none⟩ = some (.int .i64 (l[j].num : Int)) ∧ w.cell? ⟨g, j * 7 + 1, none⟩ = some (.int .i64 (l[j].frm : Int)) ∧ (∃ a c, w.cell? ⟨g, j * 7 + 2, none⟩ = some (.slice a l[j].bs.length c) ∧ RowBatch w K (.slice a l[j].bs.length c) l[j].bs) ∧
    (∃ a c, w.cell? ⟨g, j * 7 + 3, none⟩ = some (.slice a l[j].pls.length c) ∧ RowNat w K (.slice a l[j].pls.length c) l[j].pls) ∧ w.cell? ⟨g, j * 7 + 4, none⟩ = some (.int .i64 (l[j].fin : Int)) ∧ w.cell? ⟨g, j * 7 + 5, none⟩ = some (.bool l[j].right) ∧ w.cell? ⟨g, j * 7 + 6, none⟩ = some (.bool l[j].torn) := by
  obtain ⟨vs, ps, h0, h1, h2, h3, h4⟩ := h
  rcases h2.2 with ⟨_, hn⟩ | ⟨g, cap', cur, hv, hB, hC, hle, _, hs, ht⟩
  · omega
  · cases hv
    obtain ⟨x, hx⟩ : ∃ x, vs[j]? = some x := ⟨vs[j]'(by omega), List.getElem?_eq_getElem (by omega)⟩
    obtain ⟨p, hp⟩ : ∃ x, ps[j]? = some x := ⟨ps[j]'(by omega), List.getElem?_eq_getElem (by omega)⟩
    obtain ⟨k1, k2, k3, k4, k5, k6, k7⟩ := cellsSeg_get l vs ps j l[j] x p (List.getElem?_eq_getElem hj) hx hp
    have hr := h3 j x l[j] hx (List.getElem?_eq_getElem hj)
    have hq := h4 j p l[j] hp (List.getElem?_eq_getElem hj)
    obtain ⟨a, c, rfl, -⟩ := rowBatch_at hr
    obtain ⟨a', c', rfl⟩ := rowNat_form hq
    refine ⟨g, rfl, (Array.getElem?_eq_some_iff.1 hC).1, ?_, ?_, ⟨a, c, ?_, hr⟩, ⟨a', c', ?_, hq⟩, ?_, ?_, ?_⟩
    · exact (cell_of_row w g (j * 7) _ _ (0, 0) hC).trans (take_getChange ht (by omega) k1)
    · exact (cell_of_row w g (j * 7 + 1) _ _ (0, 0) hC).trans (take_getChange ht (by omega) k2)
    · exact (cell_of_row w g (j * 7 + 2) _ _ (0, 0) hC).trans (take_getChange ht (by omega) k3)
    · exact (cell_of_row w g (j * 7 + 3) _ _ (0, 0) hC).trans (take_getChange ht (by omega) k4)
    · exact (cell_of_row w g (j * 7 + 4) _ _ (0, 0) hC).trans (take_getChange ht (by omega) k5)
    · exact (cell_of_row w g (j * 7 + 5) _ _ (0, 0) hC).trans (take_getChange ht (by omega) k6)
    · exact (cell_of_row w g (j * 7 + 6) _ _ (0, 0) hC).trans (take_getChange ht (by omega) k7)
theorem seg_one {w : World} {B : Nat} {x y : Value} {bs : List BatchD} {ps : List Nat} (h : RowBatch w B x bs) (h2 : RowNat w B y ps) (p q r : Int) (b b' : Bool) : ∀ u ∈ [.int .i64 p, .int .i64 q, x, y, .int .i64 r, .bool b, .bool b'], Value.oneCell' u = true := by
  obtain ⟨a, c, rfl, -⟩ := rowBatch_at h
  obtain ⟨a, c, rfl⟩ := rowNat_form h2
  intro u hu
  simp only [List.mem_cons, List.not_mem_nil, or_false] at hu
  rcases hu with rfl | rfl | rfl | rfl | rfl | rfl | rfl <;> rfl
theorem app_seg {ops : Array Oper} {rest : List Oper} {o : Oper} {a : Act} {Q : Exit → Act → World → Prop} (W : World) (B K : Nat) (hgd : o.guard = none) (s y : Operand)
    (ho : o.op = .call { callee := .builtin .append, args := #[s, y], argTypes := #[138, 138] }) (v x p : Value) (l : List SegD) (b : SegD) (hs : a.eval s = v)
    (hbuild : BuildG W B K v l) (hB : B ≤ W.heap.size) (hx : RowBatch W K x b.bs) (hp : RowNat W K p b.pls) (k : Nat) (hy : a.eval y = .slice (some ⟨k, 0, none⟩) 1 1) (hblk : W.heap[k]? = some (.cells #[.int .i64 (b.num : Int), .int .i64 (b.frm : Int), x, p, .int .i64 (b.fin : Int), .bool b.right, .bool b.torn] 161 (0, 0)))
    (hlen : l.length ≤ 1048576)
    (h : ∀ g cap w', BuildG w' B K (.slice (some ⟨g, 0, none⟩) (l.length + 1) cap) (l ++ [b]) → Below B W w' → W.grownBy w' v.ownBlock → wpList Tryz.prog ops Q rest (a.put o.dst (.slice (some ⟨g, 0, none⟩) (l.length + 1) cap)) w') :
    wpList Tryz.prog ops Q (o :: rest) a W := by
  obtain ⟨i0, hi, hz0, hz1, hz2⟩ := info_parts Tryz.infoSeg
  obtain ⟨vs, ps, h0, h1, h2, h3, h4⟩ := hbuild
  refine wpList_append_lies W hgd s y 138 ho B 161 i0 (.agg #[.int .i64 0, .int .i64 0, .slice none 0 0, .slice none 0 0, .int .i64 0, .bool false, .bool false]) 7 80 Tryz.underlying138 hi hz0 hz1 hz2 rfl (by decide) v l.length (cellsSeg l vs ps) hs h2 ⟨k, 0, none⟩ 1 1 [.int .i64 (b.num : Int), .int .i64 (b.frm : Int), x, p, .int .i64 (b.fin : Int), .bool b.right, .bool b.torn] hy rfl
    (fun j u hj => World.news_of_block hblk j u hj) (seg_one hx hp _ _ _ _ _) (by omega) (by unfold maxLen; omega) (by omega) hB W.heap.size rfl ?_
  intro g cap w' hown' hgrow hg hgl
  have far : ∀ g, v.ownBlock = some g → ∃ C t, W.heap[g]? = some (.cells C t (0, 0)) ∧ t ≠ 96 ∧ t ≠ 144 := fun g hg => by
    obtain ⟨C, hC⟩ := owns_block h2 hg
    exact ⟨C, _, hC, by decide, by decide⟩
  have farN : ∀ g, v.ownBlock = some g → ∃ C t, W.heap[g]? = some (.cells C t (0, 0)) ∧ t ≠ 3 := fun g hg => by
    obtain ⟨C, hC⟩ := owns_block h2 hg
    exact ⟨C, _, hC, by decide⟩
  refine h g cap w' ⟨vs ++ [x], ps ++ [p], by simp [h0], by simp [h1], ?_, ?_, ?_⟩ ((Below.refl B W).grown hgrow hB (fun k hk => (h2.lt k hk).1)) hgrow
  · rw [cellsSeg_append l vs ps b x p h0 h1, List.length_append]
    exact hown'
  · intro j z c hz hc
    by_cases hj : j < l.length
    · rw [List.getElem?_append_left (by omega)] at hz
      rw [List.getElem?_append_left hj] at hc
      exact rowBatch_far (h3 j z c hz hc) hgrow far
    · have hlt : j < (l ++ [b]).length := (List.getElem?_eq_some_iff.1 hc).1
      have hje : j = l.length := by simp at hlt; omega
      subst hje
      rw [List.getElem?_append_right (by omega)] at hz
      rw [List.getElem?_append_right (Nat.le_refl _)] at hc
      simp [h0] at hz hc
      subst hz hc
      exact rowBatch_far hx hgrow far
  · intro j z c hz hc
    by_cases hj : j < l.length
    · rw [List.getElem?_append_left (by omega)] at hz
      rw [List.getElem?_append_left hj] at hc
      exact rowNat_far (h4 j z c hz hc) hgrow farN
    · have hlt : j < (l ++ [b]).length := (List.getElem?_eq_some_iff.1 hc).1
      have hje : j = l.length := by simp at hlt; omega
      subst hje
      rw [List.getElem?_append_right (by omega)] at hz
      rw [List.getElem?_append_right (Nat.le_refl _)] at hc
      simp [h1] at hz hc
      subst hz hc
      exact rowNat_far hp hgrow farN
end Go.Proofs.YtmmchemgegmhhaaGreatDoor
