import Derived.Sort.Walk0
import Derived.Shelf.SlIter.Nil
import Derived.Shelf.SortM.Plain
import Derived.Shelf.SortM.SortNone
import Derived.Ground.GgzProg
import Derived.Ground.SlgmProg
import Derived.Test.YtmmchemgegmhhaaGreatDoorProg
import Derived.Test.YtmmchemgegmhhaaGreatDoorSlim1
import Derived.Test.YtmmchemgegmhhaaGreatDoorSlim7
import Derived.Test.YtmmchemgegmhhaaGreatDoorSlim5
import Derived.Test.YtmmchemgegmhhaaGreatDoorSlim15
set_option maxRecDepth 100000
set_option maxHeartbeats 1600000
namespace Go.Proofs.YtmmchemgegmhhaaGreatDoor
open Go.RowKit
def lessF (nm : ByteArray) (F : FileD) : Bool := Op.bytesLess F.name.toList nm.toList
def moreF (nm : ByteArray) (F : FileD) : Bool := !(Op.bytesLess F.name.toList nm.toList || F.name.toList == nm.toList)
def otherF (nm : ByteArray) (F : FileD) : Bool := !(F.name.toList == nm.toList)
def putD (fs : List FileD) (F : FileD) : List FileD := fs.filter (lessF F.name) ++ [F] ++ fs.filter (moreF F.name)
def withoutD (fs : List FileD) (nm : ByteArray) : List FileD := fs.filter (otherF nm)
theorem filter_next {fs : List FileD} {k : Nat} (p : FileD → Bool) (h : k < fs.length) : (fs.take (k + 1)).filter p = (fs.take k).filter p ++ (if p fs[k] = true then [fs[k]] else []) := by
  rw [List.take_add_one, List.getElem?_eq_getElem h, List.filter_append]
  congr 1
  simp only [Option.toList, List.filter_cons, List.filter_nil]
theorem filter_le {fs : List FileD} (p : FileD → Bool) (k : Nat) : ((fs.take k).filter p).length ≤ fs.length :=
  Nat.le_trans (List.length_filter_le _ _) (by rw [List.length_take]; omega)
def srt (fs : List FileD) : Prop := fs.Pairwise (fun a b => Op.bytesLess a.name.toList b.name.toList = true)
theorem okFrom_some : ∀ (fs : List FileD) (p : ByteArray), okFrom (some p) fs = true ↔ ((∀ F ∈ fs, fileOkD F = true) ∧ (∀ F ∈ fs, Op.bytesLess p.toList F.name.toList = true) ∧ srt fs)
  | [], p => by simp [okFrom, srt]
  | F :: r, p => by
    simp only [okFrom, Bool.and_eq_true, okFrom_some r F.name, srt, List.pairwise_cons, List.mem_cons, forall_eq_or_imp]
    constructor
    · rintro ⟨h1, h2, h3, h4, h5⟩
      exact ⟨⟨h1, h3⟩, ⟨h2, fun G hG => less_trans h2 (h4 G hG)⟩, h4, h5⟩
    · rintro ⟨⟨h1, h3⟩, ⟨h2, _⟩, h4, h5⟩
      exact ⟨h1, h2, h3, h4, h5⟩
theorem okFrom_none (fs : List FileD) : okFrom none fs = true ↔ ((∀ F ∈ fs, fileOkD F = true) ∧ srt fs) := by
  cases fs with
  | nil => simp [okFrom, srt]
  | cons F r =>
    simp only [okFrom, Bool.and_eq_true, okFrom_some r F.name, srt, List.pairwise_cons, List.mem_cons, forall_eq_or_imp]
    constructor
    · rintro ⟨h1, h3, h4, h5⟩
      exact ⟨⟨h1, h3⟩, h4, h5⟩
    · rintro ⟨⟨h1, h3⟩, h4, h5⟩
      exact ⟨h1, h3, h4, h5⟩
theorem disk_iff (fs : List FileD) : diskOkD fs = true ↔ (fs.length ≤ 30 ∧ (∀ F ∈ fs, fileOkD F = true) ∧ srt fs) := by
  rw [diskOkD, Bool.and_eq_true, decide_eq_true_eq, okFrom_none]
theorem mem_putD {fs : List FileD} {F G : FileD} : G ∈ putD fs F ↔ (G ∈ fs ∧ lessF F.name G = true) ∨ G = F ∨ (G ∈ fs ∧ moreF F.name G = true) := by
  simp [putD]
theorem srt_putD {fs : List FileD} (F : FileD) (h : srt fs) : srt (putD fs F) := by
  unfold putD srt
  rw [List.pairwise_append, List.pairwise_append]
  refine ⟨⟨List.Pairwise.filter _ h, by simp, ?_⟩, List.Pairwise.filter _ h, ?_⟩
  · intro a ha b hb
    rw [List.mem_singleton] at hb
    subst hb
    exact (List.mem_filter.1 ha).2
  · intro a ha b hb
    have hb2 := (List.mem_filter.1 hb).2
    simp only [moreF, Bool.not_eq_true', Bool.or_eq_false_iff, beq_eq_false_iff_ne] at hb2
    have hFb : Op.bytesLess F.name.toList b.name.toList = true := less_total hb2.1 hb2.2
    rcases List.mem_append.1 ha with ha | ha
    · exact less_trans (List.mem_filter.1 ha).2 hFb
    · rw [List.mem_singleton] at ha
      subst ha
      exact hFb
theorem srt_without {fs : List FileD} (nm : ByteArray) (h : srt fs) : srt (withoutD fs nm) := List.Pairwise.filter _ h
theorem len_putD_le (fs : List FileD) (F : FileD) : (putD fs F).length ≤ fs.length + 1 := by
  have key : ∀ l : List FileD, (l.filter (lessF F.name)).length + (l.filter (moreF F.name)).length ≤ l.length := by
    intro l
    induction l with
    | nil => simp
    | cons G r ih =>
      simp only [List.filter_cons]
      by_cases h1 : lessF F.name G = true
      · have h2 : moreF F.name G = false := by simp only [lessF] at h1; simp [moreF, h1]
        simp [h1, h2]; omega
      · by_cases h2 : moreF F.name G = true
        · simp [h1, h2]; omega
        · simp [h1, h2]; omega
  have := key fs
  simp only [putD, List.length_append, List.length_singleton]
  omega
structure ActD where
  kind : Int
  name : ByteArray
  text : ByteArray
  toN : ByteArray
def actF (fs : List FileD) (A : ActD) : FileD := (fileD fs A.name).getD ⟨A.name, ⟨#[]⟩, 0⟩
def rawD (fs : List FileD) (A : ActD) : Option (List FileD) :=
  if A.kind = 1 then some (putD fs ⟨(actF fs A).name, (actF fs A).text ++ A.text, (actF fs A).kept⟩)
  else if (fileD fs A.name).isSome = false then none
  else if A.kind = 2 then some (putD fs ⟨(actF fs A).name, (actF fs A).text, (actF fs A).text.size⟩)
  else if A.kind = 3 then (if (decide ((actF fs A).kept < ((actF fs A).text.size : Int)) || (A.toN.toList == A.name.toList) || !nameOkD A.toN) = true then none else some (putD (withoutD fs A.name) ⟨A.toN, (actF fs A).text, (actF fs A).kept⟩))
  else if A.kind = 4 then some (withoutD fs A.name)
  else none
def actOk (fs : List FileD) (A : ActD) : Bool := diskOkD fs && (nameOkD A.name && (!(!(A.kind == 3) && !A.toN.toList.isEmpty) && !(!(A.kind == 1) && !A.text.toList.isEmpty)))
def actD (fs : List FileD) (A : ActD) : Option (List FileD) := if actOk fs A = true then (rawD fs A).bind (fun g => if diskOkD g = true then some g else none) else none
theorem actD_no {fs : List FileD} {A : ActD} (h : actOk fs A = false) : actD fs A = none := by rw [actD, if_neg (by rw [h]; decide)]
theorem actD_raw {fs : List FileD} {A : ActD} (h : actOk fs A = true) (hr : rawD fs A = none) : actD fs A = none := by rw [actD, if_pos h, hr]; rfl
theorem actD_bad {fs g : List FileD} {A : ActD} (h : actOk fs A = true) (hr : rawD fs A = some g) (hg : diskOkD g = false) : actD fs A = none := by
  rw [actD, if_pos h, hr]
  show (if diskOkD g = true then some g else none) = none
  rw [if_neg (by rw [hg]; decide)]
theorem actD_yes {fs g : List FileD} {A : ActD} (h : actOk fs A = true) (hr : rawD fs A = some g) (hg : diskOkD g = true) : actD fs A = some g := by
  rw [actD, if_pos h, hr]
  show (if diskOkD g = true then some g else none) = some g
  rw [if_pos hg]
def actsF : List FileD → List ActD → List FileD × Nat
  | fs, [] => (fs, 0)
  | fs, A :: r => match actD fs A with
    | none => (fs, 0)
    | some g => ((actsF g r).1, (actsF g r).2 + 1)
theorem actsF_no {fs : List FileD} {qs : List ActD} {k : Nat} (h : k < qs.length) (hA : actD fs qs[k] = none) : actsF fs (qs.drop k) = (fs, 0) := by
  rw [List.drop_eq_getElem_cons h, actsF, hA]
theorem actsF_yes {fs g : List FileD} {qs : List ActD} {k : Nat} (h : k < qs.length) (hA : actD fs qs[k] = some g) : actsF fs (qs.drop k) = ((actsF g (qs.drop (k + 1))).1, (actsF g (qs.drop (k + 1))).2 + 1) := by
  rw [List.drop_eq_getElem_cons h, actsF, hA]
theorem actsF_end {fs : List FileD} {qs : List ActD} {k : Nat} (h : qs.length ≤ k) : actsF fs (qs.drop k) = (fs, 0) := by
  rw [List.drop_eq_nil_of_le h, actsF]
theorem actD_ok {fs g : List FileD} {A : ActD} (h : actD fs A = some g) : diskOkD g = true := by
  unfold actD at h
  split at h
  · cases hr : rawD fs A with
    | none => rw [hr] at h; cases h
    | some x =>
      rw [hr] at h
      have h2 : (if diskOkD x = true then some x else none) = some g := h
      split at h2
      · cases h2; assumption
      · cases h2
  · cases h
def ActsAt (w : World) (ao : Option Addr) (qs : List ActD) : Prop := ∀ j (h : j < qs.length), ∃ b off : Nat, ao = some ⟨b, off, none⟩ ∧ b < w.heap.size ∧
  w.cell? ⟨b, off + j * 4, none⟩ = some (.int .i64 qs[j].kind) ∧ w.cell? ⟨b, off + j * 4 + 1, none⟩ = some (.string qs[j].name) ∧ w.cell? ⟨b, off + j * 4 + 2, none⟩ = some (.string qs[j].text) ∧ w.cell? ⟨b, off + j * 4 + 3, none⟩ = some (.string qs[j].toN)
theorem actsAt_keep {w w' : World} {ao : Option Addr} {qs : List ActD} (h : ActsAt w ao qs) (hb : Below w.heap.size w w') : ActsAt w' ao qs := by
  intro j hj
  obtain ⟨b, off, h1, h2, h3, h4, h5, h6⟩ := h j hj
  exact ⟨b, off, h1, Nat.lt_of_lt_of_le h2 hb.size, (hb.cell (p := ⟨b, off + j * 4, none⟩) h2).trans h3, (hb.cell (p := ⟨b, off + j * 4 + 1, none⟩) h2).trans h4, (hb.cell (p := ⟨b, off + j * 4 + 2, none⟩) h2).trans h5, (hb.cell (p := ⟨b, off + j * 4 + 3, none⟩) h2).trans h6⟩
theorem allKept_any (fs : List FileD) (ao : Option Addr) (cap : Nat) (w : World) (hl : fs.length ≤ 1048576) (hfs : FilesAt w ao fs) (hsz : ∀ F ∈ fs, F.name.size ≤ 1048576 ∧ F.text.size ≤ 1048576) :
    Calls Tryz.prog 168 #[.agg #[.slice ao fs.length cap]] w fun e w' => e = .returned (.bool (allKeptD fs)) ∧ Below w.heap.size w w' := by
  have HF := hide hfs
  have HS := hide hsz
  clear hfs hsz
  have b0 : Below w.heap.size w (w.alloc (.cells #[.slice ao fs.length cap] 27)) := (Below.refl _ w).alloc (Nat.le_refl _) _
  have HB0 := hide b0
  clear b0
  cases hok : diskOkD fs
  · go_enter Tryz.func168, Tryz.ntmps168
    go_wp2_with fail
    refine (diskOk_any fs ao cap _ hl (filesAt_keep HF.out HB0.out) (fun F h => ⟨small_max (HS.out F h).1, small_max (HS.out F h).2⟩)).mono ?_
    rintro e w1 ⟨rfl, b1⟩
    rw [hok]
    have HB1 := hide (HB0.out.trans (b1.mono HB0.out.size))
    clear b1
    go_wp2
    go_ret
    rw [allKeptD, hok]
    exact ⟨rfl, HB1.out⟩
  · obtain ⟨R, HR⟩ : ∃ R, Hid (keptD (fs.drop 0) = R) := ⟨_, hide rfl⟩
    have e : allKeptD fs = R := by rw [allKeptD, hok, ← HR.out]; rfl
    rw [e]
    clear e
    go_enter Tryz.func168, Tryz.ntmps168
    go_wp2_with fail
    refine (diskOk_any fs ao cap _ hl (filesAt_keep HF.out HB0.out) (fun F h => ⟨small_max (HS.out F h).1, small_max (HS.out F h).2⟩)).mono ?_
    rintro e w1 ⟨rfl, b1⟩
    rw [hok]
    have hbox : w1.cell? ⟨w.heap.size, 0, none⟩ = some (.slice ao fs.length cap) := (b1.cell (p := ⟨w.heap.size, 0, none⟩) (by simp)).trans (by rw [cell_of_row _ _ _ _ _ (0, 0) (heap_alloc_new w _)]; rfl)
    have HB1 := hide (HB0.out.trans (b1.mono HB0.out.size))
    clear b1
    go_wp2
    go_loopw [11] (fun ii wr => ∃ (k : Nat), ii = .int .i64 k ∧ k ≤ fs.length ∧ Hid (keptD (fs.drop k) = R) ∧ Hid (Below w.heap.size w wr)) (fun ii _ => fs.length - (intOf ii).toNat)
    case atStart => exact ⟨0, rfl, Nat.zero_le _, HR, HB1⟩
    case round =>
      obtain ⟨k, rfl, hk, HK, HB⟩ := hrel
      by_cases hlt : k < fs.length
      · have hlt' : decide ((k : Int) < (fs.length : Int)) = true := by simp; omega
        obtain ⟨b, off, rfl, hbw, hc0, hc1, hc2⟩ := filesAt_keep HF.out HB.out k hlt
        have HX := hide (HS.out fs[k] (List.getElem_mem hlt))
        obtain ⟨F, HFk⟩ : ∃ F, Hid (fs[k] = F) := ⟨fs[k], hide rfl⟩
        rw [HFk.out] at hc0 hc1 hc2
        have hi0 : (0 : Int) ≤ (k : Int) := by omega
        have hi1 : (k : Int) < (fs.length : Int) := by omega
        have hs2 : F.text.size ≤ 1048576 := by have := HX.out.2; rw [HFk.out] at this; exact this
        cases hq : decide (F.kept < (F.text.size : Int))
        · have HK1 : Hid (keptD (fs.drop (k + 1)) = R) := by show _ = _; rw [← HK.out]; exact (kept_more hlt (by rw [HFk.out]; exact hq)).symm
          go_wp2
          go_roundw
          case rel => exact ⟨k + 1, by go_num, by omega, HK1, HB.out.alloc HB.out.size _⟩
          case measure => simp [intOf]; omega
        · have hR : Hid (R = false) := by show _ = _; rw [← HK.out]; exact kept_bad hlt (by rw [HFk.out]; exact hq)
          go_wp2
          go_ret
          rw [hR.out]
          exact ⟨rfl, HB.out.alloc HB.out.size _⟩
      · have hlt' : decide ((k : Int) < (fs.length : Int)) = false := by simp; omega
        have hR : Hid (R = true) := by show _ = _; rw [← HK.out]; exact kept_end (by omega)
        go_wp2
        go_ret
        rw [hR.out]
        exact ⟨rfl, HB.out⟩
abbrev nmNew : ByteArray := ⟨#[109, 43]⟩
def isBelow (m : Nat) (nm : ByteArray) : Bool := (List.range m).any fun n => (segNm (n : Int)).toList == nm.toList
theorem isBelow_succ (m : Nat) (nm : ByteArray) : isBelow (m + 1) nm = (isBelow m nm || ((segNm (m : Int)).toList == nm.toList)) := by
  unfold isBelow
  rw [List.range_succ, List.any_append]
  simp
theorem isBelow_at {m k : Nat} {nm : ByteArray} (hk : k < m) (h : ((segNm (k : Int)).toList == nm.toList) = true) : isBelow m nm = true := by
  unfold isBelow
  rw [List.any_eq_true]
  exact ⟨k, List.mem_range.2 hk, h⟩
def lastB (q : Int) (bs : List BatchD) : Int := (bs.getLast?.map BatchD.seq).getD q
def seqD (l : List SegD) : Int := l.foldl (fun q s => lastB q s.bs) 0
theorem seqD_snoc (l : List SegD) (s : SegD) : seqD (l ++ [s]) = lastB (seqD l) s.bs := by simp [seqD]
theorem lastB_last (q : Int) (bs : List BatchD) (h : 0 < bs.length) : lastB q bs = (bs[bs.length - 1]'(by omega)).seq := by
  unfold lastB
  rw [List.getLast?_eq_getElem?, List.getElem?_eq_getElem (by omega)]
  rfl
theorem seqD_take_succ {l : List SegD} {k : Nat} (h : k < l.length) : seqD (l.take (k + 1)) = lastB (seqD (l.take k)) l[k].bs := by
  rw [List.take_succ_eq_append_getElem h, seqD_snoc]
def dropA (nm : ByteArray) : ActD := ⟨4, nm, ⟨#[]⟩, ⟨#[]⟩⟩
def newA (nm text : ByteArray) : List ActD := [⟨1, nmNew, text, ⟨#[]⟩⟩, ⟨2, nmNew, ⟨#[]⟩, ⟨#[]⟩⟩, ⟨3, nmNew, ⟨#[]⟩, nm⟩]
def addA (t : ByteArray) : ActD := ⟨1, nmNew, t, ⟨#[]⟩⟩
def newsA (nm : ByteArray) (ts : List ByteArray) : List ActD := ts.map addA ++ [⟨2, nmNew, ⟨#[]⟩, ⟨#[]⟩⟩, ⟨3, nmNew, ⟨#[]⟩, nm⟩]
def isNew (nm : ByteArray) : Bool := nm.toList == nmNew.toList
def goesB (m : Nat) (F : FileD) : Bool := isNew F.name || isBelow m F.name
def dropsI (m : Nat) (fs : List FileD) : List ActD := (fs.filter (goesB m)).map fun F => dropA F.name
theorem dropsI_snoc_yes {m : Nat} {fs : List FileD} {F : FileD} (h : goesB m F = true) : dropsI m (fs ++ [F]) = dropsI m fs ++ [dropA F.name] := by simp [dropsI, h]
theorem dropsI_snoc_no {m : Nat} {fs : List FileD} {F : FileD} (h : goesB m F = false) : dropsI m (fs ++ [F]) = dropsI m fs := by simp [dropsI, h]
theorem dropsI_len (m : Nat) (fs : List FileD) : (dropsI m fs).length ≤ fs.length := by
  unfold dropsI
  rw [List.length_map]
  exact List.length_filter_le _ _
theorem dropsI_empty {m : Nat} {fs : List FileD} : dropsI m fs = [] ↔ ∀ F ∈ fs, goesB m F = false := by
  unfold dropsI
  rw [List.map_eq_nil_iff, List.filter_eq_nil_iff]
  constructor
  · intro h F hF
    simpa using h F hF
  · intro h F hF
    simp [h F hF]
def dropsS (m : Nat) (fs : List FileD) : List ActD := (if (fileD fs nmNew).isSome then [dropA nmNew] else []) ++ (fs.filter fun F => isBelow m F.name).map fun F => dropA F.name
def firstG (fs : List FileD) : Nat := ((segsL fs).head?.map SegD.num).getD 0
def lastG (fs : List FileD) : SegD := (segsL fs).getLast?.getD ⟨0, 0, [], 0, false, false⟩
def mendA (fs : List FileD) : List ActD := if (lastG fs).torn then newA (segNm ((lastG fs).num : Int)) ((((fileD fs (segNm ((lastG fs).num : Int))).map FileD.text).getD ⟨#[]⟩).extract 0 (lastG fs).fin) else []
def actsI (fs : List FileD) : List ActD := dropsI (firstG fs) fs ++ mendA fs
def actsS (fs : List FileD) : List ActD := dropsS (firstG fs) fs ++ mendA fs
def wholeB (fs : List FileD) : Bool := (segsL fs).dropLast.all fun s => !s.torn
def soundB (fs : List FileD) : Bool := seqsRise fs && (allKeptD fs && wholeB fs)
def roomB (room : Int) : Bool := decide (100 ≤ room) && decide (room ≤ 20000)
def openIB (fs : List FileD) (room : Int) : Bool := roomB room && (soundB fs && decide ((actsF fs (actsI fs)).2 = (actsI fs).length))
def openSB (fs : List FileD) (room : Int) : Bool := roomB room && (soundB fs && decide ((actsF fs (actsS fs)).2 = (actsS fs).length))
def calmB (fs : List FileD) : Bool := (actsI fs).isEmpty
def engB (fs : List FileD) (room act seq : Int) (dir : List SpotD) : Prop := roomB room = true ∧ soundB fs = true ∧ calmB fs = true ∧ ((lastG fs).num : Int) = act ∧ seqD (segsL fs) = seq ∧ dirD fs = dir
theorem soundB_segs {fs : List FileD} (h : soundB fs = true) : segsOk fs = true ∧ seqsRise fs = true ∧ allKeptD fs = true ∧ wholeB fs = true ∧ diskOkD fs = true ∧ 0 < (segsL fs).length := by
  unfold soundB at h
  simp only [Bool.and_eq_true] at h
  obtain ⟨h1, h2, h3⟩ := h
  have h4 : segsOk fs = true := by
    unfold seqsRise at h1
    simp only [Bool.and_eq_true] at h1
    exact h1.1
  have h5 := h4
  unfold segsOk at h5
  simp only [Bool.and_eq_true, decide_eq_true_eq] at h5
  refine ⟨h4, h1, h2, h3, h5.1, ?_⟩
  unfold segsL
  rw [if_pos h4]
  exact h5.2.2
theorem fileD_some_iff {fs : List FileD} {nm : ByteArray} : (fileD fs nm).isSome = fs.any fun F => F.name.toList == nm.toList := by
  unfold fileD
  rw [List.isSome_find?]
theorem actsS_empty (fs : List FileD) : actsS fs = [] ↔ actsI fs = [] := by
  unfold actsS actsI
  simp only [List.append_eq_nil_iff]
  refine and_congr_left fun _ => ?_
  rw [dropsI_empty]
  unfold dropsS
  rw [List.append_eq_nil_iff, List.map_eq_nil_iff, List.filter_eq_nil_iff, fileD_some_iff]
  constructor
  · rintro ⟨h1, h2⟩ F hF
    unfold goesB isNew
    have h3 : (fs.any fun F => F.name.toList == nmNew.toList) = false := by
      cases hh : fs.any fun F => F.name.toList == nmNew.toList with
      | false => rfl
      | true => rw [hh] at h1; simp at h1
    rw [List.any_eq_false] at h3
    have h4 := h3 F hF
    have h5 := h2 F hF
    simp only [Bool.not_eq_true] at h4 h5
    rw [h4, h5]
    rfl
  · intro h
    have h1 : (fs.any fun F => F.name.toList == nmNew.toList) = false := by
      rw [List.any_eq_false]
      intro F hF
      have := h F hF
      unfold goesB isNew at this
      simp only [Bool.or_eq_false_iff] at this
      rw [this.1]
      simp
    refine ⟨by rw [h1]; rfl, fun F hF => ?_⟩
    have := h F hF
    unfold goesB at this
    simp only [Bool.or_eq_false_iff] at this
    rw [this.2]
    simp
end Go.Proofs.YtmmchemgegmhhaaGreatDoor
namespace Go.Proofs.YtmmchemgegmhhaaGreatDoor
open Go.RowKit
theorem l08Seq_any (fs : List FileD) (ao : Option Addr) (cap : Nat) (a1 : Option Addr) (c1 NL B : Nat) (w : World) (hl : fs.length ≤ 1048576) (hfs : FilesAt w ao fs) (hsz : ∀ F ∈ fs, F.name.size ≤ 1048576 ∧ F.text.size ≤ 1048576)
    (hNL : (segsL fs).length = NL) (hrow : w.ownsRow B 3 1 (.slice a1 NL c1) NL (((segsL fs).map SegD.num).map iv)) :
    Calls Tryz.prog 121 #[.agg #[.slice ao fs.length cap], .slice a1 NL c1] w fun e w' => e = .returned (.int .i64 (seqD (segsL fs))) ∧ Below w.heap.size w w' := by
  have HF := hide hfs
  have HS := hide hsz
  have G1 := hide hrow
  obtain ⟨wb, hwb⟩ : ∃ wb, wb = w.alloc (.cells #[.slice ao fs.length cap] 27) := ⟨_, rfl⟩
  have HB0 : Hid (Below w.heap.size w wb) := by rw [hwb]; exact (Below.refl _ w).alloc (Nat.le_refl _) _
  have hbs : w.heap.size < wb.heap.size := by rw [hwb]; simp
  have HBC : Hid (wb.cell? ⟨w.heap.size, 0, none⟩ = some (.slice ao fs.length cap)) := by rw [hwb]; exact (cell_of_row _ _ 0 _ _ (0, 0) (heap_alloc_new w _)).trans rfl
  obtain ⟨l, HLL⟩ : ∃ l, Hid (segsL fs = l) := ⟨_, rfl⟩
  have HLM : Hid (∀ s ∈ l, s.bs.length ≤ 20001 ∧ ∃ F, segBatches (s.num : Int) F.text = s.bs ∧ fileD fs (segNm s.num) = some F) := fun s hs => by
    rw [← HLL.out] at hs
    obtain ⟨-, -, F, -, hF, hD⟩ := segsTo_mem (segsL_mem hs)
    refine ⟨?_, F, ?_, hD⟩
    · rw [hF]
      exact (segBatches_bounds _ _).1
    · conv => rhs; rw [hF]
      rfl
  have HNL := hide hNL
  have hN1 : NL ≤ 100 := by rw [← hNL]; exact segsL_len fs
  rw [HLL.out] at HNL G1
  rw [HLL.out]
  clear hfs hsz hrow hNL HLL
  go_enter Tryz.func121, Tryz.ntmps121
  go_wp2_with fail
  rw [← hwb]
  clear hwb
  go_loopg [5, 6] NL (fun gg vl ii wr => ∃ (k : Nat), k + gg = NL ∧ vl = .int .i64 (seqD (l.take k)) ∧ ii = .int .i64 k ∧ k ≤ NL ∧ Hid (Below wb.heap.size wb wr))
  case atStart => exact ⟨0, by omega, rfl, rfl, Nat.zero_le _, Below.refl _ _⟩
  case round =>
    obtain ⟨k, hkg, rfl, rfl, hk, HB⟩ := hrel
    have hws : wb.heap.size ≤ wr.heap.size := HB.out.size
    have HBw : Hid (Below w.heap.size w wr) := HB0.out.trans (HB.out.mono HB0.out.size)
    cases gk with
    | zero =>
      have hlt' : decide ((k : Int) < (NL : Int)) = false := by simp; omega
      have hltn : decide (k < NL) = false := by simp; omega
      rw [List.take_of_length_le (by rw [HNL.out]; omega)]
      go_wp2
      go_ret
      exact ⟨rfl, HBw.out⟩
    | succ g0 =>
      have hlt : k < l.length := by rw [HNL.out]; omega
      have hlt' : decide ((k : Int) < (NL : Int)) = true := by simp; omega
      have hltn : decide (k < NL) = true := by simp; omega
      have hi0 : (0 : Int) ≤ (k : Int) := by omega
      have hi1 : (k : Int) < (NL : Int) := by omega
      obtain ⟨hbl, F, hFb, hFd⟩ := HLM.out l[k] (List.getElem_mem hlt)
      obtain ⟨g, hg, hgw, hc1⟩ := num_cell (ownsRow_below G1.out HBw.out) k (by omega) l[k].num (by rw [List.getElem?_map, List.getElem?_eq_getElem hlt]; rfl)
      subst hg
      have hsq := hide (seqD_take_succ hlt)
      have HLB := hide (fun W hW => l06Batches_any fs ao cap l[k].num F W hl hW HS.out hFd)
      rw [hFb] at HLB
      clear hFb hFd
      generalize l[k] = D at hsq hc1 HLB hbl
      generalize seqD (l.take k) = q0 at hsq
      clear hlt
      have hlt0 : w.heap.size < wr.heap.size := by omega
      have hc0 : wr.cell? ⟨w.heap.size, 0, none⟩ = some (.slice ao fs.length cap) := (HB.out.cell (p := ⟨w.heap.size, 0, none⟩) (by show w.heap.size < _; omega)).trans HBC.out
      have HFW := hide (filesAt_keep HF.out HBw.out)
      go_wp2_with fail
      go_region_held3 (fun w' => w'.cell? ⟨w.heap.size, 0, none⟩ = some (.slice ao fs.length cap) ∧ w'.cell? ⟨g, k, none⟩ = some (.int .i64 (D.num : Int))) (first | go_keep | (exact ⟨hc0, hc1⟩) | (exact ⟨(b2.cell (p := ⟨w.heap.size, 0, none⟩) hlt0).trans hc0, (b2.cell (p := ⟨g, k, none⟩) hgw).trans hc1⟩)) ((go_at_call 155; refine (HLB.out _ (by first | exact HFW.out | exact filesAt_keep HFW.out (Below.refl _ _).drew)).mono ?_; rintro e w2 ⟨⟨v2, rfl, r2⟩, b2⟩; obtain ⟨a2, c2, rfl, -⟩ := rowBatch_at r2))
      have B2 : Hid (Below wr.heap.size wr w2) := (Below.refl _ _).drew.trans b2
      have HRB := hide (rowBatch_rows r2).2
      clear r2 b2 hc0 hc1
      by_cases hz : D.bs.length = 0
      · have hz' : decide ((0 : Int) < (D.bs.length : Int)) = false := by rw [decide_eq_false_iff_not]; omega
        have hzn : decide (0 < D.bs.length) = false := by rw [decide_eq_false_iff_not]; omega
        have hE : Hid (lastB q0 D.bs = q0) := by show _ = _; rw [List.eq_nil_of_length_eq_zero hz]; rfl
        clear hz
        go_wp2
        go_roundg g0
        case measure => omega
        case rel => exact ⟨k + 1, by omega, by rw [hsq.out, hE.out], by go_num, by omega, HB.out.trans (B2.out.mono hws)⟩
      · have hz' : decide ((0 : Int) < (D.bs.length : Int)) = true := by rw [decide_eq_true_eq]; omega
        have hzn : decide (0 < D.bs.length) = true := by rw [decide_eq_true_eq]; omega
        obtain ⟨b, off, hab, hbw, hd0, -⟩ := HRB.out (D.bs.length - 1) (by omega)
        have hE := hide (lastB_last q0 D.bs (by omega))
        generalize D.bs[D.bs.length - 1]'(by omega) = E at hd0 hE
        subst hab
        have hj0 : (0 : Int) ≤ (D.bs.length : Int) - 1 := by omega
        have hj1 : (D.bs.length : Int) - 1 < (D.bs.length : Int) := by omega
        have hjn : ((D.bs.length : Int) - 1).toNat = D.bs.length - 1 := by omega
        have hjw : IntKind.i64.wrap ((D.bs.length : Int) - 1) = (D.bs.length : Int) - 1 := by rw [IntKind.wrap_i64]; omega
        go_wp2
        go_roundg g0
        case measure => omega
        case rel => exact ⟨k + 1, by omega, by rw [hsq.out, hE.out], by go_num, by omega, HB.out.trans (B2.out.mono hws)⟩
end Go.Proofs.YtmmchemgegmhhaaGreatDoor
namespace Go.Proofs
open Go.RowKit Go.Maps Go.Sort Go.Shelf
def Tryz.keys194_ren : Go.Shelf.Ren := ⟨fun | 7 => 194 | 10 => 216 | n => n, fun | 23 => 218 | 26 => 9 | 3 => 247 | 28 => 253 | 0 => 0 | 27 => 252 | 33 => 198 | 4 => 4 | n => n, fun | n => n⟩
theorem Tryz.keys194 : Go.Proofs.SlLaysZ.n7 Tryz.prog Tryz.keys194_ren := {
  mixed := by kernel_rfl
  f7 := ⟨Tryz.f194.name, by decide, Tryz.func194.trans (congrArg some (by kernel_rfl))⟩
  f10 := ⟨Tryz.f216.name, by decide, Tryz.func216.trans (congrArg some (by kernel_rfl))⟩
  t0 := Tryz.underlying0
  a0 := Tryz.isAgg0
  z0 := Tryz.sizeOf0
  v0 := Tryz.zeroValue0
  t4 := Tryz.underlying4
  a4 := Tryz.isAgg4
  z4 := Tryz.sizeOf4
  v4 := Tryz.zeroValue4
  t23 := Tryz.underlying218
  a23 := Tryz.isAgg218
  z23 := Tryz.sizeOf218
  v23 := Tryz.zeroValue218
  t26 := Tryz.underlying9
  a26 := Tryz.isAgg9
  z26 := Tryz.sizeOf9
  v26 := Tryz.zeroValue9
  t27 := Tryz.underlying252
  a27 := Tryz.isAgg252
  z27 := Tryz.sizeOf252
  v27 := Tryz.zeroValue252
  t28 := Tryz.underlying253
  a28 := Tryz.isAgg253
  z28 := Tryz.sizeOf253
  v28 := Tryz.zeroValue253
  t33 := Tryz.underlying198
  a33 := Tryz.isAgg198
  z33 := Tryz.sizeOf198
  v33 := Tryz.zeroValue198 }
def Tryz.sorted193_ren : Go.Shelf.Ren := ⟨fun | 6 => 193 | 8 => 214 | 9 => 215 | 11 => 226 | 13 => 228 | 12 => 227 | 23 => 248 | 24 => 249 | 14 => 239 | 15 => 240 | 16 => 241 | 17 => 242 | 18 => 243 | 19 => 244 | 20 => 245 | 21 => 246 | 22 => 247 | 25 => 257 | 26 => 258 | 27 => 259 | 28 => 260 | 29 => 261 | 30 => 185 | 31 => 266 | n => n, fun | 26 => 9 | 28 => 253 | 24 => 156 | 0 => 0 | 3 => 3 | 37 => 180 | 48 => 133 | 50 => 280 | 4 => 4 | 40 => 295 | 39 => 294 | 45 => 165 | 5 => 5 | 9 => 9 | 51 => 305 | 55 => 309 | 57 => 311 | 58 => 312 | 33 => 198 | n => n, fun | n => n⟩
theorem Tryz.sorted193 : Go.Proofs.SlLaysZ.n6 Tryz.prog Tryz.sorted193_ren := {
  mixed := by kernel_rfl
  f6 := ⟨Tryz.f193.name, by decide, Tryz.func193.trans (congrArg some (by kernel_rfl))⟩
  f8 := ⟨Tryz.f214.name, by decide, Tryz.func214.trans (congrArg some (by kernel_rfl))⟩
  f11 := ⟨Tryz.f226.name, by decide, Tryz.func226.trans (congrArg some (by kernel_rfl))⟩
  t0 := Tryz.underlying0
  a0 := Tryz.isAgg0
  z0 := Tryz.sizeOf0
  v0 := Tryz.zeroValue0
  t24 := Tryz.underlying156
  a24 := Tryz.isAgg156
  z24 := Tryz.sizeOf156
  v24 := Tryz.zeroValue156
  t26 := Tryz.underlying9
  a26 := Tryz.isAgg9
  z26 := Tryz.sizeOf9
  v26 := Tryz.zeroValue9
  t28 := Tryz.underlying253
  a28 := Tryz.isAgg253
  z28 := Tryz.sizeOf253
  v28 := Tryz.zeroValue253
  i26 := by kernel_rfl }
def Tryz.sort215_ren : Go.Shelf.Ren := ⟨fun | 6 => 215 | 8 => 228 | 9 => 227 | 19 => 248 | 20 => 249 | 21 => 239 | 22 => 240 | 23 => 241 | 24 => 242 | 25 => 243 | 26 => 244 | 27 => 245 | 28 => 246 | 29 => 247 | 36 => 257 | 31 => 258 | 32 => 259 | 37 => 260 | 38 => 261 | 39 => 185 | 41 => 266 | n => n, fun | 27 => 156 | 29 => 9 | 3 => 3 | 32 => 180 | 26 => 156 | 0 => 0 | 44 => 133 | 46 => 280 | 4 => 4 | 36 => 295 | 35 => 294 | 41 => 165 | 5 => 5 | 9 => 9 | 53 => 305 | 57 => 309 | 63 => 311 | 64 => 312 | n => n, fun | n => n⟩
theorem Tryz.sort215 : Go.Proofs.SlLaysM.n6 Tryz.prog Tryz.sort215_ren := {
  mixed := by kernel_rfl
  f6 := ⟨Tryz.f215.name, by decide, Tryz.func215.trans (congrArg some (by kernel_rfl))⟩
  f8 := Tryz.func228.trans (congrArg some (by kernel_rfl))
  f9 := ⟨Tryz.f227.name, by decide, Tryz.func227.trans (congrArg some (by kernel_rfl))⟩
  f19 := Tryz.func248.trans (congrArg some (by kernel_rfl))
  f20 := Tryz.func249.trans (congrArg some (by kernel_rfl))
  f21 := ⟨Tryz.f239.name, by decide, Tryz.func239.trans (congrArg some (by kernel_rfl))⟩
  f22 := ⟨Tryz.f240.name, by decide, Tryz.func240.trans (congrArg some (by kernel_rfl))⟩
  f23 := ⟨Tryz.f241.name, by decide, Tryz.func241.trans (congrArg some (by kernel_rfl))⟩
  f24 := ⟨Tryz.f242.name, by decide, Tryz.func242.trans (congrArg some (by kernel_rfl))⟩
  f25 := ⟨Tryz.f243.name, by decide, Tryz.func243.trans (congrArg some (by kernel_rfl))⟩
  f26 := ⟨Tryz.f244.name, by decide, Tryz.func244.trans (congrArg some (by kernel_rfl))⟩
  f27 := ⟨Tryz.f245.name, by decide, Tryz.func245.trans (congrArg some (by kernel_rfl))⟩
  f28 := ⟨Tryz.f246.name, by decide, Tryz.func246.trans (congrArg some (by kernel_rfl))⟩
  f29 := ⟨Tryz.f247.name, by decide, Tryz.func247.trans (congrArg some (by kernel_rfl))⟩
  f31 := Tryz.func258.trans (congrArg some (by kernel_rfl))
  f32 := Tryz.func259.trans (congrArg some (by kernel_rfl))
  f36 := ⟨Tryz.f257.name, by decide, Tryz.func257.trans (congrArg some (by kernel_rfl))⟩
  f37 := ⟨Tryz.f260.name, by decide, Tryz.func260.trans (congrArg some (by kernel_rfl))⟩
  f38 := ⟨Tryz.f261.name, by decide, Tryz.func261.trans (congrArg some (by kernel_rfl))⟩
  f39 := ⟨Tryz.f185.name, by decide, Tryz.func185.trans (congrArg some (by kernel_rfl))⟩
  f41 := ⟨Tryz.f266.name, by decide, Tryz.func266.trans (congrArg some (by kernel_rfl))⟩
  t0 := Tryz.underlying0
  a0 := Tryz.isAgg0
  z0 := Tryz.sizeOf0
  v0 := Tryz.zeroValue0
  t3 := Tryz.underlying3
  a3 := Tryz.isAgg3
  z3 := Tryz.sizeOf3
  v3 := Tryz.zeroValue3
  t4 := Tryz.underlying4
  a4 := Tryz.isAgg4
  z4 := Tryz.sizeOf4
  v4 := Tryz.zeroValue4
  t5 := Tryz.underlying5
  a5 := Tryz.isAgg5
  z5 := Tryz.sizeOf5
  v5 := Tryz.zeroValue5
  t9 := Tryz.underlying9
  a9 := Tryz.isAgg9
  z9 := Tryz.sizeOf9
  v9 := Tryz.zeroValue9
  t26 := Tryz.underlying156
  a26 := Tryz.isAgg156
  z26 := Tryz.sizeOf156
  v26 := Tryz.zeroValue156
  t27 := Tryz.underlying156
  a27 := Tryz.isAgg156
  z27 := Tryz.sizeOf156
  v27 := Tryz.zeroValue156
  t29 := Tryz.underlying9
  a29 := Tryz.isAgg9
  z29 := Tryz.sizeOf9
  v29 := Tryz.zeroValue9
  t32 := Tryz.underlying180
  a32 := Tryz.isAgg180
  z32 := Tryz.sizeOf180
  v32 := Tryz.zeroValue180
  t35 := Tryz.underlying294
  a35 := Tryz.isAgg294
  z35 := Tryz.sizeOf294
  v35 := Tryz.zeroValue294
  t36 := Tryz.underlying295
  a36 := Tryz.isAgg295
  z36 := Tryz.sizeOf295
  v36 := Tryz.zeroValue295
  t41 := Tryz.underlying165
  a41 := Tryz.isAgg165
  z41 := Tryz.sizeOf165
  v41 := Tryz.zeroValue165
  t44 := Tryz.underlying133
  a44 := Tryz.isAgg133
  z44 := Tryz.sizeOf133
  v44 := Tryz.zeroValue133
  t46 := Tryz.underlying280
  a46 := Tryz.isAgg280
  z46 := Tryz.sizeOf280
  v46 := Tryz.zeroValue280
  t53 := Tryz.underlying305
  a53 := Tryz.isAgg305
  z53 := Tryz.sizeOf305
  v53 := Tryz.zeroValue305
  t57 := Tryz.underlying309
  a57 := Tryz.isAgg309
  z57 := Tryz.sizeOf309
  v57 := Tryz.zeroValue309
  t63 := Tryz.underlying311
  a63 := Tryz.isAgg311
  z63 := Tryz.sizeOf311
  v63 := Tryz.zeroValue311
  t64 := Tryz.underlying312
  a64 := Tryz.isAgg312
  z64 := Tryz.sizeOf312
  v64 := Tryz.zeroValue312 }
def Tryz.keys201_ren : Go.Shelf.Ren := ⟨fun | 7 => 201 | 10 => 220 | n => n, fun | 23 => 231 | 26 => 9 | 3 => 89 | 28 => 253 | 0 => 0 | 27 => 252 | 33 => 198 | 4 => 4 | n => n, fun | n => n⟩
theorem Tryz.keys201 : Go.Proofs.SlLaysZ.n7 Tryz.prog Tryz.keys201_ren := {
  mixed := by kernel_rfl
  f7 := ⟨Tryz.f201.name, by decide, Tryz.func201.trans (congrArg some (by kernel_rfl))⟩
  f10 := ⟨Tryz.f220.name, by decide, Tryz.func220.trans (congrArg some (by kernel_rfl))⟩
  t0 := Tryz.underlying0
  a0 := Tryz.isAgg0
  z0 := Tryz.sizeOf0
  v0 := Tryz.zeroValue0
  t4 := Tryz.underlying4
  a4 := Tryz.isAgg4
  z4 := Tryz.sizeOf4
  v4 := Tryz.zeroValue4
  t23 := Tryz.underlying231
  a23 := Tryz.isAgg231
  z23 := Tryz.sizeOf231
  v23 := Tryz.zeroValue231
  t26 := Tryz.underlying9
  a26 := Tryz.isAgg9
  z26 := Tryz.sizeOf9
  v26 := Tryz.zeroValue9
  t27 := Tryz.underlying252
  a27 := Tryz.isAgg252
  z27 := Tryz.sizeOf252
  v27 := Tryz.zeroValue252
  t28 := Tryz.underlying253
  a28 := Tryz.isAgg253
  z28 := Tryz.sizeOf253
  v28 := Tryz.zeroValue253
  t33 := Tryz.underlying198
  a33 := Tryz.isAgg198
  z33 := Tryz.sizeOf198
  v33 := Tryz.zeroValue198 }
theorem Tryz.sorts193 (m : Nat) : AnyZ.SortsIn Tryz.prog Tryz.sorted193_ren Fence.wide m :=
  ⟨fun blk off cap ss W hH hblk hsz => callsIn_wide.2 (AnyM.slices_Sort_string Tryz.sort215 blk off cap ss W hH hblk hsz),
   fun p cap W => callsIn_wide.2 (AnyM.slices_Sort_string_none Tryz.sort215 p cap W)⟩
theorem Tryz.maps_Keys_194 (mb : Option Nat) (W : World) : CallsIn Fence.wide 5 Tryz.prog 194 #[.map mb] W fun e w' => e = .returned (.func (.func 216) #[] #[.pointer (some ⟨W.heap.size, 0, none⟩)]) ∧ w' = W.alloc (.cells #[.map mb] 218) :=
  AnyZ.keys_in Tryz.keys194 Fence.wide 5 trivial rfl mb W
theorem Tryz.slices_Sorted_keys_193_194 {H : Type} (b nn : Nat) (D0 : DataW H) (R : Value → Option (DataW H × List MemPlace)) (w : World) (hown : w.ownsMap Tryz.prog 9 R b nn D0) (hmax : Maps.size D0 ≤ maxLen) (hbytes : Maps.size D0 * 16 ≤ 140737488355328) :
    CallsIn Fence.wide 5 Tryz.prog 193 #[.func (.func 216) #[] #[.pointer (some ⟨w.heap.size, 0, none⟩)]] (w.alloc (.cells #[.map (some b)] 218)) fun e w' => ∃ (v : Value) (ss : List (List UInt8)), e = .returned v ∧ ss.Perm (strKeys D0) ∧
      w'.ownsRow (w.alloc (.cells #[.map (some b)] 218)).heap.size 9 1 v ss.length ((ss.mergeSort (fun x y => decide (x ≤ y))).map encStr) ∧ (v = .slice none 0 0 ↔ ss = []) ∧ Below (w.alloc (.cells #[.map (some b)] 218)).heap.size (w.alloc (.cells #[.map (some b)] 218)) w' := by
  have hbl := hown.lt
  have hseq : SeqGives Fence.wide 2 Tryz.prog 216 #[.pointer (some ⟨w.heap.size, 0, none⟩)] encStr (fun ss => ss.Perm (strKeys D0)) (Maps.size D0) (w.alloc (.cells #[.map (some b)] 218)) :=
    AnyZ.keys_gives (ρ := Tryz.keys194_ren) { Tryz.keys194 with } Fence.wide _ trivial rfl (by omega) w.heap.size b nn D0 _ (by simp) (by simp) (by
      obtain ⟨es, clock, hb, Ft, hs, hD⟩ := hown
      exact ⟨es, clock, (Below.heap_alloc _ _ b hbl).trans hb, Ft, hs, hD⟩)
  exact AnyZ.sorted_in Tryz.sorted193 Fence.wide 5 trivial trivial trivial trivial rfl (by omega) (Tryz.sorts193 _) (enters_of Tryz.func215 (by kernel_rfl) rfl) 216 #[.pointer (some ⟨w.heap.size, 0, none⟩)] trivial (enters_of Tryz.func216 (by kernel_rfl) rfl) _ _ hmax hbytes _ hseq
theorem Tryz.maps_Keys_201 (mb : Option Nat) (W : World) : CallsIn Fence.wide 5 Tryz.prog 201 #[.map mb] W fun e w' => e = .returned (.func (.func 220) #[] #[.pointer (some ⟨W.heap.size, 0, none⟩)]) ∧ w' = W.alloc (.cells #[.map mb] 231) :=
  AnyZ.keys_in Tryz.keys201 Fence.wide 5 trivial rfl mb W
theorem Tryz.slices_Sorted_keys_193_201 {H : Type} (b nn : Nat) (D0 : DataW H) (R : Value → Option (DataW H × List MemPlace)) (w : World) (hown : w.ownsMap Tryz.prog 9 R b nn D0) (hmax : Maps.size D0 ≤ maxLen) (hbytes : Maps.size D0 * 16 ≤ 140737488355328) :
    CallsIn Fence.wide 5 Tryz.prog 193 #[.func (.func 220) #[] #[.pointer (some ⟨w.heap.size, 0, none⟩)]] (w.alloc (.cells #[.map (some b)] 231)) fun e w' => ∃ (v : Value) (ss : List (List UInt8)), e = .returned v ∧ ss.Perm (strKeys D0) ∧
      w'.ownsRow (w.alloc (.cells #[.map (some b)] 231)).heap.size 9 1 v ss.length ((ss.mergeSort (fun x y => decide (x ≤ y))).map encStr) ∧ (v = .slice none 0 0 ↔ ss = []) ∧ Below (w.alloc (.cells #[.map (some b)] 231)).heap.size (w.alloc (.cells #[.map (some b)] 231)) w' := by
  have hbl := hown.lt
  have hseq : SeqGives Fence.wide 2 Tryz.prog 220 #[.pointer (some ⟨w.heap.size, 0, none⟩)] encStr (fun ss => ss.Perm (strKeys D0)) (Maps.size D0) (w.alloc (.cells #[.map (some b)] 231)) :=
    AnyZ.keys_gives (ρ := Tryz.keys201_ren) { Tryz.keys201 with } Fence.wide _ trivial rfl (by omega) w.heap.size b nn D0 _ (by simp) (by simp) (by
      obtain ⟨es, clock, hb, Ft, hs, hD⟩ := hown
      exact ⟨es, clock, (Below.heap_alloc _ _ b hbl).trans hb, Ft, hs, hD⟩)
  exact AnyZ.sorted_in Tryz.sorted193 Fence.wide 5 trivial trivial trivial trivial rfl (by omega) (Tryz.sorts193 _) (enters_of Tryz.func215 (by kernel_rfl) rfl) 220 #[.pointer (some ⟨w.heap.size, 0, none⟩)] trivial (enters_of Tryz.func220 (by kernel_rfl) rfl) _ _ hmax hbytes _ hseq
end Go.Proofs
