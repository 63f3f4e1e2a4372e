/- The engine, plainly: which acts open a disk, and when an engine is right. -/
import Derived.Test.YtmmchemgegmhhaaGreatDoorSegQ
import Derived.Test.YtmmchemgegmhhaaGreatDoorDirQ
import Derived.Test.YtmmchemgegmhhaaGreatDoorActQ
import Derived.Test.YtmmchemgegmhhaaGreatDoorAllKeptI
namespace Go.Proofs.YtmmchemgegmhhaaGreatDoor
open Go.RowKit

/-- The name of a file that is being made. -/
abbrev nmNew : ByteArray := ⟨#[109, 43]⟩
/-- A name is that of a segment below a number. -/
def isBelow (m : Nat) (nm : ByteArray) : Bool := (List.range m).any fun n => (segNm (n : Int)).toList == nm.toList
theorem isBelow_zero (nm : ByteArray) : isBelow 0 nm = false := rfl
theorem isBelow_succ (m : Nat) (nm : ByteArray) : isBelow (m + 1) nm = (isBelow m nm || ((segNm (m : Int)).toList == nm.toList)) := by
  unfold isBelow
  rw [List.range_succ, List.any_append]
  simp
theorem isBelow_at {m k : Nat} {nm : ByteArray} (hk : k < m) (h : ((segNm (k : Int)).toList == nm.toList) = true) : isBelow m nm = true := by
  unfold isBelow
  rw [List.any_eq_true]
  exact ⟨k, List.mem_range.2 hk, h⟩

/-- The number of the last batch of all. -/
def lastB (q : Int) (bs : List BatchD) : Int := (bs.getLast?.map BatchD.seq).getD q
def seqD (l : List SegD) : Int := l.foldl (fun q s => lastB q s.bs) 0
theorem seqD_snoc (l : List SegD) (s : SegD) : seqD (l ++ [s]) = lastB (seqD l) s.bs := by simp [seqD]
theorem lastB_nil (q : Int) : lastB q [] = q := rfl
theorem lastB_last (q : Int) (bs : List BatchD) (h : 0 < bs.length) : lastB q bs = (bs[bs.length - 1]'(by omega)).seq := by
  unfold lastB
  rw [List.getLast?_eq_getElem?, List.getElem?_eq_getElem (by omega)]
  rfl
theorem seqD_take_succ {l : List SegD} {k : Nat} (h : k < l.length) : seqD (l.take (k + 1)) = lastB (seqD (l.take k)) l[k].bs := by
  rw [List.take_succ_eq_append_getElem h, seqD_snoc]

/-- An act that drops a file. -/
def dropA (nm : ByteArray) : ActD := ⟨4, nm, ⟨#[]⟩, ⟨#[]⟩⟩
/-- The acts that make a file anew beside the others. -/
def newA (nm text : ByteArray) : List ActD := [⟨1, nmNew, text, ⟨#[]⟩⟩, ⟨2, nmNew, ⟨#[]⟩, ⟨#[]⟩⟩, ⟨3, nmNew, ⟨#[]⟩, nm⟩]
/-- The acts that make a file of several texts. -/
def addA (t : ByteArray) : ActD := ⟨1, nmNew, t, ⟨#[]⟩⟩
def newsA (nm : ByteArray) (ts : List ByteArray) : List ActD := ts.map addA ++ [⟨2, nmNew, ⟨#[]⟩, ⟨#[]⟩⟩, ⟨3, nmNew, ⟨#[]⟩, nm⟩]
theorem newA_news (nm text : ByteArray) : newA nm text = newsA nm [text] := rfl
def isNew (nm : ByteArray) : Bool := nm.toList == nmNew.toList
/-- The files that are dropped: in the program all of them by the order of files. -/
def goesB (m : Nat) (F : FileD) : Bool := isNew F.name || isBelow m F.name
def dropsI (m : Nat) (fs : List FileD) : List ActD := (fs.filter (goesB m)).map fun F => dropA F.name
theorem dropsI_nil (m : Nat) : dropsI m [] = [] := rfl
theorem dropsI_snoc_yes {m : Nat} {fs : List FileD} {F : FileD} (h : goesB m F = true) : dropsI m (fs ++ [F]) = dropsI m fs ++ [dropA F.name] := by simp [dropsI, h]
theorem dropsI_snoc_no {m : Nat} {fs : List FileD} {F : FileD} (h : goesB m F = false) : dropsI m (fs ++ [F]) = dropsI m fs := by simp [dropsI, h]
theorem dropsI_len (m : Nat) (fs : List FileD) : (dropsI m fs).length ≤ fs.length := by
  unfold dropsI
  rw [List.length_map]
  exact List.length_filter_le _ _
theorem dropsI_empty {m : Nat} {fs : List FileD} : dropsI m fs = [] ↔ ∀ F ∈ fs, goesB m F = false := by
  unfold dropsI
  rw [List.map_eq_nil_iff, List.filter_eq_nil_iff]
  constructor
  · intro h F hF
    simpa using h F hF
  · intro h F hF
    simp [h F hF]
/-- In the specification the new file first, then the others. -/
def dropsS (m : Nat) (fs : List FileD) : List ActD := (if (fileD fs nmNew).isSome then [dropA nmNew] else []) ++ (fs.filter fun F => isBelow m F.name).map fun F => dropA F.name

/-- The first and the last segment that counts. -/
def firstG (fs : List FileD) : Nat := ((segsL fs).head?.map SegD.num).getD 0
def lastG (fs : List FileD) : SegD := (segsL fs).getLast?.getD ⟨0, 0, [], 0, false, false⟩
/-- The file of the last segment is made anew where bytes stand behind it. -/
def mendA (fs : List FileD) : List ActD := if (lastG fs).torn then newA (segNm ((lastG fs).num : Int)) ((((fileD fs (segNm ((lastG fs).num : Int))).map FileD.text).getD ⟨#[]⟩).extract 0 (lastG fs).fin) else []
def actsI (fs : List FileD) : List ActD := dropsI (firstG fs) fs ++ mendA fs
def actsS (fs : List FileD) : List ActD := dropsS (firstG fs) fs ++ mendA fs
/-- Bytes stand behind none but the last. -/
def wholeB (fs : List FileD) : Bool := (segsL fs).dropLast.all fun s => !s.torn
/-- The segments of a disk can be opened. -/
def soundB (fs : List FileD) : Bool := seqsRise fs && (allKeptD fs && wholeB fs)
def roomB (room : Int) : Bool := decide (100 ≤ room) && decide (room ≤ 20000)
def openIB (fs : List FileD) (room : Int) : Bool := roomB room && (soundB fs && decide ((actsF fs (actsI fs)).2 = (actsI fs).length))
def openSB (fs : List FileD) (room : Int) : Bool := roomB room && (soundB fs && decide ((actsF fs (actsS fs)).2 = (actsS fs).length))

/-- Nothing is to be done to open it. -/
def calmB (fs : List FileD) : Bool := (actsI fs).isEmpty
/-- An engine is right. -/
def engB (fs : List FileD) (room act seq : Int) (dir : List SpotD) : Prop := roomB room = true ∧ soundB fs = true ∧ calmB fs = true ∧ ((lastG fs).num : Int) = act ∧ seqD (segsL fs) = seq ∧ dirD fs = dir
theorem soundB_segs {fs : List FileD} (h : soundB fs = true) : segsOk fs = true ∧ seqsRise fs = true ∧ allKeptD fs = true ∧ wholeB fs = true ∧ diskOkD fs = true ∧ 0 < (segsL fs).length := by
  unfold soundB at h
  simp only [Bool.and_eq_true] at h
  obtain ⟨h1, h2, h3⟩ := h
  have h4 : segsOk fs = true := by
    unfold seqsRise at h1
    simp only [Bool.and_eq_true] at h1
    exact h1.1
  have h5 := h4
  unfold segsOk at h5
  simp only [Bool.and_eq_true, decide_eq_true_eq] at h5
  refine ⟨h4, h1, h2, h3, h5.1, ?_⟩
  unfold segsL
  rw [if_pos h4]
  exact h5.2.2
/-- The file of the new name is there just when a file is named so. -/
theorem fileD_some_iff {fs : List FileD} {nm : ByteArray} : (fileD fs nm).isSome = fs.any fun F => F.name.toList == nm.toList := by
  unfold fileD
  rw [List.isSome_find?]
theorem actsS_empty (fs : List FileD) : actsS fs = [] ↔ actsI fs = [] := by
  unfold actsS actsI
  simp only [List.append_eq_nil_iff]
  refine and_congr_left fun _ => ?_
  rw [dropsI_empty]
  unfold dropsS
  rw [List.append_eq_nil_iff, List.map_eq_nil_iff, List.filter_eq_nil_iff, fileD_some_iff]
  constructor
  · rintro ⟨h1, h2⟩ F hF
    unfold goesB isNew
    have h3 : (fs.any fun F => F.name.toList == nmNew.toList) = false := by
      cases hh : fs.any fun F => F.name.toList == nmNew.toList with
      | false => rfl
      | true => rw [hh] at h1; simp at h1
    rw [List.any_eq_false] at h3
    have h4 := h3 F hF
    have h5 := h2 F hF
    simp only [Bool.not_eq_true] at h4 h5
    rw [h4, h5]
    rfl
  · intro h
    have h1 : (fs.any fun F => F.name.toList == nmNew.toList) = false := by
      rw [List.any_eq_false]
      intro F hF
      have := h F hF
      unfold goesB isNew at this
      simp only [Bool.or_eq_false_iff] at this
      rw [this.1]
      simp
    refine ⟨by rw [h1]; rfl, fun F hF => ?_⟩
    have := h F hF
    unfold goesB at this
    simp only [Bool.or_eq_false_iff] at this
    rw [this.2]
    simp
end Go.Proofs.YtmmchemgegmhhaaGreatDoor
