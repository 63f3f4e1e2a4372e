/- The specification's ValueOf. -/
import Derived.Test.YtjfagmjajpnacalGreatDoorSegs
import Derived.Test.YtjfagmjajpnacalGreatDoorSegI2
import Derived.Test.YtjfagmjajpnacalGreatDoorFiles
import Derived.Test.YtjfagmjajpnacalGreatDoorSpotL
namespace Go.Proofs.YtjfagmjajpnacalGreatDoor
open Go.RowKit

theorem specFileAt_none' (fs : List FileD) (ao : Option Addr) (cap : Nat) (nm : ByteArray) (w : World) (hl : fs.length ≤ 1048576) (hfs : FilesAt w ao fs) (h : fileD fs nm = none) :
    Calls Tryz.prog 15 #[.agg #[.slice ao fs.length cap], .string nm] w fun e w' => e = .returned (.tuple #[.string ⟨#[]⟩, .bool false]) ∧ Below w.heap.size w w' := by
  refine (specFileAt_any fs ao cap nm w hl hfs).mono ?_
  rintro e w' ⟨⟨-, rfl⟩ | ⟨F, hF, -⟩, hb⟩
  · exact ⟨rfl, hb⟩
  · rw [h] at hF; cases hF
theorem specFileAt_some' (fs : List FileD) (ao : Option Addr) (cap : Nat) (nm : ByteArray) (w : World) (F : FileD) (hl : fs.length ≤ 1048576) (hfs : FilesAt w ao fs) (h : fileD fs nm = some F) :
    Calls Tryz.prog 15 #[.agg #[.slice ao fs.length cap], .string nm] w fun e w' => e = .returned (.tuple #[.string F.text, .bool true]) ∧ Below w.heap.size w w' := by
  refine (specFileAt_any fs ao cap nm w hl hfs).mono ?_
  rintro e w' ⟨⟨hn, -⟩ | ⟨G, hG, -, rfl⟩, hb⟩
  · rw [h] at hn; cases hn
  · rw [h] at hG; cases hG; exact ⟨rfl, hb⟩

/-- The record whose frame begins at a place of a segment. -/
def recAt (fs : List FileD) (seg pos : Int) : Option ByteArray :=
  match fileD fs (segNm seg) with
  | none => none
  | some F => if 0 ≤ pos ∧ pos ≤ F.text.size then
      match unf (F.text.extract pos.toNat F.text.size) with
      | [] => none
      | x :: _ => some ((F.text.extract pos.toNat F.text.size).extract x.1 x.2)
    else none
/-- The batch of it. -/
def batSeq (o : Option ByteArray) : Int := (o.map rdSeq).getD 0
def batOk (o : Option ByteArray) : Bool := (o.map rdOk).getD false
def batChs (o : Option ByteArray) : List ChangeD := (o.map rdChanges).getD []

theorem recAt_none {fs : List FileD} {seg pos : Int} (h : fileD fs (segNm seg) = none) : recAt fs seg pos = none := by unfold recAt; rw [h]
theorem recAt_out {fs : List FileD} {seg pos : Int} {F : FileD} (h : fileD fs (segNm seg) = some F) (hp : ¬ (0 ≤ pos ∧ pos ≤ F.text.size)) : recAt fs seg pos = none := by
  unfold recAt; rw [h]; simp only []; rw [if_neg hp]
theorem recAt_nil {fs : List FileD} {seg : Int} {p : Nat} {F : FileD} {T : ByteArray} (h : fileD fs (segNm seg) = some F) (hp : p ≤ F.text.size) (hT : F.text.extract p F.text.size = T) (hu : unf T = []) : recAt fs seg (p : Int) = none := by
  unfold recAt; rw [h]; simp only []; rw [if_pos ⟨by omega, by omega⟩, Int.toNat_natCast, hT, hu]
theorem recAt_some {fs : List FileD} {seg : Int} {p : Nat} {F : FileD} {T : ByteArray} {x : Nat × Nat} {r : List (Nat × Nat)} (h : fileD fs (segNm seg) = some F) (hp : p ≤ F.text.size) (hT : F.text.extract p F.text.size = T) (hu : unf T = x :: r) : recAt fs seg (p : Int) = some (T.extract x.1 x.2) := by
  unfold recAt; rw [h]; simp only []; rw [if_pos ⟨by omega, by omega⟩, Int.toNat_natCast, hT, hu]

/-- The cells of a row that lies below. -/
theorem two_cells {wb W : World} {g : Nat} {x y : Value} {t : Nat} (h : wb.heap[g]? = some (.cells #[x, y] t (0, 0))) (hb : Below wb.heap.size wb W) :
    W.heap[g]? = some (.cells #[x, y] t (0, 0)) := (hb.block g (heap_lt h)).trans h

end Go.Proofs.YtjfagmjajpnacalGreatDoor
