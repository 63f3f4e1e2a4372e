/- Acts on files, plainly. -/
import Derived.Test.YtmmchemgegmhhaaGreatDoorPutP
import Derived.Test.YtmmchemgegmhhaaGreatDoorDiskK
namespace Go.Proofs.YtmmchemgegmhhaaGreatDoor
open Go.RowKit

structure ActD where
  kind : Int
  name : ByteArray
  text : ByteArray
  toN : ByteArray

/-- The file of the act's name, or a new one. -/
def actF (fs : List FileD) (A : ActD) : FileD := (fileD fs A.name).getD ⟨A.name, ⟨#[]⟩, 0⟩
/-- What an act makes of files. -/
def rawD (fs : List FileD) (A : ActD) : Option (List FileD) :=
  if A.kind = 1 then some (putD fs ⟨(actF fs A).name, (actF fs A).text ++ A.text, (actF fs A).kept⟩)
  else if (fileD fs A.name).isSome = false then none
  else if A.kind = 2 then some (putD fs ⟨(actF fs A).name, (actF fs A).text, (actF fs A).text.size⟩)
  else if A.kind = 3 then (if (decide ((actF fs A).kept < ((actF fs A).text.size : Int)) || (A.toN.toList == A.name.toList) || !nameOkD A.toN) = true then none else some (putD (withoutD fs A.name) ⟨A.toN, (actF fs A).text, (actF fs A).kept⟩))
  else if A.kind = 4 then some (withoutD fs A.name)
  else none
/-- What stands ahead of it. -/
def actOk (fs : List FileD) (A : ActD) : Bool := diskOkD fs && (nameOkD A.name && (!(!(A.kind == 3) && !A.toN.toList.isEmpty) && !(!(A.kind == 1) && !A.text.toList.isEmpty)))
/-- DoAct. -/
def actD (fs : List FileD) (A : ActD) : Option (List FileD) := if actOk fs A = true then (rawD fs A).bind (fun g => if diskOkD g = true then some g else none) else none

theorem actD_no {fs : List FileD} {A : ActD} (h : actOk fs A = false) : actD fs A = none := by rw [actD, if_neg (by rw [h]; decide)]
theorem actD_raw {fs : List FileD} {A : ActD} (h : actOk fs A = true) (hr : rawD fs A = none) : actD fs A = none := by rw [actD, if_pos h, hr]; rfl
theorem actD_bad {fs g : List FileD} {A : ActD} (h : actOk fs A = true) (hr : rawD fs A = some g) (hg : diskOkD g = false) : actD fs A = none := by
  rw [actD, if_pos h, hr]
  show (if diskOkD g = true then some g else none) = none
  rw [if_neg (by rw [hg]; decide)]
theorem actD_yes {fs g : List FileD} {A : ActD} (h : actOk fs A = true) (hr : rawD fs A = some g) (hg : diskOkD g = true) : actD fs A = some g := by
  rw [actD, if_pos h, hr]
  show (if diskOkD g = true then some g else none) = some g
  rw [if_pos hg]
end Go.Proofs.YtmmchemgegmhhaaGreatDoor
