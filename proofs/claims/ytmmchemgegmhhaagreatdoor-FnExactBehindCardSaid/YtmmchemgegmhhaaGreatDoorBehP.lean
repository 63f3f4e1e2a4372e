/- What the power leaves is small; and what is opened behind it is one, whatever order the drops have. -/
import Derived.Test.YtmmchemgegmhhaaGreatDoorCutAll
import Derived.Test.YtmmchemgegmhhaaGreatDoorOpnP
namespace Go.Proofs.YtmmchemgegmhhaaGreatDoor
open Go.RowKit

theorem cutD_ok {fs r : List FileD} {qs : List ActD} {wh : Int} {ls : List Int} (h : cutD fs qs wh ls = some r) : ∃ g, diskOkD g = true ∧ r = lostD g ls := by
  unfold cutD at h
  split at h
  · cases h
  · split at h
    · cases h
    · split at h
      · rename_i hg
        exact ⟨_, hg, (Option.some.inj h).symm⟩
      · cases h
theorem lostF_small {F : FileD} (n : Int) (h : fileOkD F = true) : (lostF F n).name.size ≤ 1048576 ∧ (lostF F n).text.size ≤ 1048576 := by
  unfold fileOkD at h
  simp only [Bool.and_eq_true, decide_eq_true_eq] at h
  have h1 : F.name.size ≤ 1048576 := by
    have := h.1
    unfold nameOkD at this
    simp only [Bool.and_eq_true, decide_eq_true_eq] at this
    omega
  refine ⟨h1, ?_⟩
  show (F.text.extract 0 (staysI F n).toNat).size ≤ 1048576
  rw [ByteArray.size_extract]
  omega
theorem lostD_small : ∀ (g : List FileD) (ls : List Int), (∀ F ∈ g, fileOkD F = true) → ∀ F ∈ lostD g ls, F.name.size ≤ 1048576 ∧ F.text.size ≤ 1048576
  | [], _, _, F, hF => absurd hF List.not_mem_nil
  | G :: r, [], h, F, hF => by
    rcases List.mem_cons.1 hF with e | hF
    · rw [e]; exact lostF_small 0 (h G (by simp))
    · exact lostD_small r [] (fun X hX => h X (by simp [hX])) F hF
  | G :: r, n :: l, h, F, hF => by
    rcases List.mem_cons.1 hF with e | hF
    · rw [e]; exact lostF_small n (h G (by simp))
    · exact lostD_small r l (fun X hX => h X (by simp [hX])) F hF
theorem cut_small {fs r : List FileD} {qs : List ActD} {wh : Int} {ls : List Int} (h : cutD fs qs wh ls = some r) : r.length ≤ 30 ∧ ∀ F ∈ r, F.name.size ≤ 1048576 ∧ F.text.size ≤ 1048576 := by
  obtain ⟨g, hg, rfl⟩ := cutD_ok h
  have h1 := (disk_iff g).1 hg
  exact ⟨by rw [lostD_length]; exact h1.1, lostD_small g ls h1.2.1⟩
/-- What Behind answers. -/
def behOk (fs : List FileD) (qs : List ActD) (wh : Int) (ls : List Int) (room : Int) : Bool := match cutD fs qs wh ls with
  | none => false
  | some g => openSB g room
def behG (fs : List FileD) (qs : List ActD) (wh : Int) (ls : List Int) : List FileD := (cutD fs qs wh ls).getD []
def behFs (fs : List FileD) (qs : List ActD) (wh : Int) (ls : List Int) (room : Int) : List FileD := bif behOk fs qs wh ls room then (actsF (behG fs qs wh ls) (actsS (behG fs qs wh ls))).1 else []
def behDir (fs : List FileD) (qs : List ActD) (wh : Int) (ls : List Int) (room : Int) : List SpotD := bif behOk fs qs wh ls room then dirD (behG fs qs wh ls) else []
def behRoom (fs : List FileD) (qs : List ActD) (wh : Int) (ls : List Int) (room : Int) : Int := bif behOk fs qs wh ls room then room else 0
def behAct (fs : List FileD) (qs : List ActD) (wh : Int) (ls : List Int) (room : Int) : Int := bif behOk fs qs wh ls room then ((lastG (behG fs qs wh ls)).num : Int) else 0
def behSeq (fs : List FileD) (qs : List ActD) (wh : Int) (ls : List Int) (room : Int) : Int := bif behOk fs qs wh ls room then seqD (segsL (behG fs qs wh ls)) else 0
end Go.Proofs.YtmmchemgegmhhaaGreatDoor
