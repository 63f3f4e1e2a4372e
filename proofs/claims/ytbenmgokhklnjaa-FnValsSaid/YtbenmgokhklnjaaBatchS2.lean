/- The specification's BatchText. -/
import Derived.Test.YtbenmgokhklnjaaBatchS1
import Derived.Deep.RegionHeld3
import Derived.Deep.CutRange
import Derived.Deep.RegionLaw
namespace Go.Proofs.Ytbenmgokhklnjaa
open Go.RowKit

/-- Has a batch a text? -/
def textOkD (q : Int) (fs : List ChangeD) : Bool := batchOkD q fs && decide ((batchL q.toNat fs).length ≤ 9000)
/-- The text of a batch, or none. -/
def textD (q : Int) (fs : List ChangeD) : ByteArray := if textOkD q fs then ⟨(batchL q.toNat fs).toArray⟩ else ⟨#[]⟩

theorem batchOkD_bounds {q : Int} {fs : List ChangeD} (h : batchOkD q fs = true) : 0 ≤ q ∧ q ≤ 1000000000 ∧ 1 ≤ fs.length ∧ fs.length ≤ 40 := by
  simp only [batchOkD, Bool.and_eq_true, decide_eq_true_eq] at h
  omega

theorem changesL_len : ∀ (a : List ChangeD), (∀ A ∈ a, A.key.size ≤ 1048576 ∧ A.value.size ≤ 1048576) → (changesL a).length ≤ a.length * 2097163
  | [], _ => by simp [changesL]
  | A :: r, h => by
    have h1 := h A (List.mem_cons_self ..)
    have h2 := changesL_len r (fun B hB => h B (List.mem_cons_of_mem _ hB))
    have h3 := changeB_size A
    have e : (changeB A).data.toList.length = (changeB A).size := rfl
    simp only [changesL, List.length_append, List.length_cons]
    omega
theorem three_below {w w' : World} {b n : Nat} {x y : ByteArray} {z : Bool} (h : w.cell? ⟨b, 0, none⟩ = some (.string x) ∧ w.cell? ⟨b, 1, none⟩ = some (.string y) ∧ w.cell? ⟨b, 2, none⟩ = some (.bool z)) (hb : Below n w w') (hlt : b < n) :
    w'.cell? ⟨b, 0, none⟩ = some (.string x) ∧ w'.cell? ⟨b, 1, none⟩ = some (.string y) ∧ w'.cell? ⟨b, 2, none⟩ = some (.bool z) :=
  ⟨(hb.cell (p := ⟨b, 0, none⟩) hlt).trans h.1, (hb.cell (p := ⟨b, 1, none⟩) hlt).trans h.2.1, (hb.cell (p := ⟨b, 2, none⟩) hlt).trans h.2.2⟩
end Go.Proofs.Ytbenmgokhklnjaa
