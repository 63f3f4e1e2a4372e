/- The text of a value, plainly. -/
import Derived.Test.YtbenmgokhklnjaaValP
import Derived.Test.YtbenmgokhklnjaaShortB
namespace Go.Proofs.Ytbenmgokhklnjaa
open Go.RowKit

/-- Short texts, one behind the other. -/
def textsL : List ByteArray → List UInt8
  | [] => []
  | s :: r => (shortB s).data.toList ++ textsL r
theorem textsL_snoc : ∀ (a : List ByteArray) (s : ByteArray), textsL (a ++ [s]) = textsL a ++ (shortB s).data.toList
  | [], s => by simp [textsL]
  | A :: r, s => by simp [textsL, textsL_snoc r s]
theorem textsL_take {L : List ByteArray} {k : Nat} (h : k < L.length) : textsL (L.take (k + 1)) = textsL (L.take k) ++ (shortB L[k]).data.toList := by
  rw [List.take_succ_eq_append_getElem h, textsL_snoc]
theorem textsL_len : ∀ (L : List ByteArray), (∀ s ∈ L, s.size ≤ 60) → (textsL L).length ≤ 65 * L.length
  | [], _ => by simp [textsL]
  | s :: r, h => by
    have h1 := h s (List.mem_cons_self ..)
    have h2 := textsL_len r (fun x hx => h x (List.mem_cons_of_mem _ hx))
    have h3 := shortB_size s
    have e : (shortB s).data.toList.length = (shortB s).size := rfl
    rw [textsL, List.length_append, e, List.length_cons]
    omega
/-- What stands ahead of the items. -/
def headV (v : ValD) : ByteArray := ⟨#[UInt8.ofNat v.kind.toNat]⟩ ++ ⟨(Wd.varF 5 v.til.toNat).toArray⟩ ++ shortB v.text ++ ⟨(Wd.varF 5 v.items.length).toArray⟩
/-- The text of a right value. -/
def valT (v : ValD) : ByteArray := ⟨((headV v).data.toList ++ textsL v.items).toArray⟩
theorem headV_size (v : ValD) : (headV v).size ≤ v.text.size + 16 := by
  have h1 := Wd.varF_length 5 v.til.toNat
  have h2 := Wd.varF_length 5 v.items.length
  have h3 := shortB_size v.text
  have e : (⟨#[UInt8.ofNat v.kind.toNat]⟩ : ByteArray).size = 1 := rfl
  rw [headV, ByteArray.size_append, ByteArray.size_append, ByteArray.size_append, e, size_of_list (Wd.varF 5 v.til.toNat), size_of_list (Wd.varF 5 v.items.length)]
  omega
theorem kindR_one {v : ValD} (h : KindR v) : 1 ≤ v.kind ∧ v.kind ≤ 4 := by
  rcases h with h | h | h | h
  all_goals (have := h.1; omega)
theorem valR_bounds {v : ValD} (h : ValR v) : 1 ≤ v.kind ∧ v.kind ≤ 4 ∧ 0 ≤ v.til ∧ v.til ≤ 100000 ∧ v.text.size ≤ 60 ∧ v.items.length ≤ 24 ∧ ∀ s ∈ v.items, s.size ≤ 60 := by
  obtain ⟨h1, h2, h3⟩ := h
  have h4 := kindR_one h3
  refine ⟨h4.1, h4.2, h1, h2, ?_⟩
  rcases h3 with h | h | h | h
  · refine ⟨h.2.2, by omega, fun s hs => ?_⟩
    rw [List.eq_nil_of_length_eq_zero h.2.1] at hs
    exact absurd hs List.not_mem_nil
  · exact ⟨by omega, h.2.2.2.1, h.2.2.2.2⟩
  · exact ⟨by omega, h.2.2.1.2.1, h.2.2.1.2.2⟩
  · exact ⟨by omega, h.2.2.1.2.1, h.2.2.1.2.2⟩
/-- The kind as a byte. -/
theorem kind_byte {k : Int} (h0 : 1 ≤ k) (h1 : k ≤ 4) : bv (UInt8.ofNat k.toNat) = .int .u8 k := by
  unfold bv
  congr 1
  simp only [UInt8.toNat_ofNat']
  omega
theorem cat_back (a b : ByteArray) : (⟨(a.data.toList ++ b.data.toList).toArray⟩ : ByteArray) = a ++ b := by
  apply ByteArray.ext
  simp
end Go.Proofs.Ytbenmgokhklnjaa
