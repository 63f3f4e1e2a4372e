/- Right values, plainly. -/
import Derived.Test.YtpibnhodlojajaaTxtA
namespace Go.Proofs.Ytpibnhodlojajaa
open Go.RowKit

structure ValD where
  kind : Int
  til : Int
  text : ByteArray
  items : List ByteArray

/-- Each is below the next one. -/
def Asc (L : List ByteArray) : Prop := ∀ j (h : j + 1 < L.length), Op.bytesLess L[j].toList L[j + 1].toList = true
/-- The first, third and so on: each is below the next one of them. -/
def AscF (L : List ByteArray) : Prop := ∀ j (h : j + 2 < L.length), j % 2 = 0 → Op.bytesLess L[j].toList L[j + 2].toList = true
def Small (L : List ByteArray) : Prop := ∀ s ∈ L, s.size ≤ 60
def TextsR (L : List ByteArray) : Prop := 1 ≤ L.length ∧ L.length ≤ 24 ∧ Small L
/-- What it has beside its time is right. -/
def KindR (v : ValD) : Prop := (v.kind = 1 ∧ v.items.length = 0 ∧ v.text.size ≤ 60) ∨
  (v.kind = 2 ∧ v.text.size = 0 ∧ TextsR v.items) ∨ (v.kind = 3 ∧ v.text.size = 0 ∧ TextsR v.items ∧ v.items.length % 2 = 0 ∧ AscF v.items) ∨ (v.kind = 4 ∧ v.text.size = 0 ∧ TextsR v.items ∧ Asc v.items)
/-- A right value. -/
def ValR (v : ValD) : Prop := 0 ≤ v.til ∧ v.til ≤ 100000 ∧ KindR v

/-- The first, third and so on: k of them. -/
def evN (L : List ByteArray) (k : Nat) : List ByteArray := (List.range k).map (fun j => L.getD (2 * j) ⟨#[]⟩)
theorem evN_length (L : List ByteArray) (k : Nat) : (evN L k).length = k := by simp [evN]
theorem evN_get (L : List ByteArray) (k j : Nat) (h : j < (evN L k).length) (h2 : 2 * j < L.length) : (evN L k)[j] = L[2 * j] := by
  simp [evN, List.getD, List.getElem?_eq_getElem h2]
theorem evN_succ (L : List ByteArray) (k : Nat) (h : 2 * k < L.length) : evN L (k + 1) = evN L k ++ [L[2 * k]] := by
  simp [evN, List.range_succ, List.getD, List.getElem?_eq_getElem h]
theorem evN_asc (L : List ByteArray) : Asc (evN L ((L.length + 1) / 2)) ↔ AscF L := by
  constructor
  · intro h j hj h2
    have hl := evN_length L ((L.length + 1) / 2)
    have := h (j / 2) (by omega)
    rw [evN_get L _ _ _ (by omega), evN_get L _ _ _ (by omega)] at this
    have e1 : 2 * (j / 2) = j := by omega
    have e2 : 2 * (j / 2 + 1) = j + 2 := by omega
    simp only [e1, e2] at this
    exact this
  · intro h j hj
    have hl := evN_length L ((L.length + 1) / 2)
    rw [evN_get L _ _ _ (by omega), evN_get L _ _ _ (by omega)]
    exact h (2 * j) (by omega) (by omega)
theorem evN_small (L : List ByteArray) (k : Nat) (hk : 2 * k ≤ L.length + 1) (n : Nat) (h : ∀ s ∈ L, s.size ≤ n) : ∀ s ∈ evN L k, s.size ≤ n := by
  intro s hs
  obtain ⟨j, hj, rfl⟩ := List.getElem_of_mem hs
  have hl := evN_length L k
  rw [evN_get L k j hj (by omega)]
  exact h _ (List.getElem_mem _)
end Go.Proofs.Ytpibnhodlojajaa
