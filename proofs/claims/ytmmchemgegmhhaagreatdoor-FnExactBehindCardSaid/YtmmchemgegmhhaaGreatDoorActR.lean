/- Plain facts on acts, one behind the other. -/
import Derived.Test.YtmmchemgegmhhaaGreatDoorActQ
import Derived.Test.YtmmchemgegmhhaaGreatDoorLawD0
namespace Go.Proofs.YtmmchemgegmhhaaGreatDoor
open Go.RowKit

theorem szFs_le : ∀ (fs : List FileD) (n : Int), 0 ≤ n → szFs fs n ≤ n
  | [], _, _ => Int.le_refl _
  | F :: r, n, h => by
    unfold szFs
    split
    · omega
    · have := szF_le F n h
      have := szFs_le r (szF F n) (by omega)
      omega

theorem actsF_len : ∀ (qs : List ActD) (fs : List FileD), fs.length ≤ 1048576 → (actsF fs qs).1.length ≤ 1048576
  | [], fs, h => h
  | A :: r, fs, h => by
    rw [actsF]
    cases hact : actD fs A with
    | none => exact h
    | some g =>
      have := (disk_files (actD_ok hact)).1
      exact actsF_len r g (by omega)

theorem actsF_small : ∀ (qs : List ActD) (fs : List FileD), (∀ F ∈ fs, F.name.size ≤ 1048576 ∧ F.text.size ≤ 1048576) → ∀ F ∈ (actsF fs qs).1, F.name.size ≤ 1048576 ∧ F.text.size ≤ 1048576
  | [], fs, h => h
  | A :: r, fs, h => by
    rw [actsF]
    cases hact : actD fs A with
    | none => exact h
    | some g =>
      have hgo := disk_files (actD_ok hact)
      exact actsF_small r g (fun F hF => by have := hgo.2 F hF; omega)

theorem actsF_count : ∀ (qs : List ActD) (fs : List FileD), (actsF fs qs).2 ≤ qs.length
  | [], _ => Nat.le_refl _
  | A :: r, fs => by
    rw [actsF]
    cases hact : actD fs A with
    | none => exact Nat.zero_le _
    | some g =>
      have := actsF_count r g
      simp
      omega
end Go.Proofs.YtmmchemgegmhhaaGreatDoor
