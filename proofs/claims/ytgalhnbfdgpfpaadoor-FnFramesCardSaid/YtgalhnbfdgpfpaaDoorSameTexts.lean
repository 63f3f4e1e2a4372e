/- Two slices of texts that are the same, told so. -/
import Derived.Test.YtgalhnbfdgpfpaaDoorBase
namespace Go.Proofs.YtgalhnbfdgpfpaaDoor
open Go.RowKit

theorem text_cell {w : World} {B g n cap : Nat} {L : List (List UInt8)} (h : w.ownsRow B 9 1 (.slice (some ⟨g, 0, none⟩) n cap) n (L.map sv)) (j : Nat) (hj : j < n) (x : List UInt8) (hx : L[j]? = some x) :
    w.cell? ⟨g, j, none⟩ = some (.string ⟨x.toArray⟩) := by
  rw [h.cellAt j (by omega), List.getElem?_map, hx]; rfl

theorem same_texts (v1 v0 : Value) (L : List (List UInt8)) (w : World) (B1 B0 : Nat) (hL : L.length ≤ 70368744177664) (h1 : w.ownsRow B1 9 1 v1 L.length (L.map sv)) (h0 : w.ownsRow B0 9 1 v0 L.length (L.map sv)) :
    Calls Tryd.prog 25 #[v1, v0] w fun e w' => e = .returned (.bool true) ∧ ∃ q, w' = w.drewN q := by
  obtain ⟨a1, c1, rfl, H1⟩ : ∃ a c, v1 = .slice a L.length c ∧ Hid (0 < L.length → ∃ g, a = some ⟨g, 0, none⟩ ∧ w.ownsRow B1 9 1 (.slice (some ⟨g, 0, none⟩) L.length c) L.length (L.map sv)) := by
    rcases h1.2 with ⟨rfl, hn⟩ | ⟨g, cap, cur, rfl, _⟩
    · exact ⟨none, 0, by rw [hn], fun h => absurd h (by omega)⟩
    · exact ⟨_, cap, rfl, fun _ => ⟨g, rfl, h1⟩⟩
  obtain ⟨a0, c0, rfl, H0⟩ : ∃ a c, v0 = .slice a L.length c ∧ Hid (0 < L.length → ∃ g, a = some ⟨g, 0, none⟩ ∧ w.ownsRow B0 9 1 (.slice (some ⟨g, 0, none⟩) L.length c) L.length (L.map sv)) := by
    rcases h0.2 with ⟨rfl, hn⟩ | ⟨g, cap, cur, rfl, _⟩
    · exact ⟨none, 0, by rw [hn], fun h => absurd h (by omega)⟩
    · exact ⟨_, cap, rfl, fun _ => ⟨g, rfl, h0⟩⟩
  clear h1 h0
  go_enter Tryd.func25, Tryd.ntmps25
  go_wp2
  go_loopw [5] (fun i wr => ∃ k q : Nat, k ≤ L.length ∧ i = .int .i64 k ∧ wr = w.drewN q) (fun i _ => L.length - (intOf i).toNat)
  case atStart => exact ⟨0, 0, Nat.zero_le _, rfl, rfl⟩
  case round =>
    obtain ⟨k, q, hk, rfl, rfl⟩ := hrel
    by_cases hlt : k < L.length
    · obtain ⟨g1, rfl, r1⟩ := H1.out (by omega)
      obtain ⟨g0, rfl, r0⟩ := H0.out (by omega)
      have hc1 := text_cell r1 k hlt _ (List.getElem?_eq_getElem hlt)
      have hc0 := text_cell r0 k hlt _ (List.getElem?_eq_getElem hlt)
      clear r1 r0
      have hi0 : (0 : Int) ≤ (k : Int) := by omega
      have hi1 : (k : Int) < (L.length : Int) := by omega
      go_wp2
      go_quiet (fail)
      go_wp2
      go_roundw
      case rel => exact ⟨k + 1, q + nq, by omega, by go_num, rfl⟩
      case measure => simp [intOf]; omega
    · go_wp2
      go_ret
      exact ⟨rfl, q, rfl⟩
end Go.Proofs.YtgalhnbfdgpfpaaDoor
