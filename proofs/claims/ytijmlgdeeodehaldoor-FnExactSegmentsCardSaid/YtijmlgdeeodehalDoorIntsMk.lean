/- Rows of numbers of a call's own, marked and held against their marks. -/
import Derived.Test.YtijmlgdeeodehalDoorIntsL
import Derived.Test.YtijmlgdeeodehalDoorSegs
namespace Go.Proofs.YtijmlgdeeodehalDoor
open Go.RowKit

/-- A row of numbers of a call's own. -/
def RowI (w : World) (B : Nat) (v : Value) (L : List Int) : Prop := (v = .slice none 0 0 ∧ L = []) ∨
  ∃ (g cap : Nat) (C : Array Value), v = .slice (some ⟨g, 0, none⟩) L.length cap ∧ B ≤ g ∧ w.heap[g]? = some (.cells C 3 (0, 0)) ∧ L.length ≤ C.size ∧ IntsIn C L L.length
theorem rowI_own {w : World} {B : Nat} {v : Value} {L : List Nat} (h : w.ownsRow B 3 1 v L.length (L.map iv)) : RowI w B v (L.map Int.ofNat) := by
  rcases h.2 with ⟨rfl, hn⟩ | ⟨g, cap, cur, rfl, hB, hC, hle, _, hs, ht⟩
  · exact .inl ⟨rfl, by rw [List.eq_nil_of_length_eq_zero hn]; rfl⟩
  · refine .inr ⟨g, cap, cur, by rw [List.length_map], hB, hC, by rw [List.length_map]; omega, ?_⟩
    intro j hj _
    rw [List.length_map] at hj
    have h1 : cur[j]? = (cur.toList.take (L.length * 1))[j]? := by rw [List.getElem?_take_of_lt (by omega)]; simp
    rw [h1, ht, List.getElem?_map, List.getElem?_eq_getElem hj]
    simp [iv]
theorem rowI_form {w : World} {B : Nat} {v : Value} {L : List Int} (h : RowI w B v L) : ∃ ao cap, v = .slice ao L.length cap := by
  rcases h with ⟨rfl, rfl⟩ | ⟨g, cap, C, rfl, _⟩
  · exact ⟨none, 0, rfl⟩
  · exact ⟨_, cap, rfl⟩
theorem rowI_at {w : World} {B n c : Nat} {a : Option Addr} {L : List Int} (h : RowI w B (.slice a n c) L) (hb : ∀ x ∈ L, -9223372036854775808 ≤ x ∧ x ≤ 9223372036854775807) : IntsAt w a L := by
  rcases h with ⟨h1, rfl⟩ | ⟨g, cap, C, h1, _, hC, _, hI⟩
  · exact fun j hj => absurd hj (by simp)
  · cases h1
    exact intsAt_own hC hI hb
theorem rowI_lt {w : World} {B : Nat} {v : Value} {L : List Int} (h : RowI w B v L) : ∀ g, v.ownBlock = some g → B ≤ g ∧ g < w.heap.size := by
  rcases h with ⟨rfl, rfl⟩ | ⟨g, cap, C, rfl, hB, hC, _⟩
  · intro g h; cases h
  · intro g' h
    obtain rfl : g = g' := by simpa [Value.ownBlock] using h
    exact ⟨hB, (Array.getElem?_eq_some_iff.1 hC).1⟩
theorem rowI_keep {w w' : World} {B : Nat} {v : Value} {L : List Int} (h : RowI w B v L) (hk : ∀ g, v.ownBlock = some g → w'.heap[g]? = w.heap[g]?) : RowI w' B v L := by
  rcases h with h | ⟨g, cap, C, rfl, hB, hC, hs, hI⟩
  · exact .inl h
  · exact .inr ⟨g, cap, C, rfl, hB, (hk g rfl).trans hC, hs, hI⟩
theorem rowI_below {w w' : World} {B : Nat} {v : Value} {L : List Int} (h : RowI w B v L) (hb : Below w.heap.size w w') : RowI w' B v L := rowI_keep h (fun g hg => hb.block g (rowI_lt h g hg).2)
/-- Marks from k on. -/
def markI (k n : Nat) : List Int := (List.range n).map (fun j => ((k + j : Nat) : Int))
theorem markI_length (k n : Nat) : (markI k n).length = n := by simp [markI]
theorem markI_get (k n j : Nat) (h : j < (markI k n).length) : (markI k n)[j] = ((k + j : Nat) : Int) := by simp [markI]
theorem intsIn_put' {C : Array Value} {ls : List Int} {k : Nat} (h : IntsIn C ls k) (hk : k < ls.length) (hs : ls.length ≤ C.size) : IntsIn (C.setIfInBounds k (.int .i64 ls[k])) ls (k + 1) := by
  intro j hj hjk
  by_cases e : j = k
  · subst e
    rw [Array.getElem?_setIfInBounds_self_of_lt (by omega)]
  · rw [Array.getElem?_setIfInBounds_ne (by omega)]; exact h j hj (by omega)

set_option maxRecDepth 100000 in
set_option maxHeartbeats 800000 in
theorem markIntS_own (v : Value) (L : List Int) (B k : Nat) (w : World) (hn : L.length ≤ 1048576) (hk : k ≤ 10000000) (h : RowI w B v L) :
    Calls Tryd.prog 14 #[v, .int .i64 (k : Int)] w fun e w' => e = .returned (.int .i64 ((k + L.length : Nat) : Int)) ∧ RowI w' B v (markI k L.length) ∧ w.grownBy w' v.ownBlock := by
  rcases h with ⟨rfl, rfl⟩ | ⟨g, cap, C0, rfl, hB, hC, hs, hI⟩
  · go_enter Tryd.func14, Tryd.ntmps14
    go_wp2
    go_loop [1, 5] (fun kk ii => kk = .int .i64 k ∧ ii = .int .i64 0) (fun _ _ => 0)
    case atStart => exact ⟨rfl, rfl⟩
    case round =>
      obtain ⟨rfl, rfl⟩ := hrel
      go_wp2
      go_ret
      exact ⟨rfl, .inl ⟨rfl, rfl⟩, World.grownBy.refl _ _⟩
  · have HC0 := hide hC
    clear hC hI
    generalize L.length = n at hn hs ⊢
    go_enter Tryd.func14, Tryd.ntmps14
    go_wp2
    go_loopw [1, 5] (fun kk ii wr => ∃ (j : Nat) (C : Array Value), kk = .int .i64 ((k + j : Nat) : Int) ∧ ii = .int .i64 j ∧ j ≤ n ∧ Hid (wr.heap[g]? = some (.cells C 3 (0, 0))) ∧ C.size = C0.size ∧ Hid (IntsIn C (markI k n) j) ∧ Hid (w.grownBy wr (some g))) (fun _ ii _ => n - (intOf ii).toNat)
    case atStart => exact ⟨0, C0, rfl, rfl, Nat.zero_le _, HC0, rfl, fun j _ hj => absurd hj (by omega), World.grownBy.refl _ _⟩
    case round =>
      obtain ⟨j, C, rfl, rfl, hj, HC, hCs, HI, HG⟩ := hrel
      by_cases hlt : j < n
      · have hlt' : decide ((j : Int) < (n : Int)) = true := by simp; omega
        have hi0 : (0 : Int) ≤ (j : Int) := by omega
        have hi1 : (j : Int) < (n : Int) := by omega
        have hq0 := cell_of_row wr g j C _ (0, 0) HC.out
        have hf0 := frozen_of_row wr g j C _ HC.out
        rw [Array.getElem?_eq_getElem (by omega)] at hq0
        have hml := markI_length k n
        have HP := hide (intsIn_put' HI.out (k := j) (by omega) (by omega))
        rw [markI_get] at HP
        clear hml
        go_wp2
        go_roundw
        case rel => exact ⟨j + 1, _, by go_num, by go_num, by omega, heap_setCell_same _ g _ _ _ _ HC.out, by simpa using hCs, HP, grownBy_store HG.out j _⟩
        case measure => simp [intOf]; omega
      · have hlt' : decide ((j : Int) < (n : Int)) = false := by simp; omega
        have hje : j = n := by omega
        subst hje
        go_wp2
        go_ret
        have hml := markI_length k j
        exact ⟨rfl, .inr ⟨g, cap, C, by rw [hml], hB, HC.out, by omega, by rw [hml]; exact HI.out⟩, HG.out⟩

set_option maxRecDepth 100000 in
set_option maxHeartbeats 800000 in
theorem heldIntS_any (ao : Option Addr) (cap n k : Nat) (w : World) (hn : n ≤ 1048576) (hk : k ≤ 10000000) (h : IntsAt w ao (markI k n)) :
    Calls Tryd.prog 15 #[.slice ao n cap, .int .i64 (k : Int)] w fun e w' => e = .returned (.int .i64 ((k + n : Nat) : Int)) ∧ w' = w := by
  have HF := hide h
  clear h
  go_enter Tryd.func15, Tryd.ntmps15
  go_wp2
  go_loop [1, 5] (fun kk ii => ∃ (j : Nat), kk = .int .i64 ((k + j : Nat) : Int) ∧ ii = .int .i64 j ∧ j ≤ n) (fun _ ii => n - (intOf ii).toNat)
  case atStart => exact ⟨0, rfl, rfl, Nat.zero_le _⟩
  case round =>
    obtain ⟨j, rfl, rfl, hj⟩ := hrel
    by_cases hlt : j < n
    · have hlt' : decide ((j : Int) < (n : Int)) = true := by simp; omega
      have hi0 : (0 : Int) ≤ (j : Int) := by omega
      have hi1 : (j : Int) < (n : Int) := by omega
      obtain ⟨b, off, rfl, hbw, hc0, -, -⟩ := HF.out j (by rw [markI_length]; exact hlt)
      rw [markI_get] at hc0
      have hee : (((k + j : Nat) : Int) == ((k + j : Nat) : Int)) = true := by simp
      go_wp2
      go_round
      case rel => exact ⟨j + 1, by go_num, by go_num, by omega⟩
      case measure => simp [intOf]; omega
    · have hlt' : decide ((j : Int) < (n : Int)) = false := by simp; omega
      have hje : j = n := by omega
      subst hje
      go_wp2
      go_ret
      exact ⟨rfl, rfl⟩
end Go.Proofs.YtijmlgdeeodehalDoor
