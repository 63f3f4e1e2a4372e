/- Slices of texts of the call's own: told the same, marked, held. -/
import Derived.Test.YtgalhnbfdgpfpajDoorMarkText
namespace Go.Proofs.YtgalhnbfdgpfpajDoor
open Go.RowKit

theorem row_cell {w : World} {B g n cap : Nat} {L : List (List UInt8)} (h : w.ownsRow B 9 1 (.slice (some ⟨g, 0, none⟩) n cap) n (L.map sv)) (j : Nat) (hj : j < n) (x : List UInt8) (hx : L[j]? = some x) :
    w.cell? ⟨g, j, none⟩ = some (.string ⟨x.toArray⟩) := by
  rw [h.cellAt j (by omega), List.getElem?_map, hx]; rfl

theorem eq_same (v1 v0 : Value) (L : List (List UInt8)) (w : World) (B1 B0 : Nat) (hL : L.length ≤ 70368744177664) (h1 : w.ownsRow B1 9 1 v1 L.length (L.map sv)) (h0 : w.ownsRow B0 9 1 v0 L.length (L.map sv)) :
    Calls Tryd.prog 9 #[v1, v0] w fun e w' => e = .returned (.bool true) ∧ ∃ q, w' = w.drewN q := by
  obtain ⟨a1, c1, rfl, H1⟩ : ∃ a c, v1 = .slice a L.length c ∧ Hid (0 < L.length → ∃ g, a = some ⟨g, 0, none⟩ ∧ w.ownsRow B1 9 1 (.slice (some ⟨g, 0, none⟩) L.length c) L.length (L.map sv)) := by
    rcases h1.2 with ⟨rfl, hn⟩ | ⟨g, cap, cur, rfl, _⟩
    · exact ⟨none, 0, by rw [hn], fun h => absurd h (by omega)⟩
    · exact ⟨_, cap, rfl, fun _ => ⟨g, rfl, h1⟩⟩
  obtain ⟨a0, c0, rfl, H0⟩ : ∃ a c, v0 = .slice a L.length c ∧ Hid (0 < L.length → ∃ g, a = some ⟨g, 0, none⟩ ∧ w.ownsRow B0 9 1 (.slice (some ⟨g, 0, none⟩) L.length c) L.length (L.map sv)) := by
    rcases h0.2 with ⟨rfl, hn⟩ | ⟨g, cap, cur, rfl, _⟩
    · exact ⟨none, 0, by rw [hn], fun h => absurd h (by omega)⟩
    · exact ⟨_, cap, rfl, fun _ => ⟨g, rfl, h0⟩⟩
  clear h1 h0
  go_enter Tryd.func9, Tryd.ntmps9
  go_wp2
  go_loopw [5] (fun i wr => ∃ k q : Nat, k ≤ L.length ∧ i = .int .i64 k ∧ wr = w.drewN q) (fun i _ => L.length - (intOf i).toNat)
  case atStart => exact ⟨0, 0, Nat.zero_le _, rfl, rfl⟩
  case round =>
    obtain ⟨k, q, hk, rfl, rfl⟩ := hrel
    by_cases hlt : k < L.length
    · obtain ⟨g1, rfl, r1⟩ := H1.out (by omega)
      obtain ⟨g0, rfl, r0⟩ := H0.out (by omega)
      have hc1 := row_cell r1 k hlt _ (List.getElem?_eq_getElem hlt)
      have hc0 := row_cell r0 k hlt _ (List.getElem?_eq_getElem hlt)
      clear r1 r0
      have hi0 : (0 : Int) ≤ (k : Int) := by omega
      have hi1 : (k : Int) < (L.length : Int) := by omega
      go_wp2
      go_quiet (fail)
      go_wp2
      go_roundw
      case rel => exact ⟨k + 1, q + nq, by omega, by go_num, rfl⟩
      case measure => simp [intOf]; omega
    · go_wp2
      go_ret
      exact ⟨rfl, q, rfl⟩

/-- The marks k, k + 1, .., n of them. -/
def marks : Nat → Nat → List (List UInt8)
  | _, 0 => []
  | k, n + 1 => mk k :: marks (k + 1) n
theorem marks_length : ∀ n k, (marks k n).length = n
  | 0, _ => rfl
  | n + 1, k => by simp [marks, marks_length n (k + 1)]
theorem marks_get : ∀ n k j, j < n → (marks k n)[j]? = some (mk (k + j))
  | 0, _, _, h => absurd h (by omega)
  | n + 1, k, 0, _ => by simp [marks]
  | n + 1, k, j + 1, h => by
    rw [marks, List.getElem?_cons_succ, marks_get n (k + 1) j (by omega)]
    congr 2; omega

/-- Behind the first i elements have been marked. -/
theorem marked_next (L : List (List UInt8)) (i : Nat) (h : i < L.length) : ((marks 1 i ++ L.drop i).map sv).set i (sv (mk (1 + i))) = (marks 1 (i + 1) ++ L.drop (i + 1)).map sv := by
  apply List.ext_getElem?
  intro j
  have hl := marks_length i 1
  have hl2 := marks_length (i + 1) 1
  rw [List.getElem?_set]
  by_cases hj : i = j
  · subst hj
    rw [if_pos rfl, if_pos (by simp; omega), List.getElem?_map, List.getElem?_append_left (by omega), marks_get (i + 1) 1 i (by omega)]
    rfl
  · rw [if_neg hj, List.getElem?_map, List.getElem?_map]
    by_cases h2 : j < i
    · rw [List.getElem?_append_left (by omega), List.getElem?_append_left (by omega), marks_get i 1 j h2, marks_get (i + 1) 1 j (by omega)]
    · rw [List.getElem?_append_right (by omega), List.getElem?_append_right (by omega), hl, hl2, List.getElem?_drop, List.getElem?_drop]
      congr 2; omega

theorem marked_cell (L : List (List UInt8)) (i : Nat) (h : i < L.length) {w : World} {B g cap : Nat} (hown : w.ownsRow B 9 1 (.slice (some ⟨g, 0, none⟩) L.length cap) L.length ((marks 1 i ++ L.drop i).map sv)) :
    w.cell? ⟨g, i, none⟩ = some (.string ⟨L[i].toArray⟩) := by
  rw [hown.cellAt i (by omega), List.getElem?_map, List.getElem?_append_right (by rw [marks_length]; omega), marks_length, Nat.sub_self, List.getElem?_drop, Nat.add_zero, List.getElem?_eq_getElem h]
  rfl

set_option maxHeartbeats 1000000 in
theorem mark_row (v : Value) (L : List (List UInt8)) (w : World) (B : Nat) (hL : L.length ≤ 1000000) (h : w.ownsRow B 9 1 v L.length (L.map sv)) :
    Calls Tryd.prog 10 #[v, .int .i64 1] w fun e w' => e = .returned (.int .i64 (1 + (L.length : Int))) ∧ w'.ownsRow B 9 1 v L.length ((marks 1 L.length).map sv) ∧ w.grownBy w' v.ownBlock := by
  rcases h.2 with ⟨rfl, hn⟩ | ⟨g, cap, cur, rfl, hg, hh, hn, _⟩
  · have hl : L = [] := List.eq_nil_of_length_eq_zero hn
    subst hl
    go_enter Tryd.func10, Tryd.ntmps10
    go_wp2
    go_loop [1, 5] (fun k i => k = .int .i64 1 ∧ i = .int .i64 0) (fun _ _ => 0)
    case atStart => exact ⟨rfl, rfl⟩
    case round =>
      obtain ⟨rfl, rfl⟩ := hrel
      go_wp2
      go_ret
      exact ⟨rfl, h, World.grownBy.refl _ _⟩
  · clear hh
    go_enter Tryd.func10, Tryd.ntmps10
    go_wp2
    go_loopw [1, 5] (fun k i wr => ∃ j : Nat, j ≤ L.length ∧ i = .int .i64 j ∧ k = .int .i64 (1 + (j : Int)) ∧ wr.ownsRow B 9 1 (.slice (some ⟨g, 0, none⟩) L.length cap) L.length ((marks 1 j ++ L.drop j).map sv) ∧ w.grownBy wr (some g)) (fun _ i _ => L.length - (intOf i).toNat)
    case atStart => exact ⟨0, Nat.zero_le _, rfl, rfl, h, World.grownBy.refl _ _⟩
    case round =>
      obtain ⟨j, hj, rfl, rfl, hown, hgr⟩ := hrel
      by_cases hlt : j < L.length
      · have HN := hide (marked_next L j hlt)
        have HO := hide hown
        have HG := hide hgr
        clear hown hgr h
        go_wp2_with (go_at_call 23; refine (mark_int _ _ (by omega) (by omega)).mono ?_; rintro e w1 ⟨rfl, hb1⟩; have hown1 := ownsRow_below HO.out hb1; have hfr := hown1.frozenAt j; have hcl := marked_cell L j hlt hown1; have HO1 := hide hown1; have HB := hide hb1; clear hown1 hb1)
        go_roundw
        case rel =>
          refine ⟨j + 1, by omega, by go_num, by go_num, ?_, grownBy_store (grownBy_trans HG.out (grownBy_below _ HB.out)) j _⟩
          rw [← HN.out]
          exact (HO1.out.stored j (sv (mk (1 + j)))).1
        case measure => simp [intOf]; omega
      · have hjl : Hid (j = L.length) := by show _ = _; omega
        go_wp2
        go_ret
        rw [← hjl.out]
        refine ⟨rfl, ?_, hgr⟩
        have := hown
        rw [List.drop_of_length_le (by have := hjl.out; omega), List.append_nil] at this
        rw [hjl.out] at this ⊢
        exact this

set_option maxHeartbeats 1000000 in
theorem held_row (v : Value) (n : Nat) (w : World) (B : Nat) (hL : n ≤ 1000000) (h : w.ownsRow B 9 1 v n ((marks 1 n).map sv)) :
    Calls Tryd.prog 11 #[v, .int .i64 1] w fun e w' => e = .returned (.int .i64 (1 + (n : Int))) ∧ Below w.heap.size w w' := by
  rcases h.2 with ⟨rfl, hn⟩ | ⟨g, cap, cur, rfl, hg, hh, hn, _⟩
  · subst hn
    go_enter Tryd.func11, Tryd.ntmps11
    go_wp2
    go_loop [1, 5] (fun k i => k = .int .i64 1 ∧ i = .int .i64 0) (fun _ _ => 0)
    case atStart => exact ⟨rfl, rfl⟩
    case round =>
      obtain ⟨rfl, rfl⟩ := hrel
      go_wp2
      go_ret
      exact ⟨rfl, Below.refl _ _⟩
  · have hgl := (h.lt g rfl).2
    clear hh
    go_enter Tryd.func11, Tryd.ntmps11
    go_wp2
    go_loopw [1, 5] (fun k i wr => ∃ j : Nat, j ≤ n ∧ i = .int .i64 j ∧ k = .int .i64 (1 + (j : Int)) ∧ Below w.heap.size w wr) (fun _ i _ => n - (intOf i).toNat)
    case atStart => exact ⟨0, Nat.zero_le _, rfl, rfl, Below.refl _ _⟩
    case round =>
      obtain ⟨j, hj, rfl, rfl, hb⟩ := hrel
      have hbs := hb.size
      by_cases hlt : j < n
      · have hk0 := row_cell h j hlt _ (marks_get n 1 j hlt)
        have hc : wr.cell? ⟨g, j, none⟩ = _ := (hb.cell (p := ⟨g, j, none⟩) hgl).trans hk0
        have HK := hide hk0
        have HB := hide hb
        have htn : (1 + (j : Int)).toNat = 1 + j := by omega
        clear hk0 hb h
        have hi0 : (0 : Int) ≤ (j : Int) := by omega
        have hi1 : (j : Int) < (n : Int) := by omega
        go_wp2
        go_region_held3 (fun w' => w'.cell? ⟨g, j, none⟩ = some (.string ⟨(mk (1 + j)).toArray⟩)) (first | go_keep | (exact ((HB.out.trans ((Below.refl _ _).drew.trans (hb1.mono hbs))).cell (p := ⟨g, j, none⟩) hgl).trans HK.out)) ((go_at_call 23; refine (mark_int _ _ (by omega) (by omega)).mono ?_; rintro e w1 ⟨rfl, hb1⟩))
        go_wp2
        go_roundw
        case rel => exact ⟨j + 1, by omega, by go_num, by go_num, HB.out.trans ((Below.refl _ _).drew.trans (hb1.mono hbs))⟩
        case measure => simp [intOf]; omega
      · have hjl : Hid (j = n) := by show _ = _; omega
        go_wp2
        go_ret
        rw [← hjl.out]
        exact ⟨rfl, hb⟩
end Go.Proofs.YtgalhnbfdgpfpajDoor
