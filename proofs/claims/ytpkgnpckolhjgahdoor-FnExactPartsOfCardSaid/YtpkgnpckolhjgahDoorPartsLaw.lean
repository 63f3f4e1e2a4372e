/- The law on PartsOf: both sides tell the same parts; what is told lies in memory of its own, and a further call leaves it alone. -/
import Derived.Test.YtpkgnpckolhjgahDoorPartsJ
namespace Go.Proofs.YtpkgnpckolhjgahDoor
open Go.RowKit

/-- What one call leaves: the parts in memory of its own. -/
def Gives (L : List (List UInt8)) (ok : Bool) (w : World) (e : Ending) (w' : World) : Prop :=
  ∃ v, e = .returned (.tuple #[v, .bool ok]) ∧ w'.ownsRow w.heap.size 9 1 v L.length (L.map sv) ∧ Below w.heap.size w w'

theorem parts_both (s : ByteArray) (ws : s.size ≤ 1048576) : ∃ (L : List (List UInt8)) (ok : Bool), L.length ≤ 1000000 ∧ (∀ w, Calls Tryd.prog 7 #[.string s] w (Gives L ok w)) ∧
    (∀ m w, w.cell? ⟨1, 0, none⟩ = some (.int .i64 m) → Calls Tryd.prog 8 #[.string s] w (Gives L ok w)) := by
  by_cases hr : Wd.right s
  · refine ⟨Wd.words s, true, by have := hr.2.2; omega, fun w => (specParts_any s w ws).mono ?_, fun m w hm => (implParts_any s m w ws hm).mono ?_⟩
    all_goals
      rintro e w' ⟨hb, ⟨_, v, he, ho⟩ | ⟨hno, _⟩⟩
      · exact ⟨v, he, ho, hb⟩
      · exact absurd hr hno
  · refine ⟨[], false, by simp, fun w => (specParts_any s w ws).mono ?_, fun m w hm => (implParts_any s m w ws hm).mono ?_⟩
    all_goals
      rintro e w' ⟨hb, ⟨hy, _⟩ | ⟨_, v, he, ho⟩⟩
      · exact absurd hy hr
      · exact ⟨v, he, ho, hb⟩

theorem drewN_below (w : World) (q : Nat) : Below w.heap.size w (w.drewN q) := below_drewN (Below.refl _ _) q

theorem cell_of_below {w w' : World} {x : Value} (h : w.cell? ⟨1, 0, none⟩ = some x) (hb : Below w.heap.size w w') : w'.cell? ⟨1, 0, none⟩ = some x := cell_later hb h

set_option maxRecDepth 100000 in
set_option maxHeartbeats 1000000 in
theorem partsOf_small (s : ByteArray) (m : Int) (w : World) (ws : s.size ≤ 1048576) (hm : w.cell? ⟨1, 0, none⟩ = some (.int .i64 m)) :
    Calls Tryd.prog 4 #[.string s] w fun e w' => e = .returned (.bool true) ∧ Below w.heap.size w w' := by
  obtain ⟨L, ok, hL, c7, c8⟩ := parts_both s ws
  have C7 := hide c7
  have C8 := hide c8
  have HM := hide hm
  have hw1 : 1 < w.heap.size := World.block_lt_of_cell? _ _ hm
  clear c7 c8 hm
  have hs' : decide (1048576 < (s.size : Int)) = false := by simp; omega
  go_enter Tryd.func4, Tryd.ntmps4
  go_wp2_with fail
  refine (C7.out _).mono ?_
  rintro e w1 ⟨v0, rfl, r0, b1⟩
  have R0 := hide r0
  have B1 := hide b1
  have s1 := b1.size
  clear r0 b1
  go_wp2_with fail
  refine (C8.out m _ (cell_of_below HM.out B1.out)).mono ?_
  rintro e w2 ⟨v1, rfl, r1, b2⟩
  have R1 := hide r1
  have B2 := hide b2
  have s2 := b2.size
  clear r1 b2
  go_wp2_with fail
  refine (eq_same v1 v0 L _ _ _ (by omega) R1.out (ownsRow_below R0.out B2.out)).mono ?_
  rintro e w3 ⟨rfl, q, hw3⟩
  have B3 : Hid (Below w2.heap.size w2 w3) := by rw [hw3]; exact drewN_below w2 q
  have R13 := hide (ownsRow_below R1.out B3.out)
  have s3 := B3.out.size
  clear hw3
  go_wp2_with fail
  refine (mark_row v1 L _ _ hL R13.out).mono ?_
  rintro e w4 ⟨rfl, r4, g4⟩
  have R4 := hide r4
  have G4 := hide g4
  have s4 := g4.size
  clear r4 g4
  go_wp2_with fail
  refine (held_row v1 L.length _ _ hL R4.out).mono ?_
  rintro e w5 ⟨rfl, b5⟩
  have B5 := hide b5
  have s5 := b5.size
  clear b5
  have hlt1 : Hid (∀ k, v1.ownBlock = some k → w1.heap.size ≤ k) := fun k hk => (R1.out.lt k hk).1
  have HM5 : Hid (w5.cell? ⟨1, 0, none⟩ = some (.int .i64 m)) := by
    have h3 := cell_of_below (cell_of_below (cell_of_below HM.out B1.out) B2.out) B3.out
    have h4 : w4.cell? ⟨1, 0, none⟩ = some (.int .i64 m) := by
      refine G4.out.cell h3 ?_
      intro e
      have := hlt1.out 1 e.symm
      omega
    exact cell_of_below h4 B5.out
  have R05 : Hid (w5.ownsRow w.heap.size 9 1 v0 L.length (L.map sv)) := by
    have h3 := ownsRow_below (ownsRow_below R0.out B2.out) B3.out
    refine ownsRow_below (h3.kept G4.out ?_) B5.out
    cases hv : v0.ownBlock with
    | none => exact .inl rfl
    | some k =>
      right
      intro e
      have h1 := (R0.out.lt k hv).2
      have h2 := hlt1.out k e.symm
      omega
  go_wp2_with fail
  refine (C8.out m _ HM5.out).mono ?_
  rintro e w6 ⟨v2, rfl, r2, b6⟩
  have R2 := hide r2
  have B6 := hide b6
  have s6 := b6.size
  clear r2 b6
  go_wp2_with fail
  refine (eq_same v2 v0 L _ _ _ (by omega) R2.out (ownsRow_below R05.out B6.out)).mono ?_
  rintro e w7 ⟨rfl, q2, hw7⟩
  have B7 : Hid (Below w6.heap.size w6 w7) := by rw [hw7]; exact drewN_below w6 q2
  have s7 := B7.out.size
  clear hw7
  go_wp2_with fail
  refine (held_row v1 L.length _ _ hL (ownsRow_below (ownsRow_below (ownsRow_below R4.out B5.out) B6.out) B7.out)).mono ?_
  rintro e w8 ⟨rfl, b8⟩
  have B8 := hide b8
  clear b8
  go_wp2
  go_ret
  refine ⟨rfl, ?_⟩
  have t3 : Below w.heap.size w w3 := (B1.out.trans (B2.out.mono s1)).trans (B3.out.mono (by omega))
  have t4 : Below w.heap.size w w4 := t3.grown G4.out (by omega) (fun k hk => by have := hlt1.out k hk; omega)
  exact (((t4.trans (B5.out.mono (by omega))).trans (B6.out.mono (by omega))).trans (B7.out.mono (by omega))).trans (B8.out.mono (by omega))

theorem partsOf_walk (s : ByteArray) (m : Int) (w : World) (ws : s.size ≤ maxLen) (hm : w.cell? ⟨1, 0, none⟩ = some (.int .i64 m)) :
    Calls Tryd.prog 4 #[.string s] w fun e w' => e = .returned (.bool true) ∧ Below w.heap.size w w' := by
  by_cases hs : s.size ≤ 1048576
  · exact partsOf_small s m w hs hm
  · unfold maxLen at ws
    have hs' : decide (1048576 < (s.size : Int)) = true := by simp; omega
    clear hm
    go_enter Tryd.func4, Tryd.ntmps4
    go_wp2
    go_ret
    exact ⟨rfl, Below.refl _ _⟩
end Go.Proofs.YtpkgnpckolhjgahDoor
