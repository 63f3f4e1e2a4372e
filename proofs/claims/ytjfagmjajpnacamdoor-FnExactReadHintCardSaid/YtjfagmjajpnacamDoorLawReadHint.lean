/- The law of ReadHint, but for the contracts of both functions. -/
import Derived.Test.YtjfagmjajpnacamDoorSpotL
import Derived.Test.YtjfagmjajpnacamDoorOne
namespace Go.Proofs.YtjfagmjajpnacamDoor
open Go.RowKit

set_option maxRecDepth 100000 in
theorem markSpotS_nil (k : Int) (w : World) :
    Calls Tryd.prog 7 #[.slice none 0 0, .int .i64 k] w fun e w' => e = .returned (.int .i64 k) ∧ w' = w := by
  go_enter Tryd.func7, Tryd.ntmps7
  go_wp2
  go_loop [1, 5] (fun kk ii => kk = .int .i64 k ∧ ii = .int .i64 0) (fun _ _ => 0)
  case atStart => exact ⟨rfl, rfl⟩
  case round =>
    obtain ⟨rfl, rfl⟩ := hrel
    go_wp2
    go_ret
    exact ⟨rfl, rfl⟩
theorem markSpotS_own (v : Value) (fs : List SpotD) (B k : Nat) (w : World) (hn : fs.length ≤ 1048576) (hk0 : 0 < k) (hk : k ≤ 10000000) (h : RowSpot w B v fs) :
    Calls Tryd.prog 7 #[v, .int .i64 (k : Int)] w fun e w' => e = .returned (.int .i64 ((k + 4 * fs.length : Nat) : Int)) ∧ RowSpot w' B v (markSpotDs k fs.length) ∧ w.grownBy w' v.ownBlock := by
  rcases h with ⟨rfl, rfl⟩ | ⟨g, cap, C, rfl, hB, hC, hs, hI⟩
  · refine (markSpotS_nil _ _).mono ?_
    rintro e w1 ⟨rfl, rfl⟩
    exact ⟨rfl, .inl ⟨rfl, rfl⟩, World.grownBy.refl _ _⟩
  · refine (markSpotS_row g cap fs.length C k w hn hk0 hk hC hs).mono ?_
    rintro e w1 ⟨rfl, ⟨C1, hC1, hs1, hI1⟩, hg⟩
    refine ⟨rfl, .inr ⟨g, cap, C1, by rw [markSpotDs_length], hB, hC1, by rw [markSpotDs_length]; omega, by rw [markSpotDs_length]; exact hI1⟩, hg⟩

set_option maxRecDepth 100000 in
set_option maxHeartbeats 1600000 in
theorem lawReadHint_of (hf : ByteArray → List SpotD) (okf : ByteArray → Bool) (hlen : ∀ t, (hf t).length ≤ 1000)
    (HS0 : ∀ (t : ByteArray) (w : World), t.size ≤ 1048576 → Calls Tryd.prog 4 #[.string t] w fun e w' => (∃ v, e = .returned (.tuple #[v, .bool (okf t)]) ∧ RowSpot w' w.heap.size v (hf t)) ∧ Below w.heap.size w w')
    (HI0 : ∀ (t : ByteArray) (w : World), t.size ≤ 1048576 → SumTab w → Calls Tryd.prog 5 #[.string t] w fun e w' => (∃ v, e = .returned (.tuple #[v, .bool (okf t)]) ∧ RowSpot w' w.heap.size v (hf t)) ∧ Below w.heap.size w w')
    (t : ByteArray) (w : World) (hz : t.size ≤ maxLen) (hT : SumTab w) :
    Calls Tryd.prog 3 #[.string t] w fun e w' => e = .returned (.bool true) ∧ Below w.heap.size w w' := by
  unfold maxLen at hz
  by_cases hbig : 1048576 < t.size
  · have hbig' : decide ((1048576 : Int) < (t.size : Int)) = true := by simp; omega
    go_enter Tryd.func3, Tryd.ntmps3
    go_wp2
    go_ret
    exact ⟨rfl, Below.refl _ _⟩
  have hbig' : decide ((1048576 : Int) < (t.size : Int)) = false := by simp; omega
  have HT := hide hT
  have HI := hide (fun W hW => HI0 t W (by omega) hW)
  have HS := hide (fun W => HS0 t W (by omega))
  have hn := hlen t
  clear HI0 HS0 hlen hT
  generalize hf t = fs at HI HS hn
  generalize okf t = ok at HI HS
  have hml : fs.length ≤ maxLen := by unfold maxLen; omega
  obtain ⟨R, HR⟩ : ∃ R : Int, Hid (((1 + 4 * fs.length : Nat) : Int) = R) := ⟨_, hide rfl⟩
  have hR : decide (R < 0) = false := by have := HR.out; simp; omega
  have hRR : (!(R == R)) = false := by simp
  go_enter Tryd.func3, Tryd.ntmps3
  go_wp2_with fail
  refine (HS.out _).mono ?_
  rintro e w1 ⟨⟨v1, rfl, r1⟩, b1⟩
  obtain ⟨a1, c1, rfl, -⟩ := rowSpot_at r1
  have R1 := hide r1
  have B1 := hide b1
  clear r1 b1
  go_wp2_with fail
  refine (HI.out _ (sumTab_later B1.out HT.out)).mono ?_
  rintro e w2 ⟨⟨v2, rfl, r2⟩, b2⟩
  obtain ⟨a2, c2, rfl, -⟩ := rowSpot_at r2
  have R2 := hide r2
  have R12 := hide (rowSpot_below R1.out b2)
  have B2 := hide (B1.out.trans (b2.mono B1.out.size))
  have h12 : w1.heap.size ≤ w2.heap.size := b2.size
  have hw1 : w.heap.size ≤ w1.heap.size := B1.out.size
  have HG1 : Hid (∀ g, (Value.slice a1 fs.length c1).ownBlock = some g → g < w1.heap.size) := fun g h => (rowSpot_lt R1.out g h).2
  have HG2 : Hid (∀ g, (Value.slice a2 fs.length c2).ownBlock = some g → w1.heap.size ≤ g ∧ g < w2.heap.size) := fun g h => rowSpot_lt R2.out g h
  clear r2 b2 R1
  cases ok
  all_goals
    go_wp2_with fail
    refine (eqSpotS_same fs _ _ _ _ _ hml (rowSpot_rows R2.out) (rowSpot_rows R12.out)).mono ?_
    rintro e w3 ⟨rfl, b3⟩
    have R23 := hide (rowSpot_below R2.out b3)
    have R13 := hide (rowSpot_below R12.out b3)
    have B3 := hide (B2.out.trans (b3.mono B2.out.size))
    have h23 : w2.heap.size ≤ w3.heap.size := b3.size
    clear b3
    go_wp2_with fail
    refine (markSpotS_own (.slice a2 fs.length c2) fs w1.heap.size 1 _ (by omega) (by omega) (by omega) R23.out).mono ?_
    rintro e w4 ⟨rfl, r4, g4⟩
    rw [HR.out]
    have R4 := hide r4
    have R14 : Hid (RowSpot w4 w.heap.size (.slice a1 fs.length c1) fs) := rowSpot_grown R13.out g4 (fun g hg e => by have h1 := HG1.out g hg; have h2 := (HG2.out g e.symm).1; omega)
    have B4 : Hid (Below w.heap.size w w4) := B3.out.grown g4 (by omega) (fun g hg => by have := (HG2.out g hg).1; omega)
    have h34 : w3.heap.size ≤ w4.heap.size := g4.size
    clear r4 g4
    go_wp2_with fail
    refine (heldSpotS_any a2 c2 fs.length 1 _ (by omega) (by omega) (by omega) (rowSpot_rows R4.out)).mono ?_
    rintro e w5 ⟨rfl, b5⟩
    rw [HR.out]
    have R5 := hide (rowSpot_below R4.out b5)
    have R15 := hide (rowSpot_below R14.out b5)
    have B5 := hide (B4.out.trans (b5.mono B4.out.size))
    clear b5
    go_wp2_with fail
    refine (HI.out _ (sumTab_later B5.out HT.out)).mono ?_
    rintro e w6 ⟨⟨v6, rfl, r6⟩, b6⟩
    obtain ⟨a6, c6, rfl, -⟩ := rowSpot_at r6
    have R6 := hide (rowSpot_rows r6)
    have R56 := hide (rowSpot_below R5.out b6)
    have R16 := hide (rowSpot_rows (rowSpot_below R15.out b6))
    have B6 := hide (B5.out.trans (b6.mono B5.out.size))
    clear r6 b6
    go_wp2_with fail
    refine (eqSpotS_same fs _ _ _ _ _ hml R6.out R16.out).mono ?_
    rintro e w7 ⟨rfl, b7⟩
    have R57 := hide (rowSpot_below R56.out b7)
    have B7 := hide (B6.out.trans (b7.mono B6.out.size))
    clear b7
    go_wp2_with fail
    refine (heldSpotS_any a2 c2 fs.length 1 _ (by omega) (by omega) (by omega) (rowSpot_rows R57.out)).mono ?_
    rintro e w8 ⟨rfl, b8⟩
    rw [HR.out]
    have B8 := hide (B7.out.trans (b8.mono B7.out.size))
    clear b8
    go_wp2
    go_ret
    exact ⟨rfl, B8.out⟩
end Go.Proofs.YtjfagmjajpnacamDoor
