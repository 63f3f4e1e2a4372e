/- Values marked and held. -/
import Derived.Test.YtiokajdkgkpeiaaValL
import Derived.Test.YtiokajdkgkpeiaaEntM
namespace Go.Proofs.Ytiokajdkgkpeiaa
open Go.RowKit

set_option maxRecDepth 100000 in
set_option maxHeartbeats 800000 in
theorem markVal_row (k u : Int) (t : ByteArray) (ao : Option Addr) (cap : Nat) (ts : List ByteArray) (B q : Nat) (w : World) (hn : ts.length ≤ 1048576) (hq0 : 0 < q) (hq : q ≤ 10000000) (hBw : B ≤ w.heap.size) (h : RowText w B (.slice ao ts.length cap) ts) :
    Calls Try.prog 23 #[.agg #[.int .i64 k, .int .i64 u, .string t, .slice ao ts.length cap], .int .i64 (q : Int)] w fun e w' => e = .returned (.int .i64 ((q + ts.length : Nat) : Int)) ∧ RowText w' B (.slice ao ts.length cap) (markTs q ts.length) ∧ Below B w w' ∧ ∀ b, b < w.heap.size → some b ≠ (Value.slice ao ts.length cap).ownBlock → w'.heap[b]? = w.heap[b]? := by
  have HB : Hid (Below w.heap.size w (w.alloc (.cells #[.int .i64 k, .int .i64 u, .string t, .slice ao ts.length cap] 27))) := (Below.refl _ w).alloc (Nat.le_refl _) _
  have hbl : ∀ g, (Value.slice ao ts.length cap).ownBlock = some g → B ≤ g ∧ g < w.heap.size := rowText_lt h
  have HL := hide hbl
  have HM := hide (markStringS_row _ ts B q _ hn hq0 hq (rowText_below h HB.out))
  clear h hbl
  go_enter Try.func23, Try.ntmps23
  go_wp2_with fail
  refine HM.out.mono ?_
  rintro e w1 ⟨rfl, r1, g1⟩
  have R1 := hide r1
  have G1 := hide g1
  clear r1 g1
  go_wp2
  go_ret
  have hs := HB.out.size
  refine ⟨rfl, R1.out, ?_, fun b hb hne => (G1.out.block b (by omega) hne).trans (HB.out.block b hb)⟩
  cases hv : (Value.slice ao ts.length cap).ownBlock with
  | none =>
    have hg := G1.out
    rw [hv] at hg
    exact (HB.out.mono hBw).grown hg (by omega) (fun g hg => by cases hg)
  | some g =>
    have h1 := HL.out g hv
    have hg := G1.out
    rw [hv] at hg
    exact (HB.out.mono (by omega)).grown hg (by omega) (fun x hx => by cases hx; exact h1.1)

set_option maxRecDepth 100000 in
set_option maxHeartbeats 800000 in
theorem heldVal_any (k u : Int) (t : ByteArray) (ao : Option Addr) (cap n q : Nat) (w : World) (hn : n ≤ 1048576) (hq0 : 0 < q) (hq : q ≤ 10000000) (h : TextsAt w ao (markTs q n)) :
    Calls Try.prog 24 #[.agg #[.int .i64 k, .int .i64 u, .string t, .slice ao n cap], .int .i64 (q : Int)] w fun e w' => e = .returned (.int .i64 ((q + n : Nat) : Int)) ∧ Below w.heap.size w w' := by
  have HB : Hid (Below w.heap.size w (w.alloc (.cells #[.int .i64 k, .int .i64 u, .string t, .slice ao n cap] 27))) := (Below.refl _ w).alloc (Nat.le_refl _) _
  have HM := hide (heldStringS_any ao cap n q _ hn hq0 hq (textsAt_keep h HB.out))
  obtain ⟨Z, HZ⟩ : ∃ Z : Int, Hid (((q + n : Nat) : Int) = Z) := ⟨_, rfl⟩
  have hZ : decide (Z < 0) = false := by have := HZ.out; simp; omega
  rw [HZ.out] at HM ⊢
  clear h
  go_enter Try.func24, Try.ntmps24
  go_wp2_with fail
  refine HM.out.mono ?_
  rintro e w1 ⟨rfl, b1⟩
  have B1 := hide (HB.out.trans (b1.mono HB.out.size))
  clear b1
  go_wp2
  go_ret
  exact ⟨rfl, B1.out⟩
end Go.Proofs.Ytiokajdkgkpeiaa
