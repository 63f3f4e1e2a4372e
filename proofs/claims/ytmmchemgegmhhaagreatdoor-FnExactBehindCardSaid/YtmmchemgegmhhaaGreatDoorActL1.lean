/- An act as the laws hold it. -/
import Derived.Test.YtmmchemgegmhhaaGreatDoorActP
import Derived.Lib.SmallJoins
import Derived.OpenShut
namespace Go.Proofs.YtmmchemgegmhhaaGreatDoor
open Go.RowKit

/-- What an act leaves of a measure. -/
def szA (A : ActD) (n : Int) : Int := if n < A.name.size then -1 else if n < A.name.size + A.text.size then -1 else if n < A.name.size + A.text.size + A.toN.size then -1 else n - A.name.size - A.text.size - A.toN.size

set_option maxRecDepth 100000 in
set_option maxHeartbeats 800000 in
theorem szAct_any (A : ActD) (n : Int) (w : World) (h0 : 0 ≤ n) (h1 : n ≤ 1048576) (hN : A.name.size ≤ maxLen) (hX : A.text.size ≤ maxLen) (hT : A.toN.size ≤ maxLen) :
    Calls Tryz.prog 73 #[.agg #[.int .i64 A.kind, .string A.name, .string A.text, .string A.toN], .int .i64 n] w fun e w' => e = .returned (.int .i64 (szA A n)) ∧ Below w.heap.size w w' := by
  obtain ⟨k, a, b, c⟩ := A
  simp only [szA] at hN hX hT ⊢
  unfold maxLen at hN hX hT
  by_cases h2 : n < a.size
  · have h2' : decide (n - (a.size : Int) < 0) = true := by simp; omega
    rw [if_pos h2]
    go_enter Tryz.func73, Tryz.ntmps73
    go_wp2
    go_ret
    exact ⟨rfl, (Below.refl _ w).alloc (Nat.le_refl _) _⟩
  · have h2' : decide (n - (a.size : Int) < 0) = false := by simp; omega
    rw [if_neg h2]
    by_cases h3 : n < a.size + b.size
    · have h3' : decide (n - (a.size : Int) - (b.size : Int) < 0) = true := by simp; omega
      rw [if_pos h3]
      go_enter Tryz.func73, Tryz.ntmps73
      go_wp2
      go_ret
      exact ⟨rfl, (Below.refl _ w).alloc (Nat.le_refl _) _⟩
    · have h3' : decide (n - (a.size : Int) - (b.size : Int) < 0) = false := by simp; omega
      rw [if_neg h3]
      by_cases h4 : n < a.size + b.size + c.size
      · have h4' : decide (n - (a.size : Int) - (b.size : Int) - (c.size : Int) < 0) = true := by simp; omega
        rw [if_pos h4]
        go_enter Tryz.func73, Tryz.ntmps73
        go_wp2
        go_ret
        exact ⟨rfl, (Below.refl _ w).alloc (Nat.le_refl _) _⟩
      · have h4' : decide (n - (a.size : Int) - (b.size : Int) - (c.size : Int) < 0) = false := by simp; omega
        rw [if_neg h4]
        go_enter Tryz.func73, Tryz.ntmps73
        go_wp2
        go_ret
        exact ⟨rfl, (Below.refl _ w).alloc (Nat.le_refl _) _⟩
theorem szA_small {A : ActD} {n : Int} (h0 : n ≤ 1048576) (h : 0 ≤ szA A n) : A.name.size ≤ 1048576 ∧ A.text.size ≤ 1048576 ∧ A.toN.size ≤ 1048576 := by
  unfold szA at h
  split at h
  · omega
  · split at h
    · omega
    · split at h <;> omega

set_option maxRecDepth 100000 in
set_option maxHeartbeats 400000 in
theorem toAct_any (A : ActD) (w : World) :
    Calls Tryz.prog 77 #[.agg #[.int .i64 A.kind, .string A.name, .string A.text, .string A.toN]] w fun e w' => e = .returned (.agg #[.int .i64 A.kind, .string A.name, .string A.text, .string A.toN]) ∧ Below w.heap.size w w' := by
  obtain ⟨k, a, b, c⟩ := A
  go_enter Tryz.func77, Tryz.ntmps77
  go_wp2
  refine bodyPost_ret (v := .agg #[.int .i64 k, .string a, .string b, .string c]) (by simp [results, Tryz.results77, go_sem]) rfl ⟨rfl, ?_⟩
  exact (((Below.refl _ w).alloc (Nat.le_refl _) _).alloc (by simp) _).alloc (by simp; omega) _

open Go.ChangeShapes Go.WideShapes Go.Joins in
set_option maxRecDepth 100000 in
theorem act_of {H : Type} {enc : TypeId × Value → H} {w : World} {base : Nat} {v : Value} {d : DataW H} {p : List MemPlace} (hv : Value.okWide Tryz.prog w .any base 117 v)
    (h : DataW.Trod enc Tryz.prog w 0 (fun _ => true) true 117 v d p) :
    ∃ A : ActD, v = .agg #[.int .i64 A.kind, .string A.name, .string A.text, .string A.toN] ∧ A.name.size ≤ maxLen ∧ A.text.size ≤ maxLen ∧ A.toN.size ≤ maxLen := by
  obtain ⟨v0, v1, v2, v3, y0, y1, y2, y3, n, rfl, _, _, t0, t1, t2, t3⟩ := open_agg4 Tryz.underlying117 (by kernel_rfl) (by kernel_rfl) hv h
  obtain ⟨x0, e0, _, _⟩ := DataW.trod_int Tryz.underlying3 t0
  obtain ⟨s1, e1, _, z1⟩ := DataW.trod_string Tryz.underlying9 t1
  obtain ⟨s2, e2, _, z2⟩ := DataW.trod_string Tryz.underlying9 t2
  obtain ⟨s3, e3, _, z3⟩ := DataW.trod_string Tryz.underlying9 t3
  simp at e0 e1 e2 e3
  subst e0 e1 e2 e3
  exact ⟨⟨x0, s1, s2, s3⟩, rfl, z1, z2, z3⟩
end Go.Proofs.YtmmchemgegmhhaaGreatDoor
