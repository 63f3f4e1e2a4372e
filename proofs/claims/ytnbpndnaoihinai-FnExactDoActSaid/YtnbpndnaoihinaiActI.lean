/- The program's DoAct, walked; acts as the laws hold them. -/
import Derived.Test.YtnbpndnaoihinaiActsJ
import Derived.Lib.SmallJoins
import Derived.OpenShut
namespace Go.Proofs.Ytnbpndnaoihinai
open Go.RowKit Go.Maps

set_option maxRecDepth 100000 in
set_option maxHeartbeats 8000000 in
theorem act_any (fs : List FileD) (ao : Option Addr) (cap : Nat) (A : ActD) (w : World) (hl : fs.length ≤ 1048576) (hfs : FilesAt w ao fs) (hsz : ∀ F ∈ fs, F.name.size ≤ 1048576 ∧ F.text.size ≤ 1048576) (hA1 : A.name.size ≤ 1048576) (hA2 : A.text.size ≤ 1048576) (hA3 : A.to.size ≤ 1048576) :
    Calls Try.prog 16 #[.agg #[.slice ao fs.length cap], .agg #[.int .i64 A.kind, .string A.name, .string A.text, .string A.to]] w fun e w' => ∃ v, e = .returned (.tuple #[.agg #[v], .bool (actD fs A).isSome]) ∧ RowF w' w.heap.size v ((actD fs A).getD []) ∧ Below w.heap.size w w' := by
  have HF := hide hfs
  have HS := hide hsz
  clear hfs hsz
  obtain ⟨wb, hwb⟩ : ∃ wb, wb = (((w.alloc (.cells #[.slice ao fs.length cap] 29)).alloc (.cells #[.int .i64 A.kind, .string A.name, .string A.text, .string A.to] 41)).alloc (.cells #[.slice none 0 0] 29)).alloc (.cells #[.int .i64 A.kind, .string A.name, .string A.text, .string A.to] 41) := ⟨_, rfl⟩
  have hbs : w.heap.size + 1 + 1 + 1 + 1 ≤ wb.heap.size := by rw [hwb]; simp
  have HBb : Hid (Below w.heap.size w wb) := by rw [hwb]; exact ((((Below.refl _ w).alloc (Nat.le_refl _) _).alloc (by simp) _).alloc (by simp; omega) _).alloc (by simp; omega) _
  have R_wb : Hid (wb.heap[w.heap.size + 1 + 1]? = some (.cells #[.slice none 0 0] 29 (0, 0))) := by
    rw [hwb]
    refine blk_below ?_ ((Below.refl _ _).alloc (Nat.le_refl _) _)
    rw [show w.heap.size + 1 + 1 = ((w.alloc (.cells #[.slice ao fs.length cap] 29)).alloc (.cells #[.int .i64 A.kind, .string A.name, .string A.text, .string A.to] 41)).heap.size from by simp]
    exact heap_alloc_new _ _
  have HAc : Hid (ActsAt wb (some ⟨w.heap.size + 1 + 1 + 1, 0, none⟩) [A]) := by
    have hblk : wb.heap[w.heap.size + 1 + 1 + 1]? = some (.cells #[.int .i64 A.kind, .string A.name, .string A.text, .string A.to] 41 (0, 0)) := by
      rw [hwb, show w.heap.size + 1 + 1 + 1 = (((w.alloc (.cells #[.slice ao fs.length cap] 29)).alloc (.cells #[.int .i64 A.kind, .string A.name, .string A.text, .string A.to] 41)).alloc (.cells #[.slice none 0 0] 29)).heap.size from by simp]
      exact heap_alloc_new _ _
    obtain ⟨c0, c1, c2, c3⟩ := act_cell hblk
    intro j hj
    have : j = 0 := by simpa using hj
    subst this
    exact ⟨_, 0, rfl, by omega, c0, c1, c2, c3⟩
  have HE : Hid (actsF fs [A] = match actD fs A with | none => (fs, 0) | some g => (g, 1)) := by
    show _ = _
    rw [actsF]
    cases actD fs A <;> rfl
  go_enter Try.func16, Try.ntmps16
  go_wp2_with fail
  rw [← hwb]
  clear hwb
  have hone : [A].length = 1 := rfl
  refine (acts_any fs ao cap [A] (some ⟨w.heap.size + 1 + 1 + 1, 0, none⟩) 1 _ hl (filesAt_keep HF.out HBb.out) HS.out (by simp) HAc.out (fun X hX => by rw [List.mem_singleton.1 hX]; exact ⟨hA1, hA2, hA3⟩)).mono ?_
  rintro e w1 ⟨v1, rfl, hrow, b1⟩
  rw [HE.out] at hrow ⊢
  obtain ⟨a1, c1, rfl, _⟩ := rowF_at hrow
  have hs1 : wb.heap.size ≤ w1.heap.size := b1.size
  have HB1 : Hid (Below w.heap.size w w1) := HBb.out.trans (b1.mono (by omega))
  have R_w1 : Hid (w1.heap[w.heap.size + 1 + 1]? = some (.cells #[.slice none 0 0] 29 (0, 0))) := blk_below R_wb.out b1
  have HROW := hide hrow
  clear hrow b1 hone
  cases hact : actD fs A with
  | none =>
    rw [hact] at HROW
    have hR := blk_below R_w1.out ((Below.refl _ w1).alloc (Nat.le_refl _) (.cells #[.slice a1 fs.length c1] 29))
    have cR := box_of hR
    have zR := frozen_of_row _ (w.heap.size + 1 + 1) 0 _ _ hR
    clear hR
    go_wp2_with fail
    refine bodyPost_ret (v := .tuple #[.agg #[.slice none 0 0], .bool false]) (by simp [results, Try.results16, go_sem, cR]) rfl ⟨.slice none 0 0, by rw [hact]; rfl, .inl ⟨rfl, by rw [hact]; rfl⟩, (HB1.out.alloc (by omega) _).setCell (p := ⟨w.heap.size + 1 + 1, 0, none⟩) (by show w.heap.size ≤ w.heap.size + 1 + 1; omega) _⟩
  | some g =>
    rw [hact] at HROW
    have hR := blk_below R_w1.out ((Below.refl _ w1).alloc (Nat.le_refl _) (.cells #[.slice a1 g.length c1] 29))
    have cR := box_of hR
    have zR := frozen_of_row _ (w.heap.size + 1 + 1) 0 _ _ hR
    have HP2 := hide (rowF_below HROW.out ((Below.refl _ w1).alloc (Nat.le_refl _) (.cells #[.slice a1 g.length c1] 29)))
    clear hR
    go_wp2_with fail
    refine bodyPost_ret (v := .tuple #[.agg #[.slice a1 g.length c1], .bool true]) (by simp [results, Try.results16, go_sem, cR]) rfl ⟨.slice a1 g.length c1, by rw [hact]; rfl, ?_, (HB1.out.alloc (by omega) _).setCell (p := ⟨w.heap.size + 1 + 1, 0, none⟩) (by show w.heap.size ≤ w.heap.size + 1 + 1; omega) _⟩
    rw [hact]
    exact rowF_le (rowF_grown HP2.out (grownBy_store (World.grownBy.refl _ _) 0 _) (fun j hj e => by have h1 := (rowF_lt HP2.out j hj).1; cases e; omega)) (by omega)

/-- What an act leaves of a measure. -/
def szA (A : ActD) (n : Int) : Int := if n < A.name.size then -1 else if n < A.name.size + A.text.size then -1 else if n < A.name.size + A.text.size + A.to.size then -1 else n - A.name.size - A.text.size - A.to.size

set_option maxRecDepth 100000 in
set_option maxHeartbeats 800000 in
theorem szAct_any (A : ActD) (n : Int) (w : World) (h0 : 0 ≤ n) (h1 : n ≤ 1048576) (hN : A.name.size ≤ maxLen) (hX : A.text.size ≤ maxLen) (hT : A.to.size ≤ maxLen) :
    Calls Try.prog 13 #[.agg #[.int .i64 A.kind, .string A.name, .string A.text, .string A.to], .int .i64 n] w fun e w' => e = .returned (.int .i64 (szA A n)) ∧ Below w.heap.size w w' := by
  obtain ⟨k, a, b, c⟩ := A
  simp only [szA] at hN hX hT ⊢
  unfold maxLen at hN hX hT
  by_cases h2 : n < a.size
  · have h2' : decide (n - (a.size : Int) < 0) = true := by simp; omega
    rw [if_pos h2]
    go_enter Try.func13, Try.ntmps13
    go_wp2
    go_ret
    exact ⟨rfl, (Below.refl _ w).alloc (Nat.le_refl _) _⟩
  · have h2' : decide (n - (a.size : Int) < 0) = false := by simp; omega
    rw [if_neg h2]
    by_cases h3 : n < a.size + b.size
    · have h3' : decide (n - (a.size : Int) - (b.size : Int) < 0) = true := by simp; omega
      rw [if_pos h3]
      go_enter Try.func13, Try.ntmps13
      go_wp2
      go_ret
      exact ⟨rfl, (Below.refl _ w).alloc (Nat.le_refl _) _⟩
    · have h3' : decide (n - (a.size : Int) - (b.size : Int) < 0) = false := by simp; omega
      rw [if_neg h3]
      by_cases h4 : n < a.size + b.size + c.size
      · have h4' : decide (n - (a.size : Int) - (b.size : Int) - (c.size : Int) < 0) = true := by simp; omega
        rw [if_pos h4]
        go_enter Try.func13, Try.ntmps13
        go_wp2
        go_ret
        exact ⟨rfl, (Below.refl _ w).alloc (Nat.le_refl _) _⟩
      · have h4' : decide (n - (a.size : Int) - (b.size : Int) - (c.size : Int) < 0) = false := by simp; omega
        rw [if_neg h4]
        go_enter Try.func13, Try.ntmps13
        go_wp2
        go_ret
        exact ⟨rfl, (Below.refl _ w).alloc (Nat.le_refl _) _⟩
theorem szA_small {A : ActD} {n : Int} (h0 : n ≤ 1048576) (h : 0 ≤ szA A n) : A.name.size ≤ 1048576 ∧ A.text.size ≤ 1048576 ∧ A.to.size ≤ 1048576 := by
  unfold szA at h
  split at h
  · omega
  · split at h
    · omega
    · split at h <;> omega

set_option maxRecDepth 100000 in
set_option maxHeartbeats 400000 in
theorem toAct_any (A : ActD) (w : World) :
    Calls Try.prog 15 #[.agg #[.int .i64 A.kind, .string A.name, .string A.text, .string A.to]] w fun e w' => e = .returned (.agg #[.int .i64 A.kind, .string A.name, .string A.text, .string A.to]) ∧ Below w.heap.size w w' := by
  obtain ⟨k, a, b, c⟩ := A
  go_enter Try.func15, Try.ntmps15
  go_wp2
  refine bodyPost_ret (v := .agg #[.int .i64 k, .string a, .string b, .string c]) (by simp [results, Try.results15, go_sem]) rfl ⟨rfl, ?_⟩
  exact (((Below.refl _ w).alloc (Nat.le_refl _) _).alloc (by simp) _).alloc (by simp; omega) _

open Go.ChangeShapes Go.WideShapes Go.Joins in
set_option maxRecDepth 100000 in
theorem act_of {H : Type} {enc : TypeId × Value → H} {w : World} {base : Nat} {v : Value} {d : DataW H} {p : List MemPlace} (hv : Value.okWide Try.prog w .any base 37 v)
    (h : DataW.Trod enc Try.prog w 0 (fun _ => true) true 37 v d p) :
    ∃ A : ActD, v = .agg #[.int .i64 A.kind, .string A.name, .string A.text, .string A.to] ∧ A.name.size ≤ maxLen ∧ A.text.size ≤ maxLen ∧ A.to.size ≤ maxLen := by
  obtain ⟨v0, v1, v2, v3, y0, y1, y2, y3, n, rfl, _, _, t0, t1, t2, t3⟩ := open_agg4 Try.underlying37 (by kernel_rfl) (by kernel_rfl) hv h
  obtain ⟨x0, e0, _, _⟩ := DataW.trod_int Try.underlying3 t0
  obtain ⟨s1, e1, _, z1⟩ := DataW.trod_string Try.underlying9 t1
  obtain ⟨s2, e2, _, z2⟩ := DataW.trod_string Try.underlying9 t2
  obtain ⟨s3, e3, _, z3⟩ := DataW.trod_string Try.underlying9 t3
  simp at e0 e1 e2 e3
  subst e0 e1 e2 e3
  exact ⟨⟨x0, s1, s2, s3⟩, rfl, z1, z2, z3⟩
end Go.Proofs.Ytnbpndnaoihinai
