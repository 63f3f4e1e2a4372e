/- The program's DoAct, walked; acts as the laws hold them. -/
import Derived.Test.YtcpbkllonamleaaActsJ
import Derived.Test.YtcpbkllonamleaaActL1
import Derived.Lib.SmallJoins
import Derived.OpenShut
namespace Go.Proofs.Ytcpbkllonamleaa
open Go.RowKit Go.Maps

set_option maxRecDepth 100000 in
set_option maxHeartbeats 8000000 in
theorem act_any (fs : List FileD) (ao : Option Addr) (cap : Nat) (A : ActD) (w : World) (hl : fs.length ≤ 1048576) (hfs : FilesAt w ao fs) (hsz : ∀ F ∈ fs, F.name.size ≤ 1048576 ∧ F.text.size ≤ 1048576) (hA1 : A.name.size ≤ 1048576) (hA2 : A.text.size ≤ 1048576) (hA3 : A.to.size ≤ 1048576) :
    Calls Try.prog 17 #[.agg #[.slice ao fs.length cap], .agg #[.int .i64 A.kind, .string A.name, .string A.text, .string A.to]] w fun e w' => ∃ v, e = .returned (.tuple #[.agg #[v], .bool (actD fs A).isSome]) ∧ RowF w' w.heap.size v ((actD fs A).getD []) ∧ Below w.heap.size w w' := by
  have HF := hide hfs
  have HS := hide hsz
  clear hfs hsz
  obtain ⟨wb, hwb⟩ : ∃ wb, wb = (((w.alloc (.cells #[.slice ao fs.length cap] 26)).alloc (.cells #[.int .i64 A.kind, .string A.name, .string A.text, .string A.to] 45)).alloc (.cells #[.slice none 0 0] 26)).alloc (.cells #[.int .i64 A.kind, .string A.name, .string A.text, .string A.to] 45) := ⟨_, rfl⟩
  have hbs : w.heap.size + 1 + 1 + 1 + 1 ≤ wb.heap.size := by rw [hwb]; simp
  have HBb : Hid (Below w.heap.size w wb) := by rw [hwb]; exact ((((Below.refl _ w).alloc (Nat.le_refl _) _).alloc (by simp) _).alloc (by simp; omega) _).alloc (by simp; omega) _
  have R_wb : Hid (wb.heap[w.heap.size + 1 + 1]? = some (.cells #[.slice none 0 0] 26 (0, 0))) := by
    rw [hwb]
    refine blk_below ?_ ((Below.refl _ _).alloc (Nat.le_refl _) _)
    rw [show w.heap.size + 1 + 1 = ((w.alloc (.cells #[.slice ao fs.length cap] 26)).alloc (.cells #[.int .i64 A.kind, .string A.name, .string A.text, .string A.to] 45)).heap.size from by simp]
    exact heap_alloc_new _ _
  have HAc : Hid (ActsAt wb (some ⟨w.heap.size + 1 + 1 + 1, 0, none⟩) [A]) := by
    have hblk : wb.heap[w.heap.size + 1 + 1 + 1]? = some (.cells #[.int .i64 A.kind, .string A.name, .string A.text, .string A.to] 45 (0, 0)) := by
      rw [hwb, show w.heap.size + 1 + 1 + 1 = (((w.alloc (.cells #[.slice ao fs.length cap] 26)).alloc (.cells #[.int .i64 A.kind, .string A.name, .string A.text, .string A.to] 45)).alloc (.cells #[.slice none 0 0] 26)).heap.size from by simp]
      exact heap_alloc_new _ _
    obtain ⟨c0, c1, c2, c3⟩ := act_cell hblk
    intro j hj
    have : j = 0 := by simpa using hj
    subst this
    exact ⟨_, 0, rfl, by omega, c0, c1, c2, c3⟩
  have HE : Hid (actsF fs [A] = match actD fs A with | none => (fs, 0) | some g => (g, 1)) := by
    show _ = _
    rw [actsF]
    cases actD fs A <;> rfl
  go_enter Try.func17, Try.ntmps17
  go_wp2_with fail
  rw [← hwb]
  clear hwb
  have hone : [A].length = 1 := rfl
  refine (acts_any fs ao cap [A] (some ⟨w.heap.size + 1 + 1 + 1, 0, none⟩) 1 _ hl (filesAt_keep HF.out HBb.out) HS.out (by simp) HAc.out (fun X hX => by rw [List.mem_singleton.1 hX]; exact ⟨hA1, hA2, hA3⟩)).mono ?_
  rintro e w1 ⟨v1, rfl, hrow, b1⟩
  rw [HE.out] at hrow ⊢
  obtain ⟨a1, c1, rfl, _⟩ := rowF_at hrow
  have hs1 : wb.heap.size ≤ w1.heap.size := b1.size
  have HB1 : Hid (Below w.heap.size w w1) := HBb.out.trans (b1.mono (by omega))
  have R_w1 : Hid (w1.heap[w.heap.size + 1 + 1]? = some (.cells #[.slice none 0 0] 26 (0, 0))) := blk_below R_wb.out b1
  have HROW := hide hrow
  clear hrow b1 hone
  cases hact : actD fs A with
  | none =>
    rw [hact] at HROW
    have hR := blk_below R_w1.out ((Below.refl _ w1).alloc (Nat.le_refl _) (.cells #[.slice a1 fs.length c1] 26))
    have cR := box_of hR
    have zR := frozen_of_row _ (w.heap.size + 1 + 1) 0 _ _ hR
    clear hR
    go_wp2_with fail
    refine bodyPost_ret (v := .tuple #[.agg #[.slice none 0 0], .bool false]) (by simp [results, Try.results17, go_sem, cR]) rfl ⟨.slice none 0 0, by rw [hact]; rfl, .inl ⟨rfl, by rw [hact]; rfl⟩, (HB1.out.alloc (by omega) _).setCell (p := ⟨w.heap.size + 1 + 1, 0, none⟩) (by show w.heap.size ≤ w.heap.size + 1 + 1; omega) _⟩
  | some g =>
    rw [hact] at HROW
    have hR := blk_below R_w1.out ((Below.refl _ w1).alloc (Nat.le_refl _) (.cells #[.slice a1 g.length c1] 26))
    have cR := box_of hR
    have zR := frozen_of_row _ (w.heap.size + 1 + 1) 0 _ _ hR
    have HP2 := hide (rowF_below HROW.out ((Below.refl _ w1).alloc (Nat.le_refl _) (.cells #[.slice a1 g.length c1] 26)))
    clear hR
    go_wp2_with fail
    refine bodyPost_ret (v := .tuple #[.agg #[.slice a1 g.length c1], .bool true]) (by simp [results, Try.results17, go_sem, cR]) rfl ⟨.slice a1 g.length c1, by rw [hact]; rfl, ?_, (HB1.out.alloc (by omega) _).setCell (p := ⟨w.heap.size + 1 + 1, 0, none⟩) (by show w.heap.size ≤ w.heap.size + 1 + 1; omega) _⟩
    rw [hact]
    exact rowF_le (rowF_grown HP2.out (grownBy_store (World.grownBy.refl _ _) 0 _) (fun j hj e => by have h1 := (rowF_lt HP2.out j hj).1; cases e; omega)) (by omega)
end Go.Proofs.Ytcpbkllonamleaa
