/- The program's ownEntry and ownTable: an entry, a table with memory of its own. -/
import Derived.Test.YtpibnhodlojajaaEntB
import Derived.Test.YtpibnhodlojajaaEntL
import Derived.Test.YtpibnhodlojajaaValC
namespace Go.Proofs.Ytpibnhodlojajaa
open Go.RowKit

theorem box5h {W : World} {g : Nat} {a b c d e : Value} {t : TypeId} (h : W.heap[g]? = some (.cells #[a, b, c, d, e] t (0, 0))) :
    (W.cell? ⟨g, 0, none⟩ = some a ∧ W.cell? ⟨g, 1, none⟩ = some b ∧ W.cell? ⟨g, 2, none⟩ = some c ∧ W.cell? ⟨g, 3, none⟩ = some d ∧ W.cell? ⟨g, 4, none⟩ = some e) ∧ W.frozen? ⟨g, 0, none⟩ = false ∧ W.frozen? ⟨g, 1, none⟩ = false ∧ W.frozen? ⟨g, 2, none⟩ = false ∧ W.frozen? ⟨g, 3, none⟩ = false ∧ W.frozen? ⟨g, 4, none⟩ = false :=
  ⟨⟨(cell_of_row W _ 0 _ _ (0, 0) h).trans rfl, (cell_of_row W _ 1 _ _ (0, 0) h).trans rfl, (cell_of_row W _ 2 _ _ (0, 0) h).trans rfl, (cell_of_row W _ 3 _ _ (0, 0) h).trans rfl, (cell_of_row W _ 4 _ _ (0, 0) h).trans rfl⟩, frozen_of_row W _ 0 _ _ h, frozen_of_row W _ 1 _ _ h, frozen_of_row W _ 2 _ _ h, frozen_of_row W _ 3 _ _ h, frozen_of_row W _ 4 _ _ h⟩
theorem box5_below {B g : Nat} {w W : World} (h : Below B w W) (hg : B ≤ g) (a b c d e : Value) : Below B w (((((W.setCell ⟨g, 0, none⟩ a).setCell ⟨g, 1, none⟩ b).setCell ⟨g, 2, none⟩ c).setCell ⟨g, 3, none⟩ d).setCell ⟨g, 4, none⟩ e) :=
  ((((h.setCell (p := ⟨g, 0, none⟩) hg a).setCell (p := ⟨g, 1, none⟩) hg b).setCell (p := ⟨g, 2, none⟩) hg c).setCell (p := ⟨g, 3, none⟩) hg d).setCell (p := ⟨g, 4, none⟩) hg e
theorem box5_here {g : Nat} {W : World} {C : Array Value} {t : TypeId} (h : W.heap[g]? = some (.cells C t (0, 0))) (hC : C.size = 5) (a b c d e : Value) : (((((W.setCell ⟨g, 0, none⟩ a).setCell ⟨g, 1, none⟩ b).setCell ⟨g, 2, none⟩ c).setCell ⟨g, 3, none⟩ d).setCell ⟨g, 4, none⟩ e).heap[g]? = some (.cells #[a, b, c, d, e] t (0, 0)) := by
  obtain ⟨⟨l⟩⟩ : ∃ _ : Unit, True := ⟨(), trivial⟩
  match C, hC with
  | ⟨[x0, x1, x2, x3, x4]⟩, _ =>
    exact (heap_setCell_same _ g _ _ t _ (heap_setCell_same _ g _ _ t _ (heap_setCell_same _ g _ _ t _ (heap_setCell_same _ g _ _ t _ (heap_setCell_same W g _ _ t _ h))))).trans rfl
theorem box5_other (g b : Nat) (W : World) (h : b ≠ g) (a0 a1 c d e : Value) : (((((W.setCell ⟨g, 0, none⟩ a0).setCell ⟨g, 1, none⟩ a1).setCell ⟨g, 2, none⟩ c).setCell ⟨g, 3, none⟩ d).setCell ⟨g, 4, none⟩ e).heap[b]? = W.heap[b]? := by
  rw [Below.heap_setCell _ _ _ _ (by simpa using h), Below.heap_setCell _ _ _ _ (by simpa using h), Below.heap_setCell _ _ _ _ (by simpa using h), Below.heap_setCell _ _ _ _ (by simpa using h), Below.heap_setCell _ _ _ _ (by simpa using h)]

set_option maxRecDepth 100000 in
set_option maxHeartbeats 1600000 in
theorem ownEntry_any (F : EntD) (a : Option Addr) (c : Nat) (w : World) (hsz : EntS 1048576 F) (hta : TextsAt w a F.val.items) :
    Calls Try.prog 21 #[.agg #[.string F.key, .int .i64 F.val.kind, .int .i64 F.val.til, .string F.val.text, .slice a F.val.items.length c]] w fun e w' => (∃ a2 c2, e = .returned (.agg #[.string F.key, .int .i64 F.val.kind, .int .i64 F.val.til, .string F.val.text, .slice a2 F.val.items.length c2]) ∧ RowText w' w.heap.size (.slice a2 F.val.items.length c2) F.val.items) ∧ Below w.heap.size w w' := by
  have HOV := hide (fun W (hW : Below w.heap.size w W) => ownVal_any F.val a c W hsz.2.2.1 hsz.2.1 (textsAt_keep hta hW) hsz.2.2.2)
  have HOT := hide (fun W => ownText_any F.key W hsz.1)
  clear hsz hta
  obtain ⟨ky, kd, u, t, ts⟩ := F
  simp only at HOV HOT ⊢
  obtain ⟨wb, hwb⟩ : ∃ wb, wb = (w.alloc (.cells #[.string ky, .int .i64 kd, .int .i64 u, .string t, .slice a ts.length c] 42)).alloc (.cells #[.string ⟨#[]⟩, .int .i64 0, .int .i64 0, .string ⟨#[]⟩, .slice none 0 0] 42) := ⟨_, rfl⟩
  have B0 : Hid (Below w.heap.size w wb) := by rw [hwb]; exact ((Below.refl _ w).alloc (Nat.le_refl _) _).alloc (by simp) _
  have HZ : Hid (wb.heap[w.heap.size]? = some (.cells #[.string ky, .int .i64 kd, .int .i64 u, .string t, .slice a ts.length c] 42 (0, 0)) ∧ wb.heap.size = w.heap.size + 1 + 1) := by
    rw [hwb]
    exact ⟨((Below.refl (w.heap.size + 1) (w.alloc (.cells #[.string ky, .int .i64 kd, .int .i64 u, .string t, .slice a ts.length c] 42))).alloc (by simp) _ |>.block w.heap.size (by omega)).trans (heap_alloc_new w _), by simp⟩
  have HR : Hid (wb.heap[w.heap.size + 1]? = some (.cells #[.string ⟨#[]⟩, .int .i64 0, .int .i64 0, .string ⟨#[]⟩, .slice none 0 0] 42 (0, 0))) := by
    show _ = _
    rw [hwb, show w.heap.size + 1 = (w.alloc (.cells #[.string ky, .int .i64 kd, .int .i64 u, .string t, .slice a ts.length c] 42)).heap.size from by simp]
    exact heap_alloc_new _ _
  have KC : Hid (∀ X, Below wb.heap.size wb X → (X.cell? ⟨w.heap.size, 0, none⟩ = some (.string ky) ∧ X.cell? ⟨w.heap.size, 1, none⟩ = some (.int .i64 kd) ∧ X.cell? ⟨w.heap.size, 2, none⟩ = some (.int .i64 u) ∧ X.cell? ⟨w.heap.size, 3, none⟩ = some (.string t) ∧ X.cell? ⟨w.heap.size, 4, none⟩ = some (.slice a ts.length c))) := fun X hX => (box5h ((hX.block _ (by have := HZ.out.2; omega)).trans HZ.out.1)).1
  have KR : Hid (∀ X, Below wb.heap.size wb X → X.heap[w.heap.size + 1]? = some (.cells #[.string ⟨#[]⟩, .int .i64 0, .int .i64 0, .string ⟨#[]⟩, .slice none 0 0] 42 (0, 0))) := fun X hX => (hX.block _ (by have := HZ.out.2; omega)).trans HR.out
  go_enter Try.func21, Try.ntmps21
  go_upto_region 1 with fail
  rw [← hwb]
  clear hwb
  obtain ⟨x0, x1, x2, x3, x4⟩ := KC.out _ (Below.refl _ _)
  go_region_law (first | (go_simp; go_at_call 36; go_loud (refine (HOT.out _).mono ?_; rintro e w3 ⟨rfl, b3⟩; have E3 : Hid (Below wb.heap.size wb w3) := (Below.refl _ wb).drew.trans b3; obtain ⟨y0, y1, y2, y3, y4⟩ := KC.out _ E3.out; clear b3)) | (go_simp; go_at_call 30; go_loud (refine (HOV.out _ (B0.out.trans (E3.out.mono B0.out.size))).mono ?_; rintro e w4 ⟨⟨a4, c4, rfl, r4⟩, b4⟩; have E4 : Hid (Below wb.heap.size wb w4) := E3.out.trans (b4.mono E3.out.size); have R4 := hide (rowText_le r4 (Nat.le_trans B0.out.size E3.out.size)); obtain ⟨⟨z0, z1, z2, z3, z4⟩, f0, f1, f2, f3, f4⟩ := box5h (KR.out _ E4.out); clear b4 r4)))
  all_goals
    obtain ⟨⟨r0, r1, r2, r3, r4⟩, -⟩ := box5h (box5_here (KR.out _ E4.out) rfl (.string ky) (.int .i64 kd) (.int .i64 u) (.string t) (.slice a4 ts.length c4))
    have HF : Hid (Below w.heap.size w (((((w4.setCell ⟨w.heap.size + 1, 0, none⟩ (.string ky)).setCell ⟨w.heap.size + 1, 1, none⟩ (.int .i64 kd)).setCell ⟨w.heap.size + 1, 2, none⟩ (.int .i64 u)).setCell ⟨w.heap.size + 1, 3, none⟩ (.string t)).setCell ⟨w.heap.size + 1, 4, none⟩ (.slice a4 ts.length c4)) ∧
        RowText (((((w4.setCell ⟨w.heap.size + 1, 0, none⟩ (.string ky)).setCell ⟨w.heap.size + 1, 1, none⟩ (.int .i64 kd)).setCell ⟨w.heap.size + 1, 2, none⟩ (.int .i64 u)).setCell ⟨w.heap.size + 1, 3, none⟩ (.string t)).setCell ⟨w.heap.size + 1, 4, none⟩ (.slice a4 ts.length c4)) w.heap.size (.slice a4 ts.length c4) ts) :=
      ⟨box5_below (B0.out.trans (E4.out.mono B0.out.size)) (by omega) _ _ _ _ _, rowText_keep R4.out (fun b hb => box5_other _ _ _ (fun e => by
        obtain ⟨C, hC⟩ := text_block R4.out hb
        rw [e, KR.out _ E4.out] at hC
        simp at hC) _ _ _ _ _)⟩
    generalize (((((w4.setCell ⟨w.heap.size + 1, 0, none⟩ (.string ky)).setCell ⟨w.heap.size + 1, 1, none⟩ (.int .i64 kd)).setCell ⟨w.heap.size + 1, 2, none⟩ (.int .i64 u)).setCell ⟨w.heap.size + 1, 3, none⟩ (.string t)).setCell ⟨w.heap.size + 1, 4, none⟩ (.slice a4 ts.length c4)) = W6 at HF r0 r1 r2 r3 r4 ⊢
    go_wp2
    exact bodyPost_ret (v := .agg #[.string ky, .int .i64 kd, .int .i64 u, .string t, .slice a4 ts.length c4]) (by simp [results, Try.results21, go_sem, r0, r1, r2, r3, r4]) rfl ⟨⟨a4, c4, rfl, HF.out.2⟩, HF.out.1⟩

end Go.Proofs.Ytpibnhodlojajaa
