import Derived.Test.YtnhfngpegmpcnamGreatDoorEn46
import Derived.Test.YtnhfngpegmpcnamGreatDoorEn47
set_option maxRecDepth 100000
set_option maxHeartbeats 3200000
namespace Go.Proofs.YtnhfngpegmpcnamGreatDoor
open Go.RowKit
def fmtFs (room : Int) : List FileD := bif roomB room then [fmtF] else []
def fmtR (room : Int) : Int := bif roomB room then room else 0
def FmtPost (room : Int) (w : World) (e : Ending) (w' : World) : Prop := (∃ vd vr, e = .returned (.tuple #[.agg #[vd, .int .i64 (fmtR room), .int .i64 0, .int .i64 0, vr], .bool (roomB room)]) ∧ RowF w' w.heap.size vd (fmtFs room) ∧ RowSpot w' w.heap.size vr []) ∧ Below w.heap.size w w'
theorem fmt_post {room : Int} {w w' : World} {e : Ending} (h : Below w.heap.size w w' ∧
      ((roomB room = true ∧ ∃ vd vr, e = .returned (.tuple #[.agg #[vd, .int .i64 room, .int .i64 0, .int .i64 0, vr], .bool true]) ∧ RowF w' w.heap.size vd [fmtF] ∧ RowSpot w' w.heap.size vr []) ∨
       (roomB room = false ∧ e = .returned (.tuple #[.agg #[.slice none 0 0, .int .i64 0, .int .i64 0, .int .i64 0, .slice none 0 0], .bool false])))) : FmtPost room w e w' := by
  obtain ⟨b, ⟨hr, vd, vr, rfl, h1, h2⟩ | ⟨hr, rfl⟩⟩ := h
  · refine ⟨⟨vd, vr, ?_, ?_, h2⟩, b⟩
    · unfold fmtR; rw [hr]; rfl
    · unfold fmtFs; rw [hr]; exact h1
  · refine ⟨⟨.slice none 0 0, .slice none 0 0, ?_, ?_, .inl ⟨rfl, rfl⟩⟩, b⟩
    · unfold fmtR; rw [hr]; rfl
    · unfold fmtFs; rw [hr]; exact .inl ⟨rfl, rfl⟩
theorem rowF_rowsF {w : World} {B n c : Nat} {a : Option Addr} {fs : List FileD} (h : RowF w B (.slice a n c) fs) : FilesAt w a fs := by
  obtain ⟨ao, cap, e, h1⟩ := rowF_at h
  cases e
  exact h1
theorem fmtFs_len (room : Int) : (fmtFs room).length ≤ 1 := by unfold fmtFs; cases roomB room <;> simp
theorem lawFormat (room : Int) (w : World) (hT : SumTab w) :
    Calls Tryz.prog 3 #[.int .i64 room] w fun e w' => e = .returned (.bool true) ∧ Below w.heap.size w w' := by
  have HT := hide hT
  have HI := hide (fun W hW => (implFormat_any room W hW).mono fun _ _ h => fmt_post h)
  have HS := hide (fun W => (specFormat_any room W).mono fun _ _ h => fmt_post h)
  have hn := fmtFs_len room
  unfold FmtPost at HI HS
  clear hT
  generalize fmtFs room = fs at HI HS hn
  generalize fmtR room = rm at HI HS
  generalize roomB room = ok at HI HS
  obtain ⟨dr, hdr⟩ : ∃ dr : List SpotD, dr = [] := ⟨_, rfl⟩
  have hdl : dr.length ≤ 1 := by rw [hdr]; simp
  rw [← hdr] at HI HS
  clear hdr
  have hml : fs.length ≤ maxLen := by unfold maxLen; omega
  have hml0 : dr.length ≤ maxLen := by unfold maxLen; omega
  obtain ⟨R, HR⟩ : ∃ R : Int, Hid (((1 + 3 * fs.length + 4 * dr.length : Nat) : Int) = R) := ⟨_, hide rfl⟩
  have hR : decide (R < 0) = false := by have := HR.out; simp; omega
  have hRR : (!(R == R)) = false := by simp
  go_enter Tryz.func3, Tryz.ntmps3
  go_wp2_with fail
  refine (HS.out _).mono ?_
  rintro e w1 ⟨⟨v1, u1, rfl, r1, s1⟩, b1⟩
  obtain ⟨a1, c1, rfl, F1⟩ := rowF_at r1
  obtain ⟨d1, e1, rfl, D1⟩ := rowSpot_at s1
  obtain ⟨wA, hwA⟩ : ∃ x, x = w1.alloc (.cells #[.slice a1 fs.length c1, .int .i64 rm, .int .i64 0, .int .i64 0, .slice d1 dr.length e1] 27) := ⟨_, rfl⟩
  have B1A : Below w1.heap.size w1 wA := by rw [hwA]; exact (Below.refl _ w1).alloc (Nat.le_refl _) _
  have BA := hide (b1.trans (B1A.mono b1.size))
  have KA : Hid (wA.heap[w1.heap.size]? = some (.cells #[.slice a1 fs.length c1, .int .i64 rm, .int .i64 0, .int .i64 0, .slice d1 dr.length e1] 27 (0, 0))) := by rw [hwA]; exact heap_alloc_new _ _
  have FA := hide (filesAt_keep F1 B1A)
  have DA := hide (spotsAt_keep D1 B1A)
  have hlA : w1.heap.size < wA.heap.size := heap_lt KA.out
  clear r1 s1 b1 F1 D1 B1A
  go_wp2_with fail
  rw [← hwA]
  clear hwA
  refine (HI.out _ (sumTab_later BA.out HT.out)).mono ?_
  rintro e w2 ⟨⟨v2, u2, rfl, r2, s2⟩, b2⟩
  obtain ⟨a2, c2, rfl, -⟩ := rowF_at r2
  obtain ⟨d2, e2, rfl, -⟩ := rowSpot_at s2
  obtain ⟨wB, hwB⟩ : ∃ x, x = w2.alloc (.cells #[.slice a2 fs.length c2, .int .i64 rm, .int .i64 0, .int .i64 0, .slice d2 dr.length e2] 27) := ⟨_, rfl⟩
  have B2B : Below w2.heap.size w2 wB := by rw [hwB]; exact (Below.refl _ w2).alloc (Nat.le_refl _) _
  have CB := hide (b2.trans (B2B.mono b2.size))
  have KB : Hid (wB.heap[w2.heap.size]? = some (.cells #[.slice a2 fs.length c2, .int .i64 rm, .int .i64 0, .int .i64 0, .slice d2 dr.length e2] 27 (0, 0))) := by rw [hwB]; exact heap_alloc_new _ _
  have RB := hide (rowF_below r2 B2B)
  have SB := hide (rowSpot_below s2 B2B)
  have HG : Hid (∀ g, (Value.slice a2 fs.length c2).ownBlock = some g → g < w2.heap.size) := fun g h => (rowF_lt r2 g h).2
  have HGs : Hid (∀ g, (Value.slice d2 dr.length e2).ownBlock = some g → g < w2.heap.size) := fun g h => (rowSpot_lt s2 g h).2
  have hA2 : wA.heap.size ≤ w2.heap.size := b2.size
  have hlB : w2.heap.size < wB.heap.size := heap_lt KB.out
  have KAB := hide ((CB.out.block _ hlA).trans KA.out)
  have HEQ := hide (eqEngine_same fs a2 a1 d2 d1 c2 c1 e2 e1 rm 0 0 dr wB hml (rowF_rowsF RB.out) (filesAt_keep FA.out CB.out) hml0 (rowSpot_rows SB.out) (spotsAt_keep DA.out CB.out))
  clear r2 s2 b2 B2B
  cases ok
  all_goals
    obtain ⟨x0, x1, x2, x3, x4, -⟩ := five_cells KAB.out
    obtain ⟨z0, z1, z2, z3, z4, -⟩ := five_cells KB.out
    subst hwB
    go_wp2_with fail
    refine HEQ.out.mono ?_
    rintro e w3 ⟨rfl, b3⟩
    have C3 := hide (CB.out.trans (b3.mono CB.out.size))
    have KB3 := hide ((b3.block _ hlB).trans KB.out)
    have R3 := hide (rowF_below RB.out b3)
    have S3 := hide (rowSpot_below SB.out b3)
    have h3 : w2.heap.size < w3.heap.size := heap_lt KB3.out
    clear b3 x0 x1 x2 x3 x4 z0 z1 z2 z3 z4 HEQ KB KAB RB SB
    have HMK := hide (markEngine_own (.slice a2 fs.length c2) (.slice d2 dr.length e2) fs dr rm 0 0 wA.heap.size 1 w3 (by omega) (by omega) (by omega) (by omega) (by omega) R3.out S3.out)
    rw [HR.out] at HMK
    obtain ⟨z0, z1, z2, z3, z4, -⟩ := five_cells KB3.out
    go_wp2_with fail
    refine HMK.out.mono ?_
    rintro e w4 ⟨rfl, r4, s4, b4, k4⟩
    have C4 := hide (C3.out.trans b4)
    have KB4 := hide ((k4 _ h3 (fun e => by have := HG.out _ e; omega) (fun e => by have := HGs.out _ e; omega)).trans KB3.out)
    have R4 := hide r4
    have S4 := hide s4
    clear r4 s4 b4 k4 z0 z1 z2 z3 z4 HMK R3 S3
    have HHE := hide (fun W h1 h2 => heldEngine_own (.slice a2 fs.length c2) (.slice d2 dr.length e2) fs.length dr.length rm 0 0 wA.heap.size 1 W (by omega) (by omega) (by omega) (by omega) h1 h2)
    rw [HR.out] at HHE
    obtain ⟨z0, z1, z2, z3, z4, -⟩ := five_cells KB4.out
    go_wp2_with fail
    refine (HHE.out _ R4.out S4.out).mono ?_
    rintro e w5 ⟨rfl, b5⟩
    have C5 := hide (C4.out.trans (b5.mono C4.out.size))
    have KB5 := hide ((b5.block _ (heap_lt KB4.out)).trans KB4.out)
    have R5 := hide (rowF_below R4.out b5)
    have S5 := hide (rowSpot_below S4.out b5)
    have BW5 := hide (BA.out.trans (C5.out.mono BA.out.size))
    clear b5 z0 z1 z2 z3 z4
    go_wp2_with fail
    refine (HI.out _ (sumTab_later BW5.out HT.out)).mono ?_
    rintro e w6 ⟨⟨v6, u6, rfl, r6, s6⟩, b6⟩
    obtain ⟨a6, c6, rfl, f6⟩ := rowF_at r6
    obtain ⟨d6, e6, rfl, p6⟩ := rowSpot_at s6
    obtain ⟨wC, hwC⟩ : ∃ x, x = w6.alloc (.cells #[.slice a6 fs.length c6, .int .i64 rm, .int .i64 0, .int .i64 0, .slice d6 dr.length e6] 27) := ⟨_, rfl⟩
    have B6C : Below w6.heap.size w6 wC := by rw [hwC]; exact (Below.refl _ w6).alloc (Nat.le_refl _) _
    have b5C := b6.trans (B6C.mono b6.size)
    have C6 := hide (C5.out.trans (b5C.mono C5.out.size))
    have KC : Hid (wC.heap[w6.heap.size]? = some (.cells #[.slice a6 fs.length c6, .int .i64 rm, .int .i64 0, .int .i64 0, .slice d6 dr.length e6] 27 (0, 0))) := by rw [hwC]; exact heap_alloc_new _ _
    have KA6 := hide ((C6.out.block _ hlA).trans KA.out)
    have KB6 := hide ((b5C.block _ (heap_lt KB5.out)).trans KB5.out)
    have R6 := hide (rowF_below R5.out b5C)
    have S6 := hide (rowSpot_below S5.out b5C)
    have HEQ := hide (eqEngine_same fs a6 a1 d6 d1 c6 c1 e6 e1 rm 0 0 dr wC hml (filesAt_keep f6 B6C) (filesAt_keep FA.out C6.out) hml0 (spotsAt_keep p6 B6C) (spotsAt_keep DA.out C6.out))
    clear r6 s6 b6 f6 p6 B6C b5C
    obtain ⟨x0, x1, x2, x3, x4, -⟩ := five_cells KA6.out
    obtain ⟨z0, z1, z2, z3, z4, -⟩ := five_cells KC.out
    subst hwC
    go_wp2_with fail
    refine HEQ.out.mono ?_
    rintro e w7 ⟨rfl, b7⟩
    have C7 := hide (C6.out.trans (b7.mono C6.out.size))
    have KB7 := hide ((b7.block _ (heap_lt KB6.out)).trans KB6.out)
    have R7 := hide (rowF_below R6.out b7)
    have S7 := hide (rowSpot_below S6.out b7)
    clear b7 x0 x1 x2 x3 x4 z0 z1 z2 z3 z4 HEQ
    obtain ⟨z0, z1, z2, z3, z4, -⟩ := five_cells KB7.out
    go_wp2_with fail
    refine (HHE.out _ R7.out S7.out).mono ?_
    rintro e w8 ⟨rfl, b8⟩
    have BW8 := hide (BA.out.trans ((C7.out.trans (b8.mono C7.out.size)).mono BA.out.size))
    clear b8 z0 z1 z2 z3 z4
    go_wp2
    go_ret
    exact ⟨rfl, BW8.out⟩
end Go.Proofs.YtnhfngpegmpcnamGreatDoor
