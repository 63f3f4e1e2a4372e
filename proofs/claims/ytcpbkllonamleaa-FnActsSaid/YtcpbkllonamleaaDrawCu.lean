/- The whole draw of FnActs: a disk, acts on it, how many are whole, what is left. -/
import Derived.Test.YtcpbkllonamleaaDrawAs
namespace Go.Proofs.Ytcpbkllonamleaa
open Go.RowKit

/-- What DrawCutActs holds: the cursor, the cell of its answer, the disk's box in block p, its row, the acts. -/
def CS (w0 w wr : World) (g p B : Nat) (ao : Option Addr) (len cap : Nat) (v : Value) (fs : List FileD) (u : Value) (qs : List ActD) : Prop :=
  CurAt w0 wr g ao len cap ∧ Below w.heap.size w wr ∧ wr.heap[w.heap.size]? = some (.cells #[.slice none 0 0] 26 (0, 0)) ∧ wr.heap[p]? = some (.cells #[v] 26 (0, 0)) ∧ RowF wr (g + 1) v fs ∧ wr.ownsRow B 45 4 u qs.length (cellsA qs)
section
variable {w0 w wr w' : World} {g p B : Nat} {ao : Option Addr} {len cap : Nat} {v u : Value} {fs : List FileD} {qs : List ActD}
theorem cs_grown (h : CS w0 w wr g p B ao len cap v fs u qs) (hg : w.heap.size < g) (hp : g < p) (hB : g < B) (hc : CurAt w0 w' g ao len cap) (hgr : wr.grownBy w' (some g)) : CS w0 w w' g p B ao len cap v fs u qs := by
  obtain ⟨h1, h2, h3, h4, h5, h6⟩ := h
  exact ⟨hc, h2.grown hgr h2.size (fun k hk => by cases hk; omega), (hgr.block _ (blkD_lt h3) (by simp; omega)).trans h3, (hgr.block _ (blkD_lt h4) (by simp; omega)).trans h4, rowF_grown h5 hgr (fun b hb => by have := (rowF_lt h5 b hb).1; simp; omega), row_keep h6 hgr hB⟩
theorem cs_below (h : CS w0 w wr g p B ao len cap v fs u qs) (hb : Below wr.heap.size wr w') : CS w0 w w' g p B ao len cap v fs u qs := by
  obtain ⟨h1, h2, h3, h4, h5, h6⟩ := h
  exact ⟨cur_keep h1 hb (cur_lt h1), h2.trans (hb.mono h2.size), (hb.block _ (blkD_lt h3)).trans h3, (hb.block _ (blkD_lt h4)).trans h4, rowF_below h5 hb, ownsRow_below h6 hb⟩
end

set_option maxRecDepth 100000 in
set_option maxHeartbeats 2000000 in
theorem drawCutActs_any (w : World) (ao : Option Addr) (len cap : Nat) (hlen : len ≤ 1048576) (hcode : Code w ao len) :
    Calls Try.prog 14 #[.slice ao len cap] w fun e w' => ∃ (a : Option Addr) (c : Nat) (fs : List FileD) (gb cq : Nat) (qs : List ActD) (wh : Int) (al : Option Addr) (cl : Nat) (zs : List Int),
      e = .returned (.tuple #[.agg #[.slice a fs.length c], .slice (some ⟨gb, 0, none⟩) qs.length cq, .int .i64 wh, .slice al zs.length cl]) ∧ RowF w' (w.heap.size + 1) (.slice a fs.length c) fs ∧ BF fs ∧ w'.ownsRow (w.heap.size + 1) 45 4 (.slice (some ⟨gb, 0, none⟩) qs.length cq) qs.length (cellsA qs) ∧ qs.length ≤ 9 ∧ (∀ A ∈ qs, A.name.size ≤ 100 ∧ A.text.size ≤ 100 ∧ A.to.size ≤ 100) ∧
      w'.ownsRow (w.heap.size + 1) 3 1 (.slice al zs.length cl) zs.length (zs.map (Value.int .i64)) ∧ zs.length ≤ 6 ∧ (∀ z ∈ zs, -9223372036854775808 ≤ z ∧ z ≤ 9223372036854775807) ∧ Below w.heap.size w w' := by
  obtain ⟨wA, hwA⟩ : ∃ wA, wA = w.alloc (.cells #[.slice none 0 0] 26) := ⟨_, rfl⟩
  have hsA : wA.heap.size = w.heap.size + 1 := by rw [hwA]; simp
  have BA : Hid (Below w.heap.size w wA) := by rw [hwA]; exact (Below.refl _ w).alloc (Nat.le_refl _) _
  have XA : Hid (wA.heap[w.heap.size]? = some (.cells #[.slice none 0 0] 26 (0, 0))) := by rw [hwA]; exact heap_alloc_new _ _
  have HC := hide (code_keep hcode BA.out)
  have HSA := hide hsA
  clear hcode hsA
  go_enter Try.func14, Try.ntmps14
  go_wp2_with fail
  rw [← hwA]
  clear hwA
  refine (new_any _ ao len cap hlen HC.out).mono ?_
  rintro e w1 ⟨g, rfl, hc1⟩
  have U1 := hide hc1
  have hwg : w.heap.size < g := by have := hc1.2.1; have := HSA.out; omega
  have hg1 := cur_lt hc1
  clear hc1
  go_wp2_with fail
  refine (drawDisk_any wA _ g ao len cap hlen HC.out U1.out).mono ?_
  rintro e w2 ⟨a, c, fs, rfl, hrow, hl, hb, hc2, g2⟩
  obtain ⟨p, hp⟩ : ∃ p, p = w2.heap.size := ⟨_, rfl⟩
  obtain ⟨w3, hw3⟩ : ∃ w3, w3 = w2.alloc (.cells #[.slice a fs.length c] 26) := ⟨_, rfl⟩
  have hb3 : Below w2.heap.size w2 w3 := by rw [hw3]; exact (Below.refl _ w2).alloc (Nat.le_refl _) _
  have hgp : g < p := by have := cur_lt hc2; omega
  have U3 := hide (cur_keep hc2 hb3 (cur_lt hc2))
  have R3 : Hid (RowF w3 (g + 1) (.slice a fs.length c) fs) := rowF_le (rowF_below hrow hb3) (by omega)
  have P3 : Hid (w3.heap[p]? = some (.cells #[.slice a fs.length c] 26 (0, 0))) := by rw [hw3, hp]; exact heap_alloc_new w2 _
  have HBF : Hid (BF fs) := ⟨hl, hb⟩
  have hp0 : w3.cell? ⟨p, 0, none⟩ = some (.slice a fs.length c) := (cell_of_row w3 _ 0 _ _ (0, 0) P3.out).trans rfl
  have hs3 : p < w3.heap.size := blkD_lt P3.out
  clear hc2 g2 hb3 hrow hb
  go_upto_region 3 with fail
  rw [← hw3, ← hp]
  clear hw3 hp
  go_wp2_with fail
  refine (acts_draw wA _ g ao len cap fs a c hlen HC.out U3.out R3.out HBF.out).mono ?_
  rintro e w4 ⟨gb, cq, qs, rfl, ho4, hq9, hqs, hc4, g4⟩
  have C4 : Hid (CS wA w w4 g p (w3.heap.size + 1) ao len cap (.slice a fs.length c) fs (.slice (some ⟨gb, 0, none⟩) qs.length cq) qs) :=
    ⟨hc4, BA.out.trans (hc4.1.mono (by have := HSA.out; omega)), (hc4.1.block _ (by have := HSA.out; omega)).trans XA.out, (g4.block p hs3 (by simp; omega)).trans P3.out, rowF_grown R3.out g4 (fun b hb => by have := (rowF_lt R3.out b hb).1; simp; omega), ho4⟩
  have HQS := hide hqs
  have KP : Hid (∀ W, CS wA w W g p (w3.heap.size + 1) ao len cap (.slice a fs.length c) fs (.slice (some ⟨gb, 0, none⟩) qs.length cq) qs → W.cell? ⟨p, 0, none⟩ = some (.slice a fs.length c)) := fun W hW => (cell_of_row W _ 0 _ _ (0, 0) hW.2.2.2.1).trans rfl
  clear ho4 hqs hc4 g4 U3 R3 P3 hp0
  have C4d := hide (cs_below C4.out (Below.refl _ _).drew)
  have hp4 := KP.out _ C4.out
  have hwr : IntKind.i64.wrap ((qs.length : Int) + 1) = (qs.length : Int) + 1 := by rw [IntKind.wrap_i64]; omega
  have hnat : ((qs.length : Int) + 1) = ((qs.length + 1 : Nat) : Int) := by omega
  have HNAT := hide hnat
  have CP : Hid (∀ W, CurAt wA W g ao len cap → Calls Try.prog 31 #[.pointer (some ⟨g, 0, none⟩), .int .i64 ((qs.length : Int) + 1)] W fun e w' => ∃ z : Int, e = .returned (.int .i64 z) ∧ CurAt wA w' g ao len cap ∧ W.grownBy w' (some g)) := fun W hW => by rw [HNAT.out]; exact place_any wA W g ao len cap (qs.length + 1) hlen (by omega) HC.out hW
  clear hnat
  go_wp2_with fail
  go_region_held3 (fun w' => w'.cell? ⟨p, 0, none⟩ = some (.slice a fs.length c)) (first | (exact KP.out _ C4d.out) | (exact KP.out _ C5.out) | (exact KP.out _ C6.out) | (exact hKP7.out) | fail) ((first | (go_at_call 31; refine (CP.out _ C4d.out.1).mono ?_; rintro e w5 ⟨wh, rfl, hc5, g5⟩; have C5 := hide (cs_grown C4d.out hwg hgp (by omega) hc5 g5); have hs5 : w.heap.size + 1 ≤ w5.heap.size := blkD_lt C5.out.2.2.1; clear hc5 g5) | (go_at_call 32; refine (left_any wA _ g ao len cap hlen HC.out C5.out.1).mono ?_; rintro e w6 ⟨al, cl, zs, rfl, ho6, hz6, hzb, hc6, g6⟩; have C6 := hide (cs_grown C5.out hwg hgp (by omega) hc6 g6); have HO6 := hide ho6; have HZB := hide hzb; have hr0 : w6.cell? ⟨w.heap.size, 0, none⟩ = some (.slice none 0 0) := (cell_of_row w6 _ 0 _ _ (0, 0) C6.out.2.2.1).trans rfl; have hrf := frozen_of_row w6 w.heap.size 0 _ _ C6.out.2.2.1; have hKP7 : Hid ((w6.setCell ⟨w.heap.size, 0, none⟩ (.slice a fs.length c)).cell? ⟨p, 0, none⟩ = some (.slice a fs.length c)) := (cell_of_row _ p 0 _ _ (0, 0) ((Below.heap_setCell _ _ _ _ (by intro e; simp only at e; omega)).trans C6.out.2.2.2.1)).trans rfl; clear ho6 hzb hc6 g6) | fail))
  all_goals
    go_wp2_with fail
    have k5 := C6.out.2.2.2.2.1
    have k6 := C6.out.2.2.2.2.2
    refine bodyPost_ret (v := .tuple #[.agg #[.slice a fs.length c], .slice (some ⟨gb, 0, none⟩) qs.length cq, .int .i64 wh, .slice al zs.length cl]) (by simp [results, Try.results14, go_sem, hr0]) rfl ⟨a, c, fs, gb, cq, qs, wh, al, cl, zs, rfl, rowF_le (rowF_keep k5 (fun b hb => ?_)) (by omega), HBF.out, ownsRow_mono (k6.kept (grownBy_store (World.grownBy.refl _ (some w.heap.size)) 0 _) (by cases e : (Value.slice (some ⟨gb, 0, none⟩) qs.length cq).ownBlock with | none => exact .inl rfl | some b => exact .inr (by have := (k6.lt b e).1; simp; omega))) (by omega), hq9, HQS.out, ownsRow_mono (HO6.out.kept (grownBy_store (World.grownBy.refl _ (some w.heap.size)) 0 _) (by cases e : (Value.slice al zs.length cl).ownBlock with | none => exact .inl rfl | some b => exact .inr (by have := (HO6.out.lt b e).1; simp; omega))) hs5, hz6, HZB.out, C6.out.2.1.setCell (p := ⟨w.heap.size, 0, none⟩) (Nat.le_refl _) _⟩
    have := (rowF_lt k5 b hb).1
    exact Below.heap_setCell _ _ _ _ (by intro e; simp only at e; omega)
end Go.Proofs.Ytcpbkllonamleaa
