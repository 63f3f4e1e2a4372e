/- Some drawn changes (written by tools/gen_drawl.py). -/
import Derived.Test.YtijmlgdeeodehabDoorDrawKey
import Derived.Test.YtijmlgdeeodehabDoorChangeL
import Derived.Test.YtijmlgdeeodehabDoorTurnQ
import Derived.Deep.RegionHeld3
import Derived.Deep.RegionLaw
import Derived.Deep.CutRange
namespace Go.Proofs.YtijmlgdeeodehabDoor
open Go.RowKit

theorem blk_lt {w : World} {k : Nat} {x : Obj} (h : w.heap[k]? = some x) : k < w.heap.size := (Array.getElem?_eq_some_iff.1 h).1
/-- One change is put behind a row of the call's own, in a plain region: which blocks are kept. -/
theorem app_change_g {ops : Array Oper} {rest : List Oper} {o : Oper} {a : Act} {Q : Exit → Act → World → Prop} (W : World) (B : Nat) (hgd : o.guard = none) (s y : Operand)
    (ho : o.op = .call { callee := .builtin .append, args := #[s, y], argTypes := #[34, 34] }) (v : Value) (l : List ChangeD) (F : ChangeD) (hs : a.eval s = v)
    (hown : W.ownsRow B 61 3 v l.length (cellsChange l)) (k : Nat) (hx : a.eval y = .slice (some ⟨k, 0, none⟩) 1 1) (hblk : W.heap[k]? = some (.cells #[.string F.key, .string F.value, .bool F.gone] 61 (0, 0)))
    (hlen : l.length ≤ 1048576) (hbase : B ≤ W.heap.size)
    (h : ∀ g cap w', w'.ownsRow B 61 3 (.slice (some ⟨g, 0, none⟩) (l.length + 1) cap) (l ++ [F]).length (cellsChange (l ++ [F])) → W.grownBy w' v.ownBlock → (v.ownBlock = some g ∨ g = W.heap.size) → wpList Tryd.prog ops Q rest (a.put o.dst (.slice (some ⟨g, 0, none⟩) (l.length + 1) cap)) w') :
    wpList Tryd.prog ops Q (o :: rest) a W := by
  obtain ⟨i0, hi, hz0, hz1, hz2⟩ := info_parts Tryd.infoChange
  refine wpList_append_lies W hgd s y 34 ho B 61 i0 (.agg #[.string ⟨#[]⟩, .string ⟨#[]⟩, .bool false]) 3 40 Tryd.underlying34 hi hz0 hz1 hz2 rfl (by decide) v l.length (cellsChange l) hs hown ⟨k, 0, none⟩ 1 1 (cellsChange [F]) hx (by rw [cellsChange_length]; rfl)
    (fun j u hj => World.news_of_block hblk j u hj) (cellsChange_one [F]) (by omega) (by unfold maxLen; omega) (by omega) hbase W.heap.size rfl ?_
  intro g cap w' hown' hgrow hg _
  refine h g cap w' ?_ hgrow hg
  rw [cellsChange_append, List.length_append]
  exact hown'

/-- What l05List holds: the cursor, the keys in block kb, the row so far. -/
def LS (w0 w wr : World) (g kb : Nat) (ao : Option Addr) (len cap : Nat) (v : Value) (fs : List ChangeD) : Prop :=
  CurAt w0 wr g ao len cap ∧ w.grownBy wr (some g) ∧ wr.heap[kb]? = some (.cells #[.string ⟨#[97]⟩, .string ⟨#[98]⟩, .string ⟨#[99]⟩, .string ⟨#[100]⟩, .string ⟨#[107, 101, 121]⟩, .string ⟨#[107, 107]⟩] 9 (0, 0)) ∧ wr.ownsRow w.heap.size 61 3 v fs.length (cellsChange fs) ∧ v.ownBlock ≠ some kb
theorem ls_grown {w0 w wr w' : World} {g kb : Nat} {ao : Option Addr} {len cap : Nat} {v : Value} {fs : List ChangeD} (h : LS w0 w wr g kb ao len cap v fs) (hg : g < w.heap.size) (hkb : w.heap.size < kb) (hc : CurAt w0 w' g ao len cap) (hgr : wr.grownBy w' (some g)) : LS w0 w w' g kb ao len cap v fs := by
  obtain ⟨_, h2, h3, h4, h5⟩ := h
  exact ⟨hc, grownBy_trans h2 hgr, (hgr.block kb (blk_lt h3) (by simp; omega)).trans h3, row_keep h4 hgr hg, h5⟩
theorem ls_below {w0 w wr w' : World} {g kb : Nat} {ao : Option Addr} {len cap : Nat} {v : Value} {fs : List ChangeD} (h : LS w0 w wr g kb ao len cap v fs) (hb : Below wr.heap.size wr w') : LS w0 w w' g kb ao len cap v fs := by
  obtain ⟨h1, h2, h3, h4, h5⟩ := h
  exact ⟨cur_keep h1 hb (cur_lt h1), grownBy_trans h2 (grownBy_below _ hb), (hb.block _ (blk_lt h3)).trans h3, ownsRow_below h4 hb, h5⟩
theorem cur_far {w0 w : World} {g X : Nat} {ao : Option Addr} {len cap j : Nat} {u : Value} (h : CurAt w0 w g ao len cap) (hX : g < X) : CurAt w0 (w.setCell ⟨X, j, none⟩ u) g ao len cap := by
  obtain ⟨c1, c2, i, z, T, c3, c4⟩ := h
  exact ⟨c1.setCell (p := ⟨X, j, none⟩) (by show w0.heap.size ≤ X; omega) u, c2, i, z, T, c3, (Below.heap_setCell _ _ _ _ (by intro e; simp only at e; omega)).trans c4⟩
theorem grown_far {a b : World} {r : Option Nat} (h : a.grownBy b r) {p : Nat} (hp : a.heap.size ≤ p) (j : Nat) (u : Value) : a.grownBy (b.setCell ⟨p, j, none⟩ u) r :=
  ⟨h.os, h.tape, h.output, by have := h.size; simpa [World.setCell] using this, fun k hk hne => (Below.heap_setCell _ _ _ _ (by intro e; simp only at e; omega)).trans (h.block k hk hne)⟩
theorem ls_far {w0 w wr : World} {g kb : Nat} {ao : Option Addr} {len cap : Nat} {v : Value} {fs : List ChangeD} {X j : Nat} {u : Value} (h : LS w0 w wr g kb ao len cap v fs) (hg : g < w.heap.size) (hX : w.heap.size ≤ X) (hk : kb ≠ X) (hv : ∀ b, v.ownBlock = some b → b < X) : LS w0 w (wr.setCell ⟨X, j, none⟩ u) g kb ao len cap v fs := by
  obtain ⟨h1, h2, h3, h4, h5⟩ := h
  exact ⟨cur_far h1 (by omega), grown_far h2 hX _ _, (Below.heap_setCell _ _ _ _ (by intro e; simp only at e; omega)).trans h3, h4.kept (grownBy_store (World.grownBy.refl _ (some X)) j u) (by cases e : v.ownBlock with | none => exact .inl rfl | some b => exact .inr (by have := hv b e; simp; omega)), h5⟩
theorem put_box {w : World} {X : Nat} {a b c x y z : Value} {T : TypeId} (h : w.heap[X]? = some (.cells #[a, b, c] T (0, 0))) : (((w.setCell ⟨X, 0, none⟩ x).setCell ⟨X, 1, none⟩ y).setCell ⟨X, 2, none⟩ z).heap[X]? = some (.cells #[x, y, z] T (0, 0)) :=
  (heap_setCell_same _ _ _ _ _ _ ((heap_setCell_same _ _ _ _ _ _ ((heap_setCell_same _ _ _ _ _ _ h).trans rfl)).trans rfl)).trans rfl
theorem keys_row : (#[.string ⟨#[97]⟩, .string ⟨#[98]⟩, .string ⟨#[99]⟩, .string ⟨#[100]⟩, .string ⟨#[107, 101, 121]⟩, .string ⟨#[107, 107]⟩] : Array Value) = (keysL.map Value.string).toArray := rfl
theorem ls_key {w0 w wr : World} {g kb : Nat} {ao : Option Addr} {len cap : Nat} {v : Value} {fs : List ChangeD} (h : LS w0 w wr g kb ao len cap v fs) {k : Nat} {K : ByteArray} (hK : keysL[k]? = some K) : wr.cell? ⟨kb, k, none⟩ = some (.string K) := by
  rw [cell_of_row wr kb k _ _ (0, 0) h.2.2.1, keys_row, List.getElem?_toArray, List.getElem?_map, hK]
  rfl

set_option maxRecDepth 100000 in
set_option maxHeartbeats 4000000 in
theorem list_any (w0 w : World) (g : Nat) (ao : Option Addr) (len cap : Nat) (hlen : len ≤ 1048576) (hcode : Code w0 ao len) (hc : CurAt w0 w g ao len cap) :
    Calls Tryd.prog 44 #[.pointer (some ⟨g, 0, none⟩)] w fun e w' => ∃ (a : Option Addr) (c : Nat) (fs : List ChangeD), e = .returned (.slice a fs.length c) ∧ w'.ownsRow w.heap.size 61 3 (.slice a fs.length c) fs.length (cellsChange fs) ∧ 1 ≤ fs.length ∧ fs.length ≤ 6 ∧ (∀ A ∈ fs, A.key.size ≤ 12 ∧ A.value.size ≤ 12) ∧ CurAt w0 w' g ao len cap ∧ w.grownBy w' (some g) := by
  have HC := hide hcode
  have hg := cur_lt hc
  obtain ⟨wB, hwB⟩ : ∃ wB, wB = (w.alloc (.cells #[] 61)).alloc (.cells #[.string ⟨#[97]⟩, .string ⟨#[98]⟩, .string ⟨#[99]⟩, .string ⟨#[100]⟩, .string ⟨#[107, 101, 121]⟩, .string ⟨#[107, 107]⟩] 9) := ⟨_, rfl⟩
  have hs1 : (w.alloc (.cells #[] 61)).heap.size = w.heap.size + 1 := by simp
  have hb1 : Below w.heap.size w (w.alloc (.cells #[] 61)) := (Below.refl _ w).alloc (Nat.le_refl _) _
  have L0 : Hid (LS w0 w wB g (w.heap.size + 1) ao len cap (.slice (some ⟨w.heap.size, 0, none⟩) 0 0) []) := by
    have hb2 : Below (w.alloc (.cells #[] 61)).heap.size (w.alloc (.cells #[] 61)) wB := by rw [hwB]; exact (Below.refl _ _).alloc (Nat.le_refl _) _
    refine ⟨cur_keep hc (hb1.trans (hb2.mono (by omega))) hg, grownBy_below _ (hb1.trans (hb2.mono (by omega))), ?_, ?_, by simp [Value.ownBlock]⟩
    · have e := heap_alloc_new (w.alloc (.cells #[] 61)) (.cells #[.string ⟨#[97]⟩, .string ⟨#[98]⟩, .string ⟨#[99]⟩, .string ⟨#[100]⟩, .string ⟨#[107, 101, 121]⟩, .string ⟨#[107, 107]⟩] 9)
      rw [hs1] at e
      rw [hwB]
      exact e
    · have h := World.ownsRow_lit (e := 61) (size := 3) w #[] 0 (Nat.le_refl _) (by unfold maxLen; omega) (by simp)
      exact ownsRow_below h hb2
  clear hcode hc hs1 hb1
  obtain ⟨kb, hkb⟩ : ∃ kb, kb = w.heap.size + 1 := ⟨_, rfl⟩
  go_enter Tryd.func44, Tryd.ntmps44
  go_wp2_with fail
  rw [← hwB]
  rw [← hkb] at L0 ⊢
  have hkb' : w.heap.size < kb := by omega
  have HKB := hide hkb
  clear hwB hkb
  go_loopw [3, 5] (fun vo ii wr => ∃ (k : Nat) (a : Option Addr) (c : Nat) (fs : List ChangeD), vo = .slice a fs.length c ∧ ii = .int .i64 k ∧ k ≤ 6 ∧ fs.length ≤ k ∧ Hid (∀ A ∈ fs, A.key.size ≤ 12 ∧ A.value.size ≤ 12) ∧ Hid (LS w0 w wr g kb ao len cap (.slice a fs.length c) fs)) (fun _ ii _ => 6 - (intOf ii).toNat)
  case atStart => exact ⟨0, _, 0, [], rfl, rfl, by omega, by simp, fun A hA => absurd hA List.not_mem_nil, L0⟩
  case round =>
    clear L0
    obtain ⟨k, a, c, fs, rfl, rfl, hk, hfl, HAS, HL⟩ := hrel
    by_cases hlt : k < 6
    · have hlt' : decide ((k : Int) < 6) = true := by simp; omega
      go_wp2_with fail
      refine (once_any w0 _ g ao len cap _ hlen (by omega) HC.out HL.out.1).mono ?_
      rintro e w2 ⟨b, rfl, hc2, g2⟩
      have L2 := hide (ls_grown HL.out hg hkb' hc2 g2)
      clear hc2 g2 HL
      cases b
      · go_wp2_with fail
        go_roundw
        case rel => exact ⟨k + 1, a, c, fs, rfl, by go_num, by omega, by omega, HAS, L2⟩
        case measure => simp [intOf]; omega
      · obtain ⟨K, hK⟩ : ∃ K, keysL[k]? = some K := ⟨keysL[k]'hlt, List.getElem?_eq_getElem hlt⟩
        have hKz : K.size ≤ 8 := (keys_small K (List.mem_of_getElem? hK)).2
        have hi0 : (0 : Int) ≤ (k : Int) := by omega
        have hi1 : (k : Int) < 6 := by omega
        have KS : Hid (∀ W, LS w0 w W g kb ao len cap (.slice a fs.length c) fs → W.cell? ⟨kb, k, none⟩ = some (.string K)) := fun W hW => ls_key hW hK
        have hvb : Hid (∀ b, (Value.slice a fs.length c).ownBlock = some b → b < w2.heap.size) := fun b hb => (L2.out.2.2.2.1.lt b hb).2
        have hw2 : w.heap.size ≤ w2.heap.size ∧ kb < w2.heap.size := ⟨L2.out.2.1.size, blk_lt L2.out.2.2.1⟩
        have L2d : Hid (LS w0 w w2.drew g kb ao len cap (.slice a fs.length c) fs) := ls_below L2.out (Below.refl _ _).drew
        have L2a : Hid (LS w0 w (w2.alloc (.cells #[.string ⟨#[]⟩, .string ⟨#[]⟩, .bool false] 61)).drew g kb ao len cap (.slice a fs.length c) fs) := ls_below L2.out ((Below.refl _ w2).alloc (Nat.le_refl _) _).drew
        have hck : w2.cell? ⟨kb, k, none⟩ = some (.string K) := KS.out _ L2.out
        go_wp2_with fail
        go_cut [6] from 9 to 37 (fun xb wx => ∃ (X : Nat) (T : ByteArray), xb = .pointer (some ⟨X, 0, none⟩) ∧ T.size ≤ 12 ∧ w2.heap.size ≤ X ∧ Hid (LS w0 w wx g kb ao len cap (.slice a fs.length c) fs) ∧ Hid (wx.heap[X]? = some (.cells #[.string K, .string T, .bool false] 61 (0, 0))))
        case first =>
          rename_i hJ9 hK9
          go_region_held3 (fun w' => w'.cell? ⟨kb, k, none⟩ = some (.string K)) (first | (exact KS.out _ L2d.out) | (exact KS.out _ L2a.out) | (exact KS.out _ L3.out) | (exact KS.out _ (ls_below L3.out ((Below.refl _ w3).alloc (Nat.le_refl _) _))) | (exact KS.out _ L4.out) | (exact KS.out _ (ls_below L4.out ((Below.refl _ w4).alloc (Nat.le_refl _) _))) | (exact KS.out _ (ls_far (ls_far (ls_far L4.out hg (by omega) (by omega) (fun b hb => Nat.lt_of_lt_of_le (hvb.out b hb) hX4)) hg (by omega) (by omega) (fun b hb => Nat.lt_of_lt_of_le (hvb.out b hb) hX4)) hg (by omega) (by omega) (fun b hb => Nat.lt_of_lt_of_le (hvb.out b hb) hX4))) | fail) ((first | (go_at_call 19; refine (below_any w0 _ g ao len cap _ hlen (by omega) HC.out L2d.out.1).mono ?_; rintro e w3 ⟨x, rfl, hx, _, hc3, g3⟩; have hx12 := hx (by omega); have L3 := hide (ls_grown L2d.out hg hkb' hc3 g3); have hS3 : w2.heap.size ≤ w3.heap.size := (g3.size : w2.heap.size ≤ w3.heap.size); clear hx hc3 g3) | (go_at_call 19; refine (below_any w0 _ g ao len cap _ hlen (by omega) HC.out L2a.out.1).mono ?_; rintro e w3 ⟨x, rfl, hx, _, hc3, g3⟩; have hx12 := hx (by omega); have L3 := hide (ls_grown L2a.out hg hkb' hc3 g3); have hS3 : w2.heap.size ≤ w3.heap.size := (Nat.le_trans (by simp) g3.size : w2.heap.size ≤ w3.heap.size); have q3 : Hid (w3.heap[w2.heap.size]? = some (.cells #[.string ⟨#[]⟩, .string ⟨#[]⟩, .bool false] 61 (0, 0))) := (g3.block w2.heap.size (by simp) (by simp; omega)).trans (heap_alloc_new w2 _); clear hx hc3 g3) | (go_at_call 68; refine (text_any w0 _ g ao len cap _ hlen (by omega) HC.out L3.out.1).mono ?_; rintro e w4 ⟨l, rfl, hl, hc4, g4⟩; have L4 := hide (ls_grown L3.out hg hkb' hc4 g4); have q4 := hide ((g4.block _ (blk_lt q3.out) (by simp; omega)).trans q3.out); have hX4 := Nat.le_refl w2.heap.size; have hq0 : w4.cell? ⟨w2.heap.size, 0, none⟩ = some (.string ⟨#[]⟩) := (cell_of_row w4 _ 0 _ _ (0, 0) q4.out).trans rfl; have hq1 : w4.cell? ⟨w2.heap.size, 1, none⟩ = some (.string ⟨#[]⟩) := (cell_of_row w4 _ 1 _ _ (0, 0) q4.out).trans rfl; have hq2 : w4.cell? ⟨w2.heap.size, 2, none⟩ = some (.bool false) := (cell_of_row w4 _ 2 _ _ (0, 0) q4.out).trans rfl; have hf0 := frozen_of_row w4 _ 0 _ _ q4.out; have hf1 := frozen_of_row w4 _ 1 _ _ q4.out; have hf2 := frozen_of_row w4 _ 2 _ _ q4.out; obtain ⟨T, HT⟩ : ∃ T : ByteArray, Hid ((⟨l.toArray⟩ : ByteArray) = T) := ⟨_, hide rfl⟩; have hT : T.size ≤ 12 := (by rw [← HT.out]; show l.length ≤ 12; omega); rw [HT.out]; clear hl hc4 g4) | (go_at_call 68; refine (text_any w0 _ g ao len cap _ hlen (by omega) HC.out L3.out.1).mono ?_; rintro e w4 ⟨l, rfl, hl, hc4, g4⟩; have L4 := hide (ls_grown L3.out hg hkb' hc4 g4); have hS4 : w2.heap.size ≤ w4.heap.size := Nat.le_trans hS3 g4.size; obtain ⟨T, HT⟩ : ∃ T : ByteArray, Hid ((⟨l.toArray⟩ : ByteArray) = T) := ⟨_, hide rfl⟩; have hT : T.size ≤ 12 := (by rw [← HT.out]; show l.length ≤ 12; omega); rw [HT.out]; clear hl hc4 g4) | (go_at_call 68; refine (text_any w0 _ g ao len cap _ hlen (by omega) HC.out (ls_below L3.out ((Below.refl _ w3).alloc (Nat.le_refl _) _)).1).mono ?_; rintro e w4 ⟨l, rfl, hl, hc4, g4⟩; have L4 := hide (ls_grown (ls_below L3.out ((Below.refl _ w3).alloc (Nat.le_refl _) _)) hg hkb' hc4 g4); have q4 : Hid (w4.heap[w3.heap.size]? = some (.cells #[.string ⟨#[]⟩, .string ⟨#[]⟩, .bool false] 61 (0, 0))) := (g4.block w3.heap.size (by simp) (by simp; omega)).trans (heap_alloc_new w3 _); have hX4 := hS3; have hq0 : w4.cell? ⟨w3.heap.size, 0, none⟩ = some (.string ⟨#[]⟩) := (cell_of_row w4 _ 0 _ _ (0, 0) q4.out).trans rfl; have hq1 : w4.cell? ⟨w3.heap.size, 1, none⟩ = some (.string ⟨#[]⟩) := (cell_of_row w4 _ 1 _ _ (0, 0) q4.out).trans rfl; have hq2 : w4.cell? ⟨w3.heap.size, 2, none⟩ = some (.bool false) := (cell_of_row w4 _ 2 _ _ (0, 0) q4.out).trans rfl; have hf0 := frozen_of_row w4 _ 0 _ _ q4.out; have hf1 := frozen_of_row w4 _ 1 _ _ q4.out; have hf2 := frozen_of_row w4 _ 2 _ _ q4.out; obtain ⟨T, HT⟩ : ∃ T : ByteArray, Hid ((⟨l.toArray⟩ : ByteArray) = T) := ⟨_, hide rfl⟩; have hT : T.size ≤ 12 := (by rw [← HT.out]; show l.length ≤ 12; omega); rw [HT.out]; clear hl hc4 g4) | fail))
          all_goals (refine hK9 _ _ (Met.intro (hJ9 _ _ ?_)); (repeat apply Exists.intro); refine ⟨?_, rfl⟩)
          all_goals first | (exact ⟨_, T, rfl, hT, hX4, ls_far (ls_far (ls_far L4.out hg (by omega) (by omega) (fun b hb => Nat.lt_of_lt_of_le (hvb.out b hb) hX4)) hg (by omega) (by omega) (fun b hb => Nat.lt_of_lt_of_le (hvb.out b hb) hX4)) hg (by omega) (by omega) (fun b hb => Nat.lt_of_lt_of_le (hvb.out b hb) hX4), put_box q4.out⟩) | (exact ⟨_, T, rfl, hT, hS4, ls_below L4.out ((Below.refl _ w4).alloc (Nat.le_refl _) _), heap_alloc_new w4 _⟩)
        case rest =>
        obtain ⟨X, T, rfl, hT, hX, L5, q5⟩ := hcut
        clear hck L2d L2a KS L2
        go_wp2_with fail
        refine (once_any w0 _ g ao len cap _ hlen (by omega) HC.out L5.out.1).mono ?_
        rintro e w6 ⟨b2, rfl, hc6, g6⟩
        have L6 := hide (ls_grown L5.out hg hkb' hc6 g6)
        have q6 := hide ((g6.block X (blk_lt q5.out) (by simp; omega)).trans q5.out)
        clear hc6 g6 L5 q5
        cases b2
        · have hq0 : w6.cell? ⟨X, 0, none⟩ = some (.string K) := (cell_of_row w6 X 0 _ _ (0, 0) q6.out).trans rfl
          have hq1 : w6.cell? ⟨X, 1, none⟩ = some (.string T) := (cell_of_row w6 X 1 _ _ (0, 0) q6.out).trans rfl
          have hq2 : w6.cell? ⟨X, 2, none⟩ = some (.bool false) := (cell_of_row w6 X 2 _ _ (0, 0) q6.out).trans rfl
          have hsW : w.heap.size ≤ w6.heap.size := L6.out.2.1.size
          have hkbW : kb < w6.heap.size := blk_lt L6.out.2.2.1
          go_wp2_with (at_builtin; refine app_change_g _ w.heap.size (by rfl) _ _ (by rfl) _ fs ⟨K, T, false⟩ (by rfl) (L6.out.2.2.2.1.alloc _) w6.heap.size (by rfl) (heap_alloc_new w6 _) (by omega) (by simp; omega) ?_; intro g8 cap8 w8 ho8 hg8 hor8; have HO8 := hide ho8; have HG8 := hide hg8; clear ho8 hg8)
          go_roundw
          case rel =>
            have hrow := L6.out.2.2.2.1
            have hlt3 : ∀ b, (Value.slice a fs.length c).ownBlock = some b → w.heap.size ≤ b := fun b hb => (hrow.lt b hb).1
            have b8 : Below w.heap.size w6 w8 := ((Below.refl w.heap.size w6).alloc hsW _).trans ((Below.refl w.heap.size (w6.alloc (.cells #[.string K, .string T, .bool false] 61))).grown HG8.out (by simp; omega) hlt3)
            have hne := L6.out.2.2.2.2
            have k8 : w8.heap[kb]? = _ := (HG8.out.block kb (by simp; omega) (fun e => hne e.symm)).trans ((((Below.refl w6.heap.size w6).alloc (Nat.le_refl _) _).block kb hkbW).trans L6.out.2.2.1)
            have hl8 : (fs ++ [(⟨K, T, false⟩ : ChangeD)]).length = fs.length + 1 := by simp
            refine ⟨k + 1, some ⟨g8, 0, none⟩, cap8, fs ++ [⟨K, T, false⟩], by rw [hl8], by go_num, by omega, by rw [hl8]; omega, ?_, ?_⟩
            · intro A hA
              rcases List.mem_append.1 hA with hA | hA
              · exact HAS.out A hA
              · rw [List.mem_singleton.1 hA]
                exact ⟨by show K.size ≤ 12; omega, by show ByteArray.size T ≤ 12; first | exact hT | decide⟩
            · rw [hl8]
              refine ⟨cur_keep L6.out.1 b8 hg, grownBy_then L6.out.2.1 b8, k8, ?_, ?_⟩
              · have h := HO8.out
                rw [hl8] at h
                rw [hl8]
                exact h
              · intro e
                have e' : g8 = kb := by simpa [Value.ownBlock] using e
                rcases hor8 with h | h
                · exact hne (by rw [h, e'])
                · have hs9 : (w6.alloc (.cells #[.string K, .string T, .bool false] 61)).heap.size = w6.heap.size + 1 := by simp
                  omega
          case measure => simp [intOf]; omega
        · have hck6 : w6.cell? ⟨kb, k, none⟩ = some (.string K) := ls_key L6.out hK
          have hq0 : w6.cell? ⟨X, 0, none⟩ = some (.string K) := (cell_of_row w6 X 0 _ _ (0, 0) q6.out).trans rfl
          have hq1 : w6.cell? ⟨X, 1, none⟩ = some (.string T) := (cell_of_row w6 X 1 _ _ (0, 0) q6.out).trans rfl
          have hq2 : w6.cell? ⟨X, 2, none⟩ = some (.bool false) := (cell_of_row w6 X 2 _ _ (0, 0) q6.out).trans rfl
          have hf0 := frozen_of_row w6 X 0 _ _ q6.out
          have hf1 := frozen_of_row w6 X 1 _ _ q6.out
          have hf2 := frozen_of_row w6 X 2 _ _ q6.out
          have q7 := hide (put_box (x := .string K) (y := .string ⟨#[]⟩) (z := .bool true) q6.out)
          have L7 := hide (ls_far (j := 2) (u := .bool true) (ls_far (j := 1) (u := .string ⟨#[]⟩) (ls_far (j := 0) (u := .string K) L6.out hg (by omega) (by omega) (fun b hb => Nat.lt_of_lt_of_le (hvb.out b hb) hX)) hg (by omega) (by omega) (fun b hb => Nat.lt_of_lt_of_le (hvb.out b hb) hX)) hg (by omega) (by omega) (fun b hb => Nat.lt_of_lt_of_le (hvb.out b hb) hX))
          go_upto_region 10 with fail
          generalize ((w6.setCell ⟨X, 0, none⟩ (.string K)).setCell ⟨X, 1, none⟩ (.string ⟨#[]⟩)).setCell ⟨X, 2, none⟩ (.bool true) = w7 at q7 L7
          clear hck6 hq0 hq1 hq2 hf0 hf1 hf2 q6 L6
          have hq0 : w7.cell? ⟨X, 0, none⟩ = some (.string K) := (cell_of_row w7 X 0 _ _ (0, 0) q7.out).trans rfl
          have hq1 : w7.cell? ⟨X, 1, none⟩ = some (.string ⟨#[]⟩) := (cell_of_row w7 X 1 _ _ (0, 0) q7.out).trans rfl
          have hq2 : w7.cell? ⟨X, 2, none⟩ = some (.bool true) := (cell_of_row w7 X 2 _ _ (0, 0) q7.out).trans rfl
          have hsW : w.heap.size ≤ w7.heap.size := L7.out.2.1.size
          have hkbW : kb < w7.heap.size := blk_lt L7.out.2.2.1
          go_wp2_with (at_builtin; refine app_change_g _ w.heap.size (by rfl) _ _ (by rfl) _ fs ⟨K, ⟨#[]⟩, true⟩ (by rfl) (L7.out.2.2.2.1.alloc _) w7.heap.size (by rfl) (heap_alloc_new w7 _) (by omega) (by simp; omega) ?_; intro g8 cap8 w8 ho8 hg8 hor8; have HO8 := hide ho8; have HG8 := hide hg8; clear ho8 hg8)
          go_roundw
          case rel =>
            have hrow := L7.out.2.2.2.1
            have hlt3 : ∀ b, (Value.slice a fs.length c).ownBlock = some b → w.heap.size ≤ b := fun b hb => (hrow.lt b hb).1
            have b8 : Below w.heap.size w7 w8 := ((Below.refl w.heap.size w7).alloc hsW _).trans ((Below.refl w.heap.size (w7.alloc (.cells #[.string K, .string ⟨#[]⟩, .bool true] 61))).grown HG8.out (by simp; omega) hlt3)
            have hne := L7.out.2.2.2.2
            have k8 : w8.heap[kb]? = _ := (HG8.out.block kb (by simp; omega) (fun e => hne e.symm)).trans ((((Below.refl w7.heap.size w7).alloc (Nat.le_refl _) _).block kb hkbW).trans L7.out.2.2.1)
            have hl8 : (fs ++ [(⟨K, ⟨#[]⟩, true⟩ : ChangeD)]).length = fs.length + 1 := by simp
            refine ⟨k + 1, some ⟨g8, 0, none⟩, cap8, fs ++ [⟨K, ⟨#[]⟩, true⟩], by rw [hl8], by go_num, by omega, by rw [hl8]; omega, ?_, ?_⟩
            · intro A hA
              rcases List.mem_append.1 hA with hA | hA
              · exact HAS.out A hA
              · rw [List.mem_singleton.1 hA]
                exact ⟨by show K.size ≤ 12; omega, by show ByteArray.size ⟨#[]⟩ ≤ 12; first | exact hT | decide⟩
            · rw [hl8]
              refine ⟨cur_keep L7.out.1 b8 hg, grownBy_then L7.out.2.1 b8, k8, ?_, ?_⟩
              · have h := HO8.out
                rw [hl8] at h
                rw [hl8]
                exact h
              · intro e
                have e' : g8 = kb := by simpa [Value.ownBlock] using e
                rcases hor8 with h | h
                · exact hne (by rw [h, e'])
                · have hs9 : (w7.alloc (.cells #[.string K, .string ⟨#[]⟩, .bool true] 61)).heap.size = w7.heap.size + 1 := by simp
                  omega
          case measure => simp [intOf]; omega
    · have hlt' : decide ((k : Int) < 6) = false := by simp; omega
      have hkg : Hid (w.grownBy wr (some g)) := HL.out.2.1
      by_cases hz : fs.length = 0
      · have hz' : ((fs.length : Int) == 0) = true := by rw [beq_iff_eq]; omega
        have HNIL : Hid (fs = []) := List.eq_nil_of_length_eq_zero hz
        clear hz
        go_wp2_with fail
        refine (key_any w0 _ g ao len cap hlen HC.out HL.out.1).mono ?_
        rintro e w2 ⟨K, rfl, hK, hc2, g2⟩
        have L2 := hide (ls_grown HL.out hg hkb' hc2 g2)
        clear hc2 g2 HL hkg
        go_wp2_with fail
        refine (text_any w0 _ g ao len cap _ hlen (by omega) HC.out L2.out.1).mono ?_
        rintro e w3 ⟨l, rfl, hl, hc3, g3⟩
        have L3 := hide (ls_grown L2.out hg hkb' hc3 g3)
        clear hc3 g3 L2
        obtain ⟨T, HT⟩ : ∃ T : ByteArray, Hid ((⟨l.toArray⟩ : ByteArray) = T) := ⟨_, hide rfl⟩
        have hTz : T.size ≤ 12 := by rw [← HT.out]; show l.length ≤ 12; omega
        rw [HT.out]
        clear hl
        have hs3 : w.heap.size ≤ w3.heap.size := L3.out.2.1.size
        have hkb3 : kb < w3.heap.size := blk_lt L3.out.2.2.1
        go_wp2_with (at_builtin; refine app_change_g _ w.heap.size (by rfl) _ _ (by rfl) _ fs ⟨K, T, false⟩ (by rfl) (L3.out.2.2.2.1.alloc _) w3.heap.size (by rfl) (heap_alloc_new w3 _) (by omega) (by simp; omega) ?_; intro g3 cap3 w4 ho4 hg4 hor4; have HO4 := hide ho4; have HG4 := hide hg4; clear ho4 hg4)
        go_ret
        have hrow := L3.out.2.2.2.1
        have hlt3 : ∀ b, (Value.slice a fs.length c).ownBlock = some b → w.heap.size ≤ b := fun b hb => (hrow.lt b hb).1
        have bb := (Below.refl w.heap.size (w3.alloc (.cells #[.string K, .string T, .bool false] 61))).grown HG4.out (by simp; omega) hlt3
        have b3 : Below w.heap.size w3 w4 := ((Below.refl w.heap.size w3).alloc hs3 _).trans bb
        have hnil := HNIL.out
        clear HNIL
        subst hnil
        have HOX := HO4.out
        refine ⟨_, cap3, [⟨K, T, false⟩], rfl, HOX, by simp, by simp, fun A hA => ?_, cur_keep L3.out.1 b3 hg, grownBy_then L3.out.2.1 b3⟩
        rw [List.mem_singleton.1 hA]
        exact ⟨by show K.size ≤ 12; omega, hTz⟩
      · have hz' : ((fs.length : Int) == 0) = false := by rw [beq_eq_false_iff_ne]; omega
        go_wp2_with fail
        go_ret
        exact ⟨a, c, fs, rfl, HL.out.2.2.2.1, by omega, by omega, HAS.out, HL.out.1, hkg.out⟩
end Go.Proofs.YtijmlgdeeodehabDoor
