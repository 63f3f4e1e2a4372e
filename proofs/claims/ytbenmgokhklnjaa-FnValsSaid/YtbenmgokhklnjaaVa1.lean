import Derived.Lib.SmallJoins
import Derived.OpenShut
import Derived.Test.YtbenmgokhklnjaaVa0
set_option maxRecDepth 100000
set_option maxHeartbeats 1000000
namespace Go.Proofs.Ytbenmgokhklnjaa
open Go.RowKit
theorem grownBy_then {a b c : World} {r : Option Nat} (h : a.grownBy b r) (k : Below a.heap.size b c) : a.grownBy c r :=
  ⟨k.os.trans h.os, k.tape.trans h.tape, k.output.trans h.output, Nat.le_trans h.size k.size, fun i hi hr => (k.block i hi).trans (h.block i hi hr)⟩
theorem cur_keep {w0 w w' : World} {g : Nat} {ao : Option Addr} {len cap B : Nat} (h : CurAt w0 w g ao len cap) (hb : Below B w w') (hB : g < B) : CurAt w0 w' g ao len cap := by
  obtain ⟨h1, h2, i, x, T, hi, hh⟩ := h
  exact ⟨h1.trans (hb.mono (by omega)), h2, i, x, T, hi, by rw [hb.block g hB]; exact hh⟩
theorem cur_lt {w0 w : World} {g : Nat} {ao : Option Addr} {len cap : Nat} (h : CurAt w0 w g ao len cap) : g < w.heap.size := by
  obtain ⟨_, _, i, x, T, _, hh⟩ := h
  rcases Nat.lt_or_ge g w.heap.size with h | h
  · exact h
  · rw [Array.getElem?_eq_none h] at hh; cases hh
theorem row_keep {w w' : World} {B g n : Nat} {e : TypeId} {size : Nat} {v : Value} {xs : List Value} (h : w.ownsRow B e size v n xs) (hg : w.grownBy w' (some g)) (hB : g < B) : w'.ownsRow B e size v n xs := by
  refine h.kept hg ?_
  cases hv : v.ownBlock with
  | none => exact .inl rfl
  | some k =>
    right
    intro e
    have := (h.lt k hv).1
    simp at e
    omega
theorem text_small (w0 w : World) (g : Nat) (ao : Option Addr) (len cap : Nat) (n : Int) (hlen : len ≤ 1048576) (hn : n ≤ 5000) (hcode : Code w0 ao len) (hc : CurAt w0 w g ao len cap) :
    Calls Try.prog 73 #[.pointer (some ⟨g, 0, none⟩), .int .i64 n] w fun e w' => ∃ l : List UInt8, e = .returned (.string ⟨l.toArray⟩) ∧ l.length = n.toNat ∧ CurAt w0 w' g ao len cap ∧ w.grownBy w' (some g) := by
  have hgl := cur_lt hc
  have HC := hide hcode
  have HU := hide hc
  clear hcode hc
  have hn' : decide (5000 < n) = false := by simp; omega
  go_enter Try.func73, Try.ntmps73
  go_wp2
  go_loopw [5, 6] (fun v ii wr => ∃ (k : Nat) (l : List UInt8), ii = .int .i64 k ∧ k ≤ n.toNat ∧ l.length = k ∧ wr.ownsRow w.heap.size 5 1 v l.length (l.map bv) ∧ Hid (CurAt w0 wr g ao len cap) ∧ Hid (w.grownBy wr (some g)) ∧ w.heap.size ≤ wr.heap.size) (fun _ ii _ => n.toNat - (intOf ii).toNat)
  case atStart =>
    refine ⟨0, [], rfl, Nat.zero_le _, rfl, World.ownsRow_lit w #[] 0 (Nat.le_refl _) (by unfold maxLen; omega) (by simp), cur_keep HU.out ((Below.refl w.heap.size w).alloc (Nat.le_refl _) _) hgl, grownBy_below _ ((Below.refl _ _).alloc (Nat.le_refl _) _), by simp⟩
  case round =>
    obtain ⟨k, l, rfl, hk, hl, hown, HU2, HG, hbs⟩ := hrel
    by_cases hlt : (k : Int) < n
    · have hlt' : decide ((k : Int) < n) = true := by simp; omega
      have HO := hide hown
      have HLL := hide hl
      clear hown hl
      go_wp2_with fail
      refine (byte_any w0 _ g ao len cap hlen HC.out HU2.out).mono ?_
      rintro e w1 ⟨x, rfl, hx, hc1, g1⟩
      have hown1 := row_keep HO.out g1 hgl
      have HU3 := hide hc1
      have G1 := hide g1
      have hs1 := g1.size
      clear hc1 g1
      obtain ⟨y, hyn⟩ : ∃ y : UInt8, Hid ((x : Int) = (y.toNat : Int)) := ⟨UInt8.ofNat x, by simp only [Hid, UInt8.toNat_ofNat']; omega⟩
      have hC : Hid ((#[.int .u8 (x : Int)] : Array Value).toList = [y].map bv) := by simp only [Hid, bv, List.map_cons, List.map_nil, hyn.out]
      have hll : l.length + [y].length ≤ 70368744177664 := by have := HLL.out; simp; omega
      go_wp2_with (at_builtin; refine app_bytes w1 22 5 Try.underlying22 Try.info5 w1 w.heap.size rfl _ _ rfl _ l [y] rfl hown1 rfl hC.out hll (Below.refl _ _) (by omega) ?_; intro v' w2 hown2 hb2 hs2)
      go_roundw
      case rel => exact ⟨k + 1, l ++ [y], by go_num, by omega, by have := HLL.out; simp; omega, hown2, cur_keep HU3.out hb2 hgl, grownBy_then (grownBy_trans HG.out G1.out) hb2, by omega⟩
      case measure => simp [intOf]; omega
    · have hlt' : decide ((k : Int) < n) = false := by simp; omega
      have hcv := conv_own 22 5 9 Try.underlying22 Try.underlying5 Try.underlying9 wr _ _ _ hown
      have HLL := hide hl
      clear hl
      go_wp2
      go_ret
      exact ⟨l, rfl, by have := HLL.out; omega, HU2.out, HG.out⟩
theorem text_any (w0 w : World) (g : Nat) (ao : Option Addr) (len cap : Nat) (n : Int) (hlen : len ≤ 1048576) (hn : n ≤ 5000) (hcode : Code w0 ao len) (hc : CurAt w0 w g ao len cap) :
    Calls Try.prog 73 #[.pointer (some ⟨g, 0, none⟩), .int .i64 n] w fun e w' => ∃ l : List UInt8, e = .returned (.string ⟨l.toArray⟩) ∧ l.length = n.toNat ∧ CurAt w0 w' g ao len cap ∧ w.grownBy w' (some g) :=
  text_small w0 w g ao len cap n hlen hn hcode hc
theorem pickText_any (w0 w : World) (g b : Nat) (ao : Option Addr) (len cap n : Nat) (zs : List ByteArray) (hlen : len ≤ 1048576) (hcode : Code w0 ao len) (hc : CurAt w0 w g ao len cap) (hne : b ≠ g)
    (hzs : zs.length = n) (hn0 : 0 < n) (hn : n ≤ 1000) (hcells : ∀ j z, zs[j]? = some z → w.cell? ⟨b, j, none⟩ = some (.string z)) :
    Calls Try.prog 65 #[.pointer (some ⟨g, 0, none⟩), .slice (some ⟨b, 0, none⟩) n n] w fun e w' => ∃ z : ByteArray, e = .returned (.string z) ∧ z ∈ zs ∧ CurAt w0 w' g ao len cap ∧ w.grownBy w' (some g) := by
  have HC := hide hcode
  have HU := hide hc
  have HZ := hide hcells
  have HN := hide hzs
  clear hcode hc hcells hzs
  go_enter Try.func65, Try.ntmps65
  go_wp2_with fail
  refine (below_any w0 _ g ao len cap _ hlen (by omega) HC.out HU.out).mono ?_
  rintro e w1 ⟨x, rfl, hx, _, hc1, g1⟩
  have hxn : (x : Int) < (n : Int) := hx (by omega)
  have hx0 : (0 : Int) ≤ (x : Int) := by omega
  have hxl : x < zs.length := by rw [HN.out]; omega
  have hcell : w1.cell? ⟨b, x, none⟩ = some (.string zs[x]) := g1.cell (HZ.out x zs[x] (List.getElem?_eq_getElem hxl)) (by intro e; simp at e; exact hne e)
  have HU1 := hide hc1
  have G1 := hide g1
  have HM := hide (List.getElem_mem hxl)
  generalize zs[x] = Z at hcell HM
  clear hc1 g1 hx
  go_wp2
  go_ret
  exact ⟨Z, rfl, HM.out, HU1.out, G1.out⟩
theorem made_bytes (n : Nat) : (madeCells (Value.int .u8 0).cells (n * 1)).toList = (List.replicate n (0 : UInt8)).map bv := by
  show (madeCells #[.int .u8 0] (n * 1)).toList = _
  rw [toList_madeCells_one, Nat.mul_one, List.map_replicate]
  rfl
theorem long_any (n x : Nat) (w : World) (hn : n ≤ 1000000) (hx : x < 256) :
    Calls Try.prog 64 #[.int .i64 n, .int .u8 x] w fun e w' => ∃ l : List UInt8, e = .returned (.string ⟨l.toArray⟩) ∧ l.length = n ∧ Below w.heap.size w w' := by
  obtain ⟨i0, hi, hz0, hz1, hz2⟩ := info_parts Try.info5
  go_enter Try.func64, Try.ntmps64
  go_wp2_with (at_make; refine wpList_make_full _ rfl _ _ 22 rfl w.heap.size 5 i0 (.int .u8 0) 1 Try.underlying22 hi hz0 hz1 _ _ _ _ n rfl rfl rfl rfl (by rw [hz2]; omega) (by unfold maxLen; omega) (Nat.le_refl _) ?_; intro w1 hown1 hgrow1)
  have hb1 : Below w.heap.size w w1 := (Below.refl _ _).grown hgrow1 (Nat.le_refl _) (fun k hk => by cases hk)
  rw [made_bytes] at hown1
  clear hgrow1
  obtain ⟨g, hg⟩ : ∃ g, w.heap.size = g := ⟨_, rfl⟩
  go_loopw [6] (fun ii wr => ∃ (k : Nat) (l : List UInt8), ii = .int .i64 k ∧ k ≤ n ∧ l.length = n ∧ wr.ownsRow w.heap.size 5 1 (.slice (some ⟨w.heap.size, 0, none⟩) n n) n (l.map bv) ∧ Below w.heap.size w wr) (fun ii _ => n - (intOf ii).toNat)
  case atStart => exact ⟨0, _, rfl, Nat.zero_le _, by simp, hown1, hb1⟩
  case round =>
    obtain ⟨k, l, rfl, hk, hl, hown, hb⟩ := hrel
    have HL := hide hl
    clear hl hown1 hb1 hg
    by_cases hlt : k < n
    · have hfr := hown.frozenAt k
      have hcl : wr.cell? ⟨w.heap.size, k, none⟩ = some (.int .u8 ((l[k]'(by rw [HL.out]; exact hlt)).toNat : Int)) := by
        rw [hown.cellAt k (by omega), List.getElem?_map, List.getElem?_eq_getElem (by rw [HL.out]; exact hlt)]; rfl
      have hi0 : (0 : Int) ≤ (k : Int) := by omega
      have hi1 : (k : Int) < (n : Int) := by omega
      have HO := hide hown
      have HB := hide hb
      clear hown hb
      go_wp2
      go_roundw
      case rel =>
        refine ⟨k + 1, l.set k (UInt8.ofNat x), by go_num, by omega, by rw [List.length_set]; exact HL.out, ?_, HB.out.setCell (p := ⟨w.heap.size, k, none⟩) (Nat.le_refl _) _⟩
        have := (HO.out.stored k (bv (UInt8.ofNat x))).1
        rw [List.map_set]
        have e : bv (UInt8.ofNat x) = .int .u8 (x : Int) := by
          have : ((UInt8.ofNat x).toNat : Int) = (x : Int) := by simp only [UInt8.toNat_ofNat']; omega
          unfold bv; rw [this]
        rw [e] at this ⊢
        exact this
      case measure => simp [intOf]; omega
    · have hcv := conv_own 22 5 9 Try.underlying22 Try.underlying5 Try.underlying9 wr _ _ l (by rw [HL.out]; exact hown)
      go_wp2
      go_ret
      exact ⟨l, rfl, HL.out, hb⟩
theorem pickInt_any (w0 w : World) (g b : Nat) (ao : Option Addr) (len cap n : Nat) (zs : List Int) (hlen : len ≤ 1048576) (hcode : Code w0 ao len) (hc : CurAt w0 w g ao len cap) (hne : b ≠ g)
    (hzs : zs.length = n) (hn0 : 0 < n) (hn : n ≤ 1000) (hcells : ∀ j z, zs[j]? = some z → w.cell? ⟨b, j, none⟩ = some (.int .i64 z)) :
    Calls Try.prog 63 #[.pointer (some ⟨g, 0, none⟩), .slice (some ⟨b, 0, none⟩) n n] w fun e w' => ∃ z : Int, e = .returned (.int .i64 z) ∧ z ∈ zs ∧ CurAt w0 w' g ao len cap ∧ w.grownBy w' (some g) := by
  have HC := hide hcode
  have HU := hide hc
  have HZ := hide hcells
  have HN := hide hzs
  clear hcode hc hcells hzs
  go_enter Try.func63, Try.ntmps63
  go_wp2_with fail
  refine (below_any w0 _ g ao len cap _ hlen (by omega) HC.out HU.out).mono ?_
  rintro e w1 ⟨x, rfl, hx, _, hc1, g1⟩
  have hxn : (x : Int) < (n : Int) := hx (by omega)
  have hx0 : (0 : Int) ≤ (x : Int) := by omega
  have hxl : x < zs.length := by rw [HN.out]; omega
  have hcell : w1.cell? ⟨b, x, none⟩ = some (.int .i64 zs[x]) := g1.cell (HZ.out x zs[x] (List.getElem?_eq_getElem hxl)) (by intro e; simp at e; exact hne e)
  have HU1 := hide hc1
  have G1 := hide g1
  clear hc1 g1 hx
  go_wp2
  go_ret
  exact ⟨zs[x], rfl, List.getElem_mem hxl, HU1.out, G1.out⟩
theorem ints_cells {w : World} {b : Nat} {T : TypeId} (zs : List Int) (h : w.heap[b]? = some (.cells (zs.map (Value.int .i64)).toArray T (0, 0))) : ∀ j z, zs[j]? = some z → w.cell? ⟨b, j, none⟩ = some (.int .i64 z) := by
  intro j z hz
  rw [cell_of_row w b j _ _ (0, 0) h, List.getElem?_toArray, List.getElem?_map, hz]
  rfl
theorem texts_cells {w : World} {b : Nat} {T : TypeId} (zs : List ByteArray) (h : w.heap[b]? = some (.cells (zs.map Value.string).toArray T (0, 0))) : ∀ j z, zs[j]? = some z → w.cell? ⟨b, j, none⟩ = some (.string z) := by
  intro j z hz
  rw [cell_of_row w b j _ _ (0, 0) h, List.getElem?_toArray, List.getElem?_map, hz]
  rfl
theorem long_int (n x : Int) (w : World) (h0 : 0 ≤ n) (hn : n ≤ 1000000) (hx0 : 0 ≤ x) (hx : x < 256) :
    Calls Try.prog 64 #[.int .i64 n, .int .u8 x] w fun e w' => ∃ T : ByteArray, e = .returned (.string T) ∧ T.size = n.toNat ∧ Below w.heap.size w w' := by
  obtain ⟨m, rfl⟩ := Int.eq_ofNat_of_zero_le h0
  obtain ⟨y, rfl⟩ := Int.eq_ofNat_of_zero_le hx0
  refine (long_any m y w (by omega) (by omega)).mono ?_
  rintro e w' ⟨l, rfl, hl, hb⟩
  exact ⟨⟨l.toArray⟩, rfl, by show l.length = _; omega, hb⟩
theorem code_keep {w0 w : World} {ao : Option Addr} {len : Nat} (h : Code w0 ao len) (hb : Below w0.heap.size w0 w) : Code w ao len := by
  intro j hj
  obtain ⟨b, off, z, h1, h2, h3, h4⟩ := h j hj
  exact ⟨b, off, z, h1, Nat.lt_of_lt_of_le h2 hb.size, (hb.cell (p := ⟨b, off + j, none⟩) h2).trans h3, h4⟩
theorem big_any (w : World) (ao : Option Addr) (len cap : Nat) :
    Calls Try.prog 6 #[.slice ao len cap] w fun e w' => e = .returned (.bool (decide (1048576 < (len : Int)))) ∧ w' = w := by
  go_enter Try.func6, Try.ntmps6
  go_wp2
  go_ret
  exact ⟨rfl, rfl⟩
def mk (k : Nat) : List UInt8 := 109 :: Wd.decA 20 k []
theorem val_cells {W : World} {g : Nat} {a b c d : Value} {t : TypeId} (h : W.heap[g]? = some (.cells #[a, b, c, d] t (0, 0))) : W.cell? ⟨g, 0, none⟩ = some a ∧ W.cell? ⟨g, 1, none⟩ = some b ∧ W.cell? ⟨g, 2, none⟩ = some c ∧ W.cell? ⟨g, 3, none⟩ = some d :=
  ⟨(cell_of_row W g 0 _ _ (0, 0) h).trans rfl, (cell_of_row W g 1 _ _ (0, 0) h).trans rfl, (cell_of_row W g 2 _ _ (0, 0) h).trans rfl, (cell_of_row W g 3 _ _ (0, 0) h).trans rfl⟩
theorem val_frozen {W : World} {g : Nat} {a b c d : Value} {t : TypeId} (h : W.heap[g]? = some (.cells #[a, b, c, d] t (0, 0))) : W.frozen? ⟨g, 0, none⟩ = false ∧ W.frozen? ⟨g, 1, none⟩ = false ∧ W.frozen? ⟨g, 2, none⟩ = false ∧ W.frozen? ⟨g, 3, none⟩ = false :=
  ⟨frozen_of_row W g 0 _ _ h, frozen_of_row W g 1 _ _ h, frozen_of_row W g 2 _ _ h, frozen_of_row W g 3 _ _ h⟩
theorem obj_lt {w : World} {k : Nat} {x : Obj} (h : w.heap[k]? = some x) : k < w.heap.size := (Array.getElem?_eq_some_iff.1 h).1
theorem blk_newd {X w2 : World} {C : Array Value} {t : TypeId} (b2 : Below (X.alloc (.cells C t)).drew.heap.size (X.alloc (.cells C t)).drew w2) : w2.heap[X.heap.size]? = some (.cells C t (0, 0)) := (b2.block X.heap.size (by simp)).trans (heap_alloc_new X _)
theorem val_keep {w w' : World} {g n : Nat} {o : Obj} (h : w.heap[g]? = some o) (hb : Below n w w') (hg : g < n) : w'.heap[g]? = some o := (hb.block g hg).trans h
end Go.Proofs.Ytbenmgokhklnjaa
