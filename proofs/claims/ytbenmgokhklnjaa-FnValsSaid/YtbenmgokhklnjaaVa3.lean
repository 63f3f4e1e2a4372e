import Derived.Deep.Upon
import Derived.Laws.MakeOwn
import Derived.Lib.SmallJoins
import Derived.OpenShut
import Derived.Deep.RegionHeld3
import Derived.Deep.RegionLaw
import Derived.Deep.CutRange
import Derived.Test.YtbenmgokhklnjaaVa2
import Derived.Test.YtbenmgokhklnjaaVa0
import Derived.Test.YtbenmgokhklnjaaVa1
set_option maxRecDepth 100000
set_option maxHeartbeats 6400000
namespace Go.Proofs.Ytbenmgokhklnjaa
open Go.RowKit
def BndV (v : ValD) : Prop := v.text.size ≤ 100 ∧ v.items.length ≤ 60 ∧ ∀ s ∈ v.items, s.size ≤ 100
theorem bndV_of {v : ValD} (h : ValR v) : BndV v := by
  obtain ⟨-, -, -, -, h1, h2, h3⟩ := valR_bounds h
  exact ⟨by omega, by omega, fun s hs => by have := h3 s hs; omega⟩
theorem bndV_put {k u : Int} {s x : ByteArray} {acc : List ByteArray} (h : BndV ⟨k, u, s, acc⟩) (hl : acc.length ≤ 50) (hx : x.size ≤ 100) : BndV ⟨k, u, s, acc ++ [x]⟩ := by
  refine ⟨h.1, by simp; omega, fun y hy => ?_⟩
  rcases List.mem_append.1 hy with hy | hy
  · exact h.2.2 y hy
  · obtain rfl : y = x := by simpa using hy
    exact hx
def StX (w0 w wr : World) (g : Nat) (ao : Option Addr) (len cap p : Nat) (k u : Int) (s : ByteArray) (v : Value) (acc : List ByteArray) : Prop :=
  CurAt w0 wr g ao len cap ∧ w.grownBy wr (some g) ∧ w.heap.size + 1 ≤ p ∧ g < w.heap.size ∧ wr.heap[w.heap.size]? = some (.cells #[.int .i64 0, .int .i64 0, .string ⟨#[]⟩, .slice none 0 0] 26 (0, 0)) ∧ wr.heap[p]? = some (.cells #[.int .i64 k, .int .i64 u, .string s, v] 26 (0, 0)) ∧
  wr.ownsRow (w.heap.size + 1) 9 1 v acc.length (acc.map Value.string)
theorem val_apart {W : World} {B p n : Nat} {v : Value} {xs : List Value} {C : Array Value} (h : W.ownsRow B 9 1 v n xs) (hp : W.heap[p]? = some (.cells C 26 (0, 0))) : v.ownBlock ≠ some p := by
  intro e
  obtain ⟨C', h1⟩ := owns_blockE h e
  rw [h1] at hp
  simp at hp
theorem apart_or {v : Value} {p : Nat} (h : v.ownBlock ≠ some p) : v.ownBlock = none ∨ v.ownBlock ≠ some p := .inr h
theorem stX_call {w0 w wr w' : World} {g : Nat} {ao : Option Addr} {len cap p : Nat} {k u : Int} {s : ByteArray} {v : Value} {acc : List ByteArray} (h : StX w0 w wr g ao len cap p k u s v acc) (hc : CurAt w0 w' g ao len cap) (hg : wr.grownBy w' (some g)) : StX w0 w w' g ao len cap p k u s v acc := by
  obtain ⟨h1, h2, h3, h4, h5, h6, h7⟩ := h
  exact ⟨hc, h2.trans hg, h3, h4, (hg.block _ (obj_lt h5) (by simp; omega)).trans h5, (hg.block _ (obj_lt h6) (by simp; omega)).trans h6, row_keep h7 hg (by omega)⟩
theorem stX_below {w0 w wr w' : World} {g : Nat} {ao : Option Addr} {len cap p : Nat} {k u : Int} {s : ByteArray} {v : Value} {acc : List ByteArray} (h : StX w0 w wr g ao len cap p k u s v acc) (hb : Below wr.heap.size wr w') : StX w0 w w' g ao len cap p k u s v acc := by
  obtain ⟨h1, h2, h3, h4, h5, h6, h7⟩ := h
  exact ⟨cur_keep h1 hb (cur_lt h1), grownBy_then h2 (hb.mono h2.size), h3, h4, (hb.block _ (obj_lt h5)).trans h5, (hb.block _ (obj_lt h6)).trans h6, ownsRow_below h7 hb⟩
theorem stX_kind {w0 w wr : World} {g : Nat} {ao : Option Addr} {len cap p : Nat} {k u : Int} {s : ByteArray} {v : Value} {acc : List ByteArray} (h : StX w0 w wr g ao len cap p k u s v acc) (k' : Int) : StX w0 w (wr.setCell ⟨p, 0, none⟩ (.int .i64 k')) g ao len cap p k' u s v acc := by
  obtain ⟨h1, h2, h3, h4, h5, h6, h7⟩ := h
  have hg : wr.grownBy (wr.setCell ⟨p, 0, none⟩ (.int .i64 k')) (some p) := grownBy_store (World.grownBy.refl _ _) 0 _
  have hB : Below w.heap.size wr (wr.setCell ⟨p, 0, none⟩ (.int .i64 k')) := (Below.refl w.heap.size wr).setCell (p := ⟨p, 0, none⟩) (by show w.heap.size ≤ p; omega) _
  exact ⟨cur_keep h1 hB h4, grownBy_then h2 hB, h3, h4, (hg.block _ (obj_lt h5) (by simp; omega)).trans h5, (heap_setCell_same _ _ _ _ _ _ h6).trans rfl, h7.kept hg (apart_or (val_apart h7 h6))⟩
theorem stX_til {w0 w wr : World} {g : Nat} {ao : Option Addr} {len cap p : Nat} {k u : Int} {s : ByteArray} {v : Value} {acc : List ByteArray} (h : StX w0 w wr g ao len cap p k u s v acc) (u' : Int) : StX w0 w (wr.setCell ⟨p, 1, none⟩ (.int .i64 u')) g ao len cap p k u' s v acc := by
  obtain ⟨h1, h2, h3, h4, h5, h6, h7⟩ := h
  have hg : wr.grownBy (wr.setCell ⟨p, 1, none⟩ (.int .i64 u')) (some p) := grownBy_store (World.grownBy.refl _ _) 1 _
  have hB : Below w.heap.size wr (wr.setCell ⟨p, 1, none⟩ (.int .i64 u')) := (Below.refl w.heap.size wr).setCell (p := ⟨p, 1, none⟩) (by show w.heap.size ≤ p; omega) _
  exact ⟨cur_keep h1 hB h4, grownBy_then h2 hB, h3, h4, (hg.block _ (obj_lt h5) (by simp; omega)).trans h5, (heap_setCell_same _ _ _ _ _ _ h6).trans rfl, h7.kept hg (apart_or (val_apart h7 h6))⟩
theorem stX_text {w0 w wr : World} {g : Nat} {ao : Option Addr} {len cap p : Nat} {k u : Int} {s : ByteArray} {v : Value} {acc : List ByteArray} (h : StX w0 w wr g ao len cap p k u s v acc) (s' : ByteArray) : StX w0 w (wr.setCell ⟨p, 2, none⟩ (.string s')) g ao len cap p k u s' v acc := by
  obtain ⟨h1, h2, h3, h4, h5, h6, h7⟩ := h
  have hg : wr.grownBy (wr.setCell ⟨p, 2, none⟩ (.string s')) (some p) := grownBy_store (World.grownBy.refl _ _) 2 _
  have hB : Below w.heap.size wr (wr.setCell ⟨p, 2, none⟩ (.string s')) := (Below.refl w.heap.size wr).setCell (p := ⟨p, 2, none⟩) (by show w.heap.size ≤ p; omega) _
  exact ⟨cur_keep h1 hB h4, grownBy_then h2 hB, h3, h4, (hg.block _ (obj_lt h5) (by simp; omega)).trans h5, (heap_setCell_same _ _ _ _ _ _ h6).trans rfl, h7.kept hg (apart_or (val_apart h7 h6))⟩
theorem stX_row {w0 w wr w5 : World} {g : Nat} {ao : Option Addr} {len cap p : Nat} {k u : Int} {s : ByteArray} {v v' : Value} {acc acc' : List ByteArray} (h : StX w0 w wr g ao len cap p k u s v acc) (hb : Below (w.heap.size + 1) wr w5) (hp : w5.heap[p]? = wr.heap[p]?) (ho : w5.ownsRow (w.heap.size + 1) 9 1 v' acc'.length (acc'.map Value.string)) : StX w0 w (w5.setCell ⟨p, 3, none⟩ v') g ao len cap p k u s v' acc' := by
  obtain ⟨h1, h2, h3, h4, h5, h6, h7⟩ := h
  have hg : w5.grownBy (w5.setCell ⟨p, 3, none⟩ v') (some p) := grownBy_store (World.grownBy.refl _ _) 3 _
  have k5 := (hb.block w.heap.size (by omega)).trans h5
  have k6 := hp.trans h6
  have hB : Below w.heap.size wr (w5.setCell ⟨p, 3, none⟩ v') := (hb.mono (by omega)).setCell (p := ⟨p, 3, none⟩) (by show w.heap.size ≤ p; omega) _
  exact ⟨cur_keep h1 hB h4, grownBy_then h2 hB, h3, h4, (hg.block _ (obj_lt k5) (by simp; omega)).trans k5, (heap_setCell_same _ _ _ _ _ _ k6).trans rfl, ho.kept hg (apart_or (val_apart ho k6))⟩
theorem stX_end {w0 w wr : World} {g : Nat} {ao : Option Addr} {len cap p : Nat} {k u : Int} {s : ByteArray} {v : Value} {acc : List ByteArray} (h : StX w0 w wr g ao len cap p k u s v acc) :
    CurAt w0 ((((wr.setCell ⟨w.heap.size, 0, none⟩ (.int .i64 k)).setCell ⟨w.heap.size, 1, none⟩ (.int .i64 u)).setCell ⟨w.heap.size, 2, none⟩ (.string s)).setCell ⟨w.heap.size, 3, none⟩ v) g ao len cap ∧ w.grownBy ((((wr.setCell ⟨w.heap.size, 0, none⟩ (.int .i64 k)).setCell ⟨w.heap.size, 1, none⟩ (.int .i64 u)).setCell ⟨w.heap.size, 2, none⟩ (.string s)).setCell ⟨w.heap.size, 3, none⟩ v) (some g) ∧
    RowText ((((wr.setCell ⟨w.heap.size, 0, none⟩ (.int .i64 k)).setCell ⟨w.heap.size, 1, none⟩ (.int .i64 u)).setCell ⟨w.heap.size, 2, none⟩ (.string s)).setCell ⟨w.heap.size, 3, none⟩ v) w.heap.size v acc := by
  obtain ⟨h1, h2, h3, h4, h5, h6, h7⟩ := h
  have hB : Below w.heap.size wr ((((wr.setCell ⟨w.heap.size, 0, none⟩ (.int .i64 k)).setCell ⟨w.heap.size, 1, none⟩ (.int .i64 u)).setCell ⟨w.heap.size, 2, none⟩ (.string s)).setCell ⟨w.heap.size, 3, none⟩ v) := ((((Below.refl w.heap.size wr).setCell (p := ⟨w.heap.size, 0, none⟩) (Nat.le_refl _) _).setCell (p := ⟨w.heap.size, 1, none⟩) (Nat.le_refl _) _).setCell (p := ⟨w.heap.size, 2, none⟩) (Nat.le_refl _) _).setCell (p := ⟨w.heap.size, 3, none⟩) (Nat.le_refl _) _
  refine ⟨cur_keep h1 hB h4, grownBy_then h2 hB, rowText_le (rowText_keep (rowText_own h7) (fun x hx => ?_)) (by omega : w.heap.size ≤ w.heap.size + 1)⟩
  have := (rowText_lt (rowText_own h7) x hx).1
  rw [Below.heap_setCell _ _ _ _ (by simp; omega), Below.heap_setCell _ _ _ _ (by simp; omega), Below.heap_setCell _ _ _ _ (by simp; omega), Below.heap_setCell _ _ _ _ (by simp; omega)]
theorem l10AnyVal_any (w0 w : World) (g : Nat) (ao : Option Addr) (len cap : Nat) (hlen : len ≤ 1048576) (hcode : Code w0 ao len) (hc : CurAt w0 w g ao len cap) :
    Calls Try.prog 29 #[.pointer (some ⟨g, 0, none⟩)] w fun e w' => (∃ (v : ValD) (a : Option Addr) (c : Nat), e = .returned (.agg #[.int .i64 v.kind, .int .i64 v.til, .string v.text, .slice a v.items.length c]) ∧ BndV v ∧ RowText w' w.heap.size (.slice a v.items.length c) v.items) ∧ CurAt w0 w' g ao len cap ∧ w.grownBy w' (some g) := by
  have HBE := hide (fun W (n : Int) (hn : n ≤ 4611686018427387904) (h : CurAt w0 W g ao len cap) => below_any w0 W g ao len cap n hlen hn hcode h)
  have HVA := hide (fun W (h : CurAt w0 W g ao len cap) => l10Val_any w0 W g ao len cap hlen hcode h)
  have HPI := hide (fun W b n (zs : List Int) (h : CurAt w0 W g ao len cap) hne h1 h2 h3 h4 => pickInt_any w0 W g b ao len cap n zs hlen hcode h hne h1 h2 h3 h4)
  have HPT := hide (fun W b n (zs : List ByteArray) (h : CurAt w0 W g ao len cap) hne h1 h2 h3 h4 => pickText_any w0 W g b ao len cap n zs hlen hcode h hne h1 h2 h3 h4)
  have hg := cur_lt hc
  have HU := hide hc
  clear hcode hc
  obtain ⟨wb, hwb⟩ : ∃ wb, wb = w.alloc (.cells #[.int .i64 0, .int .i64 0, .string ⟨#[]⟩, .slice none 0 0] 26) := ⟨_, rfl⟩
  have BB : Hid (Below w.heap.size w wb) := by rw [hwb]; exact (Below.refl _ w).alloc (Nat.le_refl _) _
  have hbs : wb.heap.size = w.heap.size + 1 := by rw [hwb]; simp
  have HBS := hide hbs
  have PB : Hid (wb.heap[w.heap.size]? = some (.cells #[.int .i64 0, .int .i64 0, .string ⟨#[]⟩, .slice none 0 0] 26 (0, 0))) := by rw [hwb]; exact heap_alloc_new _ _
  have CB := hide (cur_keep HU.out BB.out hg)
  go_enter Try.func29, Try.ntmps29
  go_upto_region 1 with fail
  rw [← hwb]
  clear hwb hbs
  go_wp2_with fail
  refine (HVA.out _ CB.out).mono ?_
  rintro e w1 ⟨⟨⟨k, u, s, ts⟩, a1, c1, rfl, hvr, -, ho1⟩, cu1, g1⟩
  simp only at ho1
  have HBV := hide (bndV_of hvr)
  have hl24 : ts.length ≤ 24 := (valR_bounds hvr).2.2.2.2.2.1
  clear hvr
  have SX : Hid (StX w0 w (w1.alloc (.cells #[.int .i64 k, .int .i64 u, .string s, .slice a1 ts.length c1] 26)) g ao len cap w1.heap.size k u s (.slice a1 ts.length c1) ts) := by
    have hb : Below w1.heap.size w1 (w1.alloc (.cells #[.int .i64 k, .int .i64 u, .string s, .slice a1 ts.length c1] 26)) := (Below.refl _ w1).alloc (Nat.le_refl _) _
    have hp := (g1.block _ (obj_lt PB.out) (by simp; omega)).trans PB.out
    have hg1 : w.grownBy w1 (some g) := (grownBy_below (some g) BB.out).trans g1
    have ho2 := ownsRow_below ho1 hb
    rw [HBS.out] at ho2
    exact ⟨cur_keep cu1 hb (cur_lt cu1), grownBy_then hg1 (hb.mono hg1.size), obj_lt hp, hg, (hb.block _ (obj_lt hp)).trans hp, heap_alloc_new _ _, ho2⟩
  clear ho1 cu1 g1
  go_upto_region 2 with fail
  generalize w1.alloc (.cells #[.int .i64 k, .int .i64 u, .string s, .slice a1 ts.length c1] 26) = w2 at SX
  generalize w1.heap.size = p at SX
  clear CB PB BB HBS
  go_wp2_with fail
  refine (HBE.out _ 24 (by omega) SX.out.1).mono ?_
  rintro e w3 ⟨x, rfl, -, -, c3, g3⟩
  have S3 := hide (stX_call SX.out c3 g3)
  clear SX c3 g3
  have hgw : g < w.heap.size := S3.out.2.2.2.1
  have hpw : w.heap.size + 1 ≤ p := S3.out.2.2.1
  have hw3 : p < w3.heap.size := obj_lt S3.out.2.2.2.2.2.1
  obtain ⟨q0, q1, q2, q3⟩ := val_cells S3.out.2.2.2.2.2.1
  obtain ⟨f0, f1, f2, f3⟩ := val_frozen S3.out.2.2.2.2.2.1
  by_cases h0 : x = 0
  · have e0 : ((x : Int) == 0) = true := by simp; omega
    clear h0
    obtain ⟨wn, hwn⟩ : ∃ wn, wn = w3.alloc (.cells #[.int .i64 0, .int .i64 5, .int .i64 1, .int .i64 3] 3) := ⟨_, rfl⟩
    have BN : Hid (Below w3.heap.size w3 wn) := by rw [hwn]; exact (Below.refl _ w3).alloc (Nat.le_refl _) _
    have PN : Hid (wn.heap[w3.heap.size]? = some (.cells (([0, 5, 1, 3] : List Int).map (Value.int .i64)).toArray 3 (0, 0))) := by rw [hwn]; exact heap_alloc_new _ _
    have SN := hide (stX_below S3.out BN.out)
    go_wp2_with fail
    rw [← hwn]
    clear hwn q0 q1 q2 q3 f0 f1 f2 f3
    refine (HPI.out _ w3.heap.size 4 [0, 5, 1, 3] SN.out.1 (by omega) rfl (by omega) (by omega) (ints_cells _ PN.out)).mono ?_
    rintro e w4 ⟨z, rfl, -, c4, g4⟩
    have S4 := hide (stX_call SN.out c4 g4)
    clear c4 g4 SN
    obtain ⟨q0, q1, q2, q3⟩ := val_cells S4.out.2.2.2.2.2.1
    obtain ⟨f0, f1, f2, f3⟩ := val_frozen S4.out.2.2.2.2.2.1
    have S5 := hide (stX_kind S4.out z)
    go_upto_region 19 with fail
    generalize w4.setCell ⟨p, 0, none⟩ (.int .i64 z) = w5 at S5
    clear S4 q0 q1 q2 q3 f0 f1 f2 f3
    obtain ⟨y0, y1, y2, y3⟩ := val_cells S5.out.2.2.2.2.2.1
    obtain ⟨r0, r1, r2, r3⟩ := val_cells S5.out.2.2.2.2.1
    obtain ⟨rf0, rf1, rf2, rf3⟩ := val_frozen S5.out.2.2.2.2.1
    go_wp2_with fail
    refine bodyPost_ret (v := .agg #[.int .i64 z, .int .i64 u, .string s, .slice a1 ts.length c1]) (by simp [results, Try.results29, go_sem, r0, r1, r2, r3]) rfl ⟨⟨⟨z, u, s, ts⟩, _, _, rfl, HBV.out, (stX_end S5.out).2.2⟩, (stX_end S5.out).1, (stX_end S5.out).2.1⟩
  by_cases h1 : x = 1
  · have e0 : ((x : Int) == 0) = false := by simp; omega
    have e1 : ((x : Int) == 1) = true := by simp; omega
    clear h0 h1
    obtain ⟨wn, hwn⟩ : ∃ wn, wn = w3.alloc (.cells #[.int .i64 (-1), .int .i64 100000, .int .i64 100001] 3) := ⟨_, rfl⟩
    have BN : Hid (Below w3.heap.size w3 wn) := by rw [hwn]; exact (Below.refl _ w3).alloc (Nat.le_refl _) _
    have PN : Hid (wn.heap[w3.heap.size]? = some (.cells (([-1, 100000, 100001] : List Int).map (Value.int .i64)).toArray 3 (0, 0))) := by rw [hwn]; exact heap_alloc_new _ _
    have SN := hide (stX_below S3.out BN.out)
    go_wp2_with fail
    rw [← hwn]
    clear hwn q0 q1 q2 q3 f0 f1 f2 f3
    refine (HPI.out _ w3.heap.size 3 [-1, 100000, 100001] SN.out.1 (by omega) rfl (by omega) (by omega) (ints_cells _ PN.out)).mono ?_
    rintro e w4 ⟨z, rfl, -, c4, g4⟩
    have S4 := hide (stX_call SN.out c4 g4)
    clear c4 g4 SN
    obtain ⟨q0, q1, q2, q3⟩ := val_cells S4.out.2.2.2.2.2.1
    obtain ⟨f0, f1, f2, f3⟩ := val_frozen S4.out.2.2.2.2.2.1
    have S5 := hide (stX_til S4.out z)
    go_upto_region 19 with fail
    generalize w4.setCell ⟨p, 1, none⟩ (.int .i64 z) = w5 at S5
    clear S4 q0 q1 q2 q3 f0 f1 f2 f3
    obtain ⟨y0, y1, y2, y3⟩ := val_cells S5.out.2.2.2.2.2.1
    obtain ⟨r0, r1, r2, r3⟩ := val_cells S5.out.2.2.2.2.1
    obtain ⟨rf0, rf1, rf2, rf3⟩ := val_frozen S5.out.2.2.2.2.1
    go_wp2_with fail
    refine bodyPost_ret (v := .agg #[.int .i64 k, .int .i64 z, .string s, .slice a1 ts.length c1]) (by simp [results, Try.results29, go_sem, r0, r1, r2, r3]) rfl ⟨⟨⟨k, z, s, ts⟩, _, _, rfl, HBV.out, (stX_end S5.out).2.2⟩, (stX_end S5.out).1, (stX_end S5.out).2.1⟩
  by_cases h2 : x = 2
  · have e0 : ((x : Int) == 0) = false := by simp; omega
    have e1 : ((x : Int) == 1) = false := by simp; omega
    have e2 : ((x : Int) == 2) = true := by simp; omega
    clear h0 h1 h2
    go_wp2_with fail
    refine (HBE.out _ 2 (by omega) S3.out.1).mono ?_
    rintro e w4 ⟨y, rfl, hy, -, c4, g4⟩
    have hy2 : (y : Int) < 2 := hy (by omega)
    have S4 := hide (stX_call S3.out c4 g4)
    clear c4 g4 hy q0 q1 q2 q3 f0 f1 f2 f3
    obtain ⟨yy, hyy⟩ : ∃ yy : Int, 60 + (y : Int) = yy := ⟨_, rfl⟩
    have HLO := hide (long_int yy 65 w4 (by omega) (by omega) (by omega) (by omega))
    have hyb : 0 ≤ yy ∧ yy ≤ 61 := by omega
    go_wp2_with fail
    refine HLO.out.mono ?_
    rintro e w5 ⟨T, rfl, hT, b5⟩
    have hTs : T.size ≤ 100 := by omega
    have S5 := hide (stX_below S4.out b5)
    clear b5 S4 hT
    obtain ⟨q0, q1, q2, q3⟩ := val_cells S5.out.2.2.2.2.2.1
    obtain ⟨f0, f1, f2, f3⟩ := val_frozen S5.out.2.2.2.2.2.1
    have S6 := hide (stX_text S5.out T)
    go_upto_region 19 with fail
    generalize w5.setCell ⟨p, 2, none⟩ (.string T) = w6 at S6
    clear S5 q0 q1 q2 q3 f0 f1 f2 f3
    obtain ⟨y0, y1, y2, y3⟩ := val_cells S6.out.2.2.2.2.2.1
    obtain ⟨r0, r1, r2, r3⟩ := val_cells S6.out.2.2.2.2.1
    obtain ⟨rf0, rf1, rf2, rf3⟩ := val_frozen S6.out.2.2.2.2.1
    go_wp2_with fail
    refine bodyPost_ret (v := .agg #[.int .i64 k, .int .i64 u, .string T, .slice a1 ts.length c1]) (by simp [results, Try.results29, go_sem, r0, r1, r2, r3]) rfl ⟨⟨⟨k, u, T, ts⟩, _, _, rfl, ⟨hTs, HBV.out.2⟩, (stX_end S6.out).2.2⟩, (stX_end S6.out).1, (stX_end S6.out).2.1⟩
  by_cases h3 : x = 3
  · have e0 : ((x : Int) == 0) = false := by simp; omega
    have e1 : ((x : Int) == 1) = false := by simp; omega
    have e2 : ((x : Int) == 2) = false := by simp; omega
    have e3 : ((x : Int) == 3) = true := by simp; omega
    clear h0 h1 h2 h3
    have HNE := hide (val_apart S3.out.2.2.2.2.2.2 S3.out.2.2.2.2.2.1)
    have SD := hide (stX_below S3.out (Below.refl _ w3).drew)
    have HLO := hide (fun n (W : World) (h0 : 0 ≤ n) (hn : n ≤ 1000000) => long_int n 122 W h0 hn (by omega) (by omega))
    have hLl : ts.length ≤ 1048576 := by omega
    go_upto_region 10 with fail
    go_region_law ((first | (have S80 := S8; clear S80; refine step_app_txt _ (w.heap.size + 1) (by rfl) _ _ (by rfl) _ ts ka (by rfl) (S8.out.2.2.2.2.2.2.alloc _) w8.heap.size (by simp [Act.eval]) (heap_alloc_new w8 _) hLl (by simp; omega) ?_; intro g9 cap9 w9 ho9 hb9 hgr9 hg9 hgl9; have B9 : Hid (Below (w.heap.size + 1) w8 w9) := ((Below.refl _ w8).alloc hs8 _).trans hb9; have HO9 := hide ho9; have hp9 : w9.heap[p]? = w8.heap[p]? := (hgr9.block p (by simp; omega) (fun e => HNE.out e.symm)).trans (((Below.refl w8.heap.size w8).alloc (Nat.le_refl _) _).block p hp8); have HP9 := hide hp9; obtain ⟨m0, m1, m2, m3⟩ := val_cells (hp9.trans S8.out.2.2.2.2.2.1); obtain ⟨l0, l1, l2, l3⟩ := val_frozen (hp9.trans S8.out.2.2.2.2.2.1); clear ho9 hb9 hgr9 hg9 hgl9 hp9) | (have SC0 := SC; clear SC0; go_simp; go_at_call 65; refine (HPT.out _ wd.heap.size 4 [⟨#[102]⟩, ⟨#[122]⟩, Ta, Tb] SC.out.1 (by omega) rfl (by omega) (by omega) (texts_cells _ PC.out)).mono ?_; rintro e w8 ⟨ka, rfl, hka, c8, g8⟩; have S8 := hide (stX_call SC.out c8 g8); obtain ⟨-, -, -, z8⟩ := val_cells S8.out.2.2.2.2.2.1; have hs8 : w.heap.size + 1 ≤ w8.heap.size := (by have h8 := obj_lt S8.out.2.2.2.2.1; omega); have hp8 : p < w8.heap.size := obj_lt S8.out.2.2.2.2.2.1; have z9 : (w8.alloc (.cells #[.string ka] 9)).cell? ⟨p, 3, none⟩ = _ := (((Below.refl _ w8).alloc (Nat.le_refl _) _).cell (p := ⟨p, 3, none⟩) hp8).trans z8; clear c8 g8) | (have SA0 := SA; clear SA0; go_simp; go_at_call 64; refine (HLO.out 61 _ (by omega) (by omega)).mono ?_; rintro e wd ⟨Tb, rfl, hTb, bd⟩; have SB := hide (stX_below SA.out bd); obtain ⟨-, -, -, zb⟩ := val_cells SB.out.2.2.2.2.2.1; have SC := hide (stX_below SB.out ((Below.refl _ wd).alloc (Nat.le_refl _) (.cells #[.string ⟨#[102]⟩, .string ⟨#[122]⟩, .string Ta, .string Tb] 9))); have PC : Hid ((wd.alloc (.cells #[.string ⟨#[102]⟩, .string ⟨#[122]⟩, .string Ta, .string Tb] 9)).heap[wd.heap.size]? = some (.cells (([⟨#[102]⟩, ⟨#[122]⟩, Ta, Tb] : List ByteArray).map Value.string).toArray 9 (0, 0))) := heap_alloc_new _ _; obtain ⟨-, -, -, zc⟩ := val_cells SC.out.2.2.2.2.2.1; have hwd : g < wd.heap.size := Nat.lt_of_lt_of_le hgw SB.out.2.1.size; clear bd) | (go_simp; go_at_call 64; refine (HLO.out 60 _ (by omega) (by omega)).mono ?_; rintro e wa ⟨Ta, rfl, hTa, ba⟩; have SA := hide (stX_below SD.out ba); obtain ⟨-, -, -, za⟩ := val_cells SA.out.2.2.2.2.2.1; clear ba)))
    all_goals
      have HKA : Hid (BndV ⟨k, u, s, ts ++ [ka]⟩) := by
        refine bndV_put HBV.out (by omega) ?_
        simp only [List.mem_cons, List.not_mem_nil, or_false] at hka
        rcases hka with rfl | rfl | rfl | rfl
        · show (1 : Nat) ≤ 100; omega
        · show (1 : Nat) ≤ 100; omega
        · omega
        · omega
      have S9 := hide (stX_row S8.out B9.out HP9.out HO9.out)
      go_upto_region 19 with fail
      generalize w9.setCell ⟨p, 3, none⟩ (.slice (some ⟨g9, 0, none⟩) (ts.length + 1) cap9) = wz at S9
      clear S8 m0 m1 m2 m3 l0 l1 l2 l3
      obtain ⟨y0, y1, y2, y3⟩ := val_cells S9.out.2.2.2.2.2.1
      obtain ⟨r0, r1, r2, r3⟩ := val_cells S9.out.2.2.2.2.1
      obtain ⟨rf0, rf1, rf2, rf3⟩ := val_frozen S9.out.2.2.2.2.1
      go_wp2_with fail
      refine bodyPost_ret (v := .agg #[.int .i64 k, .int .i64 u, .string s, .slice (some (⟨g9, 0, none⟩ : Addr)) (ts.length + 1) cap9]) (by simp [results, Try.results29, go_sem, r0, r1, r2, r3]) rfl ⟨⟨⟨k, u, s, ts ++ [ka]⟩, some ⟨g9, 0, none⟩, cap9, by simp, HKA.out, by have := (stX_end S9.out).2.2; simpa using this⟩, (stX_end S9.out).1, (stX_end S9.out).2.1⟩
  by_cases h4 : x = 4
  · have e0 : ((x : Int) == 0) = false := by simp; omega
    have e1 : ((x : Int) == 1) = false := by simp; omega
    have e2 : ((x : Int) == 2) = false := by simp; omega
    have e3 : ((x : Int) == 3) = false := by simp; omega
    have e4 : ((x : Int) == 4) = true := by simp; omega
    clear h0 h1 h2 h3 h4
    obtain ⟨wn, hwn⟩ : ∃ wn, wn = w3.alloc (.cells #[] 9) := ⟨_, rfl⟩
    have BN : Hid (Below w3.heap.size w3 wn) := by rw [hwn]; exact (Below.refl _ w3).alloc (Nat.le_refl _) _
    have PN : Hid (wn.heap[w3.heap.size]? = some (.cells #[] 9 (0, 0))) := by rw [hwn]; exact heap_alloc_new _ _
    have RN : Hid (wn.ownsRow (w.heap.size + 1) 9 1 (.slice (some ⟨w3.heap.size, 0, none⟩) 0 0) ([] : List ByteArray).length (([] : List ByteArray).map Value.string)) := ⟨rfl, .inr ⟨w3.heap.size, 0, #[], rfl, by omega, PN.out, Nat.le_refl _, Nat.zero_le _, rfl, rfl⟩⟩
    have hpn := (BN.out.block p hw3)
    have S4 := hide (stX_row S3.out (BN.out.mono (by omega)) hpn RN.out)
    obtain ⟨n0, n1, n2, n3⟩ := val_cells (hpn.trans S3.out.2.2.2.2.2.1)
    obtain ⟨m0, m1, m2, m3⟩ := val_frozen (hpn.trans S3.out.2.2.2.2.2.1)
    have HPN := hide hpn
    subst hwn
    clear hpn
    go_upto_region 19 with fail
    rw [World.setCell_alloc_past _ _ _ _ hw3] at S4
    generalize (w3.setCell ⟨p, 3, none⟩ (.slice (some ⟨w3.heap.size, 0, none⟩) 0 0)).alloc (.cells #[] 9) = w5 at S4
    clear n0 n1 n2 n3 m0 m1 m2 m3 q0 q1 q2 q3 f0 f1 f2 f3
    obtain ⟨y0, y1, y2, y3⟩ := val_cells S4.out.2.2.2.2.2.1
    obtain ⟨r0, r1, r2, r3⟩ := val_cells S4.out.2.2.2.2.1
    obtain ⟨rf0, rf1, rf2, rf3⟩ := val_frozen S4.out.2.2.2.2.1
    go_wp2_with fail
    refine bodyPost_ret (v := .agg #[.int .i64 k, .int .i64 u, .string s, .slice (some (⟨w3.heap.size, 0, none⟩ : Addr)) 0 0]) (by simp [results, Try.results29, go_sem, r0, r1, r2, r3]) rfl ⟨⟨⟨k, u, s, []⟩, _, _, rfl, ⟨HBV.out.1, by simp, fun s hs => absurd hs List.not_mem_nil⟩, (stX_end S4.out).2.2⟩, (stX_end S4.out).1, (stX_end S4.out).2.1⟩
  by_cases h5 : x = 5
  · have e0 : ((x : Int) == 0) = false := by simp; omega
    have e1 : ((x : Int) == 1) = false := by simp; omega
    have e2 : ((x : Int) == 2) = false := by simp; omega
    have e3 : ((x : Int) == 3) = false := by simp; omega
    have e4 : ((x : Int) == 4) = false := by simp; omega
    have e5 : ((x : Int) == 5) = true := by simp; omega
    clear h0 h1 h2 h3 h4 h5
    have S4 := hide (stX_row (stX_text (stX_til (stX_kind S3.out 2) 0) ⟨#[]⟩) (Below.refl _ _) rfl (World.ownsRow_nil _ _ _ _) (acc' := []))
    go_upto_region 15 with fail
    generalize (((w3.setCell ⟨p, 0, none⟩ (.int .i64 2)).setCell ⟨p, 1, none⟩ (.int .i64 0)).setCell ⟨p, 2, none⟩ (.string ⟨#[]⟩)).setCell ⟨p, 3, none⟩ (.slice none 0 0) = w4 at S4
    clear S3 q0 q1 q2 q3 f0 f1 f2 f3 hw3
    go_wp2_with fail
    go_loopw [4] (fun ii wr => ∃ (j : Nat) (v : Value) (acc : List ByteArray), ii = .int .i64 (j : Int) ∧ j ≤ 25 ∧ Hid (acc.length = j) ∧ Hid (BndV ⟨2, 0, ⟨#[]⟩, acc⟩) ∧ Hid (StX w0 w wr g ao len cap p 2 0 ⟨#[]⟩ v acc)) (fun ii _ => 25 - (intOf ii).toNat)
    case atStart => exact ⟨0, _, [], rfl, by omega, hide rfl, ⟨by show (0 : Nat) ≤ 100; omega, by show (0 : Nat) ≤ 60; omega, fun s hs => absurd hs List.not_mem_nil⟩, S4⟩
    case round =>
      clear S4
      obtain ⟨j, v, acc, rfl, hj, hal, HBD, SW⟩ := hrel
      go_wp2_with fail
      refine (HBE.out _ 2 (by omega) SW.out.1).mono ?_
      rintro e w6 ⟨y, rfl, hy, -, c6, g6⟩
      have hy2 : (y : Int) < 2 := hy (by omega)
      have S6 := hide (stX_call SW.out c6 g6)
      clear SW c6 g6 hy
      have hLl : acc.length ≤ 1048576 := by have := hal.out; omega
      obtain ⟨aa, ca, rfl⟩ := slice_form S6.out.2.2.2.2.2.2
      by_cases hlt : (j : Int) < 24 + (y : Int)
      · have hlt' : decide ((j : Int) < 24 + (y : Int)) = true := by simp; omega
        obtain ⟨-, -, -, hv3⟩ := val_cells S6.out.2.2.2.2.2.1
        have hw6 : w.heap.size + 1 ≤ w6.heap.size := by have := obj_lt S6.out.2.2.2.2.1; omega
        have hp6 : p < w6.heap.size := obj_lt S6.out.2.2.2.2.2.1
        have hne : (Value.slice aa acc.length ca).ownBlock ≠ some p := val_apart S6.out.2.2.2.2.2.2 S6.out.2.2.2.2.2.1
        have HNE := hide hne
        clear hne
        go_wp2_with (at_builtin; refine app_txt _ (w.heap.size + 1) (by rfl) _ _ (by rfl) _ acc ⟨#[105]⟩ (by rfl) (S6.out.2.2.2.2.2.2.alloc _) w6.heap.size (by simp [Act.eval]) (heap_alloc_new w6 _) hLl (by simp; omega) ?_; intro g9 cap9 w9 ho9 hb9 hgr9 hg9 hgl9; have B9 : Hid (Below (w.heap.size + 1) w6 w9) := ((Below.refl _ w6).alloc hw6 _).trans hb9; have HO9 := hide ho9; have hp9 : w9.heap[p]? = w6.heap[p]? := (hgr9.block p (by simp; omega) (fun e => HNE.out e.symm)).trans (((Below.refl w6.heap.size w6).alloc (Nat.le_refl _) _).block p hp6); have HP9 := hide hp9; obtain ⟨m0, m1, m2, m3⟩ := val_cells (hp9.trans S6.out.2.2.2.2.2.1); obtain ⟨l0, l1, l2, l3⟩ := val_frozen (hp9.trans S6.out.2.2.2.2.2.1); clear ho9 hb9 hgr9 hg9 hgl9 hp9)
        go_roundw
        case rel => exact ⟨j + 1, .slice (some ⟨g9, 0, none⟩) (acc.length + 1) cap9, acc ++ [⟨#[105]⟩], by go_num, by omega, by show _ = _; rw [List.length_append, hal.out]; rfl, bndV_put HBD.out (by have := hal.out; omega) (by show (1 : Nat) ≤ 100; omega), stX_row S6.out B9.out HP9.out HO9.out⟩
        case measure => simp [intOf]; omega
      · have hlt' : decide ((j : Int) < 24 + (y : Int)) = false := by simp; omega
        obtain ⟨y0, y1, y2, y3⟩ := val_cells S6.out.2.2.2.2.2.1
        obtain ⟨r0, r1, r2, r3⟩ := val_cells S6.out.2.2.2.2.1
        obtain ⟨rf0, rf1, rf2, rf3⟩ := val_frozen S6.out.2.2.2.2.1
        go_wp2_with fail
        refine bodyPost_ret (v := .agg #[.int .i64 2, .int .i64 0, .string ⟨#[]⟩, .slice aa acc.length ca]) (by simp [results, Try.results29, go_sem, r0, r1, r2, r3]) rfl ⟨⟨⟨2, 0, ⟨#[]⟩, acc⟩, _, _, rfl, HBD.out, (stX_end S6.out).2.2⟩, (stX_end S6.out).1, (stX_end S6.out).2.1⟩
  have e0 : ((x : Int) == 0) = false := by simp; omega
  have e1 : ((x : Int) == 1) = false := by simp; omega
  have e2 : ((x : Int) == 2) = false := by simp; omega
  have e3 : ((x : Int) == 3) = false := by simp; omega
  have e4 : ((x : Int) == 4) = false := by simp; omega
  have e5 : ((x : Int) == 5) = false := by simp; omega
  clear h0 h1 h2 h3 h4 h5
  obtain ⟨y0, y1, y2, y3⟩ := val_cells S3.out.2.2.2.2.2.1
  obtain ⟨r0, r1, r2, r3⟩ := val_cells S3.out.2.2.2.2.1
  obtain ⟨rf0, rf1, rf2, rf3⟩ := val_frozen S3.out.2.2.2.2.1
  go_wp2_with fail
  refine bodyPost_ret (v := .agg #[.int .i64 k, .int .i64 u, .string s, .slice a1 ts.length c1]) (by simp [results, Try.results29, go_sem, r0, r1, r2, r3]) rfl ⟨⟨⟨k, u, s, ts⟩, _, _, rfl, HBV.out, (stX_end S3.out).2.2⟩, (stX_end S3.out).1, (stX_end S3.out).2.1⟩
structure ChangeD where
  key : ByteArray
  value : ByteArray
  gone : Bool
theorem cutHd (s : ByteArray) (n : Nat) (h : n ≤ s.size) : ∃ R : ByteArray, R.size ≤ s.size ∧ ∀ W : World, (Instr.slice 9 (.string s) none (some (.int .i64 (n : Int))) none).run Try.prog W = .ok (.string R) W :=
  ⟨s.extract 0 ((n : Int)).toNat, by rw [ByteArray.size_extract]; omega, fun W => by rw [run_slice_string_to_if W 9 s .i64 (n : Int) Try.underlying9, if_pos ⟨by omega, by omega⟩]⟩
theorem cutTl (s : ByteArray) (n : Nat) (h : n < s.size) : ∃ R : ByteArray, R.size ≤ s.size ∧ ∀ W : World, (Instr.slice 9 (.string s) (some (.int .i64 ((n : Int) + 1))) none none).run Try.prog W = .ok (.string R) W :=
  ⟨s.extract ((n : Int) + 1).toNat s.size, by rw [ByteArray.size_extract]; omega, fun W => by rw [run_slice_string_from_if W 9 s .i64 ((n : Int) + 1) Try.underlying9, if_pos ⟨by omega, by omega⟩]⟩
theorem spoilt_any (w0 w : World) (g : Nat) (ao : Option Addr) (len cap : Nat) (t : ByteArray) (hlen : len ≤ 1048576) (ht : t.size ≤ 9000) (hcode : Code w0 ao len) (hc : CurAt w0 w g ao len cap) :
    Calls Try.prog 40 #[.pointer (some ⟨g, 0, none⟩), .string t] w fun e w' => ∃ T : ByteArray, e = .returned (.string T) ∧ T.size ≤ 30000 ∧ CurAt w0 w' g ao len cap ∧ w.grownBy w' (some g) := by
  have HC := hide hcode
  have HU := hide hc
  clear hcode hc
  go_enter Try.func40, Try.ntmps40
  go_wp2_with fail
  refine (below_any w0 _ g ao len cap _ hlen (by omega) HC.out HU.out).mono ?_
  rintro e w1 ⟨x, rfl, _, _, hc1, g1⟩
  have U1 := hide hc1
  have G1 := hide g1
  clear hc1 g1
  by_cases h0 : x = 0
  · have hy0 : ((x : Int) == 0) = true := by rw [beq_iff_eq]; omega
    clear h0
    go_wp2_with fail
    refine (text_any w0 _ g ao len cap _ hlen (by omega) HC.out U1.out).mono ?_
    rintro e w2 ⟨l, rfl, hl, hc2, g2⟩
    have U2 := hide hc2
    have G2 := hide (grownBy_trans G1.out g2)
    obtain ⟨T, HT⟩ : ∃ T : ByteArray, Hid ((⟨l.toArray⟩ : ByteArray) = T) := ⟨_, hide rfl⟩
    have hTz : T.size ≤ 1 := by rw [← HT.out]; show l.length ≤ 1; omega
    rw [HT.out]
    clear hl hc2 g2
    have hk : ¬ (9223372036854775807 < t.size + T.size) := by omega
    go_wp2
    go_ret
    exact ⟨_, rfl, by rw [ByteArray.size_append]; omega, U2.out, G2.out⟩
  have hn0 : ((x : Int) == 0) = false := by rw [beq_eq_false_iff_ne]; omega
  by_cases h1 : x = 1
  · have hy1 : ((x : Int) == 1) = true := by rw [beq_iff_eq]; omega
    clear h0 h1
    go_wp2_with fail
    refine (below_any w0 _ g ao len cap _ hlen (by omega) HC.out U1.out).mono ?_
    rintro e w2 ⟨y, rfl, hy, _, hc2, g2⟩
    have hy' := hy (by omega)
    have U2 := hide hc2
    have G2 := hide (grownBy_trans G1.out g2)
    obtain ⟨R, hRz, hcut⟩ := cutHd t y (by omega)
    clear hy hc2 g2
    go_wp2
    go_ret
    exact ⟨_, rfl, by omega, U2.out, G2.out⟩
  have hn1 : ((x : Int) == 1) = false := by rw [beq_eq_false_iff_ne]; omega
  by_cases h23 : x = 2 ∨ x = 3
  · have hcase : ((x : Int) == 2) = true ∨ (((x : Int) == 2) = false ∧ ((x : Int) == 3) = true) := by
      rcases h23 with h | h
      · exact .inl (by rw [beq_iff_eq]; omega)
      · exact .inr ⟨by rw [beq_eq_false_iff_ne]; omega, by rw [beq_iff_eq]; omega⟩
    clear h0 h1 h23
    by_cases hz : 0 < t.size
    · have hz' : decide ((0 : Int) < (t.size : Int)) = true := by simp; omega
      rcases hcase with hy2 | ⟨hn2, hy3⟩
      all_goals
        go_wp2_with fail
        refine (below_any w0 _ g ao len cap _ hlen (by omega) HC.out U1.out).mono ?_
        rintro e w2 ⟨y, rfl, hy, _, hc2, g2⟩
        have hy' := hy (by omega)
        have U2 := hide hc2
        have U2d := hide (cur_keep hc2 (Below.refl _ _).drew (cur_lt hc2))
        have G2 := hide (grownBy_trans G1.out g2)
        obtain ⟨R1, hR1, hcut1⟩ := cutHd t y (by omega)
        obtain ⟨R2, hR2, hcut2⟩ := cutTl t y (by omega)
        have hwr : IntKind.i64.wrap ((y : Int) + 1) = (y : Int) + 1 := by rw [IntKind.wrap_i64]; omega
        clear hy hc2 g2
        go_wp2_with fail
        go_region_law ((first | (go_simp; go_at_call 73; refine (text_any w0 _ g ao len cap _ hlen (by omega) HC.out U2d.out).mono ?_; rintro e w3 ⟨l, rfl, hl, hc3, g3⟩; obtain ⟨T, HT⟩ : ∃ T : ByteArray, Hid ((⟨l.toArray⟩ : ByteArray) = T) := ⟨_, hide rfl⟩; have hTz : T.size ≤ 1 := (by rw [← HT.out]; show l.length ≤ 1; omega); rw [HT.out]; have U3 := hide hc3; have G3 : Hid (w.grownBy w3 (some g)) := grownBy_trans G2.out (grownBy_trans (grownBy_below _ (Below.refl _ _).drew) g3); have hk1 : ¬ (9223372036854775807 < R1.size + T.size) := (by omega); have hk2 : ¬ (9223372036854775807 < R1.size + T.size + R2.size) := (by omega); clear hl hc3 g3) | fail))
        all_goals
          go_wp2
          go_ret
          exact ⟨_, rfl, by rw [ByteArray.size_append, ByteArray.size_append]; omega, U3.out, G3.out⟩
    · have hz' : decide ((0 : Int) < (t.size : Int)) = false := by rw [decide_eq_false_iff_not]; omega
      rcases hcase with hy2 | ⟨hn2, hy3⟩
      all_goals
        go_wp2
        go_ret
        exact ⟨_, rfl, by omega, U1.out, G1.out⟩
  · have hn2 : ((x : Int) == 2) = false := by rw [beq_eq_false_iff_ne]; omega
    have hn3 : ((x : Int) == 3) = false := by rw [beq_eq_false_iff_ne]; omega
    clear h0 h1 h23
    go_wp2
    go_ret
    exact ⟨_, rfl, by omega, U1.out, G1.out⟩
end Go.Proofs.Ytbenmgokhklnjaa
