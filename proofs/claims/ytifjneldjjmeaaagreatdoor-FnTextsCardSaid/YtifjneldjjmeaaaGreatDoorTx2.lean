import Derived.Deep.RegionLaw
import Derived.Deep.CutRange
import Derived.Test.YtifjneldjjmeaaaGreatDoorTx1
import Derived.Test.YtifjneldjjmeaaaGreatDoorTx0
set_option maxRecDepth 100000
set_option maxHeartbeats 6400000
namespace Go.Proofs.YtifjneldjjmeaaaGreatDoor
open Go.RowKit
def wordsD : List ByteArray := [⟨#[]⟩, ⟨#[49]⟩, ⟨#[45, 55]⟩, ⟨#[120]⟩, ⟨#[121, 121]⟩, ⟨#[104, 101, 108, 108, 111]⟩, ⟨#[49, 50]⟩, ⟨#[97, 32, 98]⟩]
theorem wordsD_size : ∀ z ∈ wordsD, z.size ≤ 60 := by decide
theorem l10Word_any (w0 w : World) (g : Nat) (ao : Option Addr) (len cap : Nat) (hlen : len ≤ 1048576) (hcode : Code w0 ao len) (hc : CurAt w0 w g ao len cap) :
    Calls Tryz.prog 100 #[.pointer (some ⟨g, 0, none⟩)] w fun e w' => ∃ z : ByteArray, e = .returned (.string z) ∧ z.size ≤ 60 ∧ CurAt w0 w' g ao len cap ∧ w.grownBy w' (some g) := by
  have HC := hide hcode
  have HU := hide hc
  have hg := cur_lt hc
  clear hcode hc
  obtain ⟨wb, hwb⟩ : ∃ wb, wb = w.alloc (.cells #[.string ⟨#[]⟩, .string ⟨#[49]⟩, .string ⟨#[45, 55]⟩, .string ⟨#[120]⟩, .string ⟨#[121, 121]⟩, .string ⟨#[104, 101, 108, 108, 111]⟩, .string ⟨#[49, 50]⟩, .string ⟨#[97, 32, 98]⟩] 9) := ⟨_, rfl⟩
  have BB : Hid (Below w.heap.size w wb) := by rw [hwb]; exact (Below.refl _ w).alloc (Nat.le_refl _) _
  have PB : Hid (wb.heap[w.heap.size]? = some (.cells (wordsD.map Value.string).toArray 9 (0, 0))) := by rw [hwb]; exact heap_alloc_new _ _
  have HP := hide (pickText_any w0 wb g w.heap.size ao len cap 8 wordsD hlen HC.out (cur_keep HU.out BB.out hg) (by omega) rfl (by omega) (by omega) (texts_cells wordsD PB.out))
  go_enter Tryz.func100, Tryz.ntmps100
  go_wp2_with fail
  rw [← hwb]
  clear hwb
  refine HP.out.mono ?_
  rintro e w1 ⟨z, rfl, hz, c1, g1⟩
  have C1 := hide c1
  have G1 := hide g1
  have hz2 := wordsD_size z hz
  clear c1 g1 hz
  go_wp2
  go_ret
  refine ⟨z, rfl, hz2, C1.out, ?_⟩
  have h1 := grownBy_below (some g) BB.out
  exact h1.trans G1.out
def StU (w0 w wr : World) (g : Nat) (ao : Option Addr) (len cap p : Nat) (k u : Int) : Prop :=
  CurAt w0 wr g ao len cap ∧ w.grownBy wr (some g) ∧ w.heap.size + 1 ≤ p ∧ g < w.heap.size ∧ wr.heap[w.heap.size]? = some (.cells #[.int .i64 0, .int .i64 0, .string ⟨#[]⟩, .slice none 0 0] 38 (0, 0)) ∧ wr.heap[p]? = some (.cells #[.int .i64 k, .int .i64 u, .string ⟨#[]⟩, .slice none 0 0] 38 (0, 0))
theorem stU_call {w0 w wr w' : World} {g : Nat} {ao : Option Addr} {len cap p : Nat} {k u : Int} (h : StU w0 w wr g ao len cap p k u) (hc : CurAt w0 w' g ao len cap) (hg : wr.grownBy w' (some g)) : StU w0 w w' g ao len cap p k u := by
  obtain ⟨h1, h2, h3, h4, h5, h6⟩ := h
  exact ⟨hc, h2.trans hg, h3, h4, (hg.block _ (obj_lt h5) (by simp; omega)).trans h5, (hg.block _ (obj_lt h6) (by simp; omega)).trans h6⟩
theorem stU_til {w0 w wr : World} {g : Nat} {ao : Option Addr} {len cap p : Nat} {k u : Int} (h : StU w0 w wr g ao len cap p k u) (u' : Int) : StU w0 w (wr.setCell ⟨p, 1, none⟩ (.int .i64 u')) g ao len cap p k u' := by
  obtain ⟨h1, h2, h3, h4, h5, h6⟩ := h
  have hg : wr.grownBy (wr.setCell ⟨p, 1, none⟩ (.int .i64 u')) (some p) := grownBy_store (World.grownBy.refl _ _) 1 _
  have hw : w.heap.size ≤ wr.heap.size := h2.size
  refine ⟨cur_keep h1 ((Below.refl w.heap.size wr).setCell (p := ⟨p, 1, none⟩) (by show w.heap.size ≤ p; omega) _) h4, ?_, h3, h4, (hg.block _ (obj_lt h5) (by simp; omega)).trans h5, (heap_setCell_same _ _ _ _ _ _ h6).trans rfl⟩
  exact grownBy_then h2 ((Below.refl w.heap.size wr).setCell (p := ⟨p, 1, none⟩) (by show w.heap.size ≤ p; omega) _)
def names4 : Array Value := #[.string (nmD 0), .string (nmD 1), .string (nmD 2), .string (nmD 3)]
def StW (w0 w wr : World) (g : Nat) (ao : Option Addr) (len cap p q : Nat) (k u : Int) (s : ByteArray) (v : Value) (acc : List ByteArray) : Prop :=
  CurAt w0 wr g ao len cap ∧ w.grownBy wr (some g) ∧ w.heap.size + 1 ≤ p ∧ g < w.heap.size ∧ p < q ∧ wr.heap[w.heap.size]? = some (.cells #[.int .i64 0, .int .i64 0, .string ⟨#[]⟩, .slice none 0 0] 38 (0, 0)) ∧ wr.heap[p]? = some (.cells #[.int .i64 k, .int .i64 u, .string s, v] 38 (0, 0)) ∧
  wr.heap[q]? = some (.cells names4 9 (0, 0)) ∧ wr.ownsRow (q + 1) 9 1 v acc.length (acc.map Value.string)
theorem stW_call {w0 w wr w' : World} {g : Nat} {ao : Option Addr} {len cap p q : Nat} {k u : Int} {s : ByteArray} {v : Value} {acc : List ByteArray} (h : StW w0 w wr g ao len cap p q k u s v acc) (hc : CurAt w0 w' g ao len cap) (hg : wr.grownBy w' (some g)) : StW w0 w w' g ao len cap p q k u s v acc := by
  obtain ⟨h1, h2, h3, h4, h5, h6, h7, h8, h9⟩ := h
  exact ⟨hc, h2.trans hg, h3, h4, h5, (hg.block _ (obj_lt h6) (by simp; omega)).trans h6, (hg.block _ (obj_lt h7) (by simp; omega)).trans h7, (hg.block _ (obj_lt h8) (by simp; omega)).trans h8, row_keep h9 hg (by omega)⟩
theorem stW_below {w0 w wr w' : World} {g : Nat} {ao : Option Addr} {len cap p q : Nat} {k u : Int} {s : ByteArray} {v : Value} {acc : List ByteArray} (h : StW w0 w wr g ao len cap p q k u s v acc) (hb : Below wr.heap.size wr w') : StW w0 w w' g ao len cap p q k u s v acc := by
  obtain ⟨h1, h2, h3, h4, h5, h6, h7, h8, h9⟩ := h
  exact ⟨cur_keep h1 hb (cur_lt h1), grownBy_then h2 (hb.mono h2.size), h3, h4, h5, (hb.block _ (obj_lt h6)).trans h6, (hb.block _ (obj_lt h7)).trans h7, (hb.block _ (obj_lt h8)).trans h8, ownsRow_below h9 hb⟩
theorem stW_row {w0 w wr w5 : World} {g : Nat} {ao : Option Addr} {len cap p q : Nat} {k u : Int} {s : ByteArray} {v v' : Value} {acc acc' : List ByteArray} (h : StW w0 w wr g ao len cap p q k u s v acc) (hb : Below (q + 1) wr w5) (ho : w5.ownsRow (q + 1) 9 1 v' acc'.length (acc'.map Value.string)) : StW w0 w (w5.setCell ⟨p, 3, none⟩ v') g ao len cap p q k u s v' acc' := by
  obtain ⟨h1, h2, h3, h4, h5, h6, h7, h8, h9⟩ := h
  have hg : w5.grownBy (w5.setCell ⟨p, 3, none⟩ v') (some p) := grownBy_store (World.grownBy.refl _ _) 3 _
  have k6 := (hb.block w.heap.size (by omega)).trans h6
  have k7 := (hb.block p (by omega)).trans h7
  have k8 := (hb.block q (by omega)).trans h8
  have hB : Below w.heap.size wr (w5.setCell ⟨p, 3, none⟩ v') := (hb.mono (by omega)).setCell (p := ⟨p, 3, none⟩) (by show w.heap.size ≤ p; omega) _
  exact ⟨cur_keep h1 hB h4, grownBy_then h2 hB, h3, h4, h5, (hg.block _ (obj_lt k6) (by simp; omega)).trans k6, (heap_setCell_same _ _ _ _ _ _ k7).trans rfl, (hg.block _ (obj_lt k8) (by simp; omega)).trans k8, ho.kept hg (by cases hh : v'.ownBlock with | none => exact .inl rfl | some bb => exact .inr (fun e => by have := (ho.lt bb hh).1; have e2 : bb = p := Option.some.inj e; omega))⟩
theorem stW_text {w0 w wr : World} {g : Nat} {ao : Option Addr} {len cap p q : Nat} {k u : Int} {s : ByteArray} {v : Value} {acc : List ByteArray} (h : StW w0 w wr g ao len cap p q k u s v acc) (s' : ByteArray) : StW w0 w (wr.setCell ⟨p, 2, none⟩ (.string s')) g ao len cap p q k u s' v acc := by
  obtain ⟨h1, h2, h3, h4, h5, h6, h7, h8, h9⟩ := h
  have hg : wr.grownBy (wr.setCell ⟨p, 2, none⟩ (.string s')) (some p) := grownBy_store (World.grownBy.refl _ _) 2 _
  have hB : Below w.heap.size wr (wr.setCell ⟨p, 2, none⟩ (.string s')) := (Below.refl w.heap.size wr).setCell (p := ⟨p, 2, none⟩) (by show w.heap.size ≤ p; omega) _
  exact ⟨cur_keep h1 hB h4, grownBy_then h2 hB, h3, h4, h5, (hg.block _ (obj_lt h6) (by simp; omega)).trans h6, (heap_setCell_same _ _ _ _ _ _ h7).trans rfl, (hg.block _ (obj_lt h8) (by simp; omega)).trans h8, h9.kept hg (by cases hh : v.ownBlock with | none => exact .inl rfl | some bb => exact .inr (fun e => by have := (h9.lt bb hh).1; have e2 : bb = p := Option.some.inj e; omega))⟩
theorem stW_new {w0 w wr : World} {g : Nat} {ao : Option Addr} {len cap p : Nat} {k u : Int} (h : StU w0 w wr g ao len cap p k u) : StW w0 w (wr.alloc (.cells names4 9)) g ao len cap p wr.heap.size k u ⟨#[]⟩ (.slice none 0 0) [] := by
  obtain ⟨h1, h2, h3, h4, h5, h6⟩ := h
  have hb : Below wr.heap.size wr (wr.alloc (.cells names4 9)) := (Below.refl _ wr).alloc (Nat.le_refl _) _
  exact ⟨cur_keep h1 hb (cur_lt h1), grownBy_then h2 (hb.mono h2.size), h3, h4, obj_lt h6, (hb.block _ (obj_lt h5)).trans h5, (hb.block _ (obj_lt h6)).trans h6, heap_alloc_new _ _, World.ownsRow_nil _ _ _ _⟩
theorem stW_end {w0 w wr : World} {g : Nat} {ao : Option Addr} {len cap p q : Nat} {k u : Int} {s : ByteArray} {v : Value} {acc : List ByteArray} (h : StW w0 w wr g ao len cap p q k u s v acc) :
    CurAt w0 ((((wr.setCell ⟨w.heap.size, 0, none⟩ (.int .i64 k)).setCell ⟨w.heap.size, 1, none⟩ (.int .i64 u)).setCell ⟨w.heap.size, 2, none⟩ (.string s)).setCell ⟨w.heap.size, 3, none⟩ v) g ao len cap ∧ w.grownBy ((((wr.setCell ⟨w.heap.size, 0, none⟩ (.int .i64 k)).setCell ⟨w.heap.size, 1, none⟩ (.int .i64 u)).setCell ⟨w.heap.size, 2, none⟩ (.string s)).setCell ⟨w.heap.size, 3, none⟩ v) (some g) ∧
    World.ownsRow ((((wr.setCell ⟨w.heap.size, 0, none⟩ (.int .i64 k)).setCell ⟨w.heap.size, 1, none⟩ (.int .i64 u)).setCell ⟨w.heap.size, 2, none⟩ (.string s)).setCell ⟨w.heap.size, 3, none⟩ v) w.heap.size 9 1 v acc.length (acc.map Value.string) := by
  obtain ⟨h1, h2, h3, h4, h5, h6, h7, h8, h9⟩ := h
  have hB : Below w.heap.size wr ((((wr.setCell ⟨w.heap.size, 0, none⟩ (.int .i64 k)).setCell ⟨w.heap.size, 1, none⟩ (.int .i64 u)).setCell ⟨w.heap.size, 2, none⟩ (.string s)).setCell ⟨w.heap.size, 3, none⟩ v) := ((((Below.refl w.heap.size wr).setCell (p := ⟨w.heap.size, 0, none⟩) (Nat.le_refl _) _).setCell (p := ⟨w.heap.size, 1, none⟩) (Nat.le_refl _) _).setCell (p := ⟨w.heap.size, 2, none⟩) (Nat.le_refl _) _).setCell (p := ⟨w.heap.size, 3, none⟩) (Nat.le_refl _) _
  have hg : wr.grownBy ((((wr.setCell ⟨w.heap.size, 0, none⟩ (.int .i64 k)).setCell ⟨w.heap.size, 1, none⟩ (.int .i64 u)).setCell ⟨w.heap.size, 2, none⟩ (.string s)).setCell ⟨w.heap.size, 3, none⟩ v) (some w.heap.size) := grownBy_store (grownBy_store (grownBy_store (grownBy_store (World.grownBy.refl _ _) 0 _) 1 _) 2 _) 3 _
  refine ⟨cur_keep h1 hB h4, grownBy_then h2 hB, ownsRow_mono (h9.kept hg ?_) (by omega : w.heap.size ≤ q + 1)⟩
  cases hh : v.ownBlock with
  | none => exact .inl rfl
  | some bb => exact .inr (fun e => by have := (h9.lt bb hh).1; have e2 : bb = w.heap.size := Option.some.inj e; omega)
theorem l10Val_any (w0 w : World) (g : Nat) (ao : Option Addr) (len cap : Nat) (hlen : len ≤ 1048576) (hcode : Code w0 ao len) (hc : CurAt w0 w g ao len cap) :
    Calls Tryz.prog 58 #[.pointer (some ⟨g, 0, none⟩)] w fun e w' => (∃ (v : ValD) (a : Option Addr) (c : Nat), e = .returned (.agg #[.int .i64 v.kind, .int .i64 v.til, .string v.text, .slice a v.items.length c]) ∧ ValR v ∧ v.til ≤ 40 ∧ w'.ownsRow w.heap.size 9 1 (.slice a v.items.length c) v.items.length (v.items.map Value.string)) ∧ CurAt w0 w' g ao len cap ∧ w.grownBy w' (some g) := by
  have HBE := hide (fun W (n : Int) (hn : n ≤ 4611686018427387904) (h : CurAt w0 W g ao len cap) => below_any w0 W g ao len cap n hlen hn hcode h)
  have HON := hide (fun W (n : Int) (hn : n ≤ 4611686018427387904) (h : CurAt w0 W g ao len cap) => once_any w0 W g ao len cap n hlen hn hcode h)
  have HWO := hide (fun W (h : CurAt w0 W g ao len cap) => l10Word_any w0 W g ao len cap hlen hcode h)
  have hg := cur_lt hc
  have HU := hide hc
  clear hcode hc
  obtain ⟨wb, hwb⟩ : ∃ wb, wb = w.alloc (.cells #[.int .i64 0, .int .i64 0, .string ⟨#[]⟩, .slice none 0 0] 38) := ⟨_, rfl⟩
  have BB : Hid (Below w.heap.size w wb) := by rw [hwb]; exact (Below.refl _ w).alloc (Nat.le_refl _) _
  have PB : Hid (wb.heap[w.heap.size]? = some (.cells #[.int .i64 0, .int .i64 0, .string ⟨#[]⟩, .slice none 0 0] 38 (0, 0))) := by rw [hwb]; exact heap_alloc_new _ _
  have CB := hide (cur_keep HU.out BB.out hg)
  go_enter Tryz.func58, Tryz.ntmps58
  go_upto_region 1 with fail
  rw [← hwb]
  clear hwb
  go_wp2_with fail
  refine (HBE.out _ 4 (by omega) CB.out).mono ?_
  rintro e w1 ⟨x, rfl, hx, -, c1, g1⟩
  have hx4 : (x : Int) < 4 := hx (by omega)
  obtain ⟨kk, hkk⟩ : ∃ kk : Int, 1 + (x : Int) = kk := ⟨_, rfl⟩
  have SU : Hid (StU w0 w (w1.alloc (.cells #[.int .i64 kk, .int .i64 0, .string ⟨#[]⟩, .slice none 0 0] 38)) g ao len cap w1.heap.size kk 0) := by
    have hb : Below w1.heap.size w1 (w1.alloc (.cells #[.int .i64 kk, .int .i64 0, .string ⟨#[]⟩, .slice none 0 0] 38)) := (Below.refl _ w1).alloc (Nat.le_refl _) _
    have hp := (g1.block _ (obj_lt PB.out) (by simp; omega)).trans PB.out
    have hg1 : w.grownBy w1 (some g) := (grownBy_below (some g) BB.out).trans g1
    exact ⟨cur_keep c1 hb (cur_lt c1), grownBy_then hg1 (hb.mono hg1.size), obj_lt hp, hg, (hb.block _ (obj_lt hp)).trans hp, heap_alloc_new _ _⟩
  clear c1 g1 hx
  go_upto_region 2 with fail
  generalize w1.alloc (.cells #[.int .i64 kk, .int .i64 0, .string ⟨#[]⟩, .slice none 0 0] 38) = w2 at SU
  generalize w1.heap.size = p at SU
  have hkr : kk = 1 ∨ kk = 2 ∨ kk = 3 ∨ kk = 4 := by omega
  clear hkk hx4 CB PB BB
  go_upto_if 1 with fail
  refine (HON.out _ 4 (by omega) SU.out.1).mono ?_
  rintro e w3 ⟨b, rfl, c3, g3⟩
  have S3 := hide (stU_call SU.out c3 g3)
  clear SU c3 g3
  go_upto_if 12 with fail
  go_cut [3] from 11 (fun pp wx => pp = .pointer (some ⟨p, 0, none⟩) ∧ ∃ u : Int, 0 ≤ u ∧ u ≤ 40 ∧ Hid (StU w0 w wx g ao len cap p kk u))
  case first =>
    cases b
    · go_wp2
      go_meet
      exact ⟨rfl, 0, by omega, by omega, S3⟩
    · go_wp2_with fail
      refine (HBE.out _ 40 (by omega) S3.out.1).mono ?_
      rintro e w4 ⟨y, rfl, hy, -, c4, g4⟩
      have hy4 : (y : Int) < 40 := hy (by omega)
      have S4 := hide (stU_call S3.out c4 g4)
      obtain ⟨uu, huu⟩ : ∃ uu : Int, 1 + (y : Int) = uu := ⟨_, rfl⟩
      clear hy c4 g4 S3
      obtain ⟨q0, q1, q2, q3⟩ := val_cells S4.out.2.2.2.2.2
      obtain ⟨f0, f1, f2, f3⟩ := val_frozen S4.out.2.2.2.2.2
      go_wp2
      go_meet
      exact ⟨rfl, uu, by omega, by omega, stU_til S4.out uu⟩
  case rest =>
  clear S3
  obtain ⟨rfl, u, hu0, hu1, S5⟩ := hcut
  obtain ⟨wn, hwn⟩ : ∃ wn, wn = wc.alloc (.cells #[.string ⟨#[102]⟩, .string ⟨#[103]⟩, .string ⟨#[104]⟩, .string ⟨#[105]⟩] 9) := ⟨_, rfl⟩
  have SW : Hid (StW w0 w wn g ao len cap p wc.heap.size kk u ⟨#[]⟩ (.slice none 0 0) []) := by rw [hwn]; exact stW_new S5.out
  clear S5
  obtain ⟨q, hq⟩ : ∃ q, q = wc.heap.size := ⟨_, rfl⟩
  rw [← hq] at SW
  go_upto_region 5 with fail
  rw [← hwn, ← hq]
  clear hwn hq
  obtain ⟨x0, x1, x2, x3⟩ := val_cells SW.out.2.2.2.2.2.2.1
  rcases hkr with rfl | rfl | hk34
  · go_wp2_with fail
    refine (HWO.out _ SW.out.1).mono ?_
    rintro e w5 ⟨z, rfl, hz, c5, g5⟩
    have S6 := hide (stW_call SW.out c5 g5)
    clear SW c5 g5 x0 x1 x2 x3
    obtain ⟨x0, x1, x2, x3⟩ := val_cells S6.out.2.2.2.2.2.2.1
    obtain ⟨f0, f1, f2, f3⟩ := val_frozen S6.out.2.2.2.2.2.2.1
    have S7 := hide (stW_text S6.out z)
    go_upto_region 20 with fail
    generalize w5.setCell ⟨p, 2, none⟩ (.string z) = w6 at S7
    clear S6 x0 x1 x2 x3 f0 f1 f2 f3
    obtain ⟨y0, y1, y2, y3⟩ := val_cells S7.out.2.2.2.2.2.2.1
    obtain ⟨r0, r1, r2, r3⟩ := val_cells S7.out.2.2.2.2.2.1
    obtain ⟨rf0, rf1, rf2, rf3⟩ := val_frozen S7.out.2.2.2.2.2.1
    go_wp2_with fail
    refine bodyPost_ret (v := .agg #[.int .i64 1, .int .i64 u, .string z, .slice none 0 0]) (by simp [results, Tryz.results58, go_sem, r0, r1, r2, r3]) rfl ⟨⟨⟨1, u, z, []⟩, _, _, rfl, textR_end hz hu0 (by omega), hu1, (stW_end S7.out).2.2⟩, (stW_end S7.out).1, (stW_end S7.out).2.1⟩
  · have hpq : p < q := SW.out.2.2.2.2.1
    go_wp2_with fail
    clear x0 x1 x2 x3
    go_loopw [5] (fun ii wr => ∃ (k : Nat) (v : Value) (acc : List ByteArray), ii = .int .i64 (k : Int) ∧ k ≤ 4 ∧ Hid (acc.length = k) ∧ Hid (Small acc) ∧ Hid (StW w0 w wr g ao len cap p q 2 u ⟨#[]⟩ v acc)) (fun ii _ => 4 - (intOf ii).toNat)
    case atStart => exact ⟨0, _, [], rfl, by omega, hide rfl, fun s hs => absurd hs List.not_mem_nil, SW⟩
    case round =>
      clear SW
      obtain ⟨k, v, acc, rfl, hk, hal, HSM, SW⟩ := hrel
      go_wp2_with fail
      refine (HBE.out _ 4 (by omega) SW.out.1).mono ?_
      rintro e w6 ⟨y, rfl, hy, -, c6, g6⟩
      have hy4 : (y : Int) < 4 := hy (by omega)
      have S6 := hide (stW_call SW.out c6 g6)
      clear SW c6 g6 hy
      have hLl : acc.length ≤ 1048576 := by have := hal.out; omega
      obtain ⟨aa, ca, rfl⟩ := slice_form S6.out.2.2.2.2.2.2.2.2
      by_cases hlt : (k : Int) < 1 + (y : Int)
      · have hlt' : decide ((k : Int) < 1 + (y : Int)) = true := by simp; omega
        obtain ⟨-, -, -, hv3⟩ := val_cells S6.out.2.2.2.2.2.2.1
        have SD := hide (stW_below S6.out (Below.refl _ w6).drew)
        go_upto_region 19 with fail
        go_region_law ((first | (refine step_app_txt _ (q + 1) (by rfl) _ _ (by rfl) _ acc ka (by rfl) (S8.out.2.2.2.2.2.2.2.2.alloc _) w8.heap.size (by simp [Act.eval]) (heap_alloc_new w8 _) hLl (by simp; omega) ?_; intro g9 cap9 w9 ho9 hb9 hgr9 hg9 hgl9; have B9 : Hid (Below (q + 1) w8 w9) := ((Below.refl _ w8).alloc hs8 _).trans hb9; have HO9 := hide ho9; have hn0 := (B9.out.block p (by omega)).trans S8.out.2.2.2.2.2.2.1; obtain ⟨m0, m1, m2, m3⟩ := val_cells hn0; obtain ⟨l0, l1, l2, l3⟩ := val_frozen hn0; clear hn0 ho9 hb9 hgr9 hg9 hgl9) | (go_simp; go_at_call 100; refine (HWO.out _ SD.out.1).mono ?_; rintro e w8 ⟨ka, rfl, hka, c8, g8⟩; have S8 := hide (stW_call SD.out c8 g8); have hs8 : q + 1 ≤ w8.heap.size := obj_lt S8.out.2.2.2.2.2.2.2.1; obtain ⟨-, -, -, hall0⟩ := val_cells S8.out.2.2.2.2.2.2.1; have hall : (w8.alloc (.cells #[.string ka] 9)).cell? ⟨p, 3, none⟩ = _ := (((Below.refl _ w8).alloc (Nat.le_refl _) _).cell (p := ⟨p, 3, none⟩) (by show p < _; omega)).trans hall0; clear c8 g8)))
        all_goals
          go_wp2
          go_roundw
          case rel =>
            refine ⟨k + 1, .slice (some ⟨g9, 0, none⟩) (acc.length + 1) cap9, acc ++ [ka], by go_num, by omega, by show _ = _; rw [List.length_append, hal.out]; rfl, fun s hs => ?_, stW_row S8.out B9.out HO9.out⟩
            rcases List.mem_append.1 hs with hs | hs
            · exact HSM.out s hs
            · obtain rfl : s = ka := by simpa using hs
              exact hka
          case measure => simp [intOf]; omega
      · have hlt' : decide ((k : Int) < 1 + (y : Int)) = false := by simp; omega
        have hl1 : 1 ≤ acc.length := by have := hal.out; omega
        have hl2 : acc.length ≤ 24 := by have := hal.out; omega
        obtain ⟨y0, y1, y2, y3⟩ := val_cells S6.out.2.2.2.2.2.2.1
        obtain ⟨r0, r1, r2, r3⟩ := val_cells S6.out.2.2.2.2.2.1
        obtain ⟨rf0, rf1, rf2, rf3⟩ := val_frozen S6.out.2.2.2.2.2.1
        go_wp2_with fail
        refine bodyPost_ret (v := .agg #[.int .i64 2, .int .i64 u, .string ⟨#[]⟩, .slice aa acc.length ca]) (by simp [results, Tryz.results58, go_sem, r0, r1, r2, r3]) rfl ⟨⟨⟨2, u, ⟨#[]⟩, acc⟩, _, _, rfl, listR_end hl1 hl2 HSM.out hu0 (by omega), hu1, (stW_end S6.out).2.2⟩, (stW_end S6.out).1, (stW_end S6.out).2.1⟩
  have hpq : p < q := SW.out.2.2.2.2.1
  have LP : Hid ((kk = 3 ∧ FldR 0 []) ∨ (kk = 4 ∧ SetR 0 [])) := by rcases hk34 with rfl | rfl; exact .inl ⟨rfl, fldR_zero⟩; exact .inr ⟨rfl, setR_zero⟩
  have hk1 : (kk == 1) = false := by rcases hk34 with rfl | rfl <;> rfl
  have hk2 : (kk == 2) = false := by rcases hk34 with rfl | rfl <;> rfl
  clear hk34
  go_wp2_with fail
  clear x0 x1 x2 x3
  go_loopw [6] (fun ii wr => ∃ (k : Nat) (v : Value) (acc : List ByteArray), ii = .int .i64 (k : Int) ∧ k ≤ 4 ∧ Hid ((kk = 3 ∧ FldR k acc) ∨ (kk = 4 ∧ SetR k acc)) ∧ Hid (StW w0 w wr g ao len cap p q kk u ⟨#[]⟩ v acc)) (fun ii _ => 4 - (intOf ii).toNat)
  case atStart => exact ⟨0, _, [], rfl, by omega, LP, SW⟩
  case round =>
    clear SW LP
    obtain ⟨k, v, acc, rfl, hk, LP, SW⟩ := hrel
    obtain ⟨aa, ca, rfl⟩ := slice_form SW.out.2.2.2.2.2.2.2.2
    have hLl : acc.length ≤ 1048576 := by rcases LP.out with ⟨-, h⟩ | ⟨-, h⟩ <;> (have := h.2.1; omega)
    by_cases hlt : k < 4
    · have hlt' : decide ((k : Int) < 4) = true := by simp; omega
      have hi0 : (0 : Int) ≤ (k : Int) := by omega
      have hi1 : (k : Int) < 4 := by omega
      obtain ⟨nk, HNK⟩ : ∃ nk, Hid (nmD k = nk) := ⟨_, hide rfl⟩
      have hnm : Hid (∀ W : World, W.heap[q]? = some (.cells names4 9 (0, 0)) → W.cell? ⟨q, k, none⟩ = some (.string nk)) := fun W hW => by
        have h := cell_of_row W q k _ _ (0, 0) hW
        rw [h, ← HNK.out]
        have : k = 0 ∨ k = 1 ∨ k = 2 ∨ k = 3 := by omega
        rcases this with rfl | rfl | rfl | rfl <;> rfl
      have HPUT : Hid ((kk = 3 ∧ ∀ y : ByteArray, y.size ≤ 60 → FldR (k + 1) (acc ++ [nk] ++ [y])) ∨ (kk = 4 ∧ SetR (k + 1) (acc ++ [nk]))) := by
        rw [← HNK.out]
        rcases LP.out with ⟨e, h⟩ | ⟨e, h⟩
        · exact .inl ⟨e, fun y hy => fldR_put h hlt hy⟩
        · exact .inr ⟨e, setR_put h hlt⟩
      have HSKIP : Hid (0 < k → (kk = 3 ∧ FldR (k + 1) acc) ∨ (kk = 4 ∧ SetR (k + 1) acc)) := fun h0 => by
        rcases LP.out with ⟨e, h⟩ | ⟨e, h⟩
        · exact .inl ⟨e, fldR_skip h h0 hlt⟩
        · exact .inr ⟨e, setR_skip h h0 hlt⟩
      have hcase : k = 0 ∨ 0 < k := by omega
      rcases hcase with hk0 | hk0
      all_goals
        first
        | (have hk0' : ((k : Int) == 0) = true := by simp; omega
           obtain ⟨wx, hwx⟩ : ∃ wx, wx = wr := ⟨_, rfl⟩
           rw [← hwx] at SW
           go_upto_region 10 with fail
           rw [← hwx]
           clear hwx hk0' hk0)
        | (have hk0' : ((k : Int) == 0) = false := by simp; omega
           go_wp2_with fail
           refine (HON.out _ 2 (by omega) SW.out.1).mono ?_
           rintro e wx ⟨b, rfl, c6, g6⟩
           have S6 := hide (stW_call SW.out c6 g6)
           clear SW c6 g6 hk0'
           have SW := S6
           clear S6
           cases b
           · have HK := hide (HSKIP.out hk0)
             go_wp2
             go_roundw
             case rel => exact ⟨k + 1, _, acc, by go_num, by omega, HK, SW⟩
             case measure => simp [intOf]; omega
           clear hk0
           go_upto_region 10 with fail)
      all_goals
        have SD := hide (stW_below SW.out (Below.refl _ wx).drew)
        have hsD : q + 1 ≤ wx.drew.heap.size := obj_lt SD.out.2.2.2.2.2.2.2.1
        have hcn := hnm.out _ SD.out.2.2.2.2.2.2.2.1
        have hcn1 := hnm.out _ SW.out.2.2.2.2.2.2.2.1
        obtain ⟨-, -, -, hv3⟩ := val_cells SW.out.2.2.2.2.2.2.1
        obtain ⟨-, -, -, hv4⟩ := val_cells SD.out.2.2.2.2.2.2.1
        have hsW : q + 1 ≤ wx.heap.size := obj_lt SW.out.2.2.2.2.2.2.2.1
        have hall : (wx.drew.alloc (.cells #[.string nk] 9)).cell? ⟨p, 3, none⟩ = _ := (((Below.refl _ wx.drew).alloc (Nat.le_refl _) _).cell (p := ⟨p, 3, none⟩) (by show p < _; omega)).trans hv4
        have hall2 : (wx.alloc (.cells #[.string nk] 9)).drew.cell? ⟨p, 3, none⟩ = _ := (((Below.refl _ wx).alloc (Nat.le_refl _) _).drew.cell (p := ⟨p, 3, none⟩) (by show p < _; omega)).trans hv3
        go_cut [6] from 20 to 50 (fun ii w7 => ii = .int .i64 (k : Int) ∧ ∃ v, Hid (StW w0 w w7 g ao len cap p q kk u ⟨#[]⟩ v (acc ++ [nk])))
        case first =>
          go_region_law ((first | (refine step_app_txt _ (q + 1) (by rfl) _ _ (by rfl) _ acc nk (by rfl) (SD.out.2.2.2.2.2.2.2.2.alloc _) wx.drew.heap.size (by simp [Act.eval]) (heap_alloc_new wx.drew _) hLl (by simp; omega) ?_; intro g9 cap9 w9 ho9 hb9 hgr9 hg9 hgl9; have B9 : Hid (Below (q + 1) wx.drew w9) := ((Below.refl _ wx.drew).alloc hsD _).trans hb9; have HO9 := hide ho9; have hn0 := (B9.out.block p (by omega)).trans SD.out.2.2.2.2.2.2.1; obtain ⟨m0, m1, m2, m3⟩ := val_cells hn0; obtain ⟨l0, l1, l2, l3⟩ := val_frozen hn0; clear hn0 ho9 hb9 hgr9 hg9 hgl9) | (refine step_app_txt _ (q + 1) (by rfl) _ _ (by rfl) _ acc nk (by rfl) (ownsRow_below (SW.out.2.2.2.2.2.2.2.2.alloc _) (Below.refl _ _).drew) wx.heap.size (by simp [Act.eval]) (heap_alloc_new wx _) hLl (by simp; omega) ?_; intro g9 cap9 w9 ho9 hb9 hgr9 hg9 hgl9; have B9 : Hid (Below (q + 1) wx.drew w9) := ((Below.refl _ wx.drew).alloc hsD _).trans hb9; have HO9 := hide ho9; have hn0 := (B9.out.block p (by omega)).trans SD.out.2.2.2.2.2.2.1; obtain ⟨m0, m1, m2, m3⟩ := val_cells hn0; obtain ⟨l0, l1, l2, l3⟩ := val_frozen hn0; clear hn0 ho9 hb9 hgr9 hg9 hgl9)))
          all_goals
            go_wp2
            go_meet
            exact ⟨rfl, _, stW_row SD.out B9.out HO9.out⟩
        case rest =>
        clear SW SD hcn hcn1 hv3 hv4 hall hall2 hsD hsW
        obtain ⟨rfl, v7, S7⟩ := hcut
        obtain ⟨aa7, ca7, rfl⟩ := slice_form S7.out.2.2.2.2.2.2.2.2
        obtain ⟨z0, z1, z2, z3⟩ := val_cells S7.out.2.2.2.2.2.2.1
        have hLl2 : (acc ++ [nk]).length ≤ 1048576 := by simp; rcases LP.out with ⟨-, h⟩ | ⟨-, h⟩ <;> (have := h.2.1; omega)
        obtain ⟨acc2, HA2⟩ : ∃ acc2, Hid (acc ++ [nk] = acc2) := ⟨_, hide rfl⟩
        rw [HA2.out] at HPUT S7 hLl2 z3
        clear hLl
        have hLl := hLl2
        clear hLl2
        rcases HPUT.out with ⟨hk3, hf⟩ | ⟨hk4, hst⟩
        · have HF := hide hf
          have HK3 := hide hk3
          have hk3' : (kk == 3) = true := by rw [hk3]; rfl
          clear hf hk3
          have SD := hide (stW_below S7.out (Below.refl _ wc).drew)
          go_upto_region 12 with fail
          go_region_law ((first | (refine step_app_txt _ (q + 1) (by rfl) _ _ (by rfl) _ acc2 ka (by rfl) (S8.out.2.2.2.2.2.2.2.2.alloc _) w8.heap.size (by simp [Act.eval]) (heap_alloc_new w8 _) hLl (by simp; omega) ?_; intro g9 cap9 w9 ho9 hb9 hgr9 hg9 hgl9; have B9 : Hid (Below (q + 1) w8 w9) := ((Below.refl _ w8).alloc hs8 _).trans hb9; have HO9 := hide ho9; have hn0 := (B9.out.block p (by omega)).trans S8.out.2.2.2.2.2.2.1; obtain ⟨m0, m1, m2, m3⟩ := val_cells hn0; obtain ⟨l0, l1, l2, l3⟩ := val_frozen hn0; clear hn0 ho9 hb9 hgr9 hg9 hgl9) | (go_simp; go_at_call 100; refine (HWO.out _ SD.out.1).mono ?_; rintro e w8 ⟨ka, rfl, hka, c8, g8⟩; have S8 := hide (stW_call SD.out c8 g8); have hs8 : q + 1 ≤ w8.heap.size := obj_lt S8.out.2.2.2.2.2.2.2.1; obtain ⟨-, -, -, hall0⟩ := val_cells S8.out.2.2.2.2.2.2.1; have hall : (w8.alloc (.cells #[.string ka] 9)).cell? ⟨p, 3, none⟩ = _ := (((Below.refl _ w8).alloc (Nat.le_refl _) _).cell (p := ⟨p, 3, none⟩) (by show p < _; omega)).trans hall0; clear c8 g8)))
          all_goals
            go_wp2
            go_roundw
            case rel => exact ⟨k + 1, .slice (some ⟨g9, 0, none⟩) (acc2.length + 1) cap9, acc2 ++ [ka], by go_num, by omega, .inl ⟨HK3.out, HF.out ka hka⟩, stW_row S8.out B9.out HO9.out⟩
            case measure => simp [intOf]; omega
        · have HST := hide hst
          have HK4 := hide hk4
          have hk3' : (kk == 3) = false := by rw [hk4]; rfl
          clear hst hk4
          go_wp2
          go_roundw
          case rel => exact ⟨k + 1, _, acc2, by go_num, by omega, .inr ⟨HK4.out, HST.out⟩, S7⟩
          case measure => simp [intOf]; omega
    · have hlt' : decide ((k : Int) < 4) = false := by simp; omega
      have hk4 : k = 4 := by omega
      subst hk4
      have HE : Hid (ValR ⟨kk, u, ⟨#[]⟩, acc⟩) := by
        rcases LP.out with ⟨e, h⟩ | ⟨e, h⟩
        · rw [e]; exact fldR_end h hu0 (by omega)
        · rw [e]; exact setR_end h hu0 (by omega)
      obtain ⟨y0, y1, y2, y3⟩ := val_cells SW.out.2.2.2.2.2.2.1
      obtain ⟨r0, r1, r2, r3⟩ := val_cells SW.out.2.2.2.2.2.1
      obtain ⟨rf0, rf1, rf2, rf3⟩ := val_frozen SW.out.2.2.2.2.2.1
      go_wp2_with fail
      refine bodyPost_ret (v := .agg #[.int .i64 kk, .int .i64 u, .string ⟨#[]⟩, .slice aa acc.length ca]) (by simp [results, Tryz.results58, go_sem, r0, r1, r2, r3]) rfl ⟨⟨⟨kk, u, ⟨#[]⟩, acc⟩, _, _, rfl, HE.out, hu1, (stW_end SW.out).2.2⟩, (stW_end SW.out).1, (stW_end SW.out).2.1⟩
theorem figure_any (x : Int) (w : World) (h0 : 0 ≤ x) (h1 : x < 16) :
    Calls Tryz.prog 35 #[.int .i64 x] w fun e w' => e = .returned (.int .u8 (Wd.figI x)) ∧ w' = w := by
  by_cases h : x < 10
  · rw [Wd.figI_low x h]
    go_enter Tryz.func35, Tryz.ntmps35
    go_wp2
    go_ret
    exact ⟨rfl, rfl⟩
  · rw [Wd.figI_high x h]
    go_enter Tryz.func35, Tryz.ntmps35
    go_wp2
    go_ret
    refine ⟨?_, rfl⟩
    show Ending.returned (.int .u8 (97 + x - 10)) = _
    rw [show 97 + x - 10 = 87 + x from by omega]
theorem dec_zero (w : World) : Calls Tryz.prog 9 #[.int .i64 0] w fun e w' => e = .returned (.string ⟨(Wd.decS 0).toArray⟩) ∧ w' = w := by
  go_enter Tryz.func9, Tryz.ntmps9
  go_wp2
  go_ret
  exact ⟨rfl, rfl⟩
theorem conv_one (W : World) (d : Nat) (hd : d < 16) :
    (convert 22 9 (.slice (some ⟨W.heap.size, 0, none⟩) 1 1)).run Tryz.prog (W.alloc (.cells #[.int .u8 (Wd.figI (d : Int))] 5)) = .ok (.string ⟨#[Wd.figB d]⟩) (W.alloc (.cells #[.int .u8 (Wd.figI (d : Int))] 5)) := by
  refine run_convert_bytes_back (P := Tryz.prog) (W.alloc (.cells #[.int .u8 (Wd.figI (d : Int))] 5)) 22 9 5 ⟨W.heap.size, 0, none⟩ 1 [Wd.figB d] Tryz.underlying22 Tryz.underlying5 Tryz.underlying9 ?_
  intro j hj
  exact cells_new W #[.int .u8 (Wd.figI (d : Int))] 5 j _ (by
    have : j = 0 := by simpa using hj
    subst this
    simp [Wd.figB_val d hd])
theorem dec_pos (n : Nat) (w : World) (h0 : 0 < n) (h1 : n ≤ 9223372036854775807) :
    Calls Tryz.prog 9 #[.int .i64 n] w fun e w' => e = .returned (.string ⟨(Wd.decA 20 n []).toArray⟩) ∧ Below w.heap.size w w' := by
  have hz : ((n : Int) == 0) = false := by simp; omega
  have hneg : decide ((n : Int) < 0) = false := by simp
  go_enter Tryz.func9, Tryz.ntmps9
  go_wp2
  go_loopw [0, 4] (fun t v wr => ∃ (f m : Nat) (acc : List UInt8), t = .int .i64 m ∧ v = .string ⟨acc.toArray⟩ ∧ m < 10 ^ f ∧ m ≤ 9223372036854775807 ∧ acc.length + f = 20 ∧ Hid (Wd.decA f m acc = Wd.decA 20 n []) ∧ Below w.heap.size w wr) (fun t _ _ => (intOf t).toNat)
  case atStart => exact ⟨20, n, [], rfl, rfl, by omega, h1, rfl, rfl, Below.refl _ _⟩
  case round =>
    obtain ⟨f, m, acc, rfl, rfl, hm, hm2, hl, hacc, hb⟩ := hrel
    have hbs := hb.size
    by_cases hlt : 0 < m
    · obtain ⟨f, rfl⟩ : ∃ g, f = g + 1 := by
        cases f with
        | zero => simp at hm; omega
        | succ g => exact ⟨g, rfl⟩
      have hne : ((m : Int) != 0) = true := by simp; omega
      obtain ⟨d, hd, hd10, hdi⟩ : ∃ d : Nat, Hid (m % 10 = d) ∧ d < 10 ∧ (m : Int) % 10 = (d : Int) := ⟨_, rfl, by omega, by omega⟩
      have hfac := hide (Wd.decA_step f m acc (by omega))
      have hdiv : m / 10 < 10 ^ f := Nat.div_lt_of_lt_mul (by rw [Nat.mul_comm, ← Nat.pow_succ]; exact hm)
      have hcv := conv_one wr d (by omega)
      go_wp2_with (go_at_call 35; refine (figure_any _ _ (by omega) (by omega)).mono ?_; rintro e w1 ⟨rfl, rfl⟩)
      go_roundw
      case rel =>
        refine ⟨f, m / 10, Wd.figB d :: acc, by go_num, congrArg Value.string (cat_list [Wd.figB d] acc), hdiv, by omega, by simp; omega, ?_, hb.alloc hbs _⟩
        show _ = _
        rw [← hacc.out, hfac.out, hd.out]
      case measure => simp [intOf]; omega
    · have hm0 : m = 0 := by omega
      subst hm0
      have hfin := hide ((Wd.decA_zero f acc).symm.trans hacc.out)
      go_wp2
      go_ret
      rw [← hfin.out]
      exact ⟨rfl, hb⟩
theorem dec_neg (n : Nat) (w : World) (h0 : 0 < n) (h1 : n ≤ 9223372036854775808) :
    Calls Tryz.prog 9 #[.int .i64 (-(n : Int))] w fun e w' => e = .returned (.string ⟨(45 :: Wd.decA 20 n []).toArray⟩) ∧ Below w.heap.size w w' := by
  have hz : (-(n : Int) == 0) = false := by simp; omega
  have hneg : decide (-(n : Int) < 0) = true := by simp; omega
  have H1 := hide h1
  clear h1
  go_enter Tryz.func9, Tryz.ntmps9
  go_wp2
  go_loopw [0, 4] (fun t v wr => ∃ (f m : Nat) (acc : List UInt8), t = .int .i64 (-(m : Int)) ∧ v = .string ⟨acc.toArray⟩ ∧ m < 10 ^ f ∧ Hid (m ≤ 9223372036854775808) ∧ acc.length + f = 20 ∧ Hid (Wd.decA f m acc = Wd.decA 20 n []) ∧ Below w.heap.size w wr) (fun t _ _ => (- intOf t).toNat)
  case atStart => exact ⟨20, n, [], rfl, rfl, by have := H1.out; omega, H1, rfl, rfl, Below.refl _ _⟩
  case round =>
    obtain ⟨f, m, acc, rfl, rfl, hm, HM2, hl, hacc, hb⟩ := hrel
    have hbs := hb.size
    by_cases hlt : 0 < m
    · obtain ⟨f, rfl⟩ : ∃ g, f = g + 1 := by
        cases f with
        | zero => simp at hm; omega
        | succ g => exact ⟨g, rfl⟩
      have hne : (-(m : Int) != 0) = true := by simp; omega
      obtain ⟨d, hd, hd10, hdi⟩ : ∃ d : Nat, Hid (m % 10 = d) ∧ d < 10 ∧ (-(m : Int)).tmod 10 = -(d : Int) := ⟨_, rfl, by omega, by rw [Int.neg_tmod, Int.tmod_eq_emod_of_nonneg (by omega)]; omega⟩
      obtain ⟨q, hq, hqi⟩ : ∃ q : Nat, Hid (m / 10 = q) ∧ (-(m : Int)).tdiv 10 = -(q : Int) := ⟨_, rfl, by rw [Int.neg_tdiv, Int.tdiv_eq_ediv_of_nonneg (by omega)]; omega⟩
      have hq2 : q ≤ 922337203685477580 := by have := HM2.out; have := hq.out; omega
      have hqm : q < m := by have := hq.out; omega
      have hfac := hide (Wd.decA_step f m acc (by omega))
      have hdiv : q < 10 ^ f := by rw [← hq.out]; exact Nat.div_lt_of_lt_mul (by rw [Nat.mul_comm, ← Nat.pow_succ]; exact hm)
      have hcv := conv_one wr d (by omega)
      by_cases hd0 : 0 < d
      · have hdn : decide (-(d : Int) < 0) = true := by simp; omega
        go_wp2_with (go_at_call 35; refine (figure_any _ _ (by omega) (by omega)).mono ?_; rintro e w1 ⟨rfl, rfl⟩)
        go_roundw
        case rel =>
          refine ⟨f, q, Wd.figB d :: acc, by go_num, congrArg Value.string (cat_list [Wd.figB d] acc), hdiv, by show q ≤ 9223372036854775808; omega, by simp; omega, ?_, hb.alloc hbs _⟩
          show _ = _
          rw [← hacc.out, hfac.out, hd.out, hq.out]
        case measure => simp [intOf]; omega
      · have hd1 : d = 0 := by omega
        subst hd1
        rw [show ((0 : Nat) : Int) = 0 from rfl] at hcv hdi
        go_wp2_with (go_at_call 35; refine (figure_any _ _ (by omega) (by omega)).mono ?_; rintro e w1 ⟨rfl, rfl⟩)
        go_roundw
        case rel =>
          refine ⟨f, q, Wd.figB 0 :: acc, by go_num, congrArg Value.string (cat_list [Wd.figB 0] acc), hdiv, by show q ≤ 9223372036854775808; omega, by simp; omega, ?_, hb.alloc hbs _⟩
          show _ = _
          rw [← hacc.out, hfac.out, hd.out, hq.out]
        case measure => simp [intOf]; omega
    · have hm0 : m = 0 := by omega
      subst hm0
      have hfin := hide ((Wd.decA_zero f acc).symm.trans hacc.out)
      go_wp2
      go_ret
      rw [← hfin.out]
      exact ⟨congrArg (fun x => Ending.returned (Value.string x)) (cat_list [45] acc), hb⟩
theorem decimal_any (n : Int) (w : World) (h0 : -9223372036854775808 ≤ n) (h1 : n ≤ 9223372036854775807) :
    Calls Tryz.prog 9 #[.int .i64 n] w fun e w' => e = .returned (.string ⟨(Wd.decS n).toArray⟩) ∧ Below w.heap.size w w' := by
  by_cases hz : n = 0
  · subst hz
    exact (dec_zero w).mono fun e w' ⟨he, hw⟩ => ⟨he, hw ▸ Below.refl _ _⟩
  · by_cases hn : n < 0
    · obtain ⟨m, hm⟩ := Int.eq_ofNat_of_zero_le (show 0 ≤ -n by omega)
      have e : n = -(m : Int) := by omega
      subst e
      have es : Wd.decS (-(m : Int)) = 45 :: Wd.decA 20 m [] := by unfold Wd.decS; rw [if_neg hz, if_pos hn, Int.natAbs_neg, Int.natAbs_natCast]
      rw [es]
      exact dec_neg m w (by omega) (by omega)
    · obtain ⟨m, rfl⟩ := Int.eq_ofNat_of_zero_le (show 0 ≤ n by omega)
      have es : Wd.decS (m : Int) = Wd.decA 20 m [] := by unfold Wd.decS; rw [if_neg hz, if_neg hn, Int.natAbs_natCast]
      rw [es]
      exact dec_pos m w (by omega) (by omega)
def kD : Nat → ByteArray
  | 0 => ⟨#[97]⟩
  | 1 => ⟨#[98]⟩
  | 2 => ⟨#[99]⟩
  | 3 => ⟨#[100]⟩
  | 4 => ⟨#[107, 101, 121]⟩
  | _ => ⟨#[107, 107]⟩
theorem kD_size (i : Nat) : 1 ≤ (kD i).size ∧ (kD i).size ≤ 20 := by
  unfold kD
  split <;> decide
theorem kD_less : ∀ i, i < 6 → ∀ m, m < i → Op.bytesLess (kD m).data.toList (kD i).data.toList = true := by decide
def kE (m : Nat) : ByteArray := ⟨#[107]⟩ ++ ⟨(Wd.decS (((10 + m : Nat) : Int))).toArray⟩
theorem kE_size : ∀ i, i < 20 → 1 ≤ (kE i).size ∧ (kE i).size ≤ 20 := by decide
theorem kD_le3 (i : Nat) : (kD i).size ≤ 3 := by
  unfold kD
  split <;> decide
theorem kE_le3 : ∀ i, i < 20 → (kE i).size ≤ 3 := by decide
theorem kE_less : ∀ i, i < 20 → ∀ m, m < i → Op.bytesLess (kE m).data.toList (kE i).data.toList = true := by decide
def keys6 : Array Value := #[.string (kD 0), .string (kD 1), .string (kD 2), .string (kD 3), .string (kD 4), .string (kD 5)]
def StT (w0 w wr : World) (g : Nat) (ao : Option Addr) (len cap q : Nat) (v : Value) (es : List EntD) : Prop :=
  CurAt w0 wr g ao len cap ∧ w.grownBy wr (some g) ∧ g < w.heap.size ∧ w.heap.size ≤ q ∧ wr.heap[q]? = some (.cells keys6 9 (0, 0)) ∧ BuildE wr w.heap.size v es
theorem stT_call {w0 w wr w' : World} {g : Nat} {ao : Option Addr} {len cap q : Nat} {v : Value} {es : List EntD} (h : StT w0 w wr g ao len cap q v es) (hc : CurAt w0 w' g ao len cap) (hg : wr.grownBy w' (some g)) : StT w0 w w' g ao len cap q v es := by
  obtain ⟨h1, h2, h3, h4, h5, h6⟩ := h
  exact ⟨hc, h2.trans hg, h3, h4, (hg.block _ (obj_lt h5) (by simp; omega)).trans h5, buildE_grown h6 hg h3⟩
theorem stT_below {w0 w wr w' : World} {g : Nat} {ao : Option Addr} {len cap q : Nat} {v : Value} {es : List EntD} (h : StT w0 w wr g ao len cap q v es) (hb : Below wr.heap.size wr w') : StT w0 w w' g ao len cap q v es := by
  obtain ⟨h1, h2, h3, h4, h5, h6⟩ := h
  exact ⟨cur_keep h1 hb (cur_lt h1), grownBy_then h2 (hb.mono h2.size), h3, h4, (hb.block _ (obj_lt h5)).trans h5, buildE_below h6 hb⟩
theorem ent_apart {W : World} {B q : Nat} {v : Value} {es : List EntD} {C : Array Value} (h : BuildE W B v es) (hq : W.heap[q]? = some (.cells C 9 (0, 0))) : v.ownBlock ≠ some q := by
  intro e
  obtain ⟨vs, -, h2, -⟩ := h
  obtain ⟨C', h1⟩ := owns_blockE h2 e
  rw [h1] at hq
  simp at hq
theorem stT_put {w0 w W w9 : World} {g : Nat} {ao : Option Addr} {len cap q : Nat} {v v' : Value} {es es' : List EntD} (h : StT w0 w W g ao len cap q v es) (hb : Below w.heap.size W w9) (hgr : W.grownBy w9 v.ownBlock) (ho : BuildE w9 w.heap.size v' es') : StT w0 w w9 g ao len cap q v' es' := by
  obtain ⟨h1, h2, h3, h4, h5, h6⟩ := h
  exact ⟨cur_keep h1 hb h3, grownBy_then h2 hb, h3, h4, (hgr.block _ (obj_lt h5) (fun e => ent_apart h6 h5 e.symm)).trans h5, ho⟩
end Go.Proofs.YtifjneldjjmeaaaGreatDoor
