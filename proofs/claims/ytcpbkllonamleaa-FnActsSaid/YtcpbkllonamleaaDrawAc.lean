/- A drawn place, drawn numbers, a drawn act (written by tools/gen_drawact.py). -/
import Derived.Test.YtcpbkllonamleaaDrawDk
import Derived.Test.YtcpbkllonamleaaFiles
namespace Go.Proofs.Ytcpbkllonamleaa
open Go.RowKit

set_option maxHeartbeats 1000000 in
theorem place_any (w0 w : World) (g : Nat) (ao : Option Addr) (len cap n : Nat) (hlen : len ≤ 1048576) (hn : n ≤ 1000000) (hcode : Code w0 ao len) (hc : CurAt w0 w g ao len cap) :
    Calls Try.prog 31 #[.pointer (some ⟨g, 0, none⟩), .int .i64 (n : Int)] w fun e w' => ∃ z : Int, e = .returned (.int .i64 z) ∧ CurAt w0 w' g ao len cap ∧ w.grownBy w' (some g) := by
  have HC := hide hcode
  have HU := hide hc
  clear hcode hc
  go_enter Try.func31, Try.ntmps31
  go_wp2_with fail
  refine (once_any w0 _ g ao len cap _ hlen (by omega) HC.out HU.out).mono ?_
  rintro e w1 ⟨b, rfl, hc1, g1⟩
  have hg1 := cur_lt hc1
  have U1 := hide hc1
  have G1 := hide g1
  clear hc1 g1
  cases b
  · go_wp2_with fail
    refine (below_any w0 _ g ao len cap _ hlen (by omega) HC.out U1.out).mono ?_
    rintro e w2 ⟨x, rfl, _, _, hc2, g2⟩
    have U2 := hide hc2
    have G2 := hide (grownBy_trans G1.out g2)
    clear hc2 g2
    go_wp2
    go_ret
    exact ⟨_, rfl, U2.out, G2.out⟩
  · have hb : Hid (Below w1.heap.size w1 (w1.alloc (.cells #[.int .i64 (-1), .int .i64 (n : Int), .int .i64 ((n : Int) + 1), .int .i64 9223372036854775807, .int .i64 (-9223372036854775808)] 3))) := (Below.refl _ w1).alloc (Nat.le_refl _) _
    have HX : Hid ((w1.alloc (.cells #[.int .i64 (-1), .int .i64 (n : Int), .int .i64 ((n : Int) + 1), .int .i64 9223372036854775807, .int .i64 (-9223372036854775808)] 3)).heap[w1.heap.size]? = some (.cells (([-1, (n : Int), (n : Int) + 1, 9223372036854775807, -9223372036854775808] : List Int).map (Value.int .i64)).toArray 3 (0, 0))) := heap_alloc_new w1 _
    go_wp2_with fail
    refine (pickInt_any w0 _ g w1.heap.size ao len cap 5 [-1, (n : Int), (n : Int) + 1, 9223372036854775807, -9223372036854775808] hlen HC.out (cur_keep U1.out hb.out hg1) (by omega) rfl (by omega) (by omega) (ints_cells _ HX.out)).mono ?_
    rintro e w2 ⟨z, rfl, _, hc2, g2⟩
    have U2 := hide hc2
    have G2 := hide (grownBy_trans G1.out (grownBy_trans (grownBy_below _ hb.out) g2))
    clear hc2 g2
    go_wp2
    go_ret
    exact ⟨_, rfl, U2.out, G2.out⟩

theorem Try.infoInt : (Try.prog.info? 3).map (fun i => (i.zero, i.size, i.bytes)) = some (some (.int .i64 0), 1, 8) := by kernel_rfl
/-- One number is put behind a row of the call's own. -/
theorem app_z {ops : Array Oper} {rest : List Oper} {o : Oper} {a : Act} {Q : Exit → Act → World → Prop} {x : Int} (wr : World) (B : Nat) (hgd : o.guard = none) (s y : Operand)
    (ho : o.op = .call { callee := .builtin .append, args := #[s, y], argTypes := #[28, 28] }) (v : Value) (l : List Int) (hs : a.eval s = v)
    (hown : wr.ownsRow B 3 1 v l.length (l.map (Value.int .i64))) (hx : a.eval y = .slice (some ⟨wr.heap.size, 0, none⟩) 1 1)
    (hlen : l.length ≤ 1000000) (hbase : B ≤ wr.heap.size)
    (h : ∀ v' w', w'.ownsRow B 3 1 v' (l ++ [x]).length ((l ++ [x]).map (Value.int .i64)) → Below B wr w' → wpList Try.prog ops Q rest (a.put o.dst v') w') :
    wpList Try.prog ops Q (o :: rest) a (wr.alloc (.cells #[.int .i64 x] 3)) := by
  obtain ⟨i0, hi, hz0, hz1, hz2⟩ := info_parts Try.infoInt
  have hsz : wr.heap.size ≤ (wr.alloc (.cells #[.int .i64 x] 3)).heap.size := by simp
  refine wpList_append_own _ hgd s y 28 ho B 3 i0 (.int .i64 0) 1 8 Try.underlying28 hi hz0 hz1 hz2 rfl (by decide) v l.length (l.map (Value.int .i64)) hs (hown.alloc _) ⟨wr.heap.size, 0, none⟩ 1 1 [.int .i64 x] hx rfl
    (fun j u hj => cells_new wr #[.int .i64 x] 3 j u hj) (by intro u hu; simp at hu; subst hu; rfl) (by unfold maxLen; omega) (by omega) (by omega) ?_
  intro v' w' hown' hgrow _
  have hlt := hown.lt
  refine h v' w' ?_ (((Below.refl B wr).alloc hbase _).grown hgrow (by omega) (fun k hk => (hlt k hk).1))
  rw [List.length_append, List.map_append]
  exact hown'

theorem left_bound {z : Int} (h : z ∈ ([0, 1, 2, 3, 5, 9, 40, 200, -1, 9223372036854775807] : List Int)) : -9223372036854775808 ≤ z ∧ z ≤ 9223372036854775807 := by
  simp only [List.mem_cons, List.not_mem_nil, or_false] at h
  omega

set_option maxRecDepth 100000 in
set_option maxHeartbeats 2000000 in
theorem left_any (w0 w : World) (g : Nat) (ao : Option Addr) (len cap : Nat) (hlen : len ≤ 1048576) (hcode : Code w0 ao len) (hc : CurAt w0 w g ao len cap) :
    Calls Try.prog 32 #[.pointer (some ⟨g, 0, none⟩)] w fun e w' => ∃ (a : Option Addr) (c : Nat) (zs : List Int), e = .returned (.slice a zs.length c) ∧ w'.ownsRow w.heap.size 3 1 (.slice a zs.length c) zs.length (zs.map (Value.int .i64)) ∧ zs.length ≤ 6 ∧ (∀ z ∈ zs, -9223372036854775808 ≤ z ∧ z ≤ 9223372036854775807) ∧ CurAt w0 w' g ao len cap ∧ w.grownBy w' (some g) := by
  have HC := hide hcode
  have hg := cur_lt hc
  have HU := hide hc
  clear hcode hc
  go_enter Try.func32, Try.ntmps32
  go_wp2_with fail
  go_loopw [3, 4] (fun vo ii wr => ∃ (k : Nat) (a : Option Addr) (c : Nat) (zs : List Int), vo = .slice a zs.length c ∧ ii = .int .i64 k ∧ k ≤ 6 ∧ zs.length ≤ k ∧ Hid (∀ z ∈ zs, -9223372036854775808 ≤ z ∧ z ≤ 9223372036854775807) ∧ Hid (wr.ownsRow w.heap.size 3 1 (.slice a zs.length c) zs.length (zs.map (Value.int .i64))) ∧ Hid (CurAt w0 wr g ao len cap) ∧ Hid (w.grownBy wr (some g))) (fun _ ii _ => 7 - (intOf ii).toNat)
  case atStart =>
    have hb : Below w.heap.size w (w.alloc (.cells #[] 3)) := (Below.refl _ w).alloc (Nat.le_refl _) _
    exact ⟨0, _, 0, [], rfl, rfl, by omega, by simp, fun z hz => absurd hz List.not_mem_nil, World.ownsRow_lit (e := 3) (size := 1) w #[] 0 (Nat.le_refl _) (by unfold maxLen; omega) (by simp), cur_keep HU.out hb hg, grownBy_below _ hb⟩
  case round =>
    obtain ⟨k, a, c, zs, rfl, rfl, hk, hzl, HZ, HO, HU1, HG⟩ := hrel
    go_wp2_with fail
    refine (below_any w0 _ g ao len cap _ hlen (by omega) HC.out HU1.out).mono ?_
    rintro e w2 ⟨x, rfl, hx, _, hc2, g2⟩
    have hx6 := hx (by omega)
    have U2 := hide hc2
    have G2 := hide (grownBy_trans HG.out g2)
    have O2 := hide (row_keep HO.out g2 hg)
    clear hc2 g2 hx HG HO HU1
    by_cases hlt : k < x
    · have hlt' : decide ((k : Int) < (x : Int)) = true := by simp; omega
      have hs2 : w.heap.size ≤ w2.heap.size := G2.out.size
      have hb : Hid (Below w2.heap.size w2 (w2.alloc (.cells #[.int .i64 0, .int .i64 1, .int .i64 2, .int .i64 3, .int .i64 5, .int .i64 9, .int .i64 40, .int .i64 200, .int .i64 (-1), .int .i64 9223372036854775807] 3))) := (Below.refl _ w2).alloc (Nat.le_refl _) _
      have HX : Hid ((w2.alloc (.cells #[.int .i64 0, .int .i64 1, .int .i64 2, .int .i64 3, .int .i64 5, .int .i64 9, .int .i64 40, .int .i64 200, .int .i64 (-1), .int .i64 9223372036854775807] 3)).heap[w2.heap.size]? = some (.cells (([0, 1, 2, 3, 5, 9, 40, 200, -1, 9223372036854775807] : List Int).map (Value.int .i64)).toArray 3 (0, 0))) := heap_alloc_new w2 _
      go_wp2_with fail
      refine (pickInt_any w0 _ g w2.heap.size ao len cap 10 [0, 1, 2, 3, 5, 9, 40, 200, -1, 9223372036854775807] hlen HC.out (cur_keep U2.out hb.out (by omega)) (by omega) rfl (by omega) (by omega) (ints_cells _ HX.out)).mono ?_
      rintro e w3 ⟨z, rfl, hz, hc3, g3⟩
      have hzb := left_bound hz
      have U3 := hide hc3
      have G3 := hide (grownBy_trans G2.out (grownBy_trans (grownBy_below _ hb.out) g3))
      have O3 := hide (row_keep (ownsRow_below O2.out hb.out) g3 hg)
      have hs3 : w.heap.size ≤ w3.heap.size := G3.out.size
      clear hz hc3 g3 U2 G2 O2 hb HX
      go_wp2_with (at_builtin; refine app_z w3 w.heap.size (by rfl) _ _ (by rfl) _ zs (by rfl) O3.out (by rfl) (by omega) hs3 ?_; intro v4 w4 ho4 hb4; have HO4 := hide ho4; have HB4 := hide hb4; clear ho4 hb4)
      go_roundw
      case rel =>
        obtain ⟨a4, c4, rfl⟩ := slice_form HO4.out
        refine ⟨k + 1, a4, c4, zs ++ [z], rfl, by go_num, by omega, by simp; omega, fun y hy => ?_, HO4, cur_keep U3.out HB4.out hg, grownBy_then G3.out HB4.out⟩
        rcases List.mem_append.1 hy with hy | hy
        · exact HZ.out y hy
        · rw [List.mem_singleton.1 hy]; exact hzb
      case measure => simp [intOf]; omega
    · have hlt' : decide ((k : Int) < (x : Int)) = false := by simp; omega
      go_wp2_with fail
      go_ret
      exact ⟨a, c, zs, rfl, O2.out, by omega, HZ.out, U2.out, G2.out⟩

/-- What l03Act holds: the cursor, the cells of its answer, the act in block p. -/
def TS (w0 w wr : World) (g p : Nat) (ao : Option Addr) (len cap : Nat) (k : Int) (n t o : ByteArray) : Prop :=
  CurAt w0 wr g ao len cap ∧ w.grownBy wr (some g) ∧ wr.heap[w.heap.size]? = some (.cells #[.int .i64 0, .string ⟨#[]⟩, .string ⟨#[]⟩, .string ⟨#[]⟩] 45 (0, 0)) ∧ wr.heap[p]? = some (.cells #[.int .i64 k, .string n, .string t, .string o] 45 (0, 0))
section
variable {w0 w wr w' : World} {g p : Nat} {ao : Option Addr} {len cap : Nat} {k : Int} {n t o : ByteArray}
theorem ts_grown (h : TS w0 w wr g p ao len cap k n t o) (hg : g < w.heap.size) (hp : w.heap.size < p) (hc : CurAt w0 w' g ao len cap) (hgr : wr.grownBy w' (some g)) : TS w0 w w' g p ao len cap k n t o := by
  obtain ⟨_, h2, h3, h4⟩ := h
  exact ⟨hc, grownBy_trans h2 hgr, (hgr.block _ (blkD_lt h3) (by simp; omega)).trans h3, (hgr.block _ (blkD_lt h4) (by simp; omega)).trans h4⟩
theorem ts_below (h : TS w0 w wr g p ao len cap k n t o) (hb : Below wr.heap.size wr w') : TS w0 w w' g p ao len cap k n t o := by
  obtain ⟨h1, h2, h3, h4⟩ := h
  exact ⟨cur_keep h1 hb (cur_lt h1), grownBy_trans h2 (grownBy_below _ hb), (hb.block _ (blkD_lt h3)).trans h3, (hb.block _ (blkD_lt h4)).trans h4⟩
theorem ts_cells (h : TS w0 w wr g p ao len cap k n t o) : (wr.cell? ⟨p, 0, none⟩ = some (.int .i64 k) ∧ wr.cell? ⟨p, 1, none⟩ = some (.string n) ∧ wr.cell? ⟨p, 2, none⟩ = some (.string t) ∧ wr.cell? ⟨p, 3, none⟩ = some (.string o)) ∧
    (wr.frozen? ⟨p, 0, none⟩ = false ∧ wr.frozen? ⟨p, 1, none⟩ = false ∧ wr.frozen? ⟨p, 2, none⟩ = false ∧ wr.frozen? ⟨p, 3, none⟩ = false) := by
  obtain ⟨_, _, _, h4⟩ := h
  exact ⟨⟨(cell_of_row wr _ 0 _ _ (0, 0) h4).trans rfl, (cell_of_row wr _ 1 _ _ (0, 0) h4).trans rfl, (cell_of_row wr _ 2 _ _ (0, 0) h4).trans rfl, (cell_of_row wr _ 3 _ _ (0, 0) h4).trans rfl⟩, frozen_of_row wr _ 0 _ _ h4, frozen_of_row wr _ 1 _ _ h4, frozen_of_row wr _ 2 _ _ h4, frozen_of_row wr _ 3 _ _ h4⟩
theorem ts_res (h : TS w0 w wr g p ao len cap k n t o) : (wr.cell? ⟨w.heap.size, 0, none⟩ = some (.int .i64 0) ∧ wr.cell? ⟨w.heap.size, 1, none⟩ = some (.string ⟨#[]⟩) ∧ wr.cell? ⟨w.heap.size, 2, none⟩ = some (.string ⟨#[]⟩) ∧ wr.cell? ⟨w.heap.size, 3, none⟩ = some (.string ⟨#[]⟩)) ∧
    (wr.frozen? ⟨w.heap.size, 0, none⟩ = false ∧ wr.frozen? ⟨w.heap.size, 1, none⟩ = false ∧ wr.frozen? ⟨w.heap.size, 2, none⟩ = false ∧ wr.frozen? ⟨w.heap.size, 3, none⟩ = false) := by
  obtain ⟨_, _, h4, _⟩ := h
  exact ⟨⟨(cell_of_row wr _ 0 _ _ (0, 0) h4).trans rfl, (cell_of_row wr _ 1 _ _ (0, 0) h4).trans rfl, (cell_of_row wr _ 2 _ _ (0, 0) h4).trans rfl, (cell_of_row wr _ 3 _ _ (0, 0) h4).trans rfl⟩, frozen_of_row wr _ 0 _ _ h4, frozen_of_row wr _ 1 _ _ h4, frozen_of_row wr _ 2 _ _ h4, frozen_of_row wr _ 3 _ _ h4⟩
theorem ts_put (h : TS w0 w wr g p ao len cap k n t o) (hg : g < w.heap.size) (hp : w.heap.size < p) {j : Nat} {u : Value} {k' : Int} {n' t' o' : ByteArray} (he : (#[Value.int .i64 k, .string n, .string t, .string o]).setIfInBounds j u = #[.int .i64 k', .string n', .string t', .string o']) : TS w0 w (wr.setCell ⟨p, j, none⟩ u) g p ao len cap k' n' t' o' := by
  obtain ⟨h1, h2, h3, h4⟩ := h
  refine ⟨curD_far h1 (by omega), grownD_far h2 (by omega) _ _, (Below.heap_setCell _ _ _ _ (by intro e; simp only at e; omega)).trans h3, ?_⟩
  rw [heap_setCell_same _ _ _ _ _ _ h4, he]
theorem ts_end (h : TS w0 w wr g p ao len cap k n t o) (hg : g < w.heap.size) (x0 x1 x2 x3 : Value) : CurAt w0 ((((wr.setCell ⟨w.heap.size, 0, none⟩ x0).setCell ⟨w.heap.size, 1, none⟩ x1).setCell ⟨w.heap.size, 2, none⟩ x2).setCell ⟨w.heap.size, 3, none⟩ x3) g ao len cap ∧ w.grownBy ((((wr.setCell ⟨w.heap.size, 0, none⟩ x0).setCell ⟨w.heap.size, 1, none⟩ x1).setCell ⟨w.heap.size, 2, none⟩ x2).setCell ⟨w.heap.size, 3, none⟩ x3) (some g) :=
  ⟨curD_far (curD_far (curD_far (curD_far h.1 hg) hg) hg) hg, grownD_far (grownD_far (grownD_far (grownD_far h.2.1 (Nat.le_refl _) _ _) (Nat.le_refl _) _ _) (Nat.le_refl _) _ _) (Nat.le_refl _) _ _⟩
end
theorem names_act {Z : ByteArray} (h : Z ∈ ([⟨#[]⟩, ⟨#[49, 50, 51, 52, 53, 54, 55, 56, 57]⟩, ⟨#[110, 101, 119]⟩] : List ByteArray)) : Z.size ≤ 100 := by
  simp only [List.mem_cons, List.not_mem_nil, or_false] at h
  rcases h with rfl | rfl | rfl <;> decide

set_option maxRecDepth 100000 in
set_option maxHeartbeats 4000000 in
theorem act_draw (w0 w : World) (g : Nat) (ao : Option Addr) (len cap : Nat) (hlen : len ≤ 1048576) (hcode : Code w0 ao len) (hc : CurAt w0 w g ao len cap) :
    Calls Try.prog 46 #[.pointer (some ⟨g, 0, none⟩)] w fun e w' => ∃ (A : ActD), e = .returned (.agg #[.int .i64 A.kind, .string A.name, .string A.text, .string A.to]) ∧ (A.name.size ≤ 100 ∧ A.text.size ≤ 100 ∧ A.to.size ≤ 100) ∧ CurAt w0 w' g ao len cap ∧ w.grownBy w' (some g) := by
  have HC := hide hcode
  have hg := cur_lt hc
  obtain ⟨wR, hwR⟩ : ∃ wR, wR = w.alloc (.cells #[.int .i64 0, .string ⟨#[]⟩, .string ⟨#[]⟩, .string ⟨#[]⟩] 45) := ⟨_, rfl⟩
  have BR : Hid (Below w.heap.size w wR) := by rw [hwR]; exact (Below.refl _ w).alloc (Nat.le_refl _) _
  have XR : Hid (wR.heap[w.heap.size]? = some (.cells #[.int .i64 0, .string ⟨#[]⟩, .string ⟨#[]⟩, .string ⟨#[]⟩] 45 (0, 0))) := by rw [hwR]; exact heap_alloc_new w _
  have UR := hide (cur_keep hc BR.out hg)
  clear hcode hc
  go_enter Try.func46, Try.ntmps46
  go_wp2_with fail
  rw [← hwR]
  clear hwR
  refine (below_any w0 _ g ao len cap _ hlen (by omega) HC.out UR.out).mono ?_
  rintro e w1 ⟨x, rfl, hx, _, hc1, g1⟩
  have hx4 := hx (by omega)
  have U1 := hide hc1
  have G1 := hide (grownBy_trans (grownBy_below (some g) BR.out) g1)
  have X1 := hide ((g1.block _ (blkD_lt XR.out) (by simp; omega)).trans XR.out)
  clear hc1 g1 UR BR XR hx
  go_wp2_with fail
  refine (named_any w0 _ g ao len cap hlen HC.out U1.out).mono ?_
  rintro e w2 ⟨nm, rfl, hnm, hc2, g2⟩
  obtain ⟨p, hp⟩ : ∃ p, p = w2.heap.size := ⟨_, rfl⟩
  obtain ⟨w3, hw3⟩ : ∃ w3, w3 = w2.alloc (.cells #[.int .i64 (1 + (x : Int)), .string nm, .string ⟨#[]⟩, .string ⟨#[]⟩] 45) := ⟨_, rfl⟩
  have hs1 : w.heap.size < w1.heap.size := blkD_lt X1.out
  have hpw : w.heap.size < p := by have := g2.size; omega
  have T3 : Hid (TS w0 w w3 g p ao len cap (1 + (x : Int)) nm ⟨#[]⟩ ⟨#[]⟩) := by
    have hb : Below w2.heap.size w2 w3 := by rw [hw3]; exact (Below.refl _ w2).alloc (Nat.le_refl _) _
    exact ⟨cur_keep hc2 hb (cur_lt hc2), grownBy_trans (grownBy_trans G1.out g2) (grownBy_below _ hb), (hb.block _ (by omega)).trans ((g2.block _ hs1 (by simp; omega)).trans X1.out), by rw [hp, hw3]; exact heap_alloc_new w2 _⟩
  clear hc2 g2 U1 G1 X1
  go_upto_region 2 with fail
  rw [← hw3, ← hp]
  clear hw3 hp hs1
  obtain ⟨⟨hk0, hk1, hk2, hk3⟩, hf0, hf1, hf2, hf3⟩ := ts_cells T3.out
  by_cases hx0 : x = 0
  · have hy1 : ((1 + (x : Int)) == 1) = true := by rw [beq_iff_eq]; omega
    clear hx0
    go_wp2_with fail
    refine (below_any w0 _ g ao len cap _ hlen (by omega) HC.out T3.out.1).mono ?_
    rintro e w3a ⟨y, rfl, hy, _, hc3, g3⟩
    have hy6 := hy (by omega)
    have T3a := hide (ts_grown T3.out hg hpw hc3 g3)
    clear hc3 g3 hy
    clear hk0 hk1 hk2 hk3 hf0 hf1 hf2 hf3
    go_wp2_with fail
    refine (text_any w0 _ g ao len cap _ hlen (by omega) HC.out T3a.out.1).mono ?_
    rintro e w3b ⟨l, rfl, hl, hc3, g3⟩
    have T3b := hide (ts_grown T3a.out hg hpw hc3 g3)
    obtain ⟨T, HT⟩ : ∃ T : ByteArray, Hid ((⟨l.toArray⟩ : ByteArray) = T) := ⟨_, hide rfl⟩
    have hTz : T.size ≤ 100 := by rw [← HT.out]; show l.length ≤ 100; omega
    rw [HT.out]
    clear hl hc3 g3
    obtain ⟨⟨hk0, hk1, hk2, hk3⟩, hf0, hf1, hf2, hf3⟩ := ts_cells T3b.out
    have T4 := hide (ts_put (j := 2) (u := .string T) (k' := 1 + (x : Int)) (n' := nm) (t' := T) (o' := ⟨#[]⟩) T3b.out hg hpw rfl)
    go_upto_region 7 with fail
    generalize w3b.setCell ⟨p, 2, none⟩ (.string T) = w4 at T4
    clear hk0 hk1 hk2 hk3 hf0 hf1 hf2 hf3
    go_wp2_with fail
    refine (below_any w0 _ g ao len cap _ hlen (by omega) HC.out T4.out.1).mono ?_
    rintro e w5 ⟨s, rfl, _, _, hc5, g5⟩
    have T5 := hide (ts_grown T4.out hg hpw hc5 g5)
    clear hc5 g5
    by_cases h0 : s = 0
    · have hy0 : ((s : Int) == 0) = true := by rw [beq_iff_eq]; omega
      have hb : Hid (Below w5.heap.size w5 (w5.alloc (.cells #[.int .i64 0, .int .i64 5] 3))) := (Below.refl _ w5).alloc (Nat.le_refl _) _
      have HX : Hid ((w5.alloc (.cells #[.int .i64 0, .int .i64 5] 3)).heap[w5.heap.size]? = some (.cells (([0, 5] : List Int).map (Value.int .i64)).toArray 3 (0, 0))) := heap_alloc_new w5 _
      have T5a := hide (ts_below T5.out hb.out)
      have hw5 : w.heap.size ≤ w5.heap.size := T5.out.2.1.size
      go_wp2_with fail
      refine (pickInt_any w0 _ g w5.heap.size ao len cap 2 [0, 5] hlen HC.out T5a.out.1 (by omega) rfl (by omega) (by omega) (ints_cells _ HX.out)).mono ?_
      rintro e w6 ⟨z, rfl, _, hc6, g6⟩
      have T6 := hide (ts_grown T5a.out hg hpw hc6 g6)
      clear hc6 g6
      obtain ⟨⟨hk0, hk1, hk2, hk3⟩, hf0, hf1, hf2, hf3⟩ := ts_cells T6.out
      have T7 := hide (ts_put (j := 0) (u := .int .i64 z) (k' := z) (n' := nm) (t' := T) (o' := ⟨#[]⟩) T6.out hg hpw rfl)
      go_upto_region 16 with fail
      generalize w6.setCell ⟨p, 0, none⟩ (.int .i64 z) = w7 at T7
      clear hk0 hk1 hk2 hk3 hf0 hf1 hf2 hf3
      obtain ⟨⟨hk0, hk1, hk2, hk3⟩, hf0, hf1, hf2, hf3⟩ := ts_cells T7.out
      obtain ⟨⟨hr0, hr1, hr2, hr3⟩, hz0, hz1, hz2, hz3⟩ := ts_res T7.out
      go_wp2_with fail
      exact bodyPost_ret (v := .agg #[.int .i64 z, .string nm, .string T, .string ⟨#[]⟩]) (by simp [results, Try.results46, go_sem, hr0, hr1, hr2, hr3]) rfl ⟨⟨z, nm, T, ⟨#[]⟩⟩, rfl, ⟨by show ByteArray.size nm ≤ 100; first | omega | decide, by show ByteArray.size T ≤ 100; first | omega | decide, by show ByteArray.size ⟨#[]⟩ ≤ 100; first | omega | decide⟩, (ts_end T7.out hg _ _ _ _).1, (ts_end T7.out hg _ _ _ _).2⟩
    by_cases h1 : s = 1
    · have hn0 : ((s : Int) == 0) = false := by rw [beq_eq_false_iff_ne]; omega
      have hy1 : ((s : Int) == 1) = true := by rw [beq_iff_eq]; omega
      have hb : Hid (Below w5.heap.size w5 (w5.alloc (.cells #[.string ⟨#[]⟩, .string ⟨#[49, 50, 51, 52, 53, 54, 55, 56, 57]⟩, .string ⟨#[110, 101, 119]⟩] 9))) := (Below.refl _ w5).alloc (Nat.le_refl _) _
      have HX : Hid ((w5.alloc (.cells #[.string ⟨#[]⟩, .string ⟨#[49, 50, 51, 52, 53, 54, 55, 56, 57]⟩, .string ⟨#[110, 101, 119]⟩] 9)).heap[w5.heap.size]? = some (.cells (([⟨#[]⟩, ⟨#[49, 50, 51, 52, 53, 54, 55, 56, 57]⟩, ⟨#[110, 101, 119]⟩] : List ByteArray).map Value.string).toArray 9 (0, 0))) := heap_alloc_new w5 _
      have T5a := hide (ts_below T5.out hb.out)
      have hw5 : w.heap.size ≤ w5.heap.size := T5.out.2.1.size
      go_wp2_with fail
      refine (pickText_any w0 _ g w5.heap.size ao len cap 3 [⟨#[]⟩, ⟨#[49, 50, 51, 52, 53, 54, 55, 56, 57]⟩, ⟨#[110, 101, 119]⟩] hlen HC.out T5a.out.1 (by omega) rfl (by omega) (by omega) (texts_cells _ HX.out)).mono ?_
      rintro e w6 ⟨Z, rfl, hZ, hc6, g6⟩
      have hZ' := names_act hZ
      have T6 := hide (ts_grown T5a.out hg hpw hc6 g6)
      clear hc6 g6 hZ
      obtain ⟨⟨hk0, hk1, hk2, hk3⟩, hf0, hf1, hf2, hf3⟩ := ts_cells T6.out
      have T7 := hide (ts_put (j := 1) (u := .string Z) (k' := (1 + (x : Int))) (n' := Z) (t' := T) (o' := ⟨#[]⟩) T6.out hg hpw rfl)
      go_upto_region 16 with fail
      generalize w6.setCell ⟨p, 1, none⟩ (.string Z) = w7 at T7
      clear hk0 hk1 hk2 hk3 hf0 hf1 hf2 hf3
      obtain ⟨⟨hk0, hk1, hk2, hk3⟩, hf0, hf1, hf2, hf3⟩ := ts_cells T7.out
      obtain ⟨⟨hr0, hr1, hr2, hr3⟩, hz0, hz1, hz2, hz3⟩ := ts_res T7.out
      go_wp2_with fail
      exact bodyPost_ret (v := .agg #[.int .i64 (1 + (x : Int)), .string Z, .string T, .string ⟨#[]⟩]) (by simp [results, Try.results46, go_sem, hr0, hr1, hr2, hr3]) rfl ⟨⟨(1 + (x : Int)), Z, T, ⟨#[]⟩⟩, rfl, ⟨by show ByteArray.size Z ≤ 100; first | omega | decide, by show ByteArray.size T ≤ 100; first | omega | decide, by show ByteArray.size ⟨#[]⟩ ≤ 100; first | omega | decide⟩, (ts_end T7.out hg _ _ _ _).1, (ts_end T7.out hg _ _ _ _).2⟩
    by_cases h2 : s = 2
    · have hn0 : ((s : Int) == 0) = false := by rw [beq_eq_false_iff_ne]; omega
      have hn1 : ((s : Int) == 1) = false := by rw [beq_eq_false_iff_ne]; omega
      have hy2 : ((s : Int) == 2) = true := by rw [beq_iff_eq]; omega
      obtain ⟨⟨hk0, hk1, hk2, hk3⟩, hf0, hf1, hf2, hf3⟩ := ts_cells T5.out
      have T7 := hide (ts_put (j := 3) (u := .string ⟨#[120]⟩) (k' := (1 + (x : Int))) (n' := nm) (t' := T) (o' := ⟨#[120]⟩) T5.out hg hpw rfl)
      go_upto_region 16 with fail
      generalize w5.setCell ⟨p, 3, none⟩ (.string ⟨#[120]⟩) = w7 at T7
      clear hk0 hk1 hk2 hk3 hf0 hf1 hf2 hf3
      obtain ⟨⟨hk0, hk1, hk2, hk3⟩, hf0, hf1, hf2, hf3⟩ := ts_cells T7.out
      obtain ⟨⟨hr0, hr1, hr2, hr3⟩, hz0, hz1, hz2, hz3⟩ := ts_res T7.out
      go_wp2_with fail
      exact bodyPost_ret (v := .agg #[.int .i64 (1 + (x : Int)), .string nm, .string T, .string ⟨#[120]⟩]) (by simp [results, Try.results46, go_sem, hr0, hr1, hr2, hr3]) rfl ⟨⟨(1 + (x : Int)), nm, T, ⟨#[120]⟩⟩, rfl, ⟨by show ByteArray.size nm ≤ 100; first | omega | decide, by show ByteArray.size T ≤ 100; first | omega | decide, by show ByteArray.size ⟨#[120]⟩ ≤ 100; first | omega | decide⟩, (ts_end T7.out hg _ _ _ _).1, (ts_end T7.out hg _ _ _ _).2⟩
    by_cases h3 : s = 3
    · have hn0 : ((s : Int) == 0) = false := by rw [beq_eq_false_iff_ne]; omega
      have hn1 : ((s : Int) == 1) = false := by rw [beq_eq_false_iff_ne]; omega
      have hn2 : ((s : Int) == 2) = false := by rw [beq_eq_false_iff_ne]; omega
      have hy3 : ((s : Int) == 3) = true := by rw [beq_iff_eq]; omega
      obtain ⟨⟨hk0, hk1, hk2, hk3⟩, hf0, hf1, hf2, hf3⟩ := ts_cells T5.out
      have T7 := hide (ts_put (j := 2) (u := .string ⟨#[120]⟩) (k' := (1 + (x : Int))) (n' := nm) (t' := ⟨#[120]⟩) (o' := ⟨#[]⟩) T5.out hg hpw rfl)
      go_upto_region 16 with fail
      generalize w5.setCell ⟨p, 2, none⟩ (.string ⟨#[120]⟩) = w7 at T7
      clear hk0 hk1 hk2 hk3 hf0 hf1 hf2 hf3
      obtain ⟨⟨hk0, hk1, hk2, hk3⟩, hf0, hf1, hf2, hf3⟩ := ts_cells T7.out
      obtain ⟨⟨hr0, hr1, hr2, hr3⟩, hz0, hz1, hz2, hz3⟩ := ts_res T7.out
      go_wp2_with fail
      exact bodyPost_ret (v := .agg #[.int .i64 (1 + (x : Int)), .string nm, .string ⟨#[120]⟩, .string ⟨#[]⟩]) (by simp [results, Try.results46, go_sem, hr0, hr1, hr2, hr3]) rfl ⟨⟨(1 + (x : Int)), nm, ⟨#[120]⟩, ⟨#[]⟩⟩, rfl, ⟨by show ByteArray.size nm ≤ 100; first | omega | decide, by show ByteArray.size ⟨#[120]⟩ ≤ 100; first | omega | decide, by show ByteArray.size ⟨#[]⟩ ≤ 100; first | omega | decide⟩, (ts_end T7.out hg _ _ _ _).1, (ts_end T7.out hg _ _ _ _).2⟩
    have hn0 : ((s : Int) == 0) = false := by rw [beq_eq_false_iff_ne]; omega
    have hn1 : ((s : Int) == 1) = false := by rw [beq_eq_false_iff_ne]; omega
    have hn2 : ((s : Int) == 2) = false := by rw [beq_eq_false_iff_ne]; omega
    have hn3 : ((s : Int) == 3) = false := by rw [beq_eq_false_iff_ne]; omega
    obtain ⟨⟨hk0, hk1, hk2, hk3⟩, hf0, hf1, hf2, hf3⟩ := ts_cells T5.out
    obtain ⟨⟨hr0, hr1, hr2, hr3⟩, hz0, hz1, hz2, hz3⟩ := ts_res T5.out
    go_wp2_with fail
    exact bodyPost_ret (v := .agg #[.int .i64 (1 + (x : Int)), .string nm, .string T, .string ⟨#[]⟩]) (by simp [results, Try.results46, go_sem, hr0, hr1, hr2, hr3]) rfl ⟨⟨(1 + (x : Int)), nm, T, ⟨#[]⟩⟩, rfl, ⟨by show ByteArray.size nm ≤ 100; first | omega | decide, by show ByteArray.size T ≤ 100; first | omega | decide, by show ByteArray.size ⟨#[]⟩ ≤ 100; first | omega | decide⟩, (ts_end T5.out hg _ _ _ _).1, (ts_end T5.out hg _ _ _ _).2⟩
  have hn1' : ((1 + (x : Int)) == 1) = false := by rw [beq_eq_false_iff_ne]; omega
  by_cases hx2 : x = 2
  · have hy3' : ((1 + (x : Int)) == 3) = true := by rw [beq_iff_eq]; omega
    clear hx2 hx0
    go_wp2_with fail
    refine (named_any w0 _ g ao len cap hlen HC.out T3.out.1).mono ?_
    rintro e w3b ⟨Y, rfl, hY, hc3, g3⟩
    have T3b := hide (ts_grown T3.out hg hpw hc3 g3)
    clear hc3 g3
    clear hk0 hk1 hk2 hk3 hf0 hf1 hf2 hf3
    obtain ⟨⟨hk0, hk1, hk2, hk3⟩, hf0, hf1, hf2, hf3⟩ := ts_cells T3b.out
    have T4 := hide (ts_put (j := 3) (u := .string Y) (k' := 1 + (x : Int)) (n' := nm) (t' := ⟨#[]⟩) (o' := Y) T3b.out hg hpw rfl)
    go_upto_region 7 with fail
    generalize w3b.setCell ⟨p, 3, none⟩ (.string Y) = w4 at T4
    clear hk0 hk1 hk2 hk3 hf0 hf1 hf2 hf3
    go_wp2_with fail
    refine (below_any w0 _ g ao len cap _ hlen (by omega) HC.out T4.out.1).mono ?_
    rintro e w5 ⟨s, rfl, _, _, hc5, g5⟩
    have T5 := hide (ts_grown T4.out hg hpw hc5 g5)
    clear hc5 g5
    by_cases h0 : s = 0
    · have hy0 : ((s : Int) == 0) = true := by rw [beq_iff_eq]; omega
      have hb : Hid (Below w5.heap.size w5 (w5.alloc (.cells #[.int .i64 0, .int .i64 5] 3))) := (Below.refl _ w5).alloc (Nat.le_refl _) _
      have HX : Hid ((w5.alloc (.cells #[.int .i64 0, .int .i64 5] 3)).heap[w5.heap.size]? = some (.cells (([0, 5] : List Int).map (Value.int .i64)).toArray 3 (0, 0))) := heap_alloc_new w5 _
      have T5a := hide (ts_below T5.out hb.out)
      have hw5 : w.heap.size ≤ w5.heap.size := T5.out.2.1.size
      go_wp2_with fail
      refine (pickInt_any w0 _ g w5.heap.size ao len cap 2 [0, 5] hlen HC.out T5a.out.1 (by omega) rfl (by omega) (by omega) (ints_cells _ HX.out)).mono ?_
      rintro e w6 ⟨z, rfl, _, hc6, g6⟩
      have T6 := hide (ts_grown T5a.out hg hpw hc6 g6)
      clear hc6 g6
      obtain ⟨⟨hk0, hk1, hk2, hk3⟩, hf0, hf1, hf2, hf3⟩ := ts_cells T6.out
      have T7 := hide (ts_put (j := 0) (u := .int .i64 z) (k' := z) (n' := nm) (t' := ⟨#[]⟩) (o' := Y) T6.out hg hpw rfl)
      go_upto_region 16 with fail
      generalize w6.setCell ⟨p, 0, none⟩ (.int .i64 z) = w7 at T7
      clear hk0 hk1 hk2 hk3 hf0 hf1 hf2 hf3
      obtain ⟨⟨hk0, hk1, hk2, hk3⟩, hf0, hf1, hf2, hf3⟩ := ts_cells T7.out
      obtain ⟨⟨hr0, hr1, hr2, hr3⟩, hz0, hz1, hz2, hz3⟩ := ts_res T7.out
      go_wp2_with fail
      exact bodyPost_ret (v := .agg #[.int .i64 z, .string nm, .string ⟨#[]⟩, .string Y]) (by simp [results, Try.results46, go_sem, hr0, hr1, hr2, hr3]) rfl ⟨⟨z, nm, ⟨#[]⟩, Y⟩, rfl, ⟨by show ByteArray.size nm ≤ 100; first | omega | decide, by show ByteArray.size ⟨#[]⟩ ≤ 100; first | omega | decide, by show ByteArray.size Y ≤ 100; first | omega | decide⟩, (ts_end T7.out hg _ _ _ _).1, (ts_end T7.out hg _ _ _ _).2⟩
    by_cases h1 : s = 1
    · have hn0 : ((s : Int) == 0) = false := by rw [beq_eq_false_iff_ne]; omega
      have hy1 : ((s : Int) == 1) = true := by rw [beq_iff_eq]; omega
      have hb : Hid (Below w5.heap.size w5 (w5.alloc (.cells #[.string ⟨#[]⟩, .string ⟨#[49, 50, 51, 52, 53, 54, 55, 56, 57]⟩, .string ⟨#[110, 101, 119]⟩] 9))) := (Below.refl _ w5).alloc (Nat.le_refl _) _
      have HX : Hid ((w5.alloc (.cells #[.string ⟨#[]⟩, .string ⟨#[49, 50, 51, 52, 53, 54, 55, 56, 57]⟩, .string ⟨#[110, 101, 119]⟩] 9)).heap[w5.heap.size]? = some (.cells (([⟨#[]⟩, ⟨#[49, 50, 51, 52, 53, 54, 55, 56, 57]⟩, ⟨#[110, 101, 119]⟩] : List ByteArray).map Value.string).toArray 9 (0, 0))) := heap_alloc_new w5 _
      have T5a := hide (ts_below T5.out hb.out)
      have hw5 : w.heap.size ≤ w5.heap.size := T5.out.2.1.size
      go_wp2_with fail
      refine (pickText_any w0 _ g w5.heap.size ao len cap 3 [⟨#[]⟩, ⟨#[49, 50, 51, 52, 53, 54, 55, 56, 57]⟩, ⟨#[110, 101, 119]⟩] hlen HC.out T5a.out.1 (by omega) rfl (by omega) (by omega) (texts_cells _ HX.out)).mono ?_
      rintro e w6 ⟨Z, rfl, hZ, hc6, g6⟩
      have hZ' := names_act hZ
      have T6 := hide (ts_grown T5a.out hg hpw hc6 g6)
      clear hc6 g6 hZ
      obtain ⟨⟨hk0, hk1, hk2, hk3⟩, hf0, hf1, hf2, hf3⟩ := ts_cells T6.out
      have T7 := hide (ts_put (j := 1) (u := .string Z) (k' := (1 + (x : Int))) (n' := Z) (t' := ⟨#[]⟩) (o' := Y) T6.out hg hpw rfl)
      go_upto_region 16 with fail
      generalize w6.setCell ⟨p, 1, none⟩ (.string Z) = w7 at T7
      clear hk0 hk1 hk2 hk3 hf0 hf1 hf2 hf3
      obtain ⟨⟨hk0, hk1, hk2, hk3⟩, hf0, hf1, hf2, hf3⟩ := ts_cells T7.out
      obtain ⟨⟨hr0, hr1, hr2, hr3⟩, hz0, hz1, hz2, hz3⟩ := ts_res T7.out
      go_wp2_with fail
      exact bodyPost_ret (v := .agg #[.int .i64 (1 + (x : Int)), .string Z, .string ⟨#[]⟩, .string Y]) (by simp [results, Try.results46, go_sem, hr0, hr1, hr2, hr3]) rfl ⟨⟨(1 + (x : Int)), Z, ⟨#[]⟩, Y⟩, rfl, ⟨by show ByteArray.size Z ≤ 100; first | omega | decide, by show ByteArray.size ⟨#[]⟩ ≤ 100; first | omega | decide, by show ByteArray.size Y ≤ 100; first | omega | decide⟩, (ts_end T7.out hg _ _ _ _).1, (ts_end T7.out hg _ _ _ _).2⟩
    by_cases h2 : s = 2
    · have hn0 : ((s : Int) == 0) = false := by rw [beq_eq_false_iff_ne]; omega
      have hn1 : ((s : Int) == 1) = false := by rw [beq_eq_false_iff_ne]; omega
      have hy2 : ((s : Int) == 2) = true := by rw [beq_iff_eq]; omega
      obtain ⟨⟨hk0, hk1, hk2, hk3⟩, hf0, hf1, hf2, hf3⟩ := ts_cells T5.out
      have T7 := hide (ts_put (j := 3) (u := .string ⟨#[120]⟩) (k' := (1 + (x : Int))) (n' := nm) (t' := ⟨#[]⟩) (o' := ⟨#[120]⟩) T5.out hg hpw rfl)
      go_upto_region 16 with fail
      generalize w5.setCell ⟨p, 3, none⟩ (.string ⟨#[120]⟩) = w7 at T7
      clear hk0 hk1 hk2 hk3 hf0 hf1 hf2 hf3
      obtain ⟨⟨hk0, hk1, hk2, hk3⟩, hf0, hf1, hf2, hf3⟩ := ts_cells T7.out
      obtain ⟨⟨hr0, hr1, hr2, hr3⟩, hz0, hz1, hz2, hz3⟩ := ts_res T7.out
      go_wp2_with fail
      exact bodyPost_ret (v := .agg #[.int .i64 (1 + (x : Int)), .string nm, .string ⟨#[]⟩, .string ⟨#[120]⟩]) (by simp [results, Try.results46, go_sem, hr0, hr1, hr2, hr3]) rfl ⟨⟨(1 + (x : Int)), nm, ⟨#[]⟩, ⟨#[120]⟩⟩, rfl, ⟨by show ByteArray.size nm ≤ 100; first | omega | decide, by show ByteArray.size ⟨#[]⟩ ≤ 100; first | omega | decide, by show ByteArray.size ⟨#[120]⟩ ≤ 100; first | omega | decide⟩, (ts_end T7.out hg _ _ _ _).1, (ts_end T7.out hg _ _ _ _).2⟩
    by_cases h3 : s = 3
    · have hn0 : ((s : Int) == 0) = false := by rw [beq_eq_false_iff_ne]; omega
      have hn1 : ((s : Int) == 1) = false := by rw [beq_eq_false_iff_ne]; omega
      have hn2 : ((s : Int) == 2) = false := by rw [beq_eq_false_iff_ne]; omega
      have hy3 : ((s : Int) == 3) = true := by rw [beq_iff_eq]; omega
      obtain ⟨⟨hk0, hk1, hk2, hk3⟩, hf0, hf1, hf2, hf3⟩ := ts_cells T5.out
      have T7 := hide (ts_put (j := 2) (u := .string ⟨#[120]⟩) (k' := (1 + (x : Int))) (n' := nm) (t' := ⟨#[120]⟩) (o' := Y) T5.out hg hpw rfl)
      go_upto_region 16 with fail
      generalize w5.setCell ⟨p, 2, none⟩ (.string ⟨#[120]⟩) = w7 at T7
      clear hk0 hk1 hk2 hk3 hf0 hf1 hf2 hf3
      obtain ⟨⟨hk0, hk1, hk2, hk3⟩, hf0, hf1, hf2, hf3⟩ := ts_cells T7.out
      obtain ⟨⟨hr0, hr1, hr2, hr3⟩, hz0, hz1, hz2, hz3⟩ := ts_res T7.out
      go_wp2_with fail
      exact bodyPost_ret (v := .agg #[.int .i64 (1 + (x : Int)), .string nm, .string ⟨#[120]⟩, .string Y]) (by simp [results, Try.results46, go_sem, hr0, hr1, hr2, hr3]) rfl ⟨⟨(1 + (x : Int)), nm, ⟨#[120]⟩, Y⟩, rfl, ⟨by show ByteArray.size nm ≤ 100; first | omega | decide, by show ByteArray.size ⟨#[120]⟩ ≤ 100; first | omega | decide, by show ByteArray.size Y ≤ 100; first | omega | decide⟩, (ts_end T7.out hg _ _ _ _).1, (ts_end T7.out hg _ _ _ _).2⟩
    have hn0 : ((s : Int) == 0) = false := by rw [beq_eq_false_iff_ne]; omega
    have hn1 : ((s : Int) == 1) = false := by rw [beq_eq_false_iff_ne]; omega
    have hn2 : ((s : Int) == 2) = false := by rw [beq_eq_false_iff_ne]; omega
    have hn3 : ((s : Int) == 3) = false := by rw [beq_eq_false_iff_ne]; omega
    obtain ⟨⟨hk0, hk1, hk2, hk3⟩, hf0, hf1, hf2, hf3⟩ := ts_cells T5.out
    obtain ⟨⟨hr0, hr1, hr2, hr3⟩, hz0, hz1, hz2, hz3⟩ := ts_res T5.out
    go_wp2_with fail
    exact bodyPost_ret (v := .agg #[.int .i64 (1 + (x : Int)), .string nm, .string ⟨#[]⟩, .string Y]) (by simp [results, Try.results46, go_sem, hr0, hr1, hr2, hr3]) rfl ⟨⟨(1 + (x : Int)), nm, ⟨#[]⟩, Y⟩, rfl, ⟨by show ByteArray.size nm ≤ 100; first | omega | decide, by show ByteArray.size ⟨#[]⟩ ≤ 100; first | omega | decide, by show ByteArray.size Y ≤ 100; first | omega | decide⟩, (ts_end T5.out hg _ _ _ _).1, (ts_end T5.out hg _ _ _ _).2⟩
  have hn3' : ((1 + (x : Int)) == 3) = false := by rw [beq_eq_false_iff_ne]; omega
  go_upto_region 7 with fail
  clear hk0 hk1 hk2 hk3 hf0 hf1 hf2 hf3
  go_wp2_with fail
  refine (below_any w0 _ g ao len cap _ hlen (by omega) HC.out T3.out.1).mono ?_
  rintro e w5 ⟨s, rfl, _, _, hc5, g5⟩
  have T5 := hide (ts_grown T3.out hg hpw hc5 g5)
  clear hc5 g5
  by_cases h0 : s = 0
  · have hy0 : ((s : Int) == 0) = true := by rw [beq_iff_eq]; omega
    have hb : Hid (Below w5.heap.size w5 (w5.alloc (.cells #[.int .i64 0, .int .i64 5] 3))) := (Below.refl _ w5).alloc (Nat.le_refl _) _
    have HX : Hid ((w5.alloc (.cells #[.int .i64 0, .int .i64 5] 3)).heap[w5.heap.size]? = some (.cells (([0, 5] : List Int).map (Value.int .i64)).toArray 3 (0, 0))) := heap_alloc_new w5 _
    have T5a := hide (ts_below T5.out hb.out)
    have hw5 : w.heap.size ≤ w5.heap.size := T5.out.2.1.size
    go_wp2_with fail
    refine (pickInt_any w0 _ g w5.heap.size ao len cap 2 [0, 5] hlen HC.out T5a.out.1 (by omega) rfl (by omega) (by omega) (ints_cells _ HX.out)).mono ?_
    rintro e w6 ⟨z, rfl, _, hc6, g6⟩
    have T6 := hide (ts_grown T5a.out hg hpw hc6 g6)
    clear hc6 g6
    obtain ⟨⟨hk0, hk1, hk2, hk3⟩, hf0, hf1, hf2, hf3⟩ := ts_cells T6.out
    have T7 := hide (ts_put (j := 0) (u := .int .i64 z) (k' := z) (n' := nm) (t' := ⟨#[]⟩) (o' := ⟨#[]⟩) T6.out hg hpw rfl)
    go_upto_region 16 with fail
    generalize w6.setCell ⟨p, 0, none⟩ (.int .i64 z) = w7 at T7
    clear hk0 hk1 hk2 hk3 hf0 hf1 hf2 hf3
    obtain ⟨⟨hk0, hk1, hk2, hk3⟩, hf0, hf1, hf2, hf3⟩ := ts_cells T7.out
    obtain ⟨⟨hr0, hr1, hr2, hr3⟩, hz0, hz1, hz2, hz3⟩ := ts_res T7.out
    go_wp2_with fail
    exact bodyPost_ret (v := .agg #[.int .i64 z, .string nm, .string ⟨#[]⟩, .string ⟨#[]⟩]) (by simp [results, Try.results46, go_sem, hr0, hr1, hr2, hr3]) rfl ⟨⟨z, nm, ⟨#[]⟩, ⟨#[]⟩⟩, rfl, ⟨by show ByteArray.size nm ≤ 100; first | omega | decide, by show ByteArray.size ⟨#[]⟩ ≤ 100; first | omega | decide, by show ByteArray.size ⟨#[]⟩ ≤ 100; first | omega | decide⟩, (ts_end T7.out hg _ _ _ _).1, (ts_end T7.out hg _ _ _ _).2⟩
  by_cases h1 : s = 1
  · have hn0 : ((s : Int) == 0) = false := by rw [beq_eq_false_iff_ne]; omega
    have hy1 : ((s : Int) == 1) = true := by rw [beq_iff_eq]; omega
    have hb : Hid (Below w5.heap.size w5 (w5.alloc (.cells #[.string ⟨#[]⟩, .string ⟨#[49, 50, 51, 52, 53, 54, 55, 56, 57]⟩, .string ⟨#[110, 101, 119]⟩] 9))) := (Below.refl _ w5).alloc (Nat.le_refl _) _
    have HX : Hid ((w5.alloc (.cells #[.string ⟨#[]⟩, .string ⟨#[49, 50, 51, 52, 53, 54, 55, 56, 57]⟩, .string ⟨#[110, 101, 119]⟩] 9)).heap[w5.heap.size]? = some (.cells (([⟨#[]⟩, ⟨#[49, 50, 51, 52, 53, 54, 55, 56, 57]⟩, ⟨#[110, 101, 119]⟩] : List ByteArray).map Value.string).toArray 9 (0, 0))) := heap_alloc_new w5 _
    have T5a := hide (ts_below T5.out hb.out)
    have hw5 : w.heap.size ≤ w5.heap.size := T5.out.2.1.size
    go_wp2_with fail
    refine (pickText_any w0 _ g w5.heap.size ao len cap 3 [⟨#[]⟩, ⟨#[49, 50, 51, 52, 53, 54, 55, 56, 57]⟩, ⟨#[110, 101, 119]⟩] hlen HC.out T5a.out.1 (by omega) rfl (by omega) (by omega) (texts_cells _ HX.out)).mono ?_
    rintro e w6 ⟨Z, rfl, hZ, hc6, g6⟩
    have hZ' := names_act hZ
    have T6 := hide (ts_grown T5a.out hg hpw hc6 g6)
    clear hc6 g6 hZ
    obtain ⟨⟨hk0, hk1, hk2, hk3⟩, hf0, hf1, hf2, hf3⟩ := ts_cells T6.out
    have T7 := hide (ts_put (j := 1) (u := .string Z) (k' := (1 + (x : Int))) (n' := Z) (t' := ⟨#[]⟩) (o' := ⟨#[]⟩) T6.out hg hpw rfl)
    go_upto_region 16 with fail
    generalize w6.setCell ⟨p, 1, none⟩ (.string Z) = w7 at T7
    clear hk0 hk1 hk2 hk3 hf0 hf1 hf2 hf3
    obtain ⟨⟨hk0, hk1, hk2, hk3⟩, hf0, hf1, hf2, hf3⟩ := ts_cells T7.out
    obtain ⟨⟨hr0, hr1, hr2, hr3⟩, hz0, hz1, hz2, hz3⟩ := ts_res T7.out
    go_wp2_with fail
    exact bodyPost_ret (v := .agg #[.int .i64 (1 + (x : Int)), .string Z, .string ⟨#[]⟩, .string ⟨#[]⟩]) (by simp [results, Try.results46, go_sem, hr0, hr1, hr2, hr3]) rfl ⟨⟨(1 + (x : Int)), Z, ⟨#[]⟩, ⟨#[]⟩⟩, rfl, ⟨by show ByteArray.size Z ≤ 100; first | omega | decide, by show ByteArray.size ⟨#[]⟩ ≤ 100; first | omega | decide, by show ByteArray.size ⟨#[]⟩ ≤ 100; first | omega | decide⟩, (ts_end T7.out hg _ _ _ _).1, (ts_end T7.out hg _ _ _ _).2⟩
  by_cases h2 : s = 2
  · have hn0 : ((s : Int) == 0) = false := by rw [beq_eq_false_iff_ne]; omega
    have hn1 : ((s : Int) == 1) = false := by rw [beq_eq_false_iff_ne]; omega
    have hy2 : ((s : Int) == 2) = true := by rw [beq_iff_eq]; omega
    obtain ⟨⟨hk0, hk1, hk2, hk3⟩, hf0, hf1, hf2, hf3⟩ := ts_cells T5.out
    have T7 := hide (ts_put (j := 3) (u := .string ⟨#[120]⟩) (k' := (1 + (x : Int))) (n' := nm) (t' := ⟨#[]⟩) (o' := ⟨#[120]⟩) T5.out hg hpw rfl)
    go_upto_region 16 with fail
    generalize w5.setCell ⟨p, 3, none⟩ (.string ⟨#[120]⟩) = w7 at T7
    clear hk0 hk1 hk2 hk3 hf0 hf1 hf2 hf3
    obtain ⟨⟨hk0, hk1, hk2, hk3⟩, hf0, hf1, hf2, hf3⟩ := ts_cells T7.out
    obtain ⟨⟨hr0, hr1, hr2, hr3⟩, hz0, hz1, hz2, hz3⟩ := ts_res T7.out
    go_wp2_with fail
    exact bodyPost_ret (v := .agg #[.int .i64 (1 + (x : Int)), .string nm, .string ⟨#[]⟩, .string ⟨#[120]⟩]) (by simp [results, Try.results46, go_sem, hr0, hr1, hr2, hr3]) rfl ⟨⟨(1 + (x : Int)), nm, ⟨#[]⟩, ⟨#[120]⟩⟩, rfl, ⟨by show ByteArray.size nm ≤ 100; first | omega | decide, by show ByteArray.size ⟨#[]⟩ ≤ 100; first | omega | decide, by show ByteArray.size ⟨#[120]⟩ ≤ 100; first | omega | decide⟩, (ts_end T7.out hg _ _ _ _).1, (ts_end T7.out hg _ _ _ _).2⟩
  by_cases h3 : s = 3
  · have hn0 : ((s : Int) == 0) = false := by rw [beq_eq_false_iff_ne]; omega
    have hn1 : ((s : Int) == 1) = false := by rw [beq_eq_false_iff_ne]; omega
    have hn2 : ((s : Int) == 2) = false := by rw [beq_eq_false_iff_ne]; omega
    have hy3 : ((s : Int) == 3) = true := by rw [beq_iff_eq]; omega
    obtain ⟨⟨hk0, hk1, hk2, hk3⟩, hf0, hf1, hf2, hf3⟩ := ts_cells T5.out
    have T7 := hide (ts_put (j := 2) (u := .string ⟨#[120]⟩) (k' := (1 + (x : Int))) (n' := nm) (t' := ⟨#[120]⟩) (o' := ⟨#[]⟩) T5.out hg hpw rfl)
    go_upto_region 16 with fail
    generalize w5.setCell ⟨p, 2, none⟩ (.string ⟨#[120]⟩) = w7 at T7
    clear hk0 hk1 hk2 hk3 hf0 hf1 hf2 hf3
    obtain ⟨⟨hk0, hk1, hk2, hk3⟩, hf0, hf1, hf2, hf3⟩ := ts_cells T7.out
    obtain ⟨⟨hr0, hr1, hr2, hr3⟩, hz0, hz1, hz2, hz3⟩ := ts_res T7.out
    go_wp2_with fail
    exact bodyPost_ret (v := .agg #[.int .i64 (1 + (x : Int)), .string nm, .string ⟨#[120]⟩, .string ⟨#[]⟩]) (by simp [results, Try.results46, go_sem, hr0, hr1, hr2, hr3]) rfl ⟨⟨(1 + (x : Int)), nm, ⟨#[120]⟩, ⟨#[]⟩⟩, rfl, ⟨by show ByteArray.size nm ≤ 100; first | omega | decide, by show ByteArray.size ⟨#[120]⟩ ≤ 100; first | omega | decide, by show ByteArray.size ⟨#[]⟩ ≤ 100; first | omega | decide⟩, (ts_end T7.out hg _ _ _ _).1, (ts_end T7.out hg _ _ _ _).2⟩
  have hn0 : ((s : Int) == 0) = false := by rw [beq_eq_false_iff_ne]; omega
  have hn1 : ((s : Int) == 1) = false := by rw [beq_eq_false_iff_ne]; omega
  have hn2 : ((s : Int) == 2) = false := by rw [beq_eq_false_iff_ne]; omega
  have hn3 : ((s : Int) == 3) = false := by rw [beq_eq_false_iff_ne]; omega
  obtain ⟨⟨hk0, hk1, hk2, hk3⟩, hf0, hf1, hf2, hf3⟩ := ts_cells T5.out
  obtain ⟨⟨hr0, hr1, hr2, hr3⟩, hz0, hz1, hz2, hz3⟩ := ts_res T5.out
  go_wp2_with fail
  exact bodyPost_ret (v := .agg #[.int .i64 (1 + (x : Int)), .string nm, .string ⟨#[]⟩, .string ⟨#[]⟩]) (by simp [results, Try.results46, go_sem, hr0, hr1, hr2, hr3]) rfl ⟨⟨(1 + (x : Int)), nm, ⟨#[]⟩, ⟨#[]⟩⟩, rfl, ⟨by show ByteArray.size nm ≤ 100; first | omega | decide, by show ByteArray.size ⟨#[]⟩ ≤ 100; first | omega | decide, by show ByteArray.size ⟨#[]⟩ ≤ 100; first | omega | decide⟩, (ts_end T5.out hg _ _ _ _).1, (ts_end T5.out hg _ _ _ _).2⟩
end Go.Proofs.Ytcpbkllonamleaa
