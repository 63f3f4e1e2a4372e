/- Drawn acts on a disk, and the whole draw of FnActs. -/
import Derived.Test.YtcpbkllonamleaaDrawAc
import Derived.Test.YtcpbkllonamleaaActS
import Derived.Deep.CutRange
namespace Go.Proofs.Ytcpbkllonamleaa
open Go.RowKit

/-- The cells of acts. -/
def cellsA : List ActD → List Value
  | [] => []
  | A :: r => .int .i64 A.kind :: .string A.name :: .string A.text :: .string A.to :: cellsA r
theorem cellsA_append : ∀ (a b : List ActD), cellsA (a ++ b) = cellsA a ++ cellsA b
  | [], _ => rfl
  | F :: r, b => by simp [cellsA, cellsA_append r b]
theorem cellsA_length : ∀ a : List ActD, (cellsA a).length = a.length * 4
  | [] => rfl
  | F :: r => by simp [cellsA, cellsA_length r]; omega
theorem cellsA_one : ∀ (a : List ActD), ∀ u ∈ cellsA a, u.oneCell' = true
  | [], u, h => absurd h List.not_mem_nil
  | F :: r, u, h => by
    simp only [cellsA, List.mem_cons] at h
    rcases h with rfl | rfl | rfl | rfl | h
    · rfl
    · rfl
    · rfl
    · rfl
    · exact cellsA_one r u h
theorem cellsA_get : ∀ (a : List ActD) (j : Nat) (h : j < a.length), (cellsA a)[j * 4]? = some (.int .i64 a[j].kind) ∧ (cellsA a)[j * 4 + 1]? = some (.string a[j].name) ∧ (cellsA a)[j * 4 + 2]? = some (.string a[j].text) ∧ (cellsA a)[j * 4 + 3]? = some (.string a[j].to)
  | [], _, h => absurd h (by simp)
  | F :: r, 0, _ => by simp [cellsA]
  | F :: r, j + 1, h => by
    have := cellsA_get r j (by simpa using h)
    have e : (j + 1) * 4 = j * 4 + 4 := by omega
    simp only [cellsA, e]
    simpa using this
theorem Try.infoAct : (Try.prog.info? 45).map (fun i => (i.zero, i.size, i.bytes)) = some (some (.agg #[.int .i64 0, .string ⟨#[]⟩, .string ⟨#[]⟩, .string ⟨#[]⟩]), 4, 56) := by kernel_rfl
/-- A row of acts of a call's own lies in memory as the laws of acts want it. -/
theorem actsAt_row {w : World} {B n c gb : Nat} {qs : List ActD} (h : w.ownsRow B 45 4 (.slice (some ⟨gb, 0, none⟩) n c) n (cellsA qs)) (hn : qs.length = n) : ActsAt w (some ⟨gb, 0, none⟩) qs := by
  subst hn
  intro j hj
  obtain ⟨e0, e1, e2, e3⟩ := cellsA_get qs j hj
  refine ⟨gb, 0, rfl, (h.lt gb rfl).2, ?_, ?_, ?_, ?_⟩
  · rw [Nat.zero_add]; exact (h.cellAt (j * 4) (by omega)).trans e0
  · rw [Nat.zero_add]; exact (h.cellAt (j * 4 + 1) (by omega)).trans e1
  · rw [Nat.zero_add]; exact (h.cellAt (j * 4 + 2) (by omega)).trans e2
  · rw [Nat.zero_add]; exact (h.cellAt (j * 4 + 3) (by omega)).trans e3
/-- One act is put behind a row of the call's own, in a plain region. -/
theorem app_act_g {ops : Array Oper} {rest : List Oper} {o : Oper} {a : Act} {Q : Exit → Act → World → Prop} (W : World) (B : Nat) (hgd : o.guard = none) (s y : Operand)
    (ho : o.op = .call { callee := .builtin .append, args := #[s, y], argTypes := #[38, 38] }) (v : Value) (l : List ActD) (F : ActD) (hs : a.eval s = v)
    (hown : W.ownsRow B 45 4 v l.length (cellsA l)) (k : Nat) (hx : a.eval y = .slice (some ⟨k, 0, none⟩) 1 1) (hblk : W.heap[k]? = some (.cells #[.int .i64 F.kind, .string F.name, .string F.text, .string F.to] 45 (0, 0)))
    (hlen : l.length ≤ 1048576) (hbase : B ≤ W.heap.size)
    (h : ∀ g cap w', w'.ownsRow B 45 4 (.slice (some ⟨g, 0, none⟩) (l.length + 1) cap) (l ++ [F]).length (cellsA (l ++ [F])) → W.grownBy w' v.ownBlock → (v.ownBlock = some g ∨ g = W.heap.size) → wpList Try.prog ops Q rest (a.put o.dst (.slice (some ⟨g, 0, none⟩) (l.length + 1) cap)) w') :
    wpList Try.prog ops Q (o :: rest) a W := by
  obtain ⟨i0, hi, hz0, hz1, hz2⟩ := info_parts Try.infoAct
  refine wpList_append_lies W hgd s y 38 ho B 45 i0 (.agg #[.int .i64 0, .string ⟨#[]⟩, .string ⟨#[]⟩, .string ⟨#[]⟩]) 4 56 Try.underlying38 hi hz0 hz1 hz2 rfl (by decide) v l.length (cellsA l) hs hown ⟨k, 0, none⟩ 1 1 (cellsA [F]) hx (by rw [cellsA_length]; rfl)
    (fun j u hj => World.news_of_block hblk j u hj) (cellsA_one [F]) (by omega) (by unfold maxLen; omega) (by omega) hbase W.heap.size rfl ?_
  intro g cap w' hown' hgrow hg _
  refine h g cap w' ?_ hgrow hg
  rw [cellsA_append, List.length_append]
  exact hown'

theorem bf_act {fs : List FileD} (A : ActD) : BF ((actD fs A).getD []) := by
  cases h : actD fs A with
  | none => exact ⟨by simp, fun F hF => absurd hF (by simp)⟩
  | some G =>
    have hd := disk_files (actD_ok h)
    exact ⟨by have := hd.1; simp; omega, fun F hF => by have := hd.2 F (by simpa using hF); omega⟩

/-- What l03Acts holds: the cursor, the disk in its box, its row, the acts so far. -/
def QS (w0 w wr : World) (g : Nat) (ao : Option Addr) (len cap : Nat) (v : Value) (qs : List ActD) (ad : Option Addr) (cd : Nat) (G : List FileD) : Prop :=
  CurAt w0 wr g ao len cap ∧ w.grownBy wr (some g) ∧ wr.heap[w.heap.size]? = some (.cells #[.slice ad G.length cd] 26 (0, 0)) ∧ RowF wr (g + 1) (.slice ad G.length cd) G ∧ wr.ownsRow (w.heap.size + 1) 45 4 v qs.length (cellsA qs)
theorem own_ne_type {w : World} {B n b : Nat} {v : Value} {xs : List Value} {C : Array Value} {T : TypeId} {fz : Nat × Nat} (h : w.ownsRow B 45 4 v n xs) (hb : w.heap[b]? = some (.cells C T fz)) (hT : T ≠ 45) : some b ≠ v.ownBlock := by
  intro e
  rcases h.2 with ⟨hv, _⟩ | ⟨ga, ca, cur, hv, _, hC, _⟩
  · rw [hv] at e; cases e
  · rw [hv] at e
    obtain rfl : b = ga := by simpa [Value.ownBlock] using e
    rw [hb] at hC
    simp only [Option.some.injEq, Obj.cells.injEq] at hC
    exact hT hC.2.1
theorem rowF_type {w w' : World} {B B' n : Nat} {v vd : Value} {xs : List Value} {G : List FileD} (h : RowF w B vd G) (ho : w.ownsRow B' 45 4 v n xs) (hgr : w.grownBy w' v.ownBlock) : RowF w' B vd G := by
  refine rowF_grown h hgr (fun b hb => ?_)
  rcases h with ⟨hv, _⟩ | ⟨gf, cf, C, hv, _, hC, _⟩
  · rw [hv] at hb; cases hb
  · rw [hv] at hb
    obtain rfl : gf = b := by simpa [Value.ownBlock] using hb
    exact own_ne_type ho hC (by decide)
section
variable {w0 w wr w' : World} {g : Nat} {ao : Option Addr} {len cap : Nat} {v : Value} {qs : List ActD} {ad : Option Addr} {cd : Nat} {G : List FileD}
theorem qs_grown (h : QS w0 w wr g ao len cap v qs ad cd G) (hg : g < w.heap.size) (hc : CurAt w0 w' g ao len cap) (hgr : wr.grownBy w' (some g)) : QS w0 w w' g ao len cap v qs ad cd G := by
  obtain ⟨_, h2, h3, h4, h5⟩ := h
  exact ⟨hc, grownBy_trans h2 hgr, (hgr.block _ (blkD_lt h3) (by simp; omega)).trans h3, rowF_grown h4 hgr (fun b hb => by have := (rowF_lt h4 b hb).1; simp; omega), row_keep h5 hgr (by omega)⟩
theorem qs_below (h : QS w0 w wr g ao len cap v qs ad cd G) (hb : Below wr.heap.size wr w') : QS w0 w w' g ao len cap v qs ad cd G := by
  obtain ⟨h1, h2, h3, h4, h5⟩ := h
  exact ⟨cur_keep h1 hb (cur_lt h1), grownBy_trans h2 (grownBy_below _ hb), (hb.block _ (blkD_lt h3)).trans h3, rowF_below h4 hb, ownsRow_below h5 hb⟩
/-- An act more. -/
theorem qs_app {v' : Value} {rs : List ActD} (h : QS w0 w wr g ao len cap v qs ad cd G) (hg : g < w.heap.size) (hgr : wr.grownBy w' v.ownBlock) (ho : w'.ownsRow (w.heap.size + 1) 45 4 v' rs.length (cellsA rs)) : QS w0 w w' g ao len cap v' rs ad cd G := by
  obtain ⟨h1, h2, h3, h4, h5⟩ := h
  have hlt := h5.lt
  have hne : ∀ k, k < w.heap.size + 1 → some k ≠ v.ownBlock := fun k hk e => by have := (hlt k e.symm).1; omega
  obtain ⟨c1, c2, i, z, T, c3, c4⟩ := h1
  have c5 : w0.heap.size ≤ wr.heap.size := c1.size
  refine ⟨⟨c1.grown hgr c5 (fun k hk => by have := (hlt k hk).1; omega), c2, i, z, T, c3, (hgr.block g (blkD_lt c4) (hne g (by omega))).trans c4⟩, ⟨hgr.os.trans h2.os, hgr.tape.trans h2.tape, hgr.output.trans h2.output, Nat.le_trans h2.size hgr.size, fun k hk hr => (hgr.block k (Nat.lt_of_lt_of_le hk h2.size) (hne k (by omega))).trans (h2.block k hk hr)⟩, (hgr.block _ (blkD_lt h3) (hne _ (by omega))).trans h3, rowF_type h4 h5 hgr, ho⟩
/-- Another disk. -/
theorem qs_disk {ad' : Option Addr} {cd' : Nat} {G' : List FileD} (h : QS w0 w wr g ao len cap v qs ad cd G) (hg : g < w.heap.size) (hr : RowF wr (w.heap.size + 1) (.slice ad' G'.length cd') G') : QS w0 w (wr.setCell ⟨w.heap.size, 0, none⟩ (.slice ad' G'.length cd')) g ao len cap v qs ad' cd' G' := by
  obtain ⟨h1, h2, h3, h4, h5⟩ := h
  refine ⟨curD_far h1 hg, grownD_far h2 (Nat.le_refl _) _ _, (heap_setCell_same _ _ _ _ _ _ h3).trans rfl, rowF_le (rowF_keep hr (fun b hb => ?_)) (by omega), h5.kept (grownBy_store (World.grownBy.refl _ (some w.heap.size)) 0 _) (by cases e : v.ownBlock with | none => exact .inl rfl | some b => exact .inr (by have := (h5.lt b e).1; simp; omega))⟩
  have := (rowF_lt hr b hb).1
  exact Below.heap_setCell _ _ _ _ (by intro e; simp only at e; omega)
end

set_option maxRecDepth 100000 in
set_option maxHeartbeats 4000000 in
theorem acts_draw (w0 w : World) (g : Nat) (ao : Option Addr) (len cap : Nat) (fs : List FileD) (ad0 : Option Addr) (cd0 : Nat) (hlen : len ≤ 1048576) (hcode : Code w0 ao len) (hc : CurAt w0 w g ao len cap) (hrow : RowF w (g + 1) (.slice ad0 fs.length cd0) fs) (hbf : BF fs) :
    Calls Try.prog 30 #[.pointer (some ⟨g, 0, none⟩), .agg #[.slice ad0 fs.length cd0]] w fun e w' => ∃ (gb c : Nat) (qs : List ActD), e = .returned (.slice (some ⟨gb, 0, none⟩) qs.length c) ∧ w'.ownsRow (w.heap.size + 1) 45 4 (.slice (some ⟨gb, 0, none⟩) qs.length c) qs.length (cellsA qs) ∧ qs.length ≤ 9 ∧ (∀ A ∈ qs, A.name.size ≤ 100 ∧ A.text.size ≤ 100 ∧ A.to.size ≤ 100) ∧ CurAt w0 w' g ao len cap ∧ w.grownBy w' (some g) := by
  have HC := hide hcode
  have hg := cur_lt hc
  obtain ⟨wB, hwB⟩ : ∃ wB, wB = (w.alloc (.cells #[.slice ad0 fs.length cd0] 26)).alloc (.cells #[] 45) := ⟨_, rfl⟩
  have hs1 : (w.alloc (.cells #[.slice ad0 fs.length cd0] 26)).heap.size = w.heap.size + 1 := by simp
  have Q0 : Hid (QS w0 w wB g ao len cap (.slice (some ⟨w.heap.size + 1, 0, none⟩) 0 0) [] ad0 cd0 fs) := by
    have hb1 : Below w.heap.size w (w.alloc (.cells #[.slice ad0 fs.length cd0] 26)) := (Below.refl _ w).alloc (Nat.le_refl _) _
    have hb2 : Below (w.heap.size + 1) (w.alloc (.cells #[.slice ad0 fs.length cd0] 26)) wB := by rw [hwB]; exact (Below.refl _ _).alloc (by rw [hs1]; exact Nat.le_refl _) _
    have hbb := hb1.trans (hb2.mono (by omega))
    refine ⟨cur_keep hc hbb hg, grownBy_below _ hbb, (hb2.block _ (by omega)).trans (heap_alloc_new w _), rowF_below hrow hbb, ?_⟩
    have h := World.ownsRow_lit (e := 45) (size := 4) (base := w.heap.size + 1) (w.alloc (.cells #[.slice ad0 fs.length cd0] 26)) #[] 0 (by rw [hs1]; exact Nat.le_refl _) (by unfold maxLen; omega) (by simp)
    rw [hs1, ← hwB] at h
    exact h
  clear hcode hc hs1 hrow
  go_enter Try.func30, Try.ntmps30
  go_wp2_with fail
  rw [← hwB]
  clear hwB
  go_loopw [5, 6] (fun vo ii wr => ∃ (k gb c : Nat) (qs : List ActD) (ad : Option Addr) (cd : Nat) (G : List FileD), vo = .slice (some ⟨gb, 0, none⟩) qs.length c ∧ ii = .int .i64 k ∧ k ≤ 9 ∧ qs.length ≤ k ∧ Hid (∀ A ∈ qs, A.name.size ≤ 100 ∧ A.text.size ≤ 100 ∧ A.to.size ≤ 100) ∧ Hid (BF G) ∧ Hid (QS w0 w wr g ao len cap (.slice (some ⟨gb, 0, none⟩) qs.length c) qs ad cd G)) (fun _ ii _ => 10 - (intOf ii).toNat)
  case atStart => exact ⟨0, _, 0, [], ad0, cd0, fs, rfl, rfl, by omega, by simp, fun A hA => absurd hA List.not_mem_nil, hbf, Q0⟩
  case round =>
    clear Q0 hbf
    obtain ⟨k, gb, c, qs, ad, cd, G, rfl, rfl, hk, hql, HA, HB, HQ⟩ := hrel
    go_wp2_with fail
    refine (below_any w0 _ g ao len cap _ hlen (by omega) HC.out HQ.out.1).mono ?_
    rintro e w2 ⟨x, rfl, hx, _, hc2, g2⟩
    have hx9 := hx (by omega)
    have Q2 := hide (qs_grown HQ.out hg hc2 g2)
    clear hc2 g2 HQ hx
    by_cases hlt : k < x
    case neg =>
      have hlt' : decide ((k : Int) < (x : Int)) = false := by simp; omega
      go_wp2_with fail
      go_ret
      exact ⟨gb, c, qs, rfl, Q2.out.2.2.2.2, by omega, HA.out, Q2.out.1, Q2.out.2.1⟩
    have hlt' : decide ((k : Int) < (x : Int)) = true := by simp; omega
    go_wp2_with fail
    refine (act_draw w0 _ g ao len cap hlen HC.out Q2.out.1).mono ?_
    rintro e w3 ⟨A, rfl, hAb, hc3, g3⟩
    have Q3 := hide (qs_grown Q2.out hg hc3 g3)
    clear hc3 g3 Q2
    obtain ⟨pa, hpa⟩ : ∃ pa, pa = w3.heap.size := ⟨_, rfl⟩
    obtain ⟨w4, hw4⟩ : ∃ w4, w4 = w3.alloc (.cells #[.int .i64 A.kind, .string A.name, .string A.text, .string A.to] 45) := ⟨_, rfl⟩
    have hb4 : Below w3.heap.size w3 w4 := by rw [hw4]; exact (Below.refl _ w3).alloc (Nat.le_refl _) _
    have X4 : Hid (w4.heap[pa]? = some (.cells #[.int .i64 A.kind, .string A.name, .string A.text, .string A.to] 45 (0, 0))) := by rw [hw4, hpa]; exact heap_alloc_new w3 _
    have Q4 := hide (qs_below Q3.out hb4)
    have hpw : w.heap.size < pa := by have := blkD_lt Q3.out.2.2.1; omega
    clear hb4 Q3
    go_upto_region 6 with fail
    rw [← hw4, ← hpa]
    clear hw4 hpa
    have hd4 : w4.cell? ⟨w.heap.size, 0, none⟩ = some (.slice ad G.length cd) := (cell_of_row w4 _ 0 _ _ (0, 0) Q4.out.2.2.1).trans rfl
    have ha0 : w4.cell? ⟨pa, 0, none⟩ = some (.int .i64 A.kind) := (cell_of_row w4 _ 0 _ _ (0, 0) X4.out).trans rfl
    have ha1 : w4.cell? ⟨pa, 1, none⟩ = some (.string A.name) := (cell_of_row w4 _ 1 _ _ (0, 0) X4.out).trans rfl
    have ha2 : w4.cell? ⟨pa, 2, none⟩ = some (.string A.text) := (cell_of_row w4 _ 2 _ _ (0, 0) X4.out).trans rfl
    have ha3 : w4.cell? ⟨pa, 3, none⟩ = some (.string A.to) := (cell_of_row w4 _ 3 _ _ (0, 0) X4.out).trans rfl
    have CS : Hid (Calls Try.prog 37 #[.agg #[.slice ad G.length cd], .agg #[.int .i64 A.kind, .string A.name, .string A.text, .string A.to]] w4 fun e w' => ∃ v, e = .returned (.tuple #[.agg #[v], .bool (actD G A).isSome]) ∧ RowF w' w4.heap.size v ((actD G A).getD []) ∧ Below w4.heap.size w4 w') := specAct_any G ad cd A w4 (by have := HB.out.1; omega) (rowF_files Q4.out.2.2.2.1) (fun F hF => by have := HB.out.2 F hF; omega) (by omega) (by omega) (by omega)
    have HBn := hide (bf_act (fs := G) A)
    generalize (actD G A).isSome = ok at CS
    generalize (actD G A).getD [] = R at CS HBn
    go_wp2_with fail
    refine CS.out.mono ?_
    rintro e w5 ⟨v5, rfl, hr5, b5⟩
    obtain ⟨a5, c5, rfl, _⟩ := rowF_at hr5
    obtain ⟨pn, hpn⟩ : ∃ pn, pn = w5.heap.size := ⟨_, rfl⟩
    obtain ⟨w6, hw6⟩ : ∃ w6, w6 = w5.alloc (.cells #[.slice a5 R.length c5] 26) := ⟨_, rfl⟩
    have hb6 : Below w5.heap.size w5 w6 := by rw [hw6]; exact (Below.refl _ w5).alloc (Nat.le_refl _) _
    have X6 : Hid (w6.heap[pn]? = some (.cells #[.slice a5 R.length c5] 26 (0, 0))) := by rw [hw6, hpn]; exact heap_alloc_new w5 _
    have b46 := b5.trans (hb6.mono b5.size)
    have Q6 := hide (qs_below Q4.out b46)
    have Y6 := hide ((b46.block pa (blkD_lt X4.out)).trans X4.out)
    have R6 : Hid (RowF w6 (w.heap.size + 1) (.slice a5 R.length c5) R) := rowF_le (rowF_below hr5 hb6) (by have := blkD_lt Q4.out.2.2.1; omega)
    have hpn' : w.heap.size < pn := by have h1 := blkD_lt Q4.out.2.2.1; have h2 := b5.size; omega
    have HR5 := hide (fun b hb => (rowF_lt hr5 b hb).2)
    clear hr5 b5 hb6 b46 Q4 X4 hd4 ha0 ha1 ha2 ha3 CS
    go_upto_region 7 with fail
    rw [← hw6, ← hpn]
    clear hw6 hpn
    cases ok
    · go_wp2_with fail
      refine (once_any w0 _ g ao len cap _ hlen (by omega) HC.out Q6.out.1).mono ?_
      rintro e w7 ⟨b, rfl, hc7, g7⟩
      have Q7 := hide (qs_grown Q6.out hg hc7 g7)
      have Y7 := hide ((g7.block pa (blkD_lt Y6.out) (by simp; omega)).trans Y6.out)
      have X7 := hide ((g7.block pn (blkD_lt X6.out) (by simp; omega)).trans X6.out)
      have R7 : Hid (RowF w7 (w.heap.size + 1) (.slice a5 R.length c5) R) := rowF_grown R6.out g7 (fun b hb => by have := (rowF_lt R6.out b hb).1; simp; omega)
      clear hc7 g7 Q6 Y6 X6 R6
      cases b
      · go_wp2_with fail
        go_roundw
        case rel => exact ⟨k + 1, gb, c, qs, ad, cd, G, rfl, by go_num, by omega, by omega, HA, HB, Q7⟩
        case measure => simp [intOf]; omega
      · have ha0 : w7.cell? ⟨pa, 0, none⟩ = some (.int .i64 A.kind) := (cell_of_row w7 _ 0 _ _ (0, 0) Y7.out).trans rfl
        have ha1 : w7.cell? ⟨pa, 1, none⟩ = some (.string A.name) := (cell_of_row w7 _ 1 _ _ (0, 0) Y7.out).trans rfl
        have ha2 : w7.cell? ⟨pa, 2, none⟩ = some (.string A.text) := (cell_of_row w7 _ 2 _ _ (0, 0) Y7.out).trans rfl
        have ha3 : w7.cell? ⟨pa, 3, none⟩ = some (.string A.to) := (cell_of_row w7 _ 3 _ _ (0, 0) Y7.out).trans rfl
        have hsW : w.heap.size + 1 ≤ w7.heap.size := blkD_lt Q7.out.2.2.1
        go_wp2_with (at_builtin; refine app_act_g _ (w.heap.size + 1) (by rfl) _ _ (by rfl) _ qs A (by rfl) (Q7.out.2.2.2.2.alloc _) w7.heap.size (by rfl) (heap_alloc_new w7 _) (by omega) (by simp; omega) ?_; intro g8 cap8 w8 ho8 hg8 hor8; have HO8 := hide ho8; have G8 : Hid (w7.grownBy w8 (Value.slice (some ⟨gb, 0, none⟩) qs.length c).ownBlock) := grownBy_trans (grownBy_below _ ((Below.refl _ w7).alloc (Nat.le_refl _) (.cells #[.int .i64 A.kind, .string A.name, .string A.text, .string A.to] 45))) hg8; have hx8 := (G8.out.block pn (blkD_lt X7.out) (own_ne_type Q7.out.2.2.2.2 X7.out (by decide))).trans X7.out; have hd8 := (G8.out.block w.heap.size (blkD_lt Q7.out.2.2.1) (own_ne_type Q7.out.2.2.2.2 Q7.out.2.2.1 (by decide))).trans Q7.out.2.2.1; have hpn0 : w8.cell? ⟨pn, 0, none⟩ = some (.slice a5 R.length c5) := (cell_of_row w8 _ 0 _ _ (0, 0) hx8).trans rfl; have hbd0 : w8.cell? ⟨w.heap.size, 0, none⟩ = some (.slice ad G.length cd) := (cell_of_row w8 _ 0 _ _ (0, 0) hd8).trans rfl; have hbf0 := frozen_of_row w8 w.heap.size 0 _ _ hd8; clear hx8 hd8 ho8 hg8)
        go_roundw
        case rel =>
          have hl8 : (qs ++ [A]).length = qs.length + 1 := by simp
          refine ⟨k + 1, g8, cap8, qs ++ [A], a5, c5, R, by rw [hl8], by go_num, by omega, by rw [hl8]; omega, fun B hB => ?_, HBn, ?_⟩
          · rcases List.mem_append.1 hB with hB | hB
            · exact HA.out B hB
            · rw [List.mem_singleton.1 hB]; exact hAb
          · have q8 := qs_app (v' := .slice (some ⟨g8, 0, none⟩) (qs.length + 1) cap8) (rs := qs ++ [A]) Q7.out hg G8.out HO8.out
            rw [hl8]
            exact qs_disk q8 hg (rowF_type R7.out Q7.out.2.2.2.2 G8.out)
        case measure => simp [intOf]; omega
    · have ha0 : w6.cell? ⟨pa, 0, none⟩ = some (.int .i64 A.kind) := (cell_of_row w6 _ 0 _ _ (0, 0) Y6.out).trans rfl
      have ha1 : w6.cell? ⟨pa, 1, none⟩ = some (.string A.name) := (cell_of_row w6 _ 1 _ _ (0, 0) Y6.out).trans rfl
      have ha2 : w6.cell? ⟨pa, 2, none⟩ = some (.string A.text) := (cell_of_row w6 _ 2 _ _ (0, 0) Y6.out).trans rfl
      have ha3 : w6.cell? ⟨pa, 3, none⟩ = some (.string A.to) := (cell_of_row w6 _ 3 _ _ (0, 0) Y6.out).trans rfl
      have hsW : w.heap.size + 1 ≤ w6.heap.size := blkD_lt Q6.out.2.2.1
      go_wp2_with (at_builtin; refine app_act_g _ (w.heap.size + 1) (by rfl) _ _ (by rfl) _ qs A (by rfl) (Q6.out.2.2.2.2.alloc _) w6.heap.size (by rfl) (heap_alloc_new w6 _) (by omega) (by simp; omega) ?_; intro g8 cap8 w8 ho8 hg8 hor8; have HO8 := hide ho8; have G8 : Hid (w6.grownBy w8 (Value.slice (some ⟨gb, 0, none⟩) qs.length c).ownBlock) := grownBy_trans (grownBy_below _ ((Below.refl _ w6).alloc (Nat.le_refl _) (.cells #[.int .i64 A.kind, .string A.name, .string A.text, .string A.to] 45))) hg8; have hx8 := (G8.out.block pn (blkD_lt X6.out) (own_ne_type Q6.out.2.2.2.2 X6.out (by decide))).trans X6.out; have hd8 := (G8.out.block w.heap.size (blkD_lt Q6.out.2.2.1) (own_ne_type Q6.out.2.2.2.2 Q6.out.2.2.1 (by decide))).trans Q6.out.2.2.1; have hpn0 : w8.cell? ⟨pn, 0, none⟩ = some (.slice a5 R.length c5) := (cell_of_row w8 _ 0 _ _ (0, 0) hx8).trans rfl; have hbd0 : w8.cell? ⟨w.heap.size, 0, none⟩ = some (.slice ad G.length cd) := (cell_of_row w8 _ 0 _ _ (0, 0) hd8).trans rfl; have hbf0 := frozen_of_row w8 w.heap.size 0 _ _ hd8; clear hx8 hd8 ho8 hg8)
      go_roundw
      case rel =>
        have hl8 : (qs ++ [A]).length = qs.length + 1 := by simp
        refine ⟨k + 1, g8, cap8, qs ++ [A], a5, c5, R, by rw [hl8], by go_num, by omega, by rw [hl8]; omega, fun B hB => ?_, HBn, ?_⟩
        · rcases List.mem_append.1 hB with hB | hB
          · exact HA.out B hB
          · rw [List.mem_singleton.1 hB]; exact hAb
        · have q8 := qs_app (v' := .slice (some ⟨g8, 0, none⟩) (qs.length + 1) cap8) (rs := qs ++ [A]) Q6.out hg G8.out HO8.out
          rw [hl8]
          exact qs_disk q8 hg (rowF_type R6.out Q6.out.2.2.2.2 G8.out)
      case measure => simp [intOf]; omega
end Go.Proofs.Ytcpbkllonamleaa
