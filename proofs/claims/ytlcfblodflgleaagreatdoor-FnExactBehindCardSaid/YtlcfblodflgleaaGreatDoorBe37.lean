import Derived.Deep.LoopGhost
import Derived.Test.YtlcfblodflgleaaGreatDoorBe36
import Derived.Test.YtlcfblodflgleaaGreatDoorBe27
import Derived.Test.YtlcfblodflgleaaGreatDoorBe2
import Derived.Test.YtlcfblodflgleaaGreatDoorBe3
import Derived.Test.YtlcfblodflgleaaGreatDoorBe1
set_option maxRecDepth 100000
set_option maxHeartbeats 4000000
namespace Go.Proofs.YtlcfblodflgleaaGreatDoor
open Go.RowKit Go.Maps
theorem spotsOf_of (HIO : ∀ (gs : List SpotD) (mb n B : Nat) (w : World), DirM w mb n gs → n ≤ 1000000 → (∀ A ∈ gs, A.key.size ≤ 1048576) → gs.length ≤ 1000000 → B ≤ w.heap.size → Calls Tryz.prog 139 #[.map (some mb)] w fun e w' => (∃ v, e = .returned v ∧ RowSpot w' B v gs) ∧ Below w.heap.size w w')
    (l : List SegD) (v : Value) (B K : Nat) (w : World) (hll : l.length ≤ 100) (HN : segsN l ≤ 666700) (hbl0 : ∀ s ∈ l, s.bs.length ≤ 20001) (hok0 : ∀ s ∈ l, ∀ b ∈ s.bs, textOkD b.seq b.chs = true) (hku : ∀ A ∈ dirSegs [] l, A.key.size ≤ 20) (HDL : (dirSegs [] l).length ≤ 1000000) (hG : BuildG w B K v l) :
    Calls Tryz.prog 108 #[v] w fun e w' => (∃ v, e = .returned v ∧ RowSpot w' w.heap.size v (dirSegs [] l)) ∧ Below w.heap.size w w' := by
  obtain ⟨a1, c1, rfl⟩ := buildG_form hG
  have HBL := hide hbl0
  have HOK := hide hok0
  have HKU := hide hku
  have G1 := hide hG
  clear hG hbl0 hok0 hku
  go_enter Tryz.func108, Tryz.ntmps108
  have hmk : (Instr.makeMap 211 none).run Tryz.prog w = .ok (.map (some w.heap.size)) (w.alloc (.map #[] 0)) := run_makeMap _ w
  obtain ⟨wm, hwm⟩ : ∃ x, x = w.alloc (.map #[] 0) := ⟨_, rfl⟩
  have HM0 : Hid (DirM wm w.heap.size 0 []) := by rw [hwm]; exact dirM_new w
  have BM : Hid (Below w.heap.size w wm) := by rw [hwm]; exact (Below.refl _ w).alloc (Nat.le_refl _) _
  have hms : wm.heap.size = w.heap.size + 1 := by rw [hwm]; simp
  have HBW : Hid (∀ W, wm.grownBy W (some w.heap.size) → Below w.heap.size w W) := fun W hW => BM.out.grown hW (by omega) (fun k hk => by cases hk; exact Nat.le_refl _)
  go_wp2_with fail
  rw [← hwm]
  clear hwm hmk
  go_loopg [11] l.length (fun gg ii wr => ∃ (k : Nat), k + gg = l.length ∧ ii = .int .i64 k ∧ k ≤ l.length ∧ Hid (DirM wr w.heap.size (segsN (l.take k)) (dirSegs [] (l.take k))) ∧ Hid (wm.grownBy wr (some w.heap.size)))
  case atStart => exact ⟨0, by omega, rfl, Nat.zero_le _, HM0, World.grownBy.refl _ _⟩
  case round =>
    obtain ⟨k, hkg, rfl, hk, HM, HG⟩ := hrel
    have hws := HG.out.size
    have HBr := hide (HBW.out _ HG.out)
    cases gk with
    | zero =>
      have hlt' : decide ((k : Int) < (l.length : Int)) = false := by simp; omega
      have hltn : decide (k < l.length) = false := by simp; omega
      have hke : k = l.length := by omega
      rw [show l.take k = l from List.take_of_length_le (by omega)] at HM
      have HMw := hide (dirM_mono HM.out HN)
      have HIOr := hide (HIO (dirSegs [] l) w.heap.size 666700 w.heap.size wr HMw.out (by omega) (fun A hA => by have := HKU.out A hA; omega) (by omega) (by omega))
      go_wp2_with fail
      refine HIOr.out.mono ?_
      rintro e w9 ⟨⟨v9, rfl, r9⟩, b9⟩
      obtain ⟨a9, c9, rfl, -⟩ := rowSpot_at r9
      have R9 := hide r9
      have B9 : Hid (Below w.heap.size w w9) := HBr.out.trans (b9.mono (by omega))
      clear r9 b9
      go_wp2
      go_ret
      exact ⟨⟨_, rfl, R9.out⟩, B9.out⟩
    | succ g0 =>
      have hlt : k < l.length := by omega
      have hlt' : decide ((k : Int) < (l.length : Int)) = true := by simp; omega
      have hltn : decide (k < l.length) = true := by simp; omega
      have hi0 : (0 : Int) ≤ (k : Int) := by omega
      have hi1 : (k : Int) < (l.length : Int) := by omega
      obtain ⟨g, hg, hgw, hc0, hc1, ⟨a, c, hc2, hrb⟩, ⟨a', c', hc3, hrp⟩, hc4, hc5, hc6⟩ := buildG_at G1.out k hlt
      subst hg
      have hbl := HBL.out l[k] (List.getElem_mem hlt)
      have HOKk := hide (HOK.out l[k] (List.getElem_mem hlt))
      have htk := hide (List.take_succ_eq_append_getElem hlt)
      have htN : segsN (l.take k) + chsN l[k].bs ≤ segsN l := by
        rw [← segsN_snoc, ← htk.out]
        exact segsN_take_le l (k + 1)
      have HBAT := hide (rowBatch_rows hrb).2
      have HPLS := hide hrp
      clear hrb hrp
      generalize l[k] = F at hc0 hc1 hc2 hc3 hc4 hc5 hc6 htk hbl HOKk htN HBAT HPLS
      have HPG : Hid (∀ j (h : j < F.pls.length), F.pls[j] = F.hd + totD (F.bs.take j)) := fun j h => plsB_get F.bs F.hd j h
      have hpl := hide F.pls_len
      obtain ⟨P, HP⟩ : ∃ P, Hid (F.pls = P) := ⟨_, hide rfl⟩
      rw [HP.out] at hc3 HPLS hpl
      have hd0 := (HBr.out.cell (p := ⟨g, k * 7, none⟩) hgw).trans hc0
      have hd1 := (HBr.out.cell (p := ⟨g, k * 7 + 1, none⟩) hgw).trans hc1
      have hd2 := (HBr.out.cell (p := ⟨g, k * 7 + 2, none⟩) hgw).trans hc2
      have hd3 := (HBr.out.cell (p := ⟨g, k * 7 + 3, none⟩) hgw).trans hc3
      have hd4 := (HBr.out.cell (p := ⟨g, k * 7 + 4, none⟩) hgw).trans hc4
      have hd5 := (HBr.out.cell (p := ⟨g, k * 7 + 5, none⟩) hgw).trans hc5
      have hd6 := (HBr.out.cell (p := ⟨g, k * 7 + 6, none⟩) hgw).trans hc6
      clear hc0 hc1 hc2 hc3 hc4 hc5 hc6
      obtain ⟨wO, rfl⟩ : ∃ wO, wO = wr := ⟨_, rfl⟩
      obtain ⟨wX, hwX⟩ : ∃ x, x = wO.alloc (.cells #[.int .i64 (F.num : Int), .int .i64 (F.frm : Int), .slice a F.bs.length c, .slice a' P.length c', .int .i64 (F.fin : Int), .bool F.right, .bool F.torn] 173) := ⟨_, rfl⟩
      have BX : Hid (Below wO.heap.size wO wX) := by rw [hwX]; exact (Below.refl _ wO).alloc (Nat.le_refl _) _
      have hxs : wX.heap.size = wO.heap.size + 1 := by rw [hwX]; simp
      have HXB : Hid (wX.heap[wO.heap.size]? = some (.cells #[.int .i64 (F.num : Int), .int .i64 (F.frm : Int), .slice a F.bs.length c, .slice a' P.length c', .int .i64 (F.fin : Int), .bool F.right, .bool F.torn] 173 (0, 0))) := by rw [hwX]; exact heap_alloc_new wO _
      have hx2 : wX.cell? ⟨wO.heap.size, 2, none⟩ = some (.slice a F.bs.length c) := (cell_of_row wX _ 2 _ _ (0, 0) HXB.out).trans rfl
      obtain ⟨n0, HN0⟩ : ∃ n, Hid (segsN (l.take k) = n) := ⟨_, hide rfl⟩
      obtain ⟨D0, HD0⟩ : ∃ n, Hid (dirSegs [] (l.take k) = n) := ⟨_, hide rfl⟩
      rw [HN0.out, HD0.out] at HM
      rw [HN0.out] at htN
      have HMX := hide (dirM_below HM.out BX.out)
      have HGX : Hid (wm.grownBy wX (some w.heap.size)) := grownBy_trans HG.out (grownBy_below _ BX.out)
      have HNX : Hid (segsN (l.take (k + 1)) = n0 + chsN F.bs ∧ dirSegs [] (l.take (k + 1)) = batsIn (F.num : Int) D0 F.hd F.bs) := by
        show _ ∧ _
        rw [htk.out, segsN_snoc, dirSegs_snoc, HN0.out, HD0.out]
        exact ⟨rfl, rfl⟩
      have hmw : w.heap.size < wO.heap.size := by omega
      go_wp2_with fail
      rw [← hwX]
      clear hwX hx2 hd0 hd1 hd2 hd3 hd4 hd5 hd6 BX
      go_loopg [18] F.bs.length (fun g2 ii wy => ∃ (j : Nat), j + g2 = F.bs.length ∧ ii = .int .i64 j ∧ j ≤ F.bs.length ∧ Hid (DirM wy w.heap.size (n0 + chsN (F.bs.take j)) (batsIn (F.num : Int) D0 F.hd (F.bs.take j))) ∧ Hid (wX.grownBy wy (some w.heap.size)))
      case atStart => exact ⟨0, by omega, rfl, Nat.zero_le _, HMX, World.grownBy.refl _ _⟩
      case round =>
        obtain ⟨j, hjg, rfl, hj, HMy, HGy⟩ := hrel
        have hwy := HGy.out.size
        have HBy := hide (HBW.out _ (grownBy_trans HGX.out HGy.out))
        cases gk with
        | zero =>
          have hjt' : decide ((j : Int) < (F.bs.length : Int)) = false := by simp; omega
          have hjtn : decide (j < F.bs.length) = false := by simp; omega
          rw [show F.bs.take j = F.bs from List.take_of_length_le (by omega)] at HMy
          go_wp2
          go_roundg g0
          case measure => omega
          case rel => exact ⟨k + 1, by omega, by go_num, by omega, by show DirM _ _ _ _; rw [HNX.out.1, HNX.out.2]; exact HMy.out, grownBy_trans HGX.out HGy.out⟩
        | succ g2 =>
          have hjt : j < F.bs.length := by omega
          have hjt' : decide ((j : Int) < (F.bs.length : Int)) = true := by simp; omega
          have hjtn : decide (j < F.bs.length) = true := by simp; omega
          have hj0 : (0 : Int) ≤ (j : Int) := by omega
          have hj1 : (j : Int) < (F.bs.length : Int) := by omega
          have hj2 : (j : Int) < (P.length : Int) := by have := hpl.out; omega
          obtain ⟨b, off, hab, hbw, he0, a2, c2, he1, hch⟩ := HBAT.out j hjt
          obtain ⟨gp, hgp, hgpw, hep⟩ := rowNat_at HPLS.out j (by have := hpl.out; omega)
          have hpv : P[j]'(by have := hpl.out; omega) = F.hd + totD (F.bs.take j) := by have := HPG.out j (by rw [HP.out]; have := hpl.out; omega); simpa [HP.out] using this
          rw [hpv] at hep
          have htj := hide (List.take_succ_eq_append_getElem hjt)
          have hokb := HOKk.out F.bs[j] (List.getElem_mem hjt)
          have htn2 : chsN (F.bs.take j) + F.bs[j].chs.length ≤ chsN F.bs := by
            rw [← chsN_snoc, ← htj.out]
            exact chsN_take_le F.bs (j + 1)
          generalize F.bs[j] = A at he0 he1 hch htj hokb htn2
          subst hab hgp
          have hsm := textOk_small hokb
          have HCH := hide hch
          obtain ⟨ps, HPS⟩ : ∃ p : Nat, Hid (F.hd + totD (F.bs.take j) = p) := ⟨_, hide rfl⟩
          rw [HPS.out] at hep
          have HNj : Hid (chsN (F.bs.take (j + 1)) = chsN (F.bs.take j) + A.chs.length ∧ batsIn (F.num : Int) D0 F.hd (F.bs.take (j + 1)) = chsIn (F.num : Int) (ps : Int) A.seq (batsIn (F.num : Int) D0 F.hd (F.bs.take j)) A.chs) := by
            show _ ∧ _
            rw [htj.out, chsN_snoc, batsIn_snoc, HPS.out]
            exact ⟨rfl, rfl⟩
          generalize chsN (F.bs.take j) = nj at HMy htn2 HNj
          generalize batsIn (F.num : Int) D0 F.hd (F.bs.take j) = Dj at HMy HNj
          have hy0 := (HBy.out.cell (p := ⟨b, off + j * 2, none⟩) hbw).trans he0
          have hy1 := (HBy.out.cell (p := ⟨b, off + j * 2 + 1, none⟩) hbw).trans he1
          clear he0 he1 hch hpv
          obtain ⟨wY, hwY⟩ : ∃ x, x = wr.alloc (.cells #[.int .i64 A.seq, .slice a2 A.chs.length c2] 101) := ⟨_, rfl⟩
          have BY : Hid (Below wr.heap.size wr wY) := by rw [hwY]; exact (Below.refl _ wr).alloc (Nat.le_refl _) _
          have hYB : wY.heap[wr.heap.size]? = some (.cells #[.int .i64 A.seq, .slice a2 A.chs.length c2] 101 (0, 0)) := by rw [hwY]; exact heap_alloc_new wr _
          have hSB := (BY.out.block wO.heap.size (by omega)).trans ((HGy.out.block wO.heap.size (by omega) (by simp; omega)).trans HXB.out)
          have hz0 : wY.cell? ⟨wr.heap.size, 0, none⟩ = some (.int .i64 A.seq) := (cell_of_row wY _ 0 _ _ (0, 0) hYB).trans rfl
          have hz1 : wY.cell? ⟨wr.heap.size, 1, none⟩ = some (.slice a2 A.chs.length c2) := (cell_of_row wY _ 1 _ _ (0, 0) hYB).trans rfl
          have hz2 : wY.cell? ⟨wO.heap.size, 0, none⟩ = some (.int .i64 (F.num : Int)) := (cell_of_row wY _ 0 _ _ (0, 0) hSB).trans rfl
          have hz3 : wY.cell? ⟨wO.heap.size, 3, none⟩ = some (.slice (some ⟨gp, 0, none⟩) P.length c') := (cell_of_row wY _ 3 _ _ (0, 0) hSB).trans rfl
          have hz4 : wY.cell? ⟨gp, j, none⟩ = some (.int .i64 (ps : Int)) := ((HBy.out.trans (BY.out.mono HBy.out.size)).cell (p := ⟨gp, j, none⟩) hgpw).trans hep
          have HMY := hide (dirM_below HMy.out BY.out)
          have HCY : Hid (ChangesAt wY a2 A.chs) := changesAt_keep HCH.out (HBy.out.trans (BY.out.mono HBy.out.size))
          have HGY : Hid (wX.grownBy wY (some w.heap.size)) := grownBy_trans HGy.out (grownBy_below _ BY.out)
          have HMC : Hid (0 < A.chs.length → ∀ b off, a2 = some ⟨b, off, none⟩ → b ≠ w.heap.size) := fun h b off e => by
            obtain ⟨b', off', e', h', -⟩ := HCH.out 0 h
            rw [e] at e'
            cases e'
            omega
          have HTL : Hid (∀ W, wY.drewN 1 = W ∨ wY.drew = W ∨ wY = W → Calls Tryz.prog 138 #[.map (some w.heap.size), .agg #[.int .i64 A.seq, .slice a2 A.chs.length c2], .int .i64 (F.num : Int), .int .i64 (ps : Int)] W fun e w' => e = .returned (.tuple #[]) ∧ DirM w' w.heap.size (n0 + nj + A.chs.length) (chsIn (F.num : Int) (ps : Int) A.seq Dj A.chs) ∧ W.grownBy w' (some w.heap.size)) := by
            intro W hW
            have hb : Below wY.heap.size wY W := by
              rcases hW with rfl | rfl | rfl
              · exact drewN_below wY 1
              · exact (Below.refl _ _).drew
              · exact Below.refl _ _
            exact tell_any Dj w.heap.size (n0 + nj) A.seq F.num ps A.chs a2 c2 W (dirM_below HMY.out hb) (by omega) (by omega) (changesAt_keep HCY.out hb) HMC.out (fun B hB => by have := (hsm.2.2 B hB).1; omega)
          clear hYB hSB hep
          have hn1 : wr.heap.size ≠ w.heap.size := by omega
          have hn2 : wO.heap.size ≠ w.heap.size := by omega
          have hn3 : gp ≠ w.heap.size := by omega
          go_wp2_with fail
          rw [← hwY]
          clear hwY hy0 hy1
          go_region_held3 (fun w' => w'.cell? ⟨wr.heap.size, 0, none⟩ = some (.int .i64 A.seq) ∧ w'.cell? ⟨wr.heap.size, 1, none⟩ = some (.slice a2 A.chs.length c2) ∧ w'.cell? ⟨wO.heap.size, 0, none⟩ = some (.int .i64 (F.num : Int)) ∧ w'.cell? ⟨wO.heap.size, 3, none⟩ = some (.slice (some ⟨gp, 0, none⟩) P.length c') ∧ w'.cell? ⟨gp, j, none⟩ = some (.int .i64 (ps : Int))) (first | go_keep | (exact ⟨hz0, hz1, hz2, hz3, hz4⟩) | (exact ⟨cells_grown hg5 hz0 hn1, cells_grown hg5 hz1 hn1, cells_grown hg5 hz2 hn2, cells_grown hg5 hz3 hn2, cells_grown hg5 hz4 hn3⟩)) ((go_at_call 138; refine (HTL.out _ (by first | exact .inr (.inl rfl) | exact .inr (.inr rfl) | exact .inl rfl)).mono ?_; rintro e w5 ⟨rfl, hm5, hg5⟩))
          have HM5 := hide hm5
          have HG5 : Hid (wX.grownBy w5 (some w.heap.size)) := grownBy_trans HGY.out (grownBy_trans (grownBy_below _ ((Below.refl _ wY).drew)) hg5)
          clear hm5 hg5
          go_wp2
          go_roundg g2
          case measure => omega
          case rel => exact ⟨j + 1, by omega, by go_num, by omega, by show DirM _ _ _ _; rw [HNj.out.1, HNj.out.2, ← Nat.add_assoc]; exact HM5.out, HG5⟩
theorem segsL_tell (fs : List FileD) : segsN (segsL fs) ≤ 666700 ∧ (∀ s ∈ segsL fs, s.bs.length ≤ 20001) ∧ (∀ s ∈ segsL fs, ∀ b ∈ s.bs, textOkD b.seq b.chs = true) ∧ (∀ A ∈ dirSegs [] (segsL fs), A.key.size ≤ 20) ∧ (dirSegs [] (segsL fs)).length ≤ 1000000 :=
  ⟨segsL_N fs, segsL_bl, fun s hs => segsL_ok hs, dirD_keys fs, by have := dirD_len fs; unfold dirD at this; omega⟩
def ptrElem : Value → Option (DataW Unit × List MemPlace)
  | .pointer (some ⟨p, 0, none⟩) => some (.lit (.int .i64 (p : Int)), [])
  | .pointer none => some (.nil, [])
  | _ => none
theorem ptrElem_inv {v : Value} {p : Nat} {ps : List MemPlace} (h : ptrElem v = some (.lit (.int .i64 (p : Int)), ps)) : v = .pointer (some ⟨p, 0, none⟩) := by
  unfold ptrElem at h
  split at h
  · simp only [Option.some.injEq, Prod.mk.injEq, DataW.lit.injEq, Lit.int.injEq, true_and] at h
    obtain ⟨h1, _⟩ := h
    have : (_ : Nat) = p := Int.ofNat.inj h1
    rw [this]
  · simp at h
  · cases h
def fileObj (F : FileD) : Obj := .cells #[.string F.name, .string F.text, .int .i64 F.kept] 109 (0, 0)
def ShelfD (w : World) (B mb : Nat) (gs : List FileD) (D : DataW Unit) (pt : ByteArray → Nat) : Prop :=
  w.ownsMap Tryz.prog 9 ptrElem mb (size D) D ∧ size D = gs.length ∧ (∀ s, has D (kl s) = true ↔ ∃ F ∈ gs, F.name = s) ∧
  (∀ F ∈ gs, (∀ z, D.atKey (kl F.name) z = .lit (.int .i64 (pt F.name : Int))) ∧ B ≤ pt F.name ∧ pt F.name ≠ mb ∧ w.heap[pt F.name]? = some (fileObj F)) ∧
  (∀ F ∈ gs, ∀ G ∈ gs, pt F.name = pt G.name → F.name = G.name)
def ShelfAt (w : World) (B mb : Nat) (gs : List FileD) : Prop := ∃ D pt, ShelfD w B mb gs D pt
theorem ownsMap_tight {w : World} {b n : Nat} {D : DataW Unit} (h : w.ownsMap Tryz.prog 9 ptrElem b n D) : w.ownsMap Tryz.prog 9 ptrElem b (size D) D := by
  obtain ⟨es, clock, hb, F, _, rfl⟩ := h
  exact ⟨es, clock, hb, F, by simp [size, length_sorted], rfl⟩
theorem shelfD_keep {w w' : World} {B mb : Nat} {gs : List FileD} {D : DataW Unit} {pt : ByteArray → Nat} {r : Option Nat} (h : ShelfD w B mb gs D pt) (hg : w.grownBy w' r) (hr : ∀ k, r = some k → k ≠ mb ∧ ∀ F ∈ gs, pt F.name ≠ k) : ShelfD w' B mb gs D pt := by
  obtain ⟨h1, h2, h3, h4, h5⟩ := h
  refine ⟨h1.kept hg (fun e => (hr mb e.symm).1 rfl), h2, h3, fun F hF => ?_, h5⟩
  obtain ⟨a, b, c, d⟩ := h4 F hF
  exact ⟨a, b, c, blk_grown d hg (fun e => (hr _ e.symm).2 F hF rfl)⟩
theorem shelfD_below {w w' : World} {B mb : Nat} {gs : List FileD} {D : DataW Unit} {pt : ByteArray → Nat} (h : ShelfD w B mb gs D pt) (hb : Below w.heap.size w w') : ShelfD w' B mb gs D pt :=
  shelfD_keep h (grownBy_below none hb) (fun k e => by cases e)
theorem put_mem {gs : List FileD} {F G : FileD} : G ∈ putD gs F ↔ G = F ∨ (G ∈ gs ∧ G.name ≠ F.name) := by
  rw [mem_putD]
  constructor
  · rintro (⟨h1, h2⟩ | h | ⟨h1, h2⟩)
    · refine .inr ⟨h1, fun e => ?_⟩
      rw [lessF, e, less_irrefl] at h2
      cases h2
    · exact .inl h
    · refine .inr ⟨h1, fun e => ?_⟩
      rw [moreF, e] at h2
      simp at h2
  · rintro (h | ⟨h1, h2⟩)
    · exact .inr (.inl h)
    · cases hl : Op.bytesLess G.name.toList F.name.toList
      · refine .inr (.inr ⟨h1, ?_⟩)
        rw [moreF, hl, toList_ne.2 h2]
        rfl
      · exact .inl ⟨h1, hl⟩
theorem without_mem {gs : List FileD} {nm : ByteArray} {G : FileD} : G ∈ withoutD gs nm ↔ G ∈ gs ∧ G.name ≠ nm := by
  rw [withoutD, List.mem_filter, otherF]
  constructor
  · rintro ⟨h1, h2⟩
    exact ⟨h1, toList_ne.1 (by simpa using h2)⟩
  · rintro ⟨h1, h2⟩
    exact ⟨h1, by rw [toList_ne.2 h2]; rfl⟩
theorem shelf_put {w w' : World} {B mb p n : Nat} {gs : List FileD} {D : DataW Unit} {pt : ByteArray → Nat} {F : FileD} (h : ShelfD w B mb gs D pt) (hp : w.heap[p]? = some (fileObj F)) (hB : B ≤ p) (hne : p ≠ mb)
    (hap : ∀ G ∈ gs, G.name ≠ F.name → pt G.name ≠ p) (hw : w'.ownsMap Tryz.prog 9 ptrElem mb n (D.put (kl F.name) (.lit (.int .i64 (p : Int))))) (hg : w.grownBy w' (some mb)) (hlen : (putD gs F).length = size (D.put (kl F.name) (.lit (.int .i64 (p : Int))))) :
    ShelfD w' B mb (putD gs F) (D.put (kl F.name) (.lit (.int .i64 (p : Int)))) (fun s => if s = F.name then p else pt s) := by
  obtain ⟨h1, h2, h3, h4, h5⟩ := h
  have hm := h1.isMap
  refine ⟨ownsMap_tight hw, hlen.symm, fun s => ?_, fun G hG => ?_, fun G hG G' hG' e => ?_⟩
  · by_cases e : s = F.name
    · subst e
      rw [has_put_same hm (kl_key _)]
      simp only [true_iff]
      exact ⟨F, put_mem.2 (.inl rfl), rfl⟩
    · rw [has_put_other (kl_ne e), h3 s]
      constructor
      · rintro ⟨G, hG, rfl⟩
        exact ⟨G, put_mem.2 (.inr ⟨hG, e⟩), rfl⟩
      · rintro ⟨G, hG, rfl⟩
        rcases put_mem.1 hG with rfl | ⟨hG, _⟩
        · exact absurd rfl e
        · exact ⟨G, hG, rfl⟩
  · rcases put_mem.1 hG with rfl | ⟨hG, e⟩
    · refine ⟨fun z => by rw [atKey_put_same hm (kl_key _)]; simp, by simp [hB], by simp [hne], ?_⟩
      simp only [if_true]
      exact blk_grown hp hg (by simpa using hne)
    · obtain ⟨a, b, c, d⟩ := h4 G hG
      simp only [if_neg e]
      exact ⟨fun z => by rw [atKey_put_other (kl_ne e)]; exact a z, b, c, blk_grown d hg (by simpa using c)⟩
  · simp only at e
    rcases put_mem.1 hG with rfl | ⟨hGm, e1⟩ <;> rcases put_mem.1 hG' with rfl | ⟨hGm', e2⟩
    · rfl
    · rw [if_pos rfl, if_neg e2] at e
      exact absurd e.symm (hap G' hGm' e2)
    · rw [if_pos rfl, if_neg e1] at e
      exact absurd e (hap G hGm e1)
    · rw [if_neg e1, if_neg e2] at e
      exact h5 G hGm G' hGm' e
theorem shelf_drop {w w' : World} {B mb n : Nat} {gs : List FileD} {D : DataW Unit} {pt : ByteArray → Nat} {nm : ByteArray} (h : ShelfD w B mb gs D pt) (hw : w'.ownsMap Tryz.prog 9 ptrElem mb n (D.del (kl nm))) (hg : w.grownBy w' (some mb)) (hlen : (withoutD gs nm).length = size (D.del (kl nm))) :
    ShelfD w' B mb (withoutD gs nm) (D.del (kl nm)) pt := by
  obtain ⟨h1, h2, h3, h4, h5⟩ := h
  refine ⟨ownsMap_tight hw, hlen.symm, fun s => ?_, fun G hG => ?_, fun G hG G' hG' e => h5 G (without_mem.1 hG).1 G' (without_mem.1 hG').1 e⟩
  · by_cases e : s = nm
    · subst e
      rw [has_del_same]
      simp only [Bool.false_eq_true, false_iff]
      rintro ⟨G, hG, e⟩
      exact (without_mem.1 hG).2 e
    · rw [has_del_other (kl_ne e), h3 s]
      constructor
      · rintro ⟨G, hG, rfl⟩
        exact ⟨G, without_mem.2 ⟨hG, e⟩, rfl⟩
      · rintro ⟨G, hG, rfl⟩
        exact ⟨G, (without_mem.1 hG).1, rfl⟩
  · obtain ⟨hG, e⟩ := without_mem.1 hG
    obtain ⟨a, b, c, d⟩ := h4 G hG
    exact ⟨fun z => by rw [atKey_del_other (kl_ne e)]; exact a z, b, c, blk_grown d hg (by simpa using c)⟩
theorem shelf_write {w w' : World} {B mb : Nat} {gs : List FileD} {D : DataW Unit} {pt : ByteArray → Nat} {F F' : FileD} (h : ShelfD w B mb gs D pt) (hF : F ∈ gs) (hn : F'.name = F.name) (hg : w.grownBy w' (some (pt F.name))) (hw : w'.heap[pt F.name]? = some (fileObj F')) (hlen : (putD gs F').length = gs.length) : ShelfD w' B mb (putD gs F') D pt := by
  obtain ⟨h1, h2, h3, h4, h5⟩ := h
  obtain ⟨a, b, c, d⟩ := h4 F hF
  refine ⟨h1.kept hg (by simpa using c.symm), by rw [hlen]; exact h2, fun s => ?_, fun G hG => ?_, fun G hG G' hG' e => ?_⟩
  · rw [h3 s]
    constructor
    · rintro ⟨G, hG, rfl⟩
      by_cases e : G.name = F'.name
      · exact ⟨F', put_mem.2 (.inl rfl), e.symm⟩
      · exact ⟨G, put_mem.2 (.inr ⟨hG, e⟩), rfl⟩
    · rintro ⟨G, hG, rfl⟩
      rcases put_mem.1 hG with rfl | ⟨hG, _⟩
      · exact ⟨F, hF, hn.symm⟩
      · exact ⟨G, hG, rfl⟩
  · rcases put_mem.1 hG with rfl | ⟨hG, e⟩
    · rw [hn]; exact ⟨a, b, c, hw⟩
    · obtain ⟨a', b', c', d'⟩ := h4 G hG
      refine ⟨a', b', c', blk_grown d' hg (fun e2 => ?_)⟩
      have := h5 G hG F hF (by simpa using e2)
      exact e (this.trans hn.symm)
  · have key : ∀ X ∈ putD gs F', ∃ Y ∈ gs, Y.name = X.name := by
      intro X hX
      rcases put_mem.1 hX with rfl | ⟨hX, _⟩
      · exact ⟨F, hF, hn.symm⟩
      · exact ⟨X, hX, rfl⟩
    obtain ⟨Y, hY, ey⟩ := key G hG
    obtain ⟨Y', hY', ey'⟩ := key G' hG'
    rw [← ey, ← ey'] at e ⊢
    exact h5 Y hY Y' hY' e
theorem put_len_new {gs : List FileD} {F : FileD} (h : ∀ G ∈ gs, G.name ≠ F.name) : (putD gs F).length = gs.length + 1 := by
  have key : ∀ l : List FileD, (∀ G ∈ l, G.name ≠ F.name) → (l.filter (lessF F.name)).length + (l.filter (moreF F.name)).length = l.length := by
    intro l
    induction l with
    | nil => intro _; rfl
    | cons G r ih =>
      intro h
      have hr := ih (fun X hX => h X (List.mem_cons_of_mem _ hX))
      have hG := h G List.mem_cons_self
      simp only [List.filter_cons]
      cases hl : Op.bytesLess G.name.toList F.name.toList
      · have h1 : lessF F.name G = false := hl
        have h2 : moreF F.name G = true := by rw [moreF, hl, toList_ne.2 hG]; rfl
        rw [h1, h2]
        simp
        omega
      · have h1 : lessF F.name G = true := hl
        have h2 : moreF F.name G = false := by rw [moreF, hl]; rfl
        rw [h1, h2]
        simp
        omega
  have := key gs h
  simp only [putD, List.length_append, List.length_singleton]
  omega
theorem less_ne {a b : ByteArray} (h : Op.bytesLess a.toList b.toList = true) : a ≠ b := by
  rintro rfl
  rw [less_irrefl] at h
  cases h
theorem putD_last {gs : List FileD} {F : FileD} (h : ∀ G ∈ gs, Op.bytesLess G.name.toList F.name.toList = true) : putD gs F = gs ++ [F] := by
  have h1 : gs.filter (lessF F.name) = gs := List.filter_eq_self.2 h
  have h2 : gs.filter (moreF F.name) = [] := List.filter_eq_nil_iff.2 (fun G hG => by rw [moreF, h G hG]; simp)
  rw [putD, h1, h2, List.append_nil]
theorem srt_take {fs : List FileD} {k : Nat} (h : srt fs) (hk : k < fs.length) : ∀ G ∈ fs.take k, Op.bytesLess G.name.toList fs[k].name.toList = true := by
  intro G hG
  obtain ⟨i, hi, rfl⟩ := List.getElem_of_mem hG
  rw [List.length_take] at hi
  rw [List.getElem_take]
  exact List.pairwise_iff_getElem.1 h i k (by omega) hk (by omega)
theorem Tryz.keyS (s : ByteArray) (h : s.size ≤ maxLen) : keyOf Tryz.prog 9 (.string s) = some (kl s) := WideMaps.keyOf_string_mk Tryz.underlying9 h
theorem shelfOf_any (fs : List FileD) (ao : Option Addr) (cap : Nat) (w : World) (hok : diskOkD fs = true) (hfs : FilesAt w ao fs) :
    Calls Tryz.prog 77 #[.agg #[.slice ao fs.length cap]] w fun e w' => ∃ mb, e = .returned (.map (some mb)) ∧ w.heap.size ≤ mb ∧ ShelfAt w' w.heap.size mb fs ∧ Below w.heap.size w w' := by
  have HF := hide hfs
  have HOK := hide (disk_files hok)
  have HSR := hide ((disk_iff fs).1 hok).2.2
  have hl : fs.length ≤ 30 := (disk_files hok).1
  clear hfs
  have HB0 : Hid (Below w.heap.size w ((w.alloc (.cells #[.slice ao fs.length cap] 31)).alloc (.map #[] 0))) := ((Below.refl _ w).alloc (Nat.le_refl _) _).alloc (by simp) _
  have HM0 : Hid (ShelfD ((w.alloc (.cells #[.slice ao fs.length cap] 31)).alloc (.map #[] 0)) w.heap.size (w.heap.size + 1) [] (.map []) (fun _ => 0)) := by
    refine ⟨?_, rfl, fun s => by simp [has], fun F hF => absurd hF List.not_mem_nil, fun F hF => absurd hF List.not_mem_nil⟩
    have h := World.ownsMap_made (H := Unit) (w.alloc (.cells #[.slice ao fs.length cap] 31)) Tryz.prog 9 ptrElem
    rw [show (w.alloc (.cells #[.slice ao fs.length cap] 31)).heap.size = w.heap.size + 1 from by simp] at h
    exact h
  go_enter Tryz.func77, Tryz.ntmps77
  have hmm := @run_makeMap Tryz.prog
  go_wp2_with fail
  clear hmm
  go_loopw [10] (fun ii wr => ∃ (k : Nat) (D : DataW Unit) (pt : ByteArray → Nat), ii = .int .i64 k ∧ k ≤ fs.length ∧ Hid (ShelfD wr w.heap.size (w.heap.size + 1) (fs.take k) D pt) ∧ Hid (Below w.heap.size w wr)) (fun ii _ => fs.length - (intOf ii).toNat)
  case atStart => exact ⟨0, _, _, rfl, Nat.zero_le _, HM0, HB0⟩
  case round =>
    obtain ⟨k, D, pt, rfl, hk, HD, HB⟩ := hrel
    by_cases hlt : k < fs.length
    · have hlt' : decide ((k : Int) < (fs.length : Int)) = true := by simp; omega
      obtain ⟨b, off, rfl, hbw, hc0, hc1, hc2⟩ := filesAt_keep HF.out HB.out k hlt
      have HT : Hid (fs.take (k + 1) = putD (fs.take k) fs[k]) := by show _ = _; rw [putD_last (srt_take HSR.out hlt), List.take_add_one, List.getElem?_eq_getElem hlt]; rfl
      have HNE : Hid (∀ G ∈ fs.take k, G.name ≠ fs[k].name) := fun G hG => less_ne (srt_take HSR.out hlt G hG)
      have hnm := (HOK.out.2 fs[k] (List.getElem_mem hlt)).2.1
      obtain ⟨F, HFk⟩ : ∃ F, Hid (fs[k] = F) := ⟨fs[k], hide rfl⟩
      rw [HFk.out] at hc0 hc1 hc2 HT HNE hnm
      have hi0 : (0 : Int) ≤ (k : Int) := by omega
      have hi1 : (k : Int) < (fs.length : Int) := by omega
      have HK := hide (Tryz.keyS F.name (by unfold maxLen; omega))
      obtain ⟨wp, hwp⟩ : ∃ wp, wp = (wr.alloc (.cells #[.string F.name, .string F.text, .int .i64 F.kept] 109)).alloc (.cells #[.string F.name, .string F.text, .int .i64 F.kept] 109) := ⟨_, rfl⟩
      have bp : Below wr.heap.size wr wp := by rw [hwp]; exact ((Below.refl _ _).alloc (Nat.le_refl _) _).alloc (by simp) _
      have hpb : wp.heap[wr.heap.size + 1]? = some (fileObj F) := by
        rw [hwp, show wr.heap.size + 1 = (wr.alloc (.cells #[.string F.name, .string F.text, .int .i64 F.kept] 109)).heap.size from by simp]
        exact heap_alloc_new _ _
      have HDp := hide (shelfD_below HD.out bp)
      have hmlt := HD.out.1.lt
      have hsz : size D ≤ 30 := by rw [HD.out.2.1, List.length_take]; omega
      go_wp2_with (at_mapUpdate; rw [← hwp]; refine wpList_mapUpdate_own _ rfl _ _ _ 137 rfl 9 178 (string_keyed Tryz.underlying9) Tryz.underlying137 ptrElem (w.heap.size + 1) (size D) D rfl HDp.out.1 (by unfold maxLen; omega) _ _ _ rfl rfl HK.out (.lit (.int .i64 ((wr.heap.size + 1 : Nat) : Int))) [] rfl ?_; intro w1 hown1 hgrow1)
      go_roundw
      case rel =>
        have hno : has D (kl F.name) = false := by
          cases h : has D (kl F.name) with
          | false => rfl
          | true =>
            obtain ⟨G, hG, e⟩ := (HD.out.2.2.1 F.name).1 h
            exact absurd e (HNE.out G hG)
        have hlen : (putD (fs.take k) F).length = size (D.put (kl F.name) (.lit (.int .i64 ((wr.heap.size + 1 : Nat) : Int)))) := by
          rw [put_len_new HNE.out, size_put (HD.out.1.tidy (string_keyed Tryz.underlying9)), hno, HD.out.2.1]
          rfl
        have hap : ∀ G ∈ fs.take k, G.name ≠ F.name → pt G.name ≠ wr.heap.size + 1 := fun G hG _ e => by
          have := (Array.getElem?_eq_some_iff.1 (HD.out.2.2.2.1 G hG).2.2.2).1
          omega
        have hws := HB.out.size
        have hsh := shelf_put HDp.out hpb (by omega) (by omega) hap hown1 hgrow1 hlen
        rw [← HT.out] at hsh
        exact ⟨k + 1, _, _, by go_num, by omega, hsh, (HB.out.trans (bp.mono hws)).grown hgrow1 (by have := bp.size; omega) (fun j hj => by cases hj; omega)⟩
      case measure => simp [intOf]; omega
    · have hlt' : decide ((k : Int) < (fs.length : Int)) = false := by simp; omega
      have hke : Hid (fs.take k = fs) := by show _ = _; exact List.take_of_length_le (by omega)
      go_wp2
      go_ret
      refine ⟨_, rfl, by omega, ⟨D, pt, ?_⟩, HB.out⟩
      rw [← hke.out]
      exact HD.out
end Go.Proofs.YtlcfblodflgleaaGreatDoor
