/- The program's DirOf: the segments' batches told to a map, one behind the other. -/
import Derived.Test.YtmmchemgegmhhaaGreatDoorDirI4
import Derived.Test.YtmmchemgegmhhaaGreatDoorSegG
import Derived.Deep.LoopGhost
namespace Go.Proofs.YtmmchemgegmhhaaGreatDoor
open Go.RowKit Go.Maps

set_option maxRecDepth 100000 in
set_option maxHeartbeats 1600000 in
theorem spotsOf_of (HIO : ∀ (gs : List SpotD) (mb n B : Nat) (w : World), DirM w mb n gs → n ≤ 1000000 → (∀ A ∈ gs, A.key.size ≤ 1048576) → gs.length ≤ 1000000 → B ≤ w.heap.size → Calls Tryz.prog 174 #[.map (some mb)] w fun e w' => (∃ v, e = .returned v ∧ RowSpot w' B v gs) ∧ Below w.heap.size w w')
    (l : List SegD) (v : Value) (B K : Nat) (w : World) (hll : l.length ≤ 100) (HN : segsN l ≤ 666700) (hbl0 : ∀ s ∈ l, s.bs.length ≤ 20001) (hok0 : ∀ s ∈ l, ∀ b ∈ s.bs, textOkD b.seq b.chs = true) (hku : ∀ A ∈ dirSegs [] l, A.key.size ≤ 20) (HDL : (dirSegs [] l).length ≤ 1000000) (hG : BuildG w B K v l) :
    Calls Tryz.prog 134 #[v] w fun e w' => (∃ v, e = .returned v ∧ RowSpot w' w.heap.size v (dirSegs [] l)) ∧ Below w.heap.size w w' := by
  obtain ⟨a1, c1, rfl⟩ := buildG_form hG
  have HBL := hide hbl0
  have HOK := hide hok0
  have HKU := hide hku
  have G1 := hide hG
  clear hG hbl0 hok0 hku
  go_enter Tryz.func134, Tryz.ntmps134
  have hmk : (Instr.makeMap 231 none).run Tryz.prog w = .ok (.map (some w.heap.size)) (w.alloc (.map #[] 0)) := run_makeMap _ w
  obtain ⟨wm, hwm⟩ : ∃ x, x = w.alloc (.map #[] 0) := ⟨_, rfl⟩
  have HM0 : Hid (DirM wm w.heap.size 0 []) := by rw [hwm]; exact dirM_new w
  have BM : Hid (Below w.heap.size w wm) := by rw [hwm]; exact (Below.refl _ w).alloc (Nat.le_refl _) _
  have hms : wm.heap.size = w.heap.size + 1 := by rw [hwm]; simp
  have HBW : Hid (∀ W, wm.grownBy W (some w.heap.size) → Below w.heap.size w W) := fun W hW => BM.out.grown hW (by omega) (fun k hk => by cases hk; exact Nat.le_refl _)
  go_wp2_with fail
  rw [← hwm]
  clear hwm hmk
  go_loopg [11] l.length (fun gg ii wr => ∃ (k : Nat), k + gg = l.length ∧ ii = .int .i64 k ∧ k ≤ l.length ∧ Hid (DirM wr w.heap.size (segsN (l.take k)) (dirSegs [] (l.take k))) ∧ Hid (wm.grownBy wr (some w.heap.size)))
  case atStart => exact ⟨0, by omega, rfl, Nat.zero_le _, HM0, World.grownBy.refl _ _⟩
  case round =>
    obtain ⟨k, hkg, rfl, hk, HM, HG⟩ := hrel
    have hws := HG.out.size
    have HBr := hide (HBW.out _ HG.out)
    cases gk with
    | zero =>
      have hlt' : decide ((k : Int) < (l.length : Int)) = false := by simp; omega
      have hltn : decide (k < l.length) = false := by simp; omega
      have hke : k = l.length := by omega
      rw [show l.take k = l from List.take_of_length_le (by omega)] at HM
      have HMw := hide (dirM_mono HM.out HN)
      have HIOr := hide (HIO (dirSegs [] l) w.heap.size 666700 w.heap.size wr HMw.out (by omega) (fun A hA => by have := HKU.out A hA; omega) (by omega) (by omega))
      go_wp2_with fail
      refine HIOr.out.mono ?_
      rintro e w9 ⟨⟨v9, rfl, r9⟩, b9⟩
      obtain ⟨a9, c9, rfl, -⟩ := rowSpot_at r9
      have R9 := hide r9
      have B9 : Hid (Below w.heap.size w w9) := HBr.out.trans (b9.mono (by omega))
      clear r9 b9
      go_wp2
      go_ret
      exact ⟨⟨_, rfl, R9.out⟩, B9.out⟩
    | succ g0 =>
      have hlt : k < l.length := by omega
      have hlt' : decide ((k : Int) < (l.length : Int)) = true := by simp; omega
      have hltn : decide (k < l.length) = true := by simp; omega
      have hi0 : (0 : Int) ≤ (k : Int) := by omega
      have hi1 : (k : Int) < (l.length : Int) := by omega
      obtain ⟨g, hg, hgw, hc0, hc1, ⟨a, c, hc2, hrb⟩, ⟨a', c', hc3, hrp⟩, hc4, hc5, hc6⟩ := buildG_at G1.out k hlt
      subst hg
      have hbl := HBL.out l[k] (List.getElem_mem hlt)
      have HOKk := hide (HOK.out l[k] (List.getElem_mem hlt))
      have htk := hide (List.take_succ_eq_append_getElem hlt)
      have htN : segsN (l.take k) + chsN l[k].bs ≤ segsN l := by
        rw [← segsN_snoc, ← htk.out]
        exact segsN_take_le l (k + 1)
      have HBAT := hide (rowBatch_rows hrb).2
      have HPLS := hide hrp
      clear hrb hrp
      generalize l[k] = F at hc0 hc1 hc2 hc3 hc4 hc5 hc6 htk hbl HOKk htN HBAT HPLS
      have HPG : Hid (∀ j (h : j < F.pls.length), F.pls[j] = F.hd + totD (F.bs.take j)) := fun j h => plsB_get F.bs F.hd j h
      have hpl := hide F.pls_len
      obtain ⟨P, HP⟩ : ∃ P, Hid (F.pls = P) := ⟨_, hide rfl⟩
      rw [HP.out] at hc3 HPLS hpl
      have hd0 := (HBr.out.cell (p := ⟨g, k * 7, none⟩) hgw).trans hc0
      have hd1 := (HBr.out.cell (p := ⟨g, k * 7 + 1, none⟩) hgw).trans hc1
      have hd2 := (HBr.out.cell (p := ⟨g, k * 7 + 2, none⟩) hgw).trans hc2
      have hd3 := (HBr.out.cell (p := ⟨g, k * 7 + 3, none⟩) hgw).trans hc3
      have hd4 := (HBr.out.cell (p := ⟨g, k * 7 + 4, none⟩) hgw).trans hc4
      have hd5 := (HBr.out.cell (p := ⟨g, k * 7 + 5, none⟩) hgw).trans hc5
      have hd6 := (HBr.out.cell (p := ⟨g, k * 7 + 6, none⟩) hgw).trans hc6
      clear hc0 hc1 hc2 hc3 hc4 hc5 hc6
      obtain ⟨wO, rfl⟩ : ∃ wO, wO = wr := ⟨_, rfl⟩
      obtain ⟨wX, hwX⟩ : ∃ x, x = wO.alloc (.cells #[.int .i64 (F.num : Int), .int .i64 (F.frm : Int), .slice a F.bs.length c, .slice a' P.length c', .int .i64 (F.fin : Int), .bool F.right, .bool F.torn] 161) := ⟨_, rfl⟩
      have BX : Hid (Below wO.heap.size wO wX) := by rw [hwX]; exact (Below.refl _ wO).alloc (Nat.le_refl _) _
      have hxs : wX.heap.size = wO.heap.size + 1 := by rw [hwX]; simp
      have HXB : Hid (wX.heap[wO.heap.size]? = some (.cells #[.int .i64 (F.num : Int), .int .i64 (F.frm : Int), .slice a F.bs.length c, .slice a' P.length c', .int .i64 (F.fin : Int), .bool F.right, .bool F.torn] 161 (0, 0))) := by rw [hwX]; exact heap_alloc_new wO _
      have hx2 : wX.cell? ⟨wO.heap.size, 2, none⟩ = some (.slice a F.bs.length c) := (cell_of_row wX _ 2 _ _ (0, 0) HXB.out).trans rfl
      obtain ⟨n0, HN0⟩ : ∃ n, Hid (segsN (l.take k) = n) := ⟨_, hide rfl⟩
      obtain ⟨D0, HD0⟩ : ∃ n, Hid (dirSegs [] (l.take k) = n) := ⟨_, hide rfl⟩
      rw [HN0.out, HD0.out] at HM
      rw [HN0.out] at htN
      have HMX := hide (dirM_below HM.out BX.out)
      have HGX : Hid (wm.grownBy wX (some w.heap.size)) := grownBy_trans HG.out (grownBy_below _ BX.out)
      have HNX : Hid (segsN (l.take (k + 1)) = n0 + chsN F.bs ∧ dirSegs [] (l.take (k + 1)) = batsIn (F.num : Int) D0 F.hd F.bs) := by
        show _ ∧ _
        rw [htk.out, segsN_snoc, dirSegs_snoc, HN0.out, HD0.out]
        exact ⟨rfl, rfl⟩
      have hmw : w.heap.size < wO.heap.size := by omega
      go_wp2_with fail
      rw [← hwX]
      clear hwX hx2 hd0 hd1 hd2 hd3 hd4 hd5 hd6 BX
      go_loopg [18] F.bs.length (fun g2 ii wy => ∃ (j : Nat), j + g2 = F.bs.length ∧ ii = .int .i64 j ∧ j ≤ F.bs.length ∧ Hid (DirM wy w.heap.size (n0 + chsN (F.bs.take j)) (batsIn (F.num : Int) D0 F.hd (F.bs.take j))) ∧ Hid (wX.grownBy wy (some w.heap.size)))
      case atStart => exact ⟨0, by omega, rfl, Nat.zero_le _, HMX, World.grownBy.refl _ _⟩
      case round =>
        obtain ⟨j, hjg, rfl, hj, HMy, HGy⟩ := hrel
        have hwy := HGy.out.size
        have HBy := hide (HBW.out _ (grownBy_trans HGX.out HGy.out))
        cases gk with
        | zero =>
          have hjt' : decide ((j : Int) < (F.bs.length : Int)) = false := by simp; omega
          have hjtn : decide (j < F.bs.length) = false := by simp; omega
          rw [show F.bs.take j = F.bs from List.take_of_length_le (by omega)] at HMy
          go_wp2
          go_roundg g0
          case measure => omega
          case rel => exact ⟨k + 1, by omega, by go_num, by omega, by show DirM _ _ _ _; rw [HNX.out.1, HNX.out.2]; exact HMy.out, grownBy_trans HGX.out HGy.out⟩
        | succ g2 =>
          have hjt : j < F.bs.length := by omega
          have hjt' : decide ((j : Int) < (F.bs.length : Int)) = true := by simp; omega
          have hjtn : decide (j < F.bs.length) = true := by simp; omega
          have hj0 : (0 : Int) ≤ (j : Int) := by omega
          have hj1 : (j : Int) < (F.bs.length : Int) := by omega
          have hj2 : (j : Int) < (P.length : Int) := by have := hpl.out; omega
          obtain ⟨b, off, hab, hbw, he0, a2, c2, he1, hch⟩ := HBAT.out j hjt
          obtain ⟨gp, hgp, hgpw, hep⟩ := rowNat_at HPLS.out j (by have := hpl.out; omega)
          have hpv : P[j]'(by have := hpl.out; omega) = F.hd + totD (F.bs.take j) := by have := HPG.out j (by rw [HP.out]; have := hpl.out; omega); simpa [HP.out] using this
          rw [hpv] at hep
          have htj := hide (List.take_succ_eq_append_getElem hjt)
          have hokb := HOKk.out F.bs[j] (List.getElem_mem hjt)
          have htn2 : chsN (F.bs.take j) + F.bs[j].chs.length ≤ chsN F.bs := by
            rw [← chsN_snoc, ← htj.out]
            exact chsN_take_le F.bs (j + 1)
          generalize F.bs[j] = A at he0 he1 hch htj hokb htn2
          subst hab hgp
          have hsm := textOk_small hokb
          have HCH := hide hch
          obtain ⟨ps, HPS⟩ : ∃ p : Nat, Hid (F.hd + totD (F.bs.take j) = p) := ⟨_, hide rfl⟩
          rw [HPS.out] at hep
          have HNj : Hid (chsN (F.bs.take (j + 1)) = chsN (F.bs.take j) + A.chs.length ∧ batsIn (F.num : Int) D0 F.hd (F.bs.take (j + 1)) = chsIn (F.num : Int) (ps : Int) A.seq (batsIn (F.num : Int) D0 F.hd (F.bs.take j)) A.chs) := by
            show _ ∧ _
            rw [htj.out, chsN_snoc, batsIn_snoc, HPS.out]
            exact ⟨rfl, rfl⟩
          generalize chsN (F.bs.take j) = nj at HMy htn2 HNj
          generalize batsIn (F.num : Int) D0 F.hd (F.bs.take j) = Dj at HMy HNj
          have hy0 := (HBy.out.cell (p := ⟨b, off + j * 2, none⟩) hbw).trans he0
          have hy1 := (HBy.out.cell (p := ⟨b, off + j * 2 + 1, none⟩) hbw).trans he1
          clear he0 he1 hch hpv
          obtain ⟨wY, hwY⟩ : ∃ x, x = wr.alloc (.cells #[.int .i64 A.seq, .slice a2 A.chs.length c2] 96) := ⟨_, rfl⟩
          have BY : Hid (Below wr.heap.size wr wY) := by rw [hwY]; exact (Below.refl _ wr).alloc (Nat.le_refl _) _
          have hYB : wY.heap[wr.heap.size]? = some (.cells #[.int .i64 A.seq, .slice a2 A.chs.length c2] 96 (0, 0)) := by rw [hwY]; exact heap_alloc_new wr _
          have hSB := (BY.out.block wO.heap.size (by omega)).trans ((HGy.out.block wO.heap.size (by omega) (by simp; omega)).trans HXB.out)
          have hz0 : wY.cell? ⟨wr.heap.size, 0, none⟩ = some (.int .i64 A.seq) := (cell_of_row wY _ 0 _ _ (0, 0) hYB).trans rfl
          have hz1 : wY.cell? ⟨wr.heap.size, 1, none⟩ = some (.slice a2 A.chs.length c2) := (cell_of_row wY _ 1 _ _ (0, 0) hYB).trans rfl
          have hz2 : wY.cell? ⟨wO.heap.size, 0, none⟩ = some (.int .i64 (F.num : Int)) := (cell_of_row wY _ 0 _ _ (0, 0) hSB).trans rfl
          have hz3 : wY.cell? ⟨wO.heap.size, 3, none⟩ = some (.slice (some ⟨gp, 0, none⟩) P.length c') := (cell_of_row wY _ 3 _ _ (0, 0) hSB).trans rfl
          have hz4 : wY.cell? ⟨gp, j, none⟩ = some (.int .i64 (ps : Int)) := ((HBy.out.trans (BY.out.mono HBy.out.size)).cell (p := ⟨gp, j, none⟩) hgpw).trans hep
          have HMY := hide (dirM_below HMy.out BY.out)
          have HCY : Hid (ChangesAt wY a2 A.chs) := changesAt_keep HCH.out (HBy.out.trans (BY.out.mono HBy.out.size))
          have HGY : Hid (wX.grownBy wY (some w.heap.size)) := grownBy_trans HGy.out (grownBy_below _ BY.out)
          have HMC : Hid (0 < A.chs.length → ∀ b off, a2 = some ⟨b, off, none⟩ → b ≠ w.heap.size) := fun h b off e => by
            obtain ⟨b', off', e', h', -⟩ := HCH.out 0 h
            rw [e] at e'
            cases e'
            omega
          have HTL : Hid (∀ W, wY.drewN 1 = W ∨ wY.drew = W ∨ wY = W → Calls Tryz.prog 173 #[.map (some w.heap.size), .agg #[.int .i64 A.seq, .slice a2 A.chs.length c2], .int .i64 (F.num : Int), .int .i64 (ps : Int)] W fun e w' => e = .returned (.tuple #[]) ∧ DirM w' w.heap.size (n0 + nj + A.chs.length) (chsIn (F.num : Int) (ps : Int) A.seq Dj A.chs) ∧ W.grownBy w' (some w.heap.size)) := by
            intro W hW
            have hb : Below wY.heap.size wY W := by
              rcases hW with rfl | rfl | rfl
              · exact drewN_below wY 1
              · exact (Below.refl _ _).drew
              · exact Below.refl _ _
            exact tell_any Dj w.heap.size (n0 + nj) A.seq F.num ps A.chs a2 c2 W (dirM_below HMY.out hb) (by omega) (by omega) (changesAt_keep HCY.out hb) HMC.out (fun B hB => by have := (hsm.2.2 B hB).1; omega)
          clear hYB hSB hep
          have hn1 : wr.heap.size ≠ w.heap.size := by omega
          have hn2 : wO.heap.size ≠ w.heap.size := by omega
          have hn3 : gp ≠ w.heap.size := by omega
          go_wp2_with fail
          rw [← hwY]
          clear hwY hy0 hy1
          go_region_held3 (fun w' => w'.cell? ⟨wr.heap.size, 0, none⟩ = some (.int .i64 A.seq) ∧ w'.cell? ⟨wr.heap.size, 1, none⟩ = some (.slice a2 A.chs.length c2) ∧ w'.cell? ⟨wO.heap.size, 0, none⟩ = some (.int .i64 (F.num : Int)) ∧ w'.cell? ⟨wO.heap.size, 3, none⟩ = some (.slice (some ⟨gp, 0, none⟩) P.length c') ∧ w'.cell? ⟨gp, j, none⟩ = some (.int .i64 (ps : Int))) (first | go_keep | (exact ⟨hz0, hz1, hz2, hz3, hz4⟩) | (exact ⟨cells_grown hg5 hz0 hn1, cells_grown hg5 hz1 hn1, cells_grown hg5 hz2 hn2, cells_grown hg5 hz3 hn2, cells_grown hg5 hz4 hn3⟩)) ((go_at_call 173; refine (HTL.out _ (by first | exact .inr (.inl rfl) | exact .inr (.inr rfl) | exact .inl rfl)).mono ?_; rintro e w5 ⟨rfl, hm5, hg5⟩))
          have HM5 := hide hm5
          have HG5 : Hid (wX.grownBy w5 (some w.heap.size)) := grownBy_trans HGY.out (grownBy_trans (grownBy_below _ ((Below.refl _ wY).drew)) hg5)
          clear hm5 hg5
          go_wp2
          go_roundg g2
          case measure => omega
          case rel => exact ⟨j + 1, by omega, by go_num, by omega, by show DirM _ _ _ _; rw [HNj.out.1, HNj.out.2, ← Nat.add_assoc]; exact HM5.out, HG5⟩

/-- What of the segments of a disk is asked. -/
theorem segsL_tell (fs : List FileD) : segsN (segsL fs) ≤ 666700 ∧ (∀ s ∈ segsL fs, s.bs.length ≤ 20001) ∧ (∀ s ∈ segsL fs, ∀ b ∈ s.bs, textOkD b.seq b.chs = true) ∧ (∀ A ∈ dirSegs [] (segsL fs), A.key.size ≤ 20) ∧ (dirSegs [] (segsL fs)).length ≤ 1000000 :=
  ⟨segsL_N fs, segsL_bl, fun s hs => segsL_ok hs, dirD_keys fs, by have := dirD_len fs; unfold dirD at this; omega⟩

end Go.Proofs.YtmmchemgegmhhaaGreatDoor
