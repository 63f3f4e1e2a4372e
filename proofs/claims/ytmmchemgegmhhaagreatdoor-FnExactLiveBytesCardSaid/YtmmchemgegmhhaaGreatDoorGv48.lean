import Derived.Test.YtmmchemgegmhhaaGreatDoorProg
import Derived.Conc.RwLib
import Derived.Conc.MuData
import Derived.KernelRfl
import Derived.Conc.MuLone
import Derived.Test.YtmmchemgegmhhaaGreatDoorGv2
import Derived.Test.YtmmchemgegmhhaaGreatDoorGv39
import Derived.Test.YtmmchemgegmhhaaGreatDoorGv47
import Derived.Test.YtmmchemgegmhhaaGreatDoorGv5
import Derived.Test.YtmmchemgegmhhaaGreatDoorGv13
import Derived.Test.YtmmchemgegmhhaaGreatDoorGv15
import Derived.Test.YtmmchemgegmhhaaGreatDoorGv11
import Derived.Test.YtmmchemgegmhhaaGreatDoorGv24
import Derived.Test.YtmmchemgegmhhaaGreatDoorGv43
import Derived.Test.YtmmchemgegmhhaaGreatDoorGv40
import Derived.Test.YtmmchemgegmhhaaGreatDoorGv7
import Derived.Test.YtmmchemgegmhhaaGreatDoorGv46
set_option maxRecDepth 100000
set_option maxHeartbeats 3200000
namespace Go.Proofs
abbrev Tryz.muLink : Go.Conc.Locks.MuLink := { lock := 90, unlock := 91, ilock := 137, iunlock := 138, lockSlow := 179, unlockSlow := 182, disable := 175, enable := 177, acquire := 178, relMerge := 180, cas32 := 176, add32 := 181, tMutex := 137, tIMutex := 135, tPMutex := 191, tPIMutex := 234, tPI32 := 236, tUP := 238, tNoCopy := 132, tU32 := 133 }
theorem Tryz.muLib : Go.Conc.Locks.MuLib Tryz.prog Tryz.muLink :=
  ⟨Tryz.func90, Tryz.func91, Tryz.func137, Tryz.func138, Tryz.func175, Tryz.func177, Tryz.func178, Tryz.func180, Tryz.func176, Tryz.func181, Tryz.underlying135, Tryz.runUnderlying135, Tryz.sizeOf135, Tryz.isAgg135, Tryz.zeroValue135, Tryz.underlying137, Tryz.runUnderlying137, Tryz.sizeOf137, Tryz.isAgg137, Tryz.zeroValue137, Tryz.underlying191, Tryz.runUnderlying191, Tryz.sizeOf191, Tryz.isAgg191, Tryz.zeroValue191, Tryz.underlying234, Tryz.runUnderlying234, Tryz.sizeOf234, Tryz.isAgg234, Tryz.zeroValue234, Tryz.underlying236, Tryz.runUnderlying236, Tryz.sizeOf236, Tryz.isAgg236, Tryz.zeroValue236, Tryz.underlying238, Tryz.runUnderlying238, Tryz.sizeOf238, Tryz.isAgg238, Tryz.zeroValue238, Tryz.underlying132, Tryz.runUnderlying132, Tryz.sizeOf132, Tryz.isAgg132, Tryz.zeroValue132, Tryz.underlying21, Tryz.runUnderlying21, Tryz.sizeOf21, Tryz.isAgg21, Tryz.zeroValue21, (by kernel_rfl)⟩
end Go.Proofs
namespace Go.Proofs.YtmmchemgegmhhaaGreatDoor
open Go.RowKit
theorem storeAt_lock {w : World} {B g : Nat} {fs : List FileD} {room : Int} {vd vr vs : Value} (h : StoreAt w B g fs room vd vr vs) (z : Value) :
    (w.setCell ⟨g, 0, none⟩ z).heap[g]? = some (.cells #[z, .int .u32 0, vd, .int .i64 room, .int .i64 ((lastG fs).num : Int), .int .i64 (seqD (segsL fs)), vr, vs] 140 (0, 0)) :=
  (heap_setCell_same w g 0 _ _ z h.blk).trans rfl
theorem storeAt_disk {w : World} {B g : Nat} {fs : List FileD} {room : Int} {vd vr vs : Value} (h : StoreAt w B g fs room vd vr vs) (z : Value) : RowF (w.setCell ⟨g, 0, none⟩ z) B vd (actsF fs (actsI fs)).1 := by
  have hb := h.blk
  refine rowF_keep h.disk (fun x hx => ?_)
  have hne : x ≠ g := by
    rintro rfl
    rcases h.disk with ⟨rfl, -⟩ | ⟨g', cap, C, rfl, -, hC, -⟩
    · cases hx
    · obtain rfl : g' = x := by simpa [Value.ownBlock] using hx
      rw [hC] at hb
      simp at hb
  exact Below.heap_setCell _ _ _ _ hne
theorem storeAt_dirC {w : World} {B g : Nat} {fs : List FileD} {room : Int} {vd vr vs : Value} (h : StoreAt w B g fs room vd vr vs) (z : Value) : RowSpot (w.setCell ⟨g, 0, none⟩ z) B vr (dirD fs) := by
  have hb := h.blk
  refine rowSpot_keep h.dir (fun x hx => ?_)
  have hne : x ≠ g := by
    rintro rfl
    rcases h.dir with ⟨rfl, -⟩ | ⟨g', cap, C, rfl, -, hC, -⟩
    · cases hx
    · obtain rfl : g' = x := by simpa [Value.ownBlock] using hx
      rw [hC] at hb
      simp at hb
  exact Below.heap_setCell _ _ _ _ hne
theorem buildG_lock {w : World} {B K g : Nat} {v : Value} {l : List SegD} {C : Array Value} (h : BuildG w B K v l) (hb : w.heap[g]? = some (.cells C 140 (0, 0))) (z : Value) : BuildG (w.setCell ⟨g, 0, none⟩ z) B K v l := by
  obtain ⟨vs, ps, h0, h1, h2, h3, h4⟩ := h
  have hg : w.grownBy (w.setCell ⟨g, 0, none⟩ z) (some g) := grownBy_store (World.grownBy.refl w _) 0 z
  refine ⟨vs, ps, h0, h1, World.ownsRow.kept h2 hg ?_, fun j x b hx hj => rowBatch_far (h3 j x b hx hj) hg (fun g' e => ⟨C, _, by cases e; exact hb, by decide, by decide⟩), fun j x b hx hj => rowNat_far (h4 j x b hx hj) hg (fun g' e => ⟨C, _, by cases e; exact hb, by decide⟩)⟩
  cases hv : v.ownBlock with
  | none => exact .inl rfl
  | some k =>
    refine .inr (fun e => ?_)
    obtain ⟨C', hC⟩ := owns_block h2 hv
    cases e
    rw [hb] at hC
    simp at hC
theorem frameBytes_any (S : SegD) (j P0 sz : Nat) (a a' : Option Addr) (c c' K : Nat) (w : World) (hj : j < S.pls.length) (hp : RowNat w K (.slice a' S.pls.length c') S.pls) (h0 : S.pls[j] = P0) (h1 : (if j + 1 < S.pls.length then S.pls[j + 1]?.getD 0 else S.fin) = P0 + sz) (hb : P0 + sz ≤ 1000000000) (hl : S.pls.length ≤ 1000000) :
    Calls Tryz.prog 105 #[.agg #[.int .i64 (S.num : Int), .int .i64 (S.frm : Int), .slice a S.bs.length c, .slice a' S.pls.length c', .int .i64 (S.fin : Int), .bool S.right, .bool S.torn], .int .i64 (j : Int)] w fun e w' => e = .returned (.int .i64 (sz : Int)) ∧ Below w.heap.size w w' := by
  obtain ⟨g, hg, hgw, hc0⟩ := rowNat_at hp j hj
  subst hg
  rw [h0] at hc0
  obtain ⟨nb, HNB⟩ : ∃ n, Hid (S.bs.length = n) := ⟨_, hide rfl⟩
  rw [HNB.out]
  obtain ⟨np, HNP⟩ : ∃ n, Hid (S.pls.length = n) := ⟨_, hide rfl⟩
  obtain ⟨wb, hwb⟩ : ∃ wb, wb = w.alloc (.cells #[.int .i64 (S.num : Int), .int .i64 (S.frm : Int), .slice a nb c, .slice (some ⟨g, 0, none⟩) np c', .int .i64 (S.fin : Int), .bool S.right, .bool S.torn] 161) := ⟨_, rfl⟩
  have HB0 : Hid (Below w.heap.size w wb) := by rw [hwb]; exact (Below.refl _ w).alloc (Nat.le_refl _) _
  obtain ⟨hz0, hz1, hz2, hz3, hz4, hz5, hz6⟩ := seven_cells (W := wb) (g := w.heap.size) (by rw [hwb]; exact heap_alloc_new w _)
  have hi0 : (0 : Int) ≤ (j : Int) := by omega
  have hj0 : (0 : Int) ≤ (j : Int) + 1 := by omega
  have hjn : ((j : Int) + 1).toNat = j + 1 := by omega
  have hd0 : wb.cell? ⟨g, j, none⟩ = some (.int .i64 (P0 : Int)) := (HB0.out.cell (p := ⟨g, j, none⟩) hgw).trans hc0
  by_cases hlt : j + 1 < S.pls.length
  · obtain ⟨g', hg', -, hc1⟩ := rowNat_at hp (j + 1) hlt
    cases hg'
    have h2 : S.pls[j + 1] = P0 + sz := by rw [if_pos hlt, List.getElem?_eq_getElem hlt] at h1; exact h1
    rw [h2] at hc1
    have hd1 : wb.cell? ⟨g, j + 1, none⟩ = some (.int .i64 ((P0 + sz : Nat) : Int)) := (HB0.out.cell (p := ⟨g, j + 1, none⟩) hgw).trans hc1
    rw [HNP.out] at hlt hj hl ⊢
    have hi1 : (j : Int) < (np : Int) := by omega
    have hi2 : (j : Int) + 1 < (np : Int) := by omega
    have hlt' : decide ((j : Int) + 1 < (np : Int)) = true := by rw [decide_eq_true_eq]; omega
    clear hp h1 h2 hc0 hc1 h0
    subst hwb
    go_enter Tryz.func105, Tryz.ntmps105
    go_wp2
    go_ret
    refine ⟨?_, HB0.out⟩
    show Ending.returned (Value.int .i64 ((P0 : Int) + (sz : Int) - (P0 : Int))) = _
    rw [show (P0 : Int) + (sz : Int) - (P0 : Int) = (sz : Int) from by omega]
  · have h2 : S.fin = P0 + sz := by rw [if_neg hlt] at h1; exact h1
    rw [HNP.out] at hlt hj hl ⊢
    have hi1 : (j : Int) < (np : Int) := by omega
    have hlt' : decide ((j : Int) + 1 < (np : Int)) = false := by rw [decide_eq_false_iff_not]; omega
    have H2 := hide h2
    have hf9 : S.fin ≤ 1000000000 := by omega
    clear hp h1 hc0 h0 h2
    subst hwb
    go_enter Tryz.func105, Tryz.ntmps105
    go_wp2
    go_ret
    refine ⟨?_, HB0.out⟩
    show Ending.returned (Value.int .i64 ((S.fin : Int) - (P0 : Int))) = _
    rw [show (S.fin : Int) - (P0 : Int) = (sz : Int) from by have := H2.out; omega]
theorem sumT_plcs (D : List SpotD) (S : SegD) (k : Nat) (h : k < S.bs.length) : sumT D (plcsTo S (k + 1)) = sumT D (plcsTo S k) + (if toldB D (S.num : Int) ((S.hd + totD (S.bs.take k) : Nat) : Int) then sizeD S.bs[k].seq S.bs[k].chs else 0) := by
  conv => lhs; unfold plcsTo
  rw [List.getElem?_eq_getElem h, sumT_app]
  simp [sumT]
theorem sumT_le (D : List SpotD) : ∀ P : List PlD, (∀ x ∈ P, x.size ≤ 10000) → sumT D P ≤ 10000 * P.length
  | [], _ => Nat.le_refl _
  | x :: r, h => by
    have h1 := sumT_le D r (fun y hy => h y (List.mem_cons_of_mem _ hy))
    have h2 := h x List.mem_cons_self
    simp only [sumT, List.length_cons]
    split <;> omega
theorem plcsTo_len (S : SegD) : ∀ k, (plcsTo S k).length ≤ k
  | 0 => Nat.le_refl _
  | k + 1 => by
    unfold plcsTo
    have := plcsTo_len S k
    rw [List.length_append]
    split
    · simp; omega
    · simp; omega
theorem plcsTo_small (S : SegD) (k : Nat) : ∀ x ∈ plcsTo S k, x.size ≤ 10000 := by
  intro x hx
  obtain ⟨j, hj, -, rfl⟩ := plcsTo_mem hx
  have := sizeD_le S.bs[j].seq S.bs[j].chs
  show sizeD _ _ ≤ 10000
  omega
theorem sumT_plcs_le (D : List SpotD) (S : SegD) (k : Nat) : sumT D (plcsTo S k) ≤ 10000 * k :=
  Nat.le_trans (sumT_le D _ (plcsTo_small S k)) (Nat.mul_le_mul_left _ (plcsTo_len S k))
theorem sumT_places_le (D : List SpotD) : ∀ l : List SegD, (∀ S ∈ l, S.bs.length ≤ 6667) → sumT D (placesL l) ≤ 66670000 * l.length
  | [], _ => Nat.le_refl _
  | S :: r, h => by
    have h1 := sumT_places_le D r (fun T hT => h T (List.mem_cons_of_mem _ hT))
    have h2 := sumT_plcs_le D S S.bs.length
    have h3 := h S List.mem_cons_self
    unfold placesL at h1 ⊢
    rw [List.flatMap_cons, sumT_app, List.length_cons]
    show sumT D (plcsTo S S.bs.length) + _ ≤ _
    omega
theorem placesL_take {l : List SegD} {k : Nat} (h : k < l.length) : placesL (l.take (k + 1)) = placesL (l.take k) ++ plcs l[k] := by
  unfold placesL
  rw [List.take_succ_eq_append_getElem h, List.flatMap_append]
  simp
theorem liveBytes_any (fs : List FileD) (room : Int) (wB : World) (g : Nat) (vd vr vs : Value) (w : World) (hst : StoreAt w wB.heap.size g fs room vd vr vs) (_hwB : Below wB.heap.size wB w) :
    Calls Tryz.prog 60 #[.pointer (some ⟨g, 0, none⟩)] w fun e w' => e = .returned (.int .i64 (liveN fs (dirD fs) : Nat)) ∧ Below wB.heap.size w w' := by
  have hle := hst.le
  have hs1 := storeAt_dirC hst (.int .i32 1)
  have hg1 := buildG_lock hst.segs hst.blk (.int .i32 1)
  obtain ⟨ar, cr, rfl, hds⟩ := rowSpot_at hs1
  obtain ⟨ag, cg, rfl⟩ := buildG_form hg1
  have HDS := hide hds
  have HSG := hide (segsAt_of hg1)
  have HB1 := hide (storeAt_lock hst (.int .i32 1))
  have HK := hide (eight_cells hst.blk)
  have hdl := dirD_len fs
  have hll := segsL_len fs
  clear hds hs1 hst hg1
  obtain ⟨w1, hw1⟩ : ∃ w1, w1 = w.setCell ⟨g, 0, none⟩ (.int .i32 1) := ⟨_, rfl⟩
  rw [← hw1] at HB1 HDS HSG
  have HW1 : Hid (Below wB.heap.size w w1) := by show Below _ _ _; rw [hw1]; exact (Below.refl _ w).setCell (p := ⟨g, 0, none⟩) hle _
  have hgl : g < w1.heap.size := heap_lt HB1.out
  have hB1 : wB.heap.size ≤ w1.heap.size := Nat.le_of_lt (Nat.lt_of_le_of_lt hle hgl)
  obtain ⟨k0, k1, k2, k3, k4, k5, k6, k7, k8⟩ := eight_cells HB1.out
  have HSR := hide (dirD_srt fs)
  have HTL : Hid (∀ S ∈ segsL fs, ∀ j (hj : j < S.bs.length), toldB (dirD fs) (S.num : Int) ((S.hd + totD (S.bs.take j) : Nat) : Int) = decide (0 < (livK (dirD fs) S j).length)) := fun S hS j hj => by
    have e : livK (dirD fs) S j = liveI (dirD fs) (S.num : Int) ((S.hd + totD (S.bs.take j) : Nat) : Int) S.bs[j].seq S.bs[j].chs := by unfold livK; rw [List.getElem?_eq_getElem hj]
    rw [e]
    exact told_live_at hS hj
  have HBN : Hid (∀ S ∈ segsL fs, S.bs.length ≤ 6667) := fun S hS => by have h1 := chsN_len S.bs (fun b hb => textOk_one (segsL_ok hS b hb)); have h2 := segsL_three hS; omega
  have HOK : Hid (∀ S ∈ segsL fs, ∀ b ∈ S.bs, textOkD b.seq b.chs = true) := fun S hS => segsL_ok hS
  have HPL : Hid (∀ S ∈ segsL fs, S.fin = S.hd + totD S.bs ∧ S.hd + totD S.bs ≤ 100000000) := fun S hS => by
    obtain ⟨F, hF, -, h, -⟩ := seg_places hS
    refine ⟨h, ?_⟩
    have h1 := hd_le S
    have h2 := totD_le S.bs
    have h3 := HBN.out S hS
    omega
  unfold liveN
  generalize dirD fs = D at HDS hdl k6 HK HB1 HSR HTL ⊢
  generalize segsL fs = l at HSG hll k7 HK HB1 HTL HBN HOK HPL ⊢
  go_enter_defers Tryz.func60, Tryz.ntmps60
  go_wp2_with fail
  refine (Go.MuLone.lock_free Tryz.muLib ⟨g, 0, none⟩ w HK.out.1 HK.out.2.2.2.2.2.2.2.2).mono ?_
  rintro e w' ⟨rfl, rfl⟩
  rw [← hw1]
  clear hw1
  go_wp2_with fail
  go_loopg [3, 19] l.length (fun gg vc ii wr => ∃ k : Nat, k + gg = l.length ∧ vc = .int .i64 ((sumT D (placesL (l.take k)) : Nat) : Int) ∧ ii = .int .i64 k ∧ k ≤ l.length ∧ Hid (Below w1.heap.size w1 wr))
  case atStart => exact ⟨0, by omega, rfl, rfl, Nat.zero_le _, Below.refl _ _⟩
  case round =>
    obtain ⟨k, hkg, rfl, rfl, hk, HBr⟩ := hrel
    have hws := HBr.out.size
    have hsb := sumT_places_le D (l.take k) (fun S hS => HBN.out S ((List.take_sublist k l).subset hS))
    have hlt9 : (l.take k).length ≤ 100 := by rw [List.length_take]; omega
    cases gk with
    | zero =>
      have hlt' : decide ((k : Int) < (l.length : Int)) = false := by rw [decide_eq_false_iff_not]; omega
      have hltn : decide (k < l.length) = false := by rw [decide_eq_false_iff_not]; omega
      rw [List.take_of_length_le (show l.length ≤ k by omega)] at hsb ⊢
      have h2 := HBr.out
      have h0 : wr.cell? ⟨g, 0, none⟩ = some (.int .i32 1) := (h2.cell (p := ⟨g, 0, none⟩) hgl).trans k0
      have hz : wr.frozen? ⟨g, 0, none⟩ = false := frozen_of_row wr g 0 _ _ ((h2.block _ hgl).trans HB1.out)
      obtain ⟨N, HN⟩ : ∃ N, Hid (sumT D (placesL l) = N) := ⟨_, hide rfl⟩
      rw [HN.out] at hsb ⊢
      go_wp2
      refine leaves_cons (f := 91) (args := #[.pointer (some ⟨g, 0, none⟩)]) (by simp) (by simp [go_sem]) ?_
      refine (Go.MuLone.unlock_deferred Tryz.muLib ⟨g, 0, none⟩ .returning _ h0 hz).mono ?_
      rintro e u' w'' ⟨rfl, rfl, rfl⟩
      rw [HN.out]
      exact ⟨_, results_tmp rfl _ _ _, rfl, (HW1.out.trans (h2.mono hB1)).setCell (p := ⟨g, 0, none⟩) hle _⟩
    | succ g0 =>
      obtain ⟨wO, hwO⟩ : ∃ wO, wO = wr := ⟨_, rfl⟩
      subst hwO
      have hlt : k < l.length := by omega
      have hlt' : decide ((k : Int) < (l.length : Int)) = true := by rw [decide_eq_true_eq]; omega
      have hltn : decide (k < l.length) = true := by rw [decide_eq_true_eq]; omega
      have hk0 : (0 : Int) ≤ (k : Int) := by omega
      have hk1 : (k : Int) < (l.length : Int) := by omega
      obtain ⟨gs, hgs, hgsw, hc0, hc1, ⟨a, c, hc2, hrb⟩, ⟨a', c', hc3, hrp⟩, hc4, hc5, hc6⟩ := segsAt_keep HSG.out HBr.out k hlt
      have HPT : Hid (sumT D (placesL (l.take (k + 1))) = sumT D (placesL (l.take k)) + sumT D (plcs l[k])) := by show _ = _; rw [placesL_take hlt, sumT_app]
      have HSl := List.getElem_mem hlt
      have hbn := HBN.out l[k] HSl
      have HOKk := hide (HOK.out l[k] HSl)
      have HTLk := hide (HTL.out l[k] HSl)
      have HFk := hide (HPL.out l[k] HSl)
      clear HSl
      generalize l[k] = S at hc0 hc1 hc2 hc3 hc4 hc5 hc6 hrb hrp HPT hbn HOKk HTLk HFk
      generalize sumT D (placesL (l.take k)) = N at hsb HPT ⊢
      have hN : N ≤ 6667000000 := by omega
      have HRB := hide (rowBatch_rows hrb).2
      have HRP := hide hrp
      clear hrb hrp
      obtain ⟨wn, hwn⟩ : ∃ x, x = wO.alloc (.cells #[.int .i64 (S.num : Int), .int .i64 (S.frm : Int), .slice a S.bs.length c, .slice a' S.pls.length c', .int .i64 (S.fin : Int), .bool S.right, .bool S.torn] 161) := ⟨_, rfl⟩
      have BN0 : Hid (Below wO.heap.size wO wn) := by rw [hwn]; exact (Below.refl _ _).alloc (Nat.le_refl _) _
      have BN : Hid (Below w1.heap.size w1 wn) := HBr.out.trans (BN0.out.mono hws)
      have HBX : Hid (wn.heap[wO.heap.size]? = some (.cells #[.int .i64 (S.num : Int), .int .i64 (S.frm : Int), .slice a S.bs.length c, .slice a' S.pls.length c', .int .i64 (S.fin : Int), .bool S.right, .bool S.torn] 161 (0, 0))) := by rw [hwn]; exact heap_alloc_new wO _
      have hnn : wO.heap.size < wn.heap.size := heap_lt HBX.out
      obtain ⟨hz0, hz1, hz2, hz3, hz4, hz5, hz6⟩ := seven_cells HBX.out
      subst hgs
      go_wp2_with fail
      rw [← hwn]
      clear hwn hc0 hc1 hc2 hc3 hc4 hc5 hc6 hlt' hltn
      go_loopg [3, 26] S.bs.length (fun g2 vc ii wy => ∃ j : Nat, j + g2 = S.bs.length ∧ vc = .int .i64 ((N + sumT D (plcsTo S j) : Nat) : Int) ∧ ii = .int .i64 j ∧ j ≤ S.bs.length ∧ Hid (Below wn.heap.size wn wy))
      case atStart => exact ⟨0, by omega, rfl, rfl, Nat.zero_le _, Below.refl _ _⟩
      case round =>
        clear hz0 hz1 hz2 hz3 hz4 hz5 hz6
        obtain ⟨j, hjg, rfl, rfl, hj, HBy⟩ := hrel
        have hwy := HBy.out.size
        have hsj := sumT_plcs_le D S j
        cases gk with
        | zero =>
          have hjt' : decide ((j : Int) < (S.bs.length : Int)) = false := by rw [decide_eq_false_iff_not]; omega
          have hjtn : decide (j < S.bs.length) = false := by rw [decide_eq_false_iff_not]; omega
          have hje : j = S.bs.length := by omega
          have HNX : Hid (N + sumT D (plcsTo S j) = sumT D (placesL (l.take (k + 1)))) := by show _ = _; rw [HPT.out, hje]; rfl
          clear hje
          go_wp2_with fail
          go_roundg g0
          case measure => omega
          case rel => exact ⟨k + 1, by omega, by rw [← HNX.out], by go_num, by omega, BN.out.trans (HBy.out.mono BN.out.size)⟩
        | succ g3 =>
          have hjt : j < S.bs.length := by omega
          have hjt' : decide ((j : Int) < (S.bs.length : Int)) = true := by rw [decide_eq_true_eq]; omega
          have hjtn : decide (j < S.bs.length) = true := by rw [decide_eq_true_eq]; omega
          have HWy : Hid (Below w1.heap.size w1 wr) := BN.out.trans (HBy.out.mono BN.out.size)
          have hpl := S.pls_len
          have hpj : j < S.pls.length := by omega
          have HP0 : Hid (S.pls[j] = S.hd + totD (S.bs.take j)) := plsB_get S.bs S.hd j (by rw [plsB_len]; exact hjt)
          have HSJ := hide (sumT_plcs D S j hjt)
          have HL1 := hide (liveChanges_any D S j g ar a a' cr c c' wB.heap.size wr (by omega) HSR.out (Nat.lt_of_lt_of_le hgl HWy.out.size) ((HWy.out.cell (p := ⟨g, 6, none⟩) hgl).trans k6) (spotsAt_keep HDS.out HWy.out) hjt (batchesAt_keep (batchesAt_keep HRB.out BN0.out) HBy.out) (rowNat_below (rowNat_below HRP.out BN0.out) HBy.out) (textOk_small (HOKk.out S.bs[j] (List.getElem_mem hjt))).1)
          rw [HTLk.out j hjt, livK_at hjt] at HSJ
          have HFB : Hid ((if j + 1 < S.pls.length then S.pls[j + 1]?.getD 0 else S.fin) = S.pls[j] + sizeD S.bs[j].seq S.bs[j].chs ∧ S.pls[j] + sizeD S.bs[j].seq S.bs[j].chs ≤ 1000000000) := by
            have h3 : totD (S.bs.take (j + 1)) = totD (S.bs.take j) + sizeD S.bs[j].seq S.bs[j].chs := by rw [List.take_succ_eq_append_getElem hjt, totD_snoc]
            have h4 := hd_le S
            have h5 := totD_le (S.bs.take j)
            have h6 : (S.bs.take j).length ≤ j := by rw [List.length_take]; omega
            have h7 := sizeD_le S.bs[j].seq S.bs[j].chs
            have h8 := HP0.out
            refine ⟨?_, by omega⟩
            split
            · rename_i hlt2
              have h9 := plsB_get S.bs S.hd (j + 1) (by rw [plsB_len]; omega)
              have e : S.pls[j + 1]?.getD 0 = S.hd + totD (S.bs.take (j + 1)) := by rw [List.getElem?_eq_getElem hlt2]; exact h9
              omega
            · have h9 := HFk.out.1
              rw [show S.bs.take (j + 1) = S.bs from List.take_of_length_le (by omega)] at h3
              omega
          have hsz := sizeD_le S.bs[j].seq S.bs[j].chs
          have HFX := hide (fun W h => frameBytes_any S j S.pls[j] (sizeD S.bs[j].seq S.bs[j].chs) a a' c c' wB.heap.size W hpj h rfl HFB.out.1 HFB.out.2 (by omega))
          have hlv := liveI_len D (S.num : Int) (S.pls[j] : Int) S.bs[j].seq S.bs[j].chs
          have hch := (textOk_small (HOKk.out S.bs[j] (List.getElem_mem hjt))).1
          generalize liveI D (S.num : Int) (S.pls[j] : Int) S.bs[j].seq S.bs[j].chs = LV at HL1 HSJ hlv
          generalize sizeD S.bs[j].seq S.bs[j].chs = sz at HFX HSJ hsz HFB
          have hvl : LV.length ≤ 40 := by omega
          generalize sumT D (plcsTo S j) = M at hsj HSJ ⊢
          obtain ⟨hz0, hz1, hz2, hz3, hz4, hz5, hz6⟩ := seven_cells ((HBy.out.block _ hnn).trans HBX.out)
          have hM : M ≤ 70000000 := by omega
          clear hpl hpj HP0 HFB hlv hch
          go_wp2_with fail
          refine HL1.out.mono ?_
          rintro e w4 ⟨⟨ao4, cap4, rfl, -⟩, b4⟩
          have B4 := hide (HBy.out.trans (b4.mono hwy))
          have HR4 := hide (rowNat_below (rowNat_below (rowNat_below HRP.out BN0.out) HBy.out) b4)
          clear hz0 hz1 hz2 hz3 hz4 hz5 hz6 b4 HL1
          obtain ⟨hz0, hz1, hz2, hz3, hz4, hz5, hz6⟩ := seven_cells ((B4.out.block _ hnn).trans HBX.out)
          by_cases hv : 0 < LV.length
          · have hv' : decide ((0 : Int) < (LV.length : Int)) = true := by rw [decide_eq_true_eq]; omega
            have hvn : decide (0 < LV.length) = true := by rw [decide_eq_true_eq]; omega
            rw [hvn, if_pos rfl] at HSJ
            go_wp2_with fail
            refine (HFX.out _ HR4.out).mono ?_
            rintro e w5 ⟨rfl, b5⟩
            have B5 := hide (B4.out.trans (b5.mono B4.out.size))
            clear b5 hz0 hz1 hz2 hz3 hz4 hz5 hz6
            go_wp2_with fail
            go_roundg g3
            case measure => omega
            case rel => exact ⟨j + 1, by omega, by rw [HSJ.out]; go_num, by go_num, by omega, B5⟩
          · have hv' : decide ((0 : Int) < (LV.length : Int)) = false := by rw [decide_eq_false_iff_not]; omega
            have hvn : decide (0 < LV.length) = false := by rw [decide_eq_false_iff_not]; omega
            rw [hvn, if_neg (by decide)] at HSJ
            go_wp2_with fail
            go_roundg g3
            case measure => omega
            case rel => exact ⟨j + 1, by omega, by rw [HSJ.out]; rfl, by go_num, by omega, B4⟩
def liveE (fs : List FileD) (room act seq : Int) (dir : List SpotD) : Nat := bif engOkB fs room act seq dir then liveN fs dir else 0
theorem liveE_yes {fs : List FileD} {room act seq : Int} {dir : List SpotD} (h : engOkB fs room act seq dir = true) : liveE fs room act seq dir = liveN fs dir := by
  unfold liveE
  rw [h]
  rfl
theorem liveE_no {fs : List FileD} {room act seq : Int} {dir : List SpotD} (h : engOkB fs room act seq dir = false) : liveE fs room act seq dir = 0 := by
  unfold liveE
  rw [h]
  rfl
theorem implLiveBytes_any (fs : List FileD) (ao ad : Option Addr) (cap cd : Nat) (room act seq : Int) (dir : List SpotD) (w : World) (hl : fs.length ≤ 1048576) (hfs : FilesAt w ao fs) (hsz : ∀ F ∈ fs, F.name.size ≤ 1048576 ∧ F.text.size ≤ 1048576) (hds : SpotsAt w ad dir) (hT : SumTab w) :
    Calls Tryz.prog 21 #[.agg #[.slice ao fs.length cap, .int .i64 room, .int .i64 act, .int .i64 seq, .slice ad dir.length cd]] w fun e w' => e = .returned (.int .i64 (liveE fs room act seq dir : Nat)) ∧ Below w.heap.size w w' := by
  have HSO := hide (fun W h1 h2 hT => storeOf_any fs ao ad cap cd room act seq dir W hl h1 hsz h2 hT)
  have HUS := hide (fun wB g vd vr vs W => liveBytes_any fs room wB g vd vr vs W)
  have HF := hide hfs
  have HD := hide hds
  have HT := hide hT
  clear hfs hds hsz hT
  obtain ⟨wb, hwb⟩ : ∃ wb, wb = w.alloc (.cells #[.slice ao fs.length cap, .int .i64 room, .int .i64 act, .int .i64 seq, .slice ad dir.length cd] 30) := ⟨_, rfl⟩
  have HB0 : Hid (Below w.heap.size w wb) := by rw [hwb]; exact (Below.refl _ w).alloc (Nat.le_refl _) _
  obtain ⟨R, HR⟩ : ∃ R, Hid (liveE fs room act seq dir = R) := ⟨_, hide rfl⟩
  rw [HR.out]
  go_enter Tryz.func21, Tryz.ntmps21
  go_wp2_with fail
  rw [← hwb]
  clear hwb
  refine (HSO.out _ (filesAt_keep HF.out HB0.out) (spotsAt_keep HD.out HB0.out) (sumTab_later HB0.out HT.out)).mono ?_
  rintro e w1 ⟨b1, ⟨he, g, vd, vr, vs, rfl, hst⟩ | ⟨he, s, rfl⟩⟩
  · have hR : Hid (liveN fs (dirD fs) = R) := by show _ = _; rw [← HR.out, liveE_yes (engOkB_yes he), he.2.2.2.2.2]
    have HST := hide hst
    have HW1 := hide (HB0.out.trans (b1.mono HB0.out.size))
    have HB1 := hide b1
    have HUV := hide (HUS.out wb g vd vr vs _ HST.out HB1.out)
    rw [hR.out] at HUV
    clear hst he b1
    go_wp2_with fail
    refine HUV.out.mono ?_
    rintro e w2 ⟨rfl, b2⟩
    go_wp2
    go_ret
    exact ⟨rfl, HW1.out.trans (b2.mono HB0.out.size)⟩
  · have hR : Hid (R = 0) := HR.out.symm.trans (liveE_no (engOkB_no he))
    go_wp2
    go_ret
    rw [hR.out]
    exact ⟨rfl, HB0.out.trans (b1.mono HB0.out.size)⟩
end Go.Proofs.YtmmchemgegmhhaaGreatDoor
