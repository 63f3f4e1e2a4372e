import Derived.Sort.KeysCollected
import Derived.Deep.LoopGhost
import Derived.Lib.SmallJoins
import Derived.OpenShut
import Derived.Laws.MakeOwn
import Derived.Test.YtmmchemgegmhhaaGreatDoorSlim7
import Derived.Test.YtmmchemgegmhhaaGreatDoorSlim16
import Derived.Test.YtmmchemgegmhhaaGreatDoorSlim15
import Derived.Test.YtmmchemgegmhhaaGreatDoorSlim2
set_option maxRecDepth 100000
set_option maxHeartbeats 1600000
namespace Go.Proofs.YtmmchemgegmhhaaGreatDoor
open Go.RowKit Go.Maps
theorem keys_sorted {w : World} {mb n : Nat} {gs : List SpotD} {D : DataW Unit} (h1 : w.ownsMap Tryz.prog 9 spotElem mb n D) (h2 : ∀ s, has D (kl s) = true ↔ ∃ F ∈ gs, F.key = s) (hs : srtS gs) {ss : List (List UInt8)} (hp : ss.Perm (strKeys D)) : ss.mergeSort (fun x y => decide (x ≤ y)) = gs.map (fun F => F.key.data.toList) := by
  have hlt : (gs.map (fun F => F.key.data.toList)).Pairwise (fun a b => Op.bytesLess a b = true) := by
    refine List.pairwise_map.2 (hs.imp fun {a b} h => ?_)
    rw [Lib.toList_data, Lib.toList_data] at h
    exact h
  have hnd : (gs.map (fun F => F.key.data.toList)).Nodup := hlt.imp fun {a b} h e => by rw [e, less_irrefl] at h; cases h
  have hm : ∀ x, x ∈ gs.map (fun F => F.key.data.toList) ↔ has D (.string x) = true := by
    intro x
    have h3 := h2 ⟨x.toArray⟩
    have e : kl ⟨x.toArray⟩ = .string x := by simp [kl]
    rw [e] at h3
    rw [h3, List.mem_map]
    constructor
    · rintro ⟨F, hF, rfl⟩
      exact ⟨F, hF, by cases F.key; simp⟩
    · rintro ⟨F, hF, e2⟩
      exact ⟨F, hF, by rw [e2]⟩
  have hc : Collected D (fun _ => false) (gs.map (fun F => F.key.data.toList)) := ⟨hnd, fun x => by rw [hm x]; simp⟩
  have hp2 := hc.perm h1 (string_keyed Tryz.underlying9) Tryz.underlying9 (fun _ => rfl)
  have h1 := mergeSort_of_perm (hp.trans hp2.symm)
  refine h1.trans ?_
  have tr : ∀ a b c : List UInt8, leB a b = true → leB b c = true → leB a c = true := fun a b c h1 h2 => by simp only [leB, decide_eq_true_eq] at *; exact List.le_trans h1 h2
  have tot : ∀ a b : List UInt8, (leB a b || leB b a) = true := fun a b => by simp only [leB, Bool.or_eq_true, decide_eq_true_eq]; exact List.le_total a b
  refine List.Perm.eq_of_pairwise (le := fun a b => leB a b = true) (fun a b _ _ h1 h2 => ?_) (List.pairwise_mergeSort tr tot _) ?_ (List.mergeSort_perm _ leB)
  · simp only [leB, decide_eq_true_eq] at h1 h2
    exact List.le_antisymm h1 h2
  · refine hlt.imp fun {a b} h => ?_
    rw [bytesLess_eq, decide_eq_true_eq] at h
    simp only [leB, decide_eq_true_eq]
    exact List.le_of_lt h
theorem dirKeys_any (mb : Option Nat) (W : World) : Calls Tryz.prog 201 #[.map mb] W fun e w' => e = .returned (.func (.func 220) #[] #[.pointer (some ⟨W.heap.size, 0, none⟩)]) ∧ w' = W.alloc (.cells #[.map mb] 231) :=
  (callsIn_wide (n := 5)).1 (Tryz.maps_Keys_201 mb W)
theorem dirSorted_any {mb n : Nat} {gs : List SpotD} (w : World) (h : DirM w mb n gs) (hn : n ≤ 1000000) :
    Calls Tryz.prog 193 #[.func (.func 220) #[] #[.pointer (some ⟨w.heap.size, 0, none⟩)]] (w.alloc (.cells #[.map (some mb)] 231)) fun e w' => (∃ v : Value, e = .returned v ∧ w'.ownsRow (w.heap.size + 1) 9 1 v gs.length (gs.map (fun F => .string F.key))) ∧ Below w.heap.size w w' := by
  obtain ⟨D, h1, h2, h3, h4⟩ := h
  have hsz := h1.size_le
  refine ((callsIn_wide (n := 5)).1 (Tryz.slices_Sorted_keys_193_201 mb n D spotElem w h1 (by unfold maxLen; omega) (by omega))).mono ?_
  rintro e w' ⟨v, ss, rfl, hp, hrow, _, hb⟩
  refine ⟨⟨v, rfl, ?_⟩, ((Below.refl _ w).alloc (Nat.le_refl _) _).trans (hb.mono (by simp))⟩
  have hnn := keys_sorted h1 h2 h4 hp
  rw [hnn] at hrow
  have hle : ss.length = gs.length := by
    have := congrArg List.length hnn
    rw [List.length_mergeSort, List.length_map] at this
    exact this
  rw [hle, List.map_map] at hrow
  have e1 : (w.alloc (.cells #[.map (some mb)] 231)).heap.size = w.heap.size + 1 := by simp
  rw [e1] at hrow
  have e2 : (encStr ∘ fun F : SpotD => F.key.data.toList) = fun F : SpotD => Value.string F.key := by
    funext F
    simp [encStr]
  rw [e2] at hrow
  exact hrow
theorem Tryz.zeroSpot (w : World) : (zeroValue 89).run Tryz.prog w = .ok (.agg #[.string ⟨#[]⟩, .int .i64 0, .int .i64 0, .int .i64 0]) w := by
  have hz : Tryz.t89.zero = some (.agg #[.string ⟨#[]⟩, .int .i64 0, .int .i64 0, .int .i64 0]) := by kernel_rfl
  simp [zeroValue, go_sem, hz]
theorem rowStr_at {w : World} {B n cap : Nat} {ao : Option Addr} {gs : List SpotD} (h : w.ownsRow B 9 1 (.slice ao n cap) gs.length (gs.map (fun F => .string F.key))) (j : Nat) (hj : j < gs.length) : ∃ g, ao = some ⟨g, 0, none⟩ ∧ g < w.heap.size ∧ w.cell? ⟨g, j, none⟩ = some (.string gs[j].key) := by
  rcases h.2 with ⟨_, hn⟩ | ⟨g, cap', cur, hv, hB, hC, hle, _, hs, ht⟩
  · omega
  · cases hv
    refine ⟨g, rfl, (Array.getElem?_eq_some_iff.1 hC).1, ?_⟩
    exact (cell_of_row w g j _ _ (0, 0) hC).trans (take_getSpot ht (by omega) (by simp [hj]))
theorem inOrder_any (gs : List SpotD) (mb n B : Nat) (w : World) (hm : DirM w mb n gs) (hn : n ≤ 1000000) (hk : ∀ A ∈ gs, A.key.size ≤ 1048576) (hgl : gs.length ≤ 1000000) (hB : B ≤ w.heap.size) :
    Calls Tryz.prog 174 #[.map (some mb)] w fun e w' => (∃ v, e = .returned v ∧ RowSpot w' B v gs) ∧ Below w.heap.size w w' := by
  have HM := hide hm
  have HK := hide hk
  clear hm hk
  go_enter Tryz.func174, Tryz.ntmps174
  go_wp2_with fail
  refine (dirKeys_any _ _).mono ?_
  rintro e w1 ⟨rfl, rfl⟩
  go_wp2_with fail
  refine (dirSorted_any _ HM.out hn).mono ?_
  rintro e w2 ⟨⟨v2, rfl, hrow⟩, b2⟩
  obtain ⟨a2, c2, rfl⟩ := slice_form hrow
  have HR2 := hide hrow
  have B2 := hide b2
  clear hrow b2
  have HM2 := hide (dirM_below HM.out B2.out)
  have hw2 : w.heap.size ≤ w2.heap.size := B2.out.size
  go_wp2_with fail
  go_loopw [3, 10] (fun vo ii wr => ∃ (k : Nat), ii = .int .i64 k ∧ k ≤ gs.length ∧ Hid (wr.ownsRow w2.heap.size 89 4 vo (gs.take k).length (cellsSpot (gs.take k))) ∧ Hid (Below w2.heap.size w2 wr)) (fun _ ii _ => gs.length - (intOf ii).toNat)
  case atStart => exact ⟨0, rfl, Nat.zero_le _, World.ownsRow_nil _ _ _ _, Below.refl _ _⟩
  case round =>
    obtain ⟨k, rfl, hk, HO, HB⟩ := hrel
    have hws := HB.out.size
    by_cases hlt : k < gs.length
    · have hlt' : decide ((k : Int) < (gs.length : Int)) = true := by simp; omega
      have hi0 : (0 : Int) ≤ (k : Int) := by omega
      have hi1 : (k : Int) < (gs.length : Int) := by omega
      obtain ⟨g, hg, hgw, hc0⟩ := rowStr_at HR2.out k hlt
      subst hg
      have hd0 := (HB.out.cell (p := ⟨g, k, none⟩) hgw).trans hc0
      clear hc0
      obtain ⟨D, hD1, hD2, hD3, hD4⟩ := dirM_below HM2.out HB.out
      have hks := HK.out gs[k] (List.getElem_mem hlt)
      obtain ⟨v, ps, hrun, hv⟩ := hD1.lookup (string_keyed Tryz.underlying9) Tryz.underlying231 (Tryz.zeroSpot _) (spotElem_mk ⟨⟨#[]⟩, 0, 0, 0⟩) (Tryz.keyT gs[k].key (by unfold maxLen; omega))
      rw [hD3 gs[k] (List.getElem_mem hlt)] at hv
      obtain rfl := spotElem_inv hv
      have htk := hide (List.take_succ_eq_append_getElem hlt)
      clear hv hD1 hD2 hD3 hD4
      generalize gs[k] = F at hd0 hks hrun htk
      have hln : (gs.take k).length ≤ gs.length := by rw [List.length_take]; omega
      obtain ⟨L, HL⟩ : ∃ L, Hid (gs.take k = L) := ⟨_, hide rfl⟩
      rw [HL.out] at HO htk hln
      go_wp2_with (at_builtin; refine app_spot _ w2.heap.size (by rfl) _ _ (by rfl) _ L F (by rfl) (HO.out.alloc _) wr.heap.size (by rfl) (heap_alloc_new wr _) (by omega) (by simp; omega) ?_; intro g5 cap5 w5 ho5 hb5 hg5 hgl5; have HO5 := hide ho5; have HB5 := hide hb5; clear ho5 hb5 hg5 hgl5)
      go_roundw
      case rel => exact ⟨k + 1, by go_num, by omega, by show World.ownsRow _ _ _ _ _ _ _; rw [htk.out]; exact HO5.out, (HB.out.alloc (by omega) _).trans HB5.out⟩
      case measure => simp [intOf]; omega
    · have hlt' : decide ((k : Int) < (gs.length : Int)) = false := by simp; omega
      have hke : k = gs.length := by omega
      subst hke
      rw [List.take_length] at HO
      go_wp2
      go_ret
      exact ⟨⟨_, rfl, rowSpot_le (rowSpot_own HO.out) (by omega)⟩, B2.out.trans (HB.out.mono hw2)⟩
theorem spotsOf_of (HIO : ∀ (gs : List SpotD) (mb n B : Nat) (w : World), DirM w mb n gs → n ≤ 1000000 → (∀ A ∈ gs, A.key.size ≤ 1048576) → gs.length ≤ 1000000 → B ≤ w.heap.size → Calls Tryz.prog 174 #[.map (some mb)] w fun e w' => (∃ v, e = .returned v ∧ RowSpot w' B v gs) ∧ Below w.heap.size w w')
    (l : List SegD) (v : Value) (B K : Nat) (w : World) (hll : l.length ≤ 100) (HN : segsN l ≤ 666700) (hbl0 : ∀ s ∈ l, s.bs.length ≤ 20001) (hok0 : ∀ s ∈ l, ∀ b ∈ s.bs, textOkD b.seq b.chs = true) (hku : ∀ A ∈ dirSegs [] l, A.key.size ≤ 20) (HDL : (dirSegs [] l).length ≤ 1000000) (hG : BuildG w B K v l) :
    Calls Tryz.prog 134 #[v] w fun e w' => (∃ v, e = .returned v ∧ RowSpot w' w.heap.size v (dirSegs [] l)) ∧ Below w.heap.size w w' := by
  obtain ⟨a1, c1, rfl⟩ := buildG_form hG
  have HBL := hide hbl0
  have HOK := hide hok0
  have HKU := hide hku
  have G1 := hide hG
  clear hG hbl0 hok0 hku
  go_enter Tryz.func134, Tryz.ntmps134
  have hmk : (Instr.makeMap 231 none).run Tryz.prog w = .ok (.map (some w.heap.size)) (w.alloc (.map #[] 0)) := run_makeMap _ w
  obtain ⟨wm, hwm⟩ : ∃ x, x = w.alloc (.map #[] 0) := ⟨_, rfl⟩
  have HM0 : Hid (DirM wm w.heap.size 0 []) := by rw [hwm]; exact dirM_new w
  have BM : Hid (Below w.heap.size w wm) := by rw [hwm]; exact (Below.refl _ w).alloc (Nat.le_refl _) _
  have hms : wm.heap.size = w.heap.size + 1 := by rw [hwm]; simp
  have HBW : Hid (∀ W, wm.grownBy W (some w.heap.size) → Below w.heap.size w W) := fun W hW => BM.out.grown hW (by omega) (fun k hk => by cases hk; exact Nat.le_refl _)
  go_wp2_with fail
  rw [← hwm]
  clear hwm hmk
  go_loopg [11] l.length (fun gg ii wr => ∃ (k : Nat), k + gg = l.length ∧ ii = .int .i64 k ∧ k ≤ l.length ∧ Hid (DirM wr w.heap.size (segsN (l.take k)) (dirSegs [] (l.take k))) ∧ Hid (wm.grownBy wr (some w.heap.size)))
  case atStart => exact ⟨0, by omega, rfl, Nat.zero_le _, HM0, World.grownBy.refl _ _⟩
  case round =>
    obtain ⟨k, hkg, rfl, hk, HM, HG⟩ := hrel
    have hws := HG.out.size
    have HBr := hide (HBW.out _ HG.out)
    cases gk with
    | zero =>
      have hlt' : decide ((k : Int) < (l.length : Int)) = false := by simp; omega
      have hltn : decide (k < l.length) = false := by simp; omega
      have hke : k = l.length := by omega
      rw [show l.take k = l from List.take_of_length_le (by omega)] at HM
      have HMw := hide (dirM_mono HM.out HN)
      have HIOr := hide (HIO (dirSegs [] l) w.heap.size 666700 w.heap.size wr HMw.out (by omega) (fun A hA => by have := HKU.out A hA; omega) (by omega) (by omega))
      go_wp2_with fail
      refine HIOr.out.mono ?_
      rintro e w9 ⟨⟨v9, rfl, r9⟩, b9⟩
      obtain ⟨a9, c9, rfl, -⟩ := rowSpot_at r9
      have R9 := hide r9
      have B9 : Hid (Below w.heap.size w w9) := HBr.out.trans (b9.mono (by omega))
      clear r9 b9
      go_wp2
      go_ret
      exact ⟨⟨_, rfl, R9.out⟩, B9.out⟩
    | succ g0 =>
      have hlt : k < l.length := by omega
      have hlt' : decide ((k : Int) < (l.length : Int)) = true := by simp; omega
      have hltn : decide (k < l.length) = true := by simp; omega
      have hi0 : (0 : Int) ≤ (k : Int) := by omega
      have hi1 : (k : Int) < (l.length : Int) := by omega
      obtain ⟨g, hg, hgw, hc0, hc1, ⟨a, c, hc2, hrb⟩, ⟨a', c', hc3, hrp⟩, hc4, hc5, hc6⟩ := buildG_at G1.out k hlt
      subst hg
      have hbl := HBL.out l[k] (List.getElem_mem hlt)
      have HOKk := hide (HOK.out l[k] (List.getElem_mem hlt))
      have htk := hide (List.take_succ_eq_append_getElem hlt)
      have htN : segsN (l.take k) + chsN l[k].bs ≤ segsN l := by
        rw [← segsN_snoc, ← htk.out]
        exact segsN_take_le l (k + 1)
      have HBAT := hide (rowBatch_rows hrb).2
      have HPLS := hide hrp
      clear hrb hrp
      generalize l[k] = F at hc0 hc1 hc2 hc3 hc4 hc5 hc6 htk hbl HOKk htN HBAT HPLS
      have HPG : Hid (∀ j (h : j < F.pls.length), F.pls[j] = F.hd + totD (F.bs.take j)) := fun j h => plsB_get F.bs F.hd j h
      have hpl := hide F.pls_len
      obtain ⟨P, HP⟩ : ∃ P, Hid (F.pls = P) := ⟨_, hide rfl⟩
      rw [HP.out] at hc3 HPLS hpl
      have hd0 := (HBr.out.cell (p := ⟨g, k * 7, none⟩) hgw).trans hc0
      have hd1 := (HBr.out.cell (p := ⟨g, k * 7 + 1, none⟩) hgw).trans hc1
      have hd2 := (HBr.out.cell (p := ⟨g, k * 7 + 2, none⟩) hgw).trans hc2
      have hd3 := (HBr.out.cell (p := ⟨g, k * 7 + 3, none⟩) hgw).trans hc3
      have hd4 := (HBr.out.cell (p := ⟨g, k * 7 + 4, none⟩) hgw).trans hc4
      have hd5 := (HBr.out.cell (p := ⟨g, k * 7 + 5, none⟩) hgw).trans hc5
      have hd6 := (HBr.out.cell (p := ⟨g, k * 7 + 6, none⟩) hgw).trans hc6
      clear hc0 hc1 hc2 hc3 hc4 hc5 hc6
      obtain ⟨wO, rfl⟩ : ∃ wO, wO = wr := ⟨_, rfl⟩
      obtain ⟨wX, hwX⟩ : ∃ x, x = wO.alloc (.cells #[.int .i64 (F.num : Int), .int .i64 (F.frm : Int), .slice a F.bs.length c, .slice a' P.length c', .int .i64 (F.fin : Int), .bool F.right, .bool F.torn] 161) := ⟨_, rfl⟩
      have BX : Hid (Below wO.heap.size wO wX) := by rw [hwX]; exact (Below.refl _ wO).alloc (Nat.le_refl _) _
      have hxs : wX.heap.size = wO.heap.size + 1 := by rw [hwX]; simp
      have HXB : Hid (wX.heap[wO.heap.size]? = some (.cells #[.int .i64 (F.num : Int), .int .i64 (F.frm : Int), .slice a F.bs.length c, .slice a' P.length c', .int .i64 (F.fin : Int), .bool F.right, .bool F.torn] 161 (0, 0))) := by rw [hwX]; exact heap_alloc_new wO _
      have hx2 : wX.cell? ⟨wO.heap.size, 2, none⟩ = some (.slice a F.bs.length c) := (cell_of_row wX _ 2 _ _ (0, 0) HXB.out).trans rfl
      obtain ⟨n0, HN0⟩ : ∃ n, Hid (segsN (l.take k) = n) := ⟨_, hide rfl⟩
      obtain ⟨D0, HD0⟩ : ∃ n, Hid (dirSegs [] (l.take k) = n) := ⟨_, hide rfl⟩
      rw [HN0.out, HD0.out] at HM
      rw [HN0.out] at htN
      have HMX := hide (dirM_below HM.out BX.out)
      have HGX : Hid (wm.grownBy wX (some w.heap.size)) := grownBy_trans HG.out (grownBy_below _ BX.out)
      have HNX : Hid (segsN (l.take (k + 1)) = n0 + chsN F.bs ∧ dirSegs [] (l.take (k + 1)) = batsIn (F.num : Int) D0 F.hd F.bs) := by
        show _ ∧ _
        rw [htk.out, segsN_snoc, dirSegs_snoc, HN0.out, HD0.out]
        exact ⟨rfl, rfl⟩
      have hmw : w.heap.size < wO.heap.size := by omega
      go_wp2_with fail
      rw [← hwX]
      clear hwX hx2 hd0 hd1 hd2 hd3 hd4 hd5 hd6 BX
      go_loopg [18] F.bs.length (fun g2 ii wy => ∃ (j : Nat), j + g2 = F.bs.length ∧ ii = .int .i64 j ∧ j ≤ F.bs.length ∧ Hid (DirM wy w.heap.size (n0 + chsN (F.bs.take j)) (batsIn (F.num : Int) D0 F.hd (F.bs.take j))) ∧ Hid (wX.grownBy wy (some w.heap.size)))
      case atStart => exact ⟨0, by omega, rfl, Nat.zero_le _, HMX, World.grownBy.refl _ _⟩
      case round =>
        obtain ⟨j, hjg, rfl, hj, HMy, HGy⟩ := hrel
        have hwy := HGy.out.size
        have HBy := hide (HBW.out _ (grownBy_trans HGX.out HGy.out))
        cases gk with
        | zero =>
          have hjt' : decide ((j : Int) < (F.bs.length : Int)) = false := by simp; omega
          have hjtn : decide (j < F.bs.length) = false := by simp; omega
          rw [show F.bs.take j = F.bs from List.take_of_length_le (by omega)] at HMy
          go_wp2
          go_roundg g0
          case measure => omega
          case rel => exact ⟨k + 1, by omega, by go_num, by omega, by show DirM _ _ _ _; rw [HNX.out.1, HNX.out.2]; exact HMy.out, grownBy_trans HGX.out HGy.out⟩
        | succ g2 =>
          have hjt : j < F.bs.length := by omega
          have hjt' : decide ((j : Int) < (F.bs.length : Int)) = true := by simp; omega
          have hjtn : decide (j < F.bs.length) = true := by simp; omega
          have hj0 : (0 : Int) ≤ (j : Int) := by omega
          have hj1 : (j : Int) < (F.bs.length : Int) := by omega
          have hj2 : (j : Int) < (P.length : Int) := by have := hpl.out; omega
          obtain ⟨b, off, hab, hbw, he0, a2, c2, he1, hch⟩ := HBAT.out j hjt
          obtain ⟨gp, hgp, hgpw, hep⟩ := rowNat_at HPLS.out j (by have := hpl.out; omega)
          have hpv : P[j]'(by have := hpl.out; omega) = F.hd + totD (F.bs.take j) := by have := HPG.out j (by rw [HP.out]; have := hpl.out; omega); simpa [HP.out] using this
          rw [hpv] at hep
          have htj := hide (List.take_succ_eq_append_getElem hjt)
          have hokb := HOKk.out F.bs[j] (List.getElem_mem hjt)
          have htn2 : chsN (F.bs.take j) + F.bs[j].chs.length ≤ chsN F.bs := by
            rw [← chsN_snoc, ← htj.out]
            exact chsN_take_le F.bs (j + 1)
          generalize F.bs[j] = A at he0 he1 hch htj hokb htn2
          subst hab hgp
          have hsm := textOk_small hokb
          have HCH := hide hch
          obtain ⟨ps, HPS⟩ : ∃ p : Nat, Hid (F.hd + totD (F.bs.take j) = p) := ⟨_, hide rfl⟩
          rw [HPS.out] at hep
          have HNj : Hid (chsN (F.bs.take (j + 1)) = chsN (F.bs.take j) + A.chs.length ∧ batsIn (F.num : Int) D0 F.hd (F.bs.take (j + 1)) = chsIn (F.num : Int) (ps : Int) A.seq (batsIn (F.num : Int) D0 F.hd (F.bs.take j)) A.chs) := by
            show _ ∧ _
            rw [htj.out, chsN_snoc, batsIn_snoc, HPS.out]
            exact ⟨rfl, rfl⟩
          generalize chsN (F.bs.take j) = nj at HMy htn2 HNj
          generalize batsIn (F.num : Int) D0 F.hd (F.bs.take j) = Dj at HMy HNj
          have hy0 := (HBy.out.cell (p := ⟨b, off + j * 2, none⟩) hbw).trans he0
          have hy1 := (HBy.out.cell (p := ⟨b, off + j * 2 + 1, none⟩) hbw).trans he1
          clear he0 he1 hch hpv
          obtain ⟨wY, hwY⟩ : ∃ x, x = wr.alloc (.cells #[.int .i64 A.seq, .slice a2 A.chs.length c2] 96) := ⟨_, rfl⟩
          have BY : Hid (Below wr.heap.size wr wY) := by rw [hwY]; exact (Below.refl _ wr).alloc (Nat.le_refl _) _
          have hYB : wY.heap[wr.heap.size]? = some (.cells #[.int .i64 A.seq, .slice a2 A.chs.length c2] 96 (0, 0)) := by rw [hwY]; exact heap_alloc_new wr _
          have hSB := (BY.out.block wO.heap.size (by omega)).trans ((HGy.out.block wO.heap.size (by omega) (by simp; omega)).trans HXB.out)
          have hz0 : wY.cell? ⟨wr.heap.size, 0, none⟩ = some (.int .i64 A.seq) := (cell_of_row wY _ 0 _ _ (0, 0) hYB).trans rfl
          have hz1 : wY.cell? ⟨wr.heap.size, 1, none⟩ = some (.slice a2 A.chs.length c2) := (cell_of_row wY _ 1 _ _ (0, 0) hYB).trans rfl
          have hz2 : wY.cell? ⟨wO.heap.size, 0, none⟩ = some (.int .i64 (F.num : Int)) := (cell_of_row wY _ 0 _ _ (0, 0) hSB).trans rfl
          have hz3 : wY.cell? ⟨wO.heap.size, 3, none⟩ = some (.slice (some ⟨gp, 0, none⟩) P.length c') := (cell_of_row wY _ 3 _ _ (0, 0) hSB).trans rfl
          have hz4 : wY.cell? ⟨gp, j, none⟩ = some (.int .i64 (ps : Int)) := ((HBy.out.trans (BY.out.mono HBy.out.size)).cell (p := ⟨gp, j, none⟩) hgpw).trans hep
          have HMY := hide (dirM_below HMy.out BY.out)
          have HCY : Hid (ChangesAt wY a2 A.chs) := changesAt_keep HCH.out (HBy.out.trans (BY.out.mono HBy.out.size))
          have HGY : Hid (wX.grownBy wY (some w.heap.size)) := grownBy_trans HGy.out (grownBy_below _ BY.out)
          have HMC : Hid (0 < A.chs.length → ∀ b off, a2 = some ⟨b, off, none⟩ → b ≠ w.heap.size) := fun h b off e => by
            obtain ⟨b', off', e', h', -⟩ := HCH.out 0 h
            rw [e] at e'
            cases e'
            omega
          have HTL : Hid (∀ W, wY.drewN 1 = W ∨ wY.drew = W ∨ wY = W → Calls Tryz.prog 173 #[.map (some w.heap.size), .agg #[.int .i64 A.seq, .slice a2 A.chs.length c2], .int .i64 (F.num : Int), .int .i64 (ps : Int)] W fun e w' => e = .returned (.tuple #[]) ∧ DirM w' w.heap.size (n0 + nj + A.chs.length) (chsIn (F.num : Int) (ps : Int) A.seq Dj A.chs) ∧ W.grownBy w' (some w.heap.size)) := by
            intro W hW
            have hb : Below wY.heap.size wY W := by
              rcases hW with rfl | rfl | rfl
              · exact drewN_below wY 1
              · exact (Below.refl _ _).drew
              · exact Below.refl _ _
            exact tell_any Dj w.heap.size (n0 + nj) A.seq F.num ps A.chs a2 c2 W (dirM_below HMY.out hb) (by omega) (by omega) (changesAt_keep HCY.out hb) HMC.out (fun B hB => by have := (hsm.2.2 B hB).1; omega)
          clear hYB hSB hep
          have hn1 : wr.heap.size ≠ w.heap.size := by omega
          have hn2 : wO.heap.size ≠ w.heap.size := by omega
          have hn3 : gp ≠ w.heap.size := by omega
          go_wp2_with fail
          rw [← hwY]
          clear hwY hy0 hy1
          go_region_held3 (fun w' => w'.cell? ⟨wr.heap.size, 0, none⟩ = some (.int .i64 A.seq) ∧ w'.cell? ⟨wr.heap.size, 1, none⟩ = some (.slice a2 A.chs.length c2) ∧ w'.cell? ⟨wO.heap.size, 0, none⟩ = some (.int .i64 (F.num : Int)) ∧ w'.cell? ⟨wO.heap.size, 3, none⟩ = some (.slice (some ⟨gp, 0, none⟩) P.length c') ∧ w'.cell? ⟨gp, j, none⟩ = some (.int .i64 (ps : Int))) (first | go_keep | (exact ⟨hz0, hz1, hz2, hz3, hz4⟩) | (exact ⟨cells_grown hg5 hz0 hn1, cells_grown hg5 hz1 hn1, cells_grown hg5 hz2 hn2, cells_grown hg5 hz3 hn2, cells_grown hg5 hz4 hn3⟩)) ((go_at_call 173; refine (HTL.out _ (by first | exact .inr (.inl rfl) | exact .inr (.inr rfl) | exact .inl rfl)).mono ?_; rintro e w5 ⟨rfl, hm5, hg5⟩))
          have HM5 := hide hm5
          have HG5 : Hid (wX.grownBy w5 (some w.heap.size)) := grownBy_trans HGY.out (grownBy_trans (grownBy_below _ ((Below.refl _ wY).drew)) hg5)
          clear hm5 hg5
          go_wp2
          go_roundg g2
          case measure => omega
          case rel => exact ⟨j + 1, by omega, by go_num, by omega, by show DirM _ _ _ _; rw [HNj.out.1, HNj.out.2, ← Nat.add_assoc]; exact HM5.out, HG5⟩
theorem segsL_tell (fs : List FileD) : segsN (segsL fs) ≤ 666700 ∧ (∀ s ∈ segsL fs, s.bs.length ≤ 20001) ∧ (∀ s ∈ segsL fs, ∀ b ∈ s.bs, textOkD b.seq b.chs = true) ∧ (∀ A ∈ dirSegs [] (segsL fs), A.key.size ≤ 20) ∧ (dirSegs [] (segsL fs)).length ≤ 1000000 :=
  ⟨segsL_N fs, segsL_bl, fun s hs => segsL_ok hs, dirD_keys fs, by have := dirD_len fs; unfold dirD at this; omega⟩
end Go.Proofs.YtmmchemgegmhhaaGreatDoor
namespace Go.Proofs.YtmmchemgegmhhaaGreatDoor
open Go.RowKit
theorem eqAct_same (A : ActD) (w : World) :
    Calls Tryz.prog 69 #[.agg #[.int .i64 A.kind, .string A.name, .string A.text, .string A.toN], .agg #[.int .i64 A.kind, .string A.name, .string A.text, .string A.toN]] w fun e w' => e = .returned (.bool true) ∧ Below w.heap.size w w' := by
  obtain ⟨a0, a1, a2, a3⟩ := A
  have h0 : (a0 == a0) = true := beq_self_eq_true _
  have h1 : (a1.toList == a1.toList) = true := beq_self_eq_true _
  have h2 : (a2.toList == a2.toList) = true := beq_self_eq_true _
  have h3 : (a3.toList == a3.toList) = true := beq_self_eq_true _
  go_enter Tryz.func69, Tryz.ntmps69
  go_wp2
  go_ret
  exact ⟨rfl, ((Below.refl _ w).alloc (Nat.le_refl _) _).alloc (by simp) _⟩
def ActsIn (C : Array Value) (fs : List ActD) (k : Nat) : Prop := ∀ j (h : j < fs.length), j < k → C[j * 4]? = some (.int .i64 fs[j].kind) ∧ C[j * 4 + 1]? = some (.string fs[j].name) ∧ C[j * 4 + 2]? = some (.string fs[j].text) ∧ C[j * 4 + 3]? = some (.string fs[j].toN)
theorem Tryz.infoAct : (Tryz.prog.info? 103).map (fun i => (i.zero, i.size, i.bytes)) = some (some (.agg #[.int .i64 0, .string ⟨#[]⟩, .string ⟨#[]⟩, .string ⟨#[]⟩]), 4, 56) := by kernel_rfl
def putAct (C : Array Value) (k : Nat) (A : ActD) : Array Value := (((C.setIfInBounds (k * 4) (.int .i64 A.kind)).setIfInBounds (k * 4 + 1) (.string A.name)).setIfInBounds (k * 4 + 2) (.string A.text)).setIfInBounds (k * 4 + 3) (.string A.toN)
theorem putAct_size (C : Array Value) (k : Nat) (A : ActD) : (putAct C k A).size = C.size := by simp [putAct]
theorem actsIn_put {C : Array Value} {fs : List ActD} {k : Nat} (h : ActsIn C fs k) (hk : k < fs.length) (hs : fs.length * 4 ≤ C.size) : ActsIn (putAct C k fs[k]) fs (k + 1) := by
  intro j hj hjk
  unfold putAct
  by_cases e : j = k
  · subst e
    refine ⟨?_, ?_, ?_, ?_⟩ <;> simp [Array.getElem?_setIfInBounds] <;> omega
  · obtain ⟨h0, h1, h2, h3⟩ := h j hj (by omega)
    refine ⟨?_, ?_, ?_, ?_⟩
    · rw [Array.getElem?_setIfInBounds_ne (by omega), Array.getElem?_setIfInBounds_ne (by omega), Array.getElem?_setIfInBounds_ne (by omega), Array.getElem?_setIfInBounds_ne (by omega)]; exact h0
    · rw [Array.getElem?_setIfInBounds_ne (by omega), Array.getElem?_setIfInBounds_ne (by omega), Array.getElem?_setIfInBounds_ne (by omega), Array.getElem?_setIfInBounds_ne (by omega)]; exact h1
    · rw [Array.getElem?_setIfInBounds_ne (by omega), Array.getElem?_setIfInBounds_ne (by omega), Array.getElem?_setIfInBounds_ne (by omega), Array.getElem?_setIfInBounds_ne (by omega)]; exact h2
    · rw [Array.getElem?_setIfInBounds_ne (by omega), Array.getElem?_setIfInBounds_ne (by omega), Array.getElem?_setIfInBounds_ne (by omega), Array.getElem?_setIfInBounds_ne (by omega)]; exact h3
theorem actsAt_own {w : World} {g : Nat} {C : Array Value} {t : TypeId} {fs : List ActD} (h : w.heap[g]? = some (.cells C t (0, 0))) (hC : ActsIn C fs fs.length) : ActsAt w (some ⟨g, 0, none⟩) fs := by
  intro j hj
  obtain ⟨h0, h1, h2, h3⟩ := hC j hj hj
  have hg : g < w.heap.size := (Array.getElem?_eq_some_iff.1 h).1
  refine ⟨g, 0, rfl, hg, ?_, ?_, ?_, ?_⟩
  · rw [Nat.zero_add, cell_of_row w g _ C t (0, 0) h, h0]
  · rw [Nat.zero_add, cell_of_row w g _ C t (0, 0) h, h1]
  · rw [Nat.zero_add, cell_of_row w g _ C t (0, 0) h, h2]
  · rw [Nat.zero_add, cell_of_row w g _ C t (0, 0) h, h3]
theorem eqActS_same (fs : List ActD) (ao ao2 : Option Addr) (cap cap2 : Nat) (w : World) (hl : fs.length ≤ maxLen) (h1 : ActsAt w ao fs) (h2 : ActsAt w ao2 fs) :
    Calls Tryz.prog 24 #[.slice ao fs.length cap, .slice ao2 fs.length cap2] w fun e w' => e = .returned (.bool true) ∧ Below w.heap.size w w' := by
  have H1 := hide h1
  have H2 := hide h2
  clear h1 h2
  unfold maxLen at hl
  have hne : (!((fs.length : Int) == (fs.length : Int))) = false := by simp
  go_enter Tryz.func24, Tryz.ntmps24
  go_wp2
  go_loopw [5] (fun ii wr => ∃ (k : Nat), ii = .int .i64 k ∧ k ≤ fs.length ∧ Hid (Below w.heap.size w wr)) (fun ii _ => fs.length - (intOf ii).toNat)
  case atStart => exact ⟨0, rfl, Nat.zero_le _, Below.refl _ _⟩
  case round =>
    obtain ⟨k, rfl, hk, HB⟩ := hrel
    by_cases hlt : k < fs.length
    · have hlt' : decide ((k : Int) < (fs.length : Int)) = true := by simp; omega
      obtain ⟨b, off, rfl, hbw, hc0, hc1, hc2, hc3⟩ := actsAt_keep H1.out HB.out k hlt
      obtain ⟨b', off', rfl, hbw', hd0, hd1, hd2, hd3⟩ := actsAt_keep H2.out HB.out k hlt
      generalize fs[k] = F at hc0 hc1 hc2 hc3 hd0 hd1 hd2 hd3
      have hi0 : (0 : Int) ≤ (k : Int) := by omega
      have hi1 : (k : Int) < (fs.length : Int) := by omega
      have HBw := hide hbw
      have HBw' := hide hbw'
      clear hbw hbw'
      go_wp2_with fail
      go_region_held3 (fun w' => w'.cell? ⟨b, off + k * 4, none⟩ = some (.int .i64 F.kind) ∧ w'.cell? ⟨b, off + k * 4 + 1, none⟩ = some (.string F.name) ∧ w'.cell? ⟨b, off + k * 4 + 2, none⟩ = some (.string F.text) ∧ w'.cell? ⟨b, off + k * 4 + 3, none⟩ = some (.string F.toN) ∧ w'.cell? ⟨b', off' + k * 4, none⟩ = some (.int .i64 F.kind) ∧ w'.cell? ⟨b', off' + k * 4 + 1, none⟩ = some (.string F.name) ∧ w'.cell? ⟨b', off' + k * 4 + 2, none⟩ = some (.string F.text) ∧ w'.cell? ⟨b', off' + k * 4 + 3, none⟩ = some (.string F.toN)) (first | go_keep | (exact ⟨(b1.cell (p := ⟨b, off + k * 4, none⟩) HBw.out).trans hc0, (b1.cell (p := ⟨b, off + k * 4 + 1, none⟩) HBw.out).trans hc1, (b1.cell (p := ⟨b, off + k * 4 + 2, none⟩) HBw.out).trans hc2, (b1.cell (p := ⟨b, off + k * 4 + 3, none⟩) HBw.out).trans hc3, (b1.cell (p := ⟨b', off' + k * 4, none⟩) HBw'.out).trans hd0, (b1.cell (p := ⟨b', off' + k * 4 + 1, none⟩) HBw'.out).trans hd1, (b1.cell (p := ⟨b', off' + k * 4 + 2, none⟩) HBw'.out).trans hd2, (b1.cell (p := ⟨b', off' + k * 4 + 3, none⟩) HBw'.out).trans hd3⟩)) ((go_at_call 69; refine (eqAct_same F _).mono ?_; rintro e w1 ⟨rfl, b1⟩))
      go_wp2
      go_roundw
      case rel => exact ⟨k + 1, by go_num, by omega, HB.out.trans (((Below.refl _ _).drew.trans b1).mono HB.out.size)⟩
      case measure => simp [intOf]; omega
    · have hlt' : decide ((k : Int) < (fs.length : Int)) = false := by simp; omega
      go_wp2
      go_ret
      exact ⟨rfl, HB.out⟩
def markActD (k : Nat) : ActD := ⟨((k : Nat) : Int), ⟨(mk (k + 1)).toArray⟩, ⟨(mk (k + 2)).toArray⟩, ⟨(mk (k + 3)).toArray⟩⟩
def markActDs (k n : Nat) : List ActD := (List.range n).map (fun j => markActD (k + 4 * j))
theorem markActDs_length (k n : Nat) : (markActDs k n).length = n := by simp [markActDs]
theorem markActDs_get (k n j : Nat) (h : j < (markActDs k n).length) : (markActDs k n)[j] = markActD (k + 4 * j) := by simp [markActDs]
theorem markAct_1 (K : Nat) (w : World) (h : K ≤ 20000000) : Calls Tryz.prog 72 #[.int .i64 ((K : Int) + 1)] w fun e w' => e = .returned (.string ⟨(mk (K + 1)).toArray⟩) ∧ Below w.heap.size w w' := by
  have h := mark_any (K + 1) w (by omega) (by omega)
  rw [show (((K + 1 : Nat)) : Int) = (K : Int) + 1 from by omega] at h
  exact h
theorem markAct_2 (K : Nat) (w : World) (h : K ≤ 20000000) : Calls Tryz.prog 72 #[.int .i64 ((K : Int) + 1 + 1)] w fun e w' => e = .returned (.string ⟨(mk (K + 2)).toArray⟩) ∧ Below w.heap.size w w' := by
  have h := mark_any (K + 2) w (by omega) (by omega)
  rw [show (((K + 2 : Nat)) : Int) = (K : Int) + 1 + 1 from by omega] at h
  exact h
theorem markAct_3 (K : Nat) (w : World) (h : K ≤ 20000000) : Calls Tryz.prog 72 #[.int .i64 ((K : Int) + 1 + 1 + 1)] w fun e w' => e = .returned (.string ⟨(mk (K + 3)).toArray⟩) ∧ Below w.heap.size w w' := by
  have h := mark_any (K + 3) w (by omega) (by omega)
  rw [show (((K + 3 : Nat)) : Int) = (K : Int) + 1 + 1 + 1 from by omega] at h
  exact h
theorem markActS_row (g cap n : Nat) (C0 : Array Value) (k : Nat) (w : World) (hn : n ≤ 1048576) (hk0 : 0 < k) (hk : k ≤ 10000000) (hC : w.heap[g]? = some (.cells C0 103 (0, 0))) (hs : n * 4 ≤ C0.size) :
    Calls Tryz.prog 26 #[.slice (some ⟨g, 0, none⟩) n cap, .int .i64 (k : Int)] w fun e w' => e = .returned (.int .i64 ((k + 4 * n : Nat) : Int)) ∧ (∃ C : Array Value, w'.heap[g]? = some (.cells C 103 (0, 0)) ∧ C.size = C0.size ∧ ActsIn C (markActDs k n) n) ∧ w.grownBy w' (some g) := by
  have HC0 := hide hC
  clear hC
  go_enter Tryz.func26, Tryz.ntmps26
  go_wp2
  go_loopw [1, 5] (fun kk ii wr => ∃ (j : Nat) (C : Array Value), kk = .int .i64 ((k + 4 * j : Nat) : Int) ∧ ii = .int .i64 j ∧ j ≤ n ∧ Hid (wr.heap[g]? = some (.cells C 103 (0, 0))) ∧ C.size = C0.size ∧ Hid (ActsIn C (markActDs k n) j) ∧ Hid (w.grownBy wr (some g))) (fun _ ii _ => n - (intOf ii).toNat)
  case atStart => exact ⟨0, C0, rfl, rfl, Nat.zero_le _, HC0, rfl, fun j _ hj => absurd hj (by omega), World.grownBy.refl _ _⟩
  case round =>
    obtain ⟨j, C, rfl, rfl, hj, HC, hCs, HI, HG⟩ := hrel
    by_cases hlt : j < n
    · have hlt' : decide ((j : Int) < (n : Int)) = true := by simp; omega
      have hi0 : (0 : Int) ≤ (j : Int) := by omega
      have hi1 : (j : Int) < (n : Int) := by omega
      have hgw : g < wr.heap.size := (Array.getElem?_eq_some_iff.1 HC.out).1
      obtain ⟨K, HK⟩ : ∃ K : Nat, Hid (K = k + 4 * j) := ⟨_, hide rfl⟩
      have hKb : 0 < K ∧ K ≤ 15000000 := by have := HK.out; omega
      rw [← HK.out]
      have hq0 := cell_of_row wr g (j * 4) _ _ (0, 0) HC.out
      have hf0 := frozen_of_row wr g (j * 4) _ _ HC.out
      rw [Array.getElem?_eq_getElem (by first | omega | (simp; omega))] at hq0
      go_wp2_with fail
      refine (markAct_1 K _ (by omega)).mono ?_
      rintro e w1 ⟨rfl, b1⟩
      have HC1 : Hid (w1.heap[g]? = some (.cells (C.setIfInBounds (j * 4) (.int .i64 ((K : Nat) : Int))) 103 (0, 0))) := (b1.block g (by simpa [World.setCell] using hgw)).trans (heap_setCell_same _ g _ _ _ _ HC.out)
      have hgw1 : g < w1.heap.size := (Array.getElem?_eq_some_iff.1 HC1.out).1
      have HG1 : Hid (w.grownBy w1 (some g)) := grownBy_trans (grownBy_store HG.out (j * 4) _) (grownBy_below _ b1)
      clear hq0 hf0
      have hq1 := cell_of_row w1 g (j * 4 + 1) _ _ (0, 0) HC1.out
      have hf1 := frozen_of_row w1 g (j * 4 + 1) _ _ HC1.out
      rw [Array.getElem?_eq_getElem (by first | omega | (simp; omega))] at hq1
      go_wp2_with fail
      refine (markAct_2 K _ (by omega)).mono ?_
      rintro e w2 ⟨rfl, b2⟩
      have HC2 : Hid (w2.heap[g]? = some (.cells ((C.setIfInBounds (j * 4) (.int .i64 ((K : Nat) : Int))).setIfInBounds (j * 4 + 1) (.string ⟨(mk (K + 1)).toArray⟩)) 103 (0, 0))) := (b2.block g (by have := b1.size; simp [World.setCell] at *; omega)).trans (heap_setCell_same _ g _ _ _ _ HC1.out)
      have hgw2 : g < w2.heap.size := (Array.getElem?_eq_some_iff.1 HC2.out).1
      have HG2 : Hid (w.grownBy w2 (some g)) := grownBy_trans (grownBy_store HG1.out (j * 4 + 1) _) (grownBy_below _ b2)
      clear hq1 hf1
      have hq2 := cell_of_row w2 g (j * 4 + 2) _ _ (0, 0) HC2.out
      have hf2 := frozen_of_row w2 g (j * 4 + 2) _ _ HC2.out
      rw [Array.getElem?_eq_getElem (by first | omega | (simp; omega))] at hq2
      go_wp2_with fail
      refine (markAct_3 K _ (by omega)).mono ?_
      rintro e w3 ⟨rfl, b3⟩
      have HC3 : Hid (w3.heap[g]? = some (.cells (((C.setIfInBounds (j * 4) (.int .i64 ((K : Nat) : Int))).setIfInBounds (j * 4 + 1) (.string ⟨(mk (K + 1)).toArray⟩)).setIfInBounds (j * 4 + 2) (.string ⟨(mk (K + 2)).toArray⟩)) 103 (0, 0))) := (b3.block g (by have := b2.size; simp [World.setCell] at *; omega)).trans (heap_setCell_same _ g _ _ _ _ HC2.out)
      have hgw3 : g < w3.heap.size := (Array.getElem?_eq_some_iff.1 HC3.out).1
      have HG3 : Hid (w.grownBy w3 (some g)) := grownBy_trans (grownBy_store HG2.out (j * 4 + 2) _) (grownBy_below _ b3)
      clear hq2 hf2
      have hq3 := cell_of_row w3 g (j * 4 + 3) _ _ (0, 0) HC3.out
      have hf3 := frozen_of_row w3 g (j * 4 + 3) _ _ HC3.out
      rw [Array.getElem?_eq_getElem (by first | omega | (simp; omega))] at hq3
      go_wp2_with fail
      go_roundw
      case rel =>
        have hl := markActDs_length k n
        have HP := actsIn_put HI.out (by omega) (by omega)
        rw [markActDs_get, ← HK.out] at HP
        refine ⟨j + 1, putAct C j (markActD K), ?_, by go_num, by omega, heap_setCell_same _ g _ _ _ _ HC3.out, by rw [putAct_size]; exact hCs, HP, grownBy_store HG3.out (j * 4 + 3) _⟩
        have := HK.out
        congr 1
        omega
      case measure => simp [intOf]; omega
    · have hlt' : decide ((j : Int) < (n : Int)) = false := by simp; omega
      have hje : j = n := by omega
      subst hje
      go_wp2
      go_ret
      exact ⟨rfl, ⟨C, HC.out, hCs, HI.out⟩, HG.out⟩
def cellsAct : List ActD → List Value
  | [] => []
  | A :: r => .int .i64 A.kind :: .string A.name :: .string A.text :: .string A.toN :: cellsAct r
theorem cellsAct_append : ∀ (a b : List ActD), cellsAct (a ++ b) = cellsAct a ++ cellsAct b
  | [], _ => rfl
  | A :: r, b => by simp [cellsAct, cellsAct_append r b]
theorem cellsAct_length : ∀ a : List ActD, (cellsAct a).length = a.length * 4
  | [] => rfl
  | A :: r => by simp [cellsAct, cellsAct_length r]; omega
theorem cellsAct_one : ∀ (a : List ActD), ∀ u ∈ cellsAct a, u.oneCell' = true
  | [], u, h => absurd h List.not_mem_nil
  | A :: r, u, h => by
    simp only [cellsAct, List.mem_cons] at h
    rcases h with rfl | rfl | rfl | rfl | h
    · rfl
    · rfl
    · rfl
    · rfl
    · exact cellsAct_one r u h
theorem cellsAct_get : ∀ (a : List ActD) (j : Nat) (h : j < a.length), (cellsAct a)[j * 4]? = some (.int .i64 a[j].kind) ∧ (cellsAct a)[j * 4 + 1]? = some (.string a[j].name) ∧ (cellsAct a)[j * 4 + 2]? = some (.string a[j].text) ∧ (cellsAct a)[j * 4 + 3]? = some (.string a[j].toN)
  | [], _, h => absurd h (by simp)
  | A :: r, 0, _ => by simp [cellsAct]
  | A :: r, j + 1, h => by
    have := cellsAct_get r j (by simpa using h)
    have e : (j + 1) * 4 = j * 4 + 4 := by omega
    simp only [cellsAct, e]
    simpa using this
def RowAct (w : World) (B : Nat) (v : Value) (fs : List ActD) : Prop := (v = .slice none 0 0 ∧ fs = []) ∨
  ∃ (g cap : Nat) (C : Array Value), v = .slice (some ⟨g, 0, none⟩) fs.length cap ∧ B ≤ g ∧ w.heap[g]? = some (.cells C 103 (0, 0)) ∧ fs.length * 4 ≤ C.size ∧ ActsIn C fs fs.length
theorem rowAct_at {w : World} {B : Nat} {v : Value} {fs : List ActD} (h : RowAct w B v fs) : ∃ ao cap, v = .slice ao fs.length cap ∧ ActsAt w ao fs := by
  rcases h with ⟨rfl, rfl⟩ | ⟨g, cap, C, rfl, _, hC, _, hI⟩
  · exact ⟨none, 0, rfl, fun j hj => absurd hj (by simp)⟩
  · exact ⟨_, cap, rfl, actsAt_own hC hI⟩
theorem rowAct_lt {w : World} {B : Nat} {v : Value} {fs : List ActD} (h : RowAct w B v fs) : ∀ g, v.ownBlock = some g → B ≤ g ∧ g < w.heap.size := by
  rcases h with ⟨rfl, rfl⟩ | ⟨g, cap, C, rfl, hB, hC, _, hI⟩
  · intro g h; cases h
  · intro g' h
    obtain rfl : g = g' := by simpa [Value.ownBlock] using h
    exact ⟨hB, (Array.getElem?_eq_some_iff.1 hC).1⟩
theorem rowAct_keep {w w' : World} {B : Nat} {v : Value} {fs : List ActD} (h : RowAct w B v fs) (hk : ∀ g, v.ownBlock = some g → w'.heap[g]? = w.heap[g]?) : RowAct w' B v fs := by
  rcases h with ⟨rfl, rfl⟩ | ⟨g, cap, C, rfl, hB, hC, hs, hI⟩
  · exact .inl ⟨rfl, rfl⟩
  · exact .inr ⟨g, cap, C, rfl, hB, (hk g rfl).trans hC, hs, hI⟩
theorem rowAct_below {w w' : World} {B : Nat} {v : Value} {fs : List ActD} (h : RowAct w B v fs) (hb : Below w.heap.size w w') : RowAct w' B v fs :=
  rowAct_keep h (fun g hg => hb.block g (rowAct_lt h g hg).2)
theorem rowAct_le {w : World} {B B' : Nat} {v : Value} {fs : List ActD} (h : RowAct w B v fs) (hB : B' ≤ B) : RowAct w B' v fs := by
  rcases h with h | ⟨g, cap, C, h1, h2, h3⟩
  · exact .inl h
  · exact .inr ⟨g, cap, C, h1, by omega, h3⟩
theorem rowAct_rows {w : World} {B n c : Nat} {a : Option Addr} {fs : List ActD} (h : RowAct w B (.slice a n c) fs) : ActsAt w a fs := by
  obtain ⟨ao, cap, e, hf⟩ := rowAct_at h
  cases e
  exact hf
theorem take_getAct {C : Array Value} {xs : List Value} {n : Nat} (h : C.toList.take n = xs) {j : Nat} {u : Value} (hj : j < n) (hu : xs[j]? = some u) : C[j]? = some u := by
  rw [← h, List.getElem?_take_of_lt hj] at hu
  simpa using hu
theorem rowAct_own {w : World} {B : Nat} {v : Value} {fs : List ActD} (h : w.ownsRow B 103 4 v fs.length (cellsAct fs)) : RowAct w B v fs := by
  rcases h.2 with ⟨rfl, hn⟩ | ⟨g, cap, cur, rfl, hB, hC, hle, _, hs, ht⟩
  · exact .inl ⟨rfl, List.eq_nil_of_length_eq_zero hn⟩
  · refine .inr ⟨g, cap, cur, rfl, hB, hC, by omega, ?_⟩
    intro j hj _
    obtain ⟨h0, h1, h2, h3⟩ := cellsAct_get fs j hj
    exact ⟨take_getAct ht (by omega) h0, take_getAct ht (by omega) h1, take_getAct ht (by omega) h2, take_getAct ht (by omega) h3⟩
theorem app_act {ops : Array Oper} {rest : List Oper} {o : Oper} {a : Act} {Q : Exit → Act → World → Prop} (W : World) (B : Nat) (hgd : o.guard = none) (s y : Operand)
    (ho : o.op = .call { callee := .builtin .append, args := #[s, y], argTypes := #[51, 51] }) (v : Value) (l : List ActD) (F : ActD) (hs : a.eval s = v)
    (hown : W.ownsRow B 103 4 v l.length (cellsAct l)) (k : Nat) (hx : a.eval y = .slice (some ⟨k, 0, none⟩) 1 1) (hblk : W.heap[k]? = some (.cells #[.int .i64 F.kind, .string F.name, .string F.text, .string F.toN] 103 (0, 0)))
    (hlen : l.length ≤ 1048576) (hbase : B ≤ W.heap.size)
    (h : ∀ g cap w', w'.ownsRow B 103 4 (.slice (some ⟨g, 0, none⟩) (l.length + 1) cap) (l ++ [F]).length (cellsAct (l ++ [F])) → Below B W w' → B ≤ g → g < w'.heap.size → wpList Tryz.prog ops Q rest (a.put o.dst (.slice (some ⟨g, 0, none⟩) (l.length + 1) cap)) w') :
    wpList Tryz.prog ops Q (o :: rest) a W := by
  obtain ⟨i0, hi, hz0, hz1, hz2⟩ := info_parts Tryz.infoAct
  refine wpList_append_lies W hgd s y 51 ho B 103 i0 (.agg #[.int .i64 0, .string ⟨#[]⟩, .string ⟨#[]⟩, .string ⟨#[]⟩]) 4 56 Tryz.underlying51 hi hz0 hz1 hz2 rfl (by decide) v l.length (cellsAct l) hs hown ⟨k, 0, none⟩ 1 1 (cellsAct [F]) hx (by rw [cellsAct_length]; rfl)
    (fun j u hj => World.news_of_block hblk j u hj) (cellsAct_one [F]) (by omega) (by unfold maxLen; omega) (by omega) hbase W.heap.size rfl ?_
  intro g cap w' hown' hgrow hg hgl
  have hlt := hown.lt
  refine h g cap w' ?_ ((Below.refl B W).grown hgrow hbase (fun k hk => (hlt k hk).1)) ?_ hgl
  · rw [cellsAct_append, List.length_append]
    exact hown'
  · rcases hg with hg | rfl
    · exact (hlt g hg).1
    · exact hbase
theorem app_acts {ops : Array Oper} {rest : List Oper} {o : Oper} {a : Act} {Q : Exit → Act → World → Prop} (W : World) (B : Nat) (hgd : o.guard = none) (s y : Operand)
    (ho : o.op = .call { callee := .builtin .append, args := #[s, y], argTypes := #[51, 51] }) (v : Value) (l rs : List ActD) (hs : a.eval s = v)
    (hown : W.ownsRow B 103 4 v l.length (cellsAct l)) (k n : Nat) (hn : rs.length = n) (hx : a.eval y = .slice (some ⟨k, 0, none⟩) n n) (hblk : W.heap[k]? = some (.cells (cellsAct rs).toArray 103 (0, 0)))
    (hlen : l.length ≤ 1048576) (hn0 : 0 < n) (hn1 : n ≤ 1000) (hbase : B ≤ W.heap.size)
    (h : ∀ g cap w', w'.ownsRow B 103 4 (.slice (some ⟨g, 0, none⟩) (l.length + n) cap) (l ++ rs).length (cellsAct (l ++ rs)) → Below B W w' → B ≤ g → g < w'.heap.size → wpList Tryz.prog ops Q rest (a.put o.dst (.slice (some ⟨g, 0, none⟩) (l.length + n) cap)) w') :
    wpList Tryz.prog ops Q (o :: rest) a W := by
  subst hn
  obtain ⟨i0, hi, hz0, hz1, hz2⟩ := info_parts Tryz.infoAct
  refine wpList_append_lies W hgd s y 51 ho B 103 i0 (.agg #[.int .i64 0, .string ⟨#[]⟩, .string ⟨#[]⟩, .string ⟨#[]⟩]) 4 56 Tryz.underlying51 hi hz0 hz1 hz2 rfl (by decide) v l.length (cellsAct l) hs hown ⟨k, 0, none⟩ rs.length rs.length (cellsAct rs) hx (by rw [cellsAct_length])
    (fun j u hj => World.news_of_block hblk j u (by simpa using hj)) (cellsAct_one rs) (by omega) (by unfold maxLen; omega) (by omega) hbase W.heap.size rfl ?_
  intro g cap w' hown' hgrow hg hgl
  have hlt := hown.lt
  refine h g cap w' ?_ ((Below.refl B W).grown hgrow hbase (fun k hk => (hlt k hk).1)) ?_ hgl
  · rw [cellsAct_append, List.length_append]
    exact hown'
  · rcases hg with hg | rfl
    · exact (hlt g hg).1
    · exact hbase
theorem app_actsR {ops : Array Oper} {rest : List Oper} {o : Oper} {a : Act} {Q : Exit → Act → World → Prop} (W : World) (B : Nat) (hgd : o.guard = none) (s y : Operand)
    (ho : o.op = .call { callee := .builtin .append, args := #[s, y], argTypes := #[51, 51] }) (v : Value) (l rs : List ActD) (hs : a.eval s = v)
    (hown : W.ownsRow B 103 4 v l.length (cellsAct l)) (B2 n : Nat) (v2 : Value) (hn : rs.length = n) (hx : a.eval y = v2) (hown2 : W.ownsRow B2 103 4 v2 rs.length (cellsAct rs))
    (hlen : l.length ≤ 1048576) (hn0 : 0 < n) (hn1 : n ≤ 1000000) (hbase : B ≤ W.heap.size)
    (h : ∀ g cap w', w'.ownsRow B 103 4 (.slice (some ⟨g, 0, none⟩) (l.length + n) cap) (l ++ rs).length (cellsAct (l ++ rs)) → Below B W w' → B ≤ g → g < w'.heap.size → wpList Tryz.prog ops Q rest (a.put o.dst (.slice (some ⟨g, 0, none⟩) (l.length + n) cap)) w') :
    wpList Tryz.prog ops Q (o :: rest) a W := by
  subst hn
  obtain ⟨i0, hi, hz0, hz1, hz2⟩ := info_parts Tryz.infoAct
  rcases hown2.2 with ⟨rfl, hn⟩ | ⟨g2, cap2, cur2, rfl, -⟩
  · omega
  refine wpList_append_lies W hgd s y 51 ho B 103 i0 (.agg #[.int .i64 0, .string ⟨#[]⟩, .string ⟨#[]⟩, .string ⟨#[]⟩]) 4 56 Tryz.underlying51 hi hz0 hz1 hz2 rfl (by decide) v l.length (cellsAct l) hs hown ⟨g2, 0, none⟩ rs.length cap2 (cellsAct rs) hx (by rw [cellsAct_length])
    (fun j u hj => hown2.cells (g := g2) rfl j u hj) (cellsAct_one rs) (by omega) (by unfold maxLen; omega) (by omega) hbase W.heap.size rfl ?_
  intro g cap w' hown' hgrow hg hgl
  have hlt := hown.lt
  refine h g cap w' ?_ ((Below.refl B W).grown hgrow hbase (fun k hk => (hlt k hk).1)) ?_ hgl
  · rw [cellsAct_append, List.length_append]
    exact hown'
  · rcases hg with hg | rfl
    · exact (hlt g hg).1
    · exact hbase
end Go.Proofs.YtmmchemgegmhhaaGreatDoor
