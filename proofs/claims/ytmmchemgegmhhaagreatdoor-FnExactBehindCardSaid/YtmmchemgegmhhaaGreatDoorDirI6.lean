/- The program's directory told in order of its keys. -/
import Derived.Test.YtmmchemgegmhhaaGreatDoorDirI4
import Derived.Test.YtmmchemgegmhhaaGreatDoorIter
import Derived.Sort.KeysCollected
namespace Go.Proofs.YtmmchemgegmhhaaGreatDoor
open Go.RowKit Go.Maps

theorem keys_sorted {w : World} {mb n : Nat} {gs : List SpotD} {D : DataW Unit} (h1 : w.ownsMap Tryz.prog 9 spotElem mb n D) (h2 : ∀ s, has D (kl s) = true ↔ ∃ F ∈ gs, F.key = s) (hs : srtS gs) {ss : List (List UInt8)} (hp : ss.Perm (strKeys D)) : ss.mergeSort (fun x y => decide (x ≤ y)) = gs.map (fun F => F.key.data.toList) := by
  have hlt : (gs.map (fun F => F.key.data.toList)).Pairwise (fun a b => Op.bytesLess a b = true) := by
    refine List.pairwise_map.2 (hs.imp fun {a b} h => ?_)
    rw [Lib.toList_data, Lib.toList_data] at h
    exact h
  have hnd : (gs.map (fun F => F.key.data.toList)).Nodup := hlt.imp fun {a b} h e => by rw [e, less_irrefl] at h; cases h
  have hm : ∀ x, x ∈ gs.map (fun F => F.key.data.toList) ↔ has D (.string x) = true := by
    intro x
    have h3 := h2 ⟨x.toArray⟩
    have e : kl ⟨x.toArray⟩ = .string x := by simp [kl]
    rw [e] at h3
    rw [h3, List.mem_map]
    constructor
    · rintro ⟨F, hF, rfl⟩
      exact ⟨F, hF, by cases F.key; simp⟩
    · rintro ⟨F, hF, e2⟩
      exact ⟨F, hF, by rw [e2]⟩
  have hc : Collected D (fun _ => false) (gs.map (fun F => F.key.data.toList)) := ⟨hnd, fun x => by rw [hm x]; simp⟩
  have hp2 := hc.perm h1 (string_keyed Tryz.underlying9) Tryz.underlying9 (fun _ => rfl)
  have h1 := mergeSort_of_perm (hp.trans hp2.symm)
  refine h1.trans ?_
  have tr : ∀ a b c : List UInt8, leB a b = true → leB b c = true → leB a c = true := fun a b c h1 h2 => by simp only [leB, decide_eq_true_eq] at *; exact List.le_trans h1 h2
  have tot : ∀ a b : List UInt8, (leB a b || leB b a) = true := fun a b => by simp only [leB, Bool.or_eq_true, decide_eq_true_eq]; exact List.le_total a b
  refine List.Perm.eq_of_pairwise (le := fun a b => leB a b = true) (fun a b _ _ h1 h2 => ?_) (List.pairwise_mergeSort tr tot _) ?_ (List.mergeSort_perm _ leB)
  · simp only [leB, decide_eq_true_eq] at h1 h2
    exact List.le_antisymm h1 h2
  · refine hlt.imp fun {a b} h => ?_
    rw [bytesLess_eq, decide_eq_true_eq] at h
    simp only [leB, decide_eq_true_eq]
    exact List.le_of_lt h

theorem dirKeys_any (mb : Option Nat) (W : World) : Calls Tryz.prog 201 #[.map mb] W fun e w' => e = .returned (.func (.func 220) #[] #[.pointer (some ⟨W.heap.size, 0, none⟩)]) ∧ w' = W.alloc (.cells #[.map mb] 231) :=
  (callsIn_wide (n := 5)).1 (Tryz.maps_Keys_201 mb W)

theorem dirSorted_any {mb n : Nat} {gs : List SpotD} (w : World) (h : DirM w mb n gs) (hn : n ≤ 1000000) :
    Calls Tryz.prog 193 #[.func (.func 220) #[] #[.pointer (some ⟨w.heap.size, 0, none⟩)]] (w.alloc (.cells #[.map (some mb)] 231)) fun e w' => (∃ v : Value, e = .returned v ∧ w'.ownsRow (w.heap.size + 1) 9 1 v gs.length (gs.map (fun F => .string F.key))) ∧ Below w.heap.size w w' := by
  obtain ⟨D, h1, h2, h3, h4⟩ := h
  have hsz := h1.size_le
  refine ((callsIn_wide (n := 5)).1 (Tryz.slices_Sorted_keys_193_201 mb n D spotElem w h1 (by unfold maxLen; omega) (by omega))).mono ?_
  rintro e w' ⟨v, ss, rfl, hp, hrow, _, hb⟩
  refine ⟨⟨v, rfl, ?_⟩, ((Below.refl _ w).alloc (Nat.le_refl _) _).trans (hb.mono (by simp))⟩
  have hnn := keys_sorted h1 h2 h4 hp
  rw [hnn] at hrow
  have hle : ss.length = gs.length := by
    have := congrArg List.length hnn
    rw [List.length_mergeSort, List.length_map] at this
    exact this
  rw [hle, List.map_map] at hrow
  have e1 : (w.alloc (.cells #[.map (some mb)] 231)).heap.size = w.heap.size + 1 := by simp
  rw [e1] at hrow
  have e2 : (encStr ∘ fun F : SpotD => F.key.data.toList) = fun F : SpotD => Value.string F.key := by
    funext F
    simp [encStr]
  rw [e2] at hrow
  exact hrow

theorem Tryz.zeroSpot (w : World) : (zeroValue 89).run Tryz.prog w = .ok (.agg #[.string ⟨#[]⟩, .int .i64 0, .int .i64 0, .int .i64 0]) w := by
  have hz : Tryz.t89.zero = some (.agg #[.string ⟨#[]⟩, .int .i64 0, .int .i64 0, .int .i64 0]) := by kernel_rfl
  simp [zeroValue, go_sem, hz]
/-- What stands at a place of a row of texts. -/
theorem rowStr_at {w : World} {B n cap : Nat} {ao : Option Addr} {gs : List SpotD} (h : w.ownsRow B 9 1 (.slice ao n cap) gs.length (gs.map (fun F => .string F.key))) (j : Nat) (hj : j < gs.length) : ∃ g, ao = some ⟨g, 0, none⟩ ∧ g < w.heap.size ∧ w.cell? ⟨g, j, none⟩ = some (.string gs[j].key) := by
  rcases h.2 with ⟨_, hn⟩ | ⟨g, cap', cur, hv, hB, hC, hle, _, hs, ht⟩
  · omega
  · cases hv
    refine ⟨g, rfl, (Array.getElem?_eq_some_iff.1 hC).1, ?_⟩
    exact (cell_of_row w g j _ _ (0, 0) hC).trans (take_getSpot ht (by omega) (by simp [hj]))

set_option maxRecDepth 100000 in
set_option maxHeartbeats 1600000 in
theorem inOrder_any (gs : List SpotD) (mb n B : Nat) (w : World) (hm : DirM w mb n gs) (hn : n ≤ 1000000) (hk : ∀ A ∈ gs, A.key.size ≤ 1048576) (hgl : gs.length ≤ 1000000) (hB : B ≤ w.heap.size) :
    Calls Tryz.prog 174 #[.map (some mb)] w fun e w' => (∃ v, e = .returned v ∧ RowSpot w' B v gs) ∧ Below w.heap.size w w' := by
  have HM := hide hm
  have HK := hide hk
  clear hm hk
  go_enter Tryz.func174, Tryz.ntmps174
  go_wp2_with fail
  refine (dirKeys_any _ _).mono ?_
  rintro e w1 ⟨rfl, rfl⟩
  go_wp2_with fail
  refine (dirSorted_any _ HM.out hn).mono ?_
  rintro e w2 ⟨⟨v2, rfl, hrow⟩, b2⟩
  obtain ⟨a2, c2, rfl⟩ := slice_form hrow
  have HR2 := hide hrow
  have B2 := hide b2
  clear hrow b2
  have HM2 := hide (dirM_below HM.out B2.out)
  have hw2 : w.heap.size ≤ w2.heap.size := B2.out.size
  go_wp2_with fail
  go_loopw [3, 10] (fun vo ii wr => ∃ (k : Nat), ii = .int .i64 k ∧ k ≤ gs.length ∧ Hid (wr.ownsRow w2.heap.size 89 4 vo (gs.take k).length (cellsSpot (gs.take k))) ∧ Hid (Below w2.heap.size w2 wr)) (fun _ ii _ => gs.length - (intOf ii).toNat)
  case atStart => exact ⟨0, rfl, Nat.zero_le _, World.ownsRow_nil _ _ _ _, Below.refl _ _⟩
  case round =>
    obtain ⟨k, rfl, hk, HO, HB⟩ := hrel
    have hws := HB.out.size
    by_cases hlt : k < gs.length
    · have hlt' : decide ((k : Int) < (gs.length : Int)) = true := by simp; omega
      have hi0 : (0 : Int) ≤ (k : Int) := by omega
      have hi1 : (k : Int) < (gs.length : Int) := by omega
      obtain ⟨g, hg, hgw, hc0⟩ := rowStr_at HR2.out k hlt
      subst hg
      have hd0 := (HB.out.cell (p := ⟨g, k, none⟩) hgw).trans hc0
      clear hc0
      obtain ⟨D, hD1, hD2, hD3, hD4⟩ := dirM_below HM2.out HB.out
      have hks := HK.out gs[k] (List.getElem_mem hlt)
      obtain ⟨v, ps, hrun, hv⟩ := hD1.lookup (string_keyed Tryz.underlying9) Tryz.underlying231 (Tryz.zeroSpot _) (spotElem_mk ⟨⟨#[]⟩, 0, 0, 0⟩) (Tryz.keyT gs[k].key (by unfold maxLen; omega))
      rw [hD3 gs[k] (List.getElem_mem hlt)] at hv
      obtain rfl := spotElem_inv hv
      have htk := hide (List.take_succ_eq_append_getElem hlt)
      clear hv hD1 hD2 hD3 hD4
      generalize gs[k] = F at hd0 hks hrun htk
      have hln : (gs.take k).length ≤ gs.length := by rw [List.length_take]; omega
      obtain ⟨L, HL⟩ : ∃ L, Hid (gs.take k = L) := ⟨_, hide rfl⟩
      rw [HL.out] at HO htk hln
      go_wp2_with (at_builtin; refine app_spot _ w2.heap.size (by rfl) _ _ (by rfl) _ L F (by rfl) (HO.out.alloc _) wr.heap.size (by rfl) (heap_alloc_new wr _) (by omega) (by simp; omega) ?_; intro g5 cap5 w5 ho5 hb5 hg5 hgl5; have HO5 := hide ho5; have HB5 := hide hb5; clear ho5 hb5 hg5 hgl5)
      go_roundw
      case rel => exact ⟨k + 1, by go_num, by omega, by show World.ownsRow _ _ _ _ _ _ _; rw [htk.out]; exact HO5.out, (HB.out.alloc (by omega) _).trans HB5.out⟩
      case measure => simp [intOf]; omega
    · have hlt' : decide ((k : Int) < (gs.length : Int)) = false := by simp; omega
      have hke : k = gs.length := by omega
      subst hke
      rw [List.take_length] at HO
      go_wp2
      go_ret
      exact ⟨⟨_, rfl, rowSpot_le (rowSpot_own HO.out) (by omega)⟩, B2.out.trans (HB.out.mono hw2)⟩
end Go.Proofs.YtmmchemgegmhhaaGreatDoor
