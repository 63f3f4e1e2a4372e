/- The names of a shelf, in order. -/
import Derived.Test.YtmmchemgegmhhaaGreatDoorShelfE
import Derived.Test.YtmmchemgegmhhaaGreatDoorIter
import Derived.Test.YtmmchemgegmhhaaGreatDoorOwnFile
import Derived.Sort.KeysCollected
namespace Go.Proofs.YtmmchemgegmhhaaGreatDoor
open Go.RowKit Go.Maps

theorem names_sorted {w : World} {B mb : Nat} {gs : List FileD} {D : DataW Unit} {pt : ByteArray → Nat} (hD : ShelfD w B mb gs D pt) (hs : srt gs) {ss : List (List UInt8)} (hp : ss.Perm (strKeys D)) : ss.mergeSort (fun x y => decide (x ≤ y)) = gs.map (fun F => F.name.data.toList) := by
  have hlt : (gs.map (fun F => F.name.data.toList)).Pairwise (fun a b => Op.bytesLess a b = true) := by
    refine List.pairwise_map.2 (hs.imp fun {a b} h => ?_)
    rw [Lib.toList_data, Lib.toList_data] at h
    exact h
  have hnd : (gs.map (fun F => F.name.data.toList)).Nodup := hlt.imp fun {a b} h e => by rw [e, less_irrefl] at h; cases h
  have hm : ∀ x, x ∈ gs.map (fun F => F.name.data.toList) ↔ has D (.string x) = true := by
    intro x
    have h3 := hD.2.2.1 ⟨x.toArray⟩
    have e : kl ⟨x.toArray⟩ = .string x := by simp [kl]
    rw [e] at h3
    rw [h3, List.mem_map]
    constructor
    · rintro ⟨F, hF, rfl⟩
      exact ⟨F, hF, by cases F.name; simp⟩
    · rintro ⟨F, hF, e2⟩
      exact ⟨F, hF, by rw [e2]⟩
  have hc : Collected D (fun _ => false) (gs.map (fun F => F.name.data.toList)) := ⟨hnd, fun x => by rw [hm x]; simp⟩
  have hp2 := hc.perm hD.1 (string_keyed Tryz.underlying9) Tryz.underlying9 (fun _ => rfl)
  have h1 := mergeSort_of_perm (hp.trans hp2.symm)
  refine h1.trans ?_
  have tr : ∀ a b c : List UInt8, leB a b = true → leB b c = true → leB a c = true := fun a b c h1 h2 => by simp only [leB, decide_eq_true_eq] at *; exact List.le_trans h1 h2
  have tot : ∀ a b : List UInt8, (leB a b || leB b a) = true := fun a b => by simp only [leB, Bool.or_eq_true, decide_eq_true_eq]; exact List.le_total a b
  refine List.Perm.eq_of_pairwise (le := fun a b => leB a b = true) (fun a b _ _ h1 h2 => ?_) (List.pairwise_mergeSort tr tot _) ?_ (List.mergeSort_perm _ leB)
  · simp only [leB, decide_eq_true_eq] at h1 h2
    exact List.le_antisymm h1 h2
  · refine hlt.imp fun {a b} h => ?_
    rw [bytesLess_eq, decide_eq_true_eq] at h
    simp only [leB, decide_eq_true_eq]
    exact List.le_of_lt h

theorem keys_any (mb : Option Nat) (W : World) : Calls Tryz.prog 194 #[.map mb] W fun e w' => e = .returned (.func (.func 216) #[] #[.pointer (some ⟨W.heap.size, 0, none⟩)]) ∧ w' = W.alloc (.cells #[.map mb] 218) :=
  (callsIn_wide (n := 5)).1 (Tryz.maps_Keys_194 mb W)

theorem sorted_any {B mb : Nat} {gs : List FileD} {D : DataW Unit} {pt : ByteArray → Nat} (w : World) (hD : ShelfD w B mb gs D pt) (hok : diskOkD gs = true) :
    Calls Tryz.prog 193 #[.func (.func 216) #[] #[.pointer (some ⟨w.heap.size, 0, none⟩)]] (w.alloc (.cells #[.map (some mb)] 218)) fun e w' => ∃ v : Value, e = .returned v ∧ w'.ownsRow (w.heap.size + 1) 9 1 v gs.length (gs.map (fun F => .string F.name)) ∧ Below w.heap.size w w' := by
  have hl := ((disk_iff gs).1 hok).1
  have hsz := hD.2.1
  refine ((callsIn_wide (n := 5)).1 (Tryz.slices_Sorted_keys_193_194 mb (size D) D ptrElem w hD.1 (by unfold maxLen; omega) (by omega))).mono ?_
  rintro e w' ⟨v, ss, rfl, hp, hrow, _, hb⟩
  refine ⟨v, rfl, ?_, ((Below.refl _ w).alloc (Nat.le_refl _) _).trans (hb.mono (by simp))⟩
  have hn := names_sorted hD ((disk_iff gs).1 hok).2.2 hp
  rw [hn] at hrow
  have hle : ss.length = gs.length := by
    have := congrArg List.length hn
    rw [List.length_mergeSort, List.length_map] at this
    exact this
  rw [hle, List.map_map] at hrow
  have e1 : (w.alloc (.cells #[.map (some mb)] 218)).heap.size = w.heap.size + 1 := by simp
  rw [e1] at hrow
  have e2 : (encStr ∘ fun F : FileD => F.name.data.toList) = fun F : FileD => Value.string F.name := by
    funext F
    simp [encStr]
  rw [e2] at hrow
  exact hrow
end Go.Proofs.YtmmchemgegmhhaaGreatDoor
