/- A directory as the program keeps it: a map from keys to spots. -/
import Derived.Test.YtmmchemgegmhhaaGreatDoorDirQ
import Derived.Test.YtmmchemgegmhhaaGreatDoorKeyL
namespace Go.Proofs.YtmmchemgegmhhaaGreatDoor
open Go.RowKit Go.Maps

/-! ### Directories in order, plainly -/
def srtS (fs : List SpotD) : Prop := fs.Pairwise (fun a b => Op.bytesLess a.key.toList b.key.toList = true)
theorem set_mem {gs : List SpotD} {F G : SpotD} {gone : Bool} : G ∈ setD gs F gone ↔ (gone = false ∧ G = F) ∨ (G ∈ gs ∧ G.key ≠ F.key) := by
  unfold setD
  rw [List.mem_append, List.mem_append, List.mem_filter, List.mem_filter]
  constructor
  · rintro ((⟨h1, h2⟩ | h) | ⟨h1, h2⟩)
    · refine .inr ⟨h1, fun e => ?_⟩
      rw [spLt, e, less_irrefl] at h2
      cases h2
    · cases gone with
      | true => simp at h
      | false => exact .inl ⟨rfl, by simpa using h⟩
    · refine .inr ⟨h1, fun e => ?_⟩
      rw [spGt, e] at h2
      simp at h2
  · rintro (⟨rfl, rfl⟩ | ⟨h1, h2⟩)
    · exact .inl (.inr (by simp))
    · cases hl : Op.bytesLess G.key.toList F.key.toList
      · refine .inr ⟨h1, ?_⟩
        rw [spGt, hl, toList_ne.2 h2]
        rfl
      · exact .inl (.inl ⟨h1, hl⟩)
theorem spGt_less {k : ByteArray} {A : SpotD} (h : spGt k A = true) : Op.bytesLess k.toList A.key.toList = true := by
  unfold spGt at h
  simp only [Bool.and_eq_true, Bool.not_eq_true', beq_eq_false_iff_ne] at h
  exact less_total h.1 h.2
theorem srtS_set {gs : List SpotD} (F : SpotD) (gone : Bool) (h : srtS gs) : srtS (setD gs F gone) := by
  unfold setD srtS
  rw [List.pairwise_append, List.pairwise_append]
  refine ⟨⟨h.filter _, by cases gone <;> simp, fun a ha b hb => ?_⟩, h.filter _, fun a ha b hb => ?_⟩
  · cases gone with
    | true => simp at hb
    | false =>
      obtain rfl : b = F := by simpa using hb
      exact (List.mem_filter.1 ha).2
  · have hb2 := spGt_less (List.mem_filter.1 hb).2
    rcases List.mem_append.1 ha with ha | ha
    · exact less_trans (List.mem_filter.1 ha).2 hb2
    · cases gone with
      | true => simp at ha
      | false =>
        obtain rfl : a = F := by simpa using ha
        exact hb2
theorem srtS_chs (seg pos q : Int) : ∀ (l : List ChangeD) (dir : List SpotD), srtS dir → srtS (chsIn seg pos q dir l)
  | [], _, h => h
  | _ :: r, _, h => srtS_chs seg pos q r _ (srtS_set _ _ h)

/-! ### In memory -/
/-- How a spot reads. -/
def spotDat (A : SpotD) : DataW Unit := .agg [.lit (.string A.key.data.toList), .lit (.int .i64 A.seg), .lit (.int .i64 A.pos), .lit (.int .i64 A.seq)]
def spotElem : Value → Option (DataW Unit × List MemPlace)
  | .agg cs => match cs.toList with
    | [.string k, .int .i64 a, .int .i64 b, .int .i64 c] => some (.agg [.lit (.string k.data.toList), .lit (.int .i64 a), .lit (.int .i64 b), .lit (.int .i64 c)], [])
    | _ => none
  | _ => none
def spotV (A : SpotD) : Value := .agg #[.string A.key, .int .i64 A.seg, .int .i64 A.pos, .int .i64 A.seq]
theorem spotElem_mk (A : SpotD) : spotElem (.agg #[.string A.key, .int .i64 A.seg, .int .i64 A.pos, .int .i64 A.seq]) = some (spotDat A, []) := rfl
theorem spotElem_inv {v : Value} {A : SpotD} {ps : List MemPlace} (h : spotElem v = some (spotDat A, ps)) : v = .agg #[.string A.key, .int .i64 A.seg, .int .i64 A.pos, .int .i64 A.seq] := by
  unfold spotElem at h
  split at h
  · rename_i cs
    split at h
    · rename_i k a b c e
      have hcs : cs = #[.string k, .int .i64 a, .int .i64 b, .int .i64 c] := by
        apply Array.ext'
        exact e
      simp only [spotDat, Option.some.injEq, Prod.mk.injEq, DataW.agg.injEq, List.cons.injEq, DataW.lit.injEq, Lit.string.injEq, Lit.int.injEq, true_and, and_true] at h
      obtain ⟨⟨h1, h2, h3, h4⟩, _⟩ := h
      have hk : k = A.key := by
        cases k with | mk d1 => cases hk2 : A.key with | mk d2 =>
          rw [hk2] at h1
          simp at h1
          rw [h1]
      rw [hcs, hk, h2, h3, h4]
    · cases h
  · cases h
/-- The map in block mb holds just the spots gs; n bounds how many entries it may have. -/
def DirM (w : World) (mb n : Nat) (gs : List SpotD) : Prop :=
  ∃ D : DataW Unit, w.ownsMap Tryz.prog 9 spotElem mb n D ∧ (∀ s, has D (kl s) = true ↔ ∃ F ∈ gs, F.key = s) ∧ (∀ F ∈ gs, ∀ z, D.atKey (kl F.key) z = spotDat F) ∧ srtS gs
theorem dirM_new (w : World) : DirM (w.alloc (.map #[] 0)) w.heap.size 0 [] :=
  ⟨.map [], World.ownsMap_made w Tryz.prog 9 spotElem, fun s => by simp [has], fun F hF => absurd hF List.not_mem_nil, List.Pairwise.nil⟩
theorem dirM_keep {w w' : World} {mb n : Nat} {gs : List SpotD} {r : Option Nat} (h : DirM w mb n gs) (hg : w.grownBy w' r) (hr : r ≠ some mb) : DirM w' mb n gs := by
  obtain ⟨D, h1, h2⟩ := h
  exact ⟨D, h1.kept hg (fun e => hr e.symm), h2⟩
theorem dirM_below {w w' : World} {mb n : Nat} {gs : List SpotD} (h : DirM w mb n gs) (hb : Below w.heap.size w w') : DirM w' mb n gs := dirM_keep h (grownBy_below none hb) (by simp)
theorem dirM_lt {w : World} {mb n : Nat} {gs : List SpotD} (h : DirM w mb n gs) : mb < w.heap.size := by
  obtain ⟨D, h1, -⟩ := h
  exact h1.lt
theorem dirM_mono {w : World} {mb n n' : Nat} {gs : List SpotD} (h : DirM w mb n gs) (hn : n ≤ n') : DirM w mb n' gs := by
  obtain ⟨D, h1, h2⟩ := h
  exact ⟨D, h1.mono hn, h2⟩
/-- A spot is put. -/
theorem dirM_put {w' : World} {mb n : Nat} {gs : List SpotD} {D : DataW Unit} {F : SpotD} (hm : IsMap D) (h3 : ∀ s, has D (kl s) = true ↔ ∃ F ∈ gs, F.key = s) (h4 : ∀ F ∈ gs, ∀ z, D.atKey (kl F.key) z = spotDat F) (h5 : srtS gs)
    (hw : w'.ownsMap Tryz.prog 9 spotElem mb n (D.put (kl F.key) (spotDat F))) : DirM w' mb n (setD gs F false) := by
  refine ⟨_, hw, fun s => ?_, fun G hG z => ?_, srtS_set _ _ h5⟩
  · by_cases e : s = F.key
    · subst e
      rw [has_put_same hm (kl_key _)]
      simp only [true_iff]
      exact ⟨F, set_mem.2 (.inl ⟨rfl, rfl⟩), rfl⟩
    · rw [has_put_other (kl_ne e), h3 s]
      constructor
      · rintro ⟨G, hG, rfl⟩
        exact ⟨G, set_mem.2 (.inr ⟨hG, e⟩), rfl⟩
      · rintro ⟨G, hG, rfl⟩
        rcases set_mem.1 hG with ⟨-, rfl⟩ | ⟨hG, _⟩
        · exact absurd rfl e
        · exact ⟨G, hG, rfl⟩
  · rcases set_mem.1 hG with ⟨-, rfl⟩ | ⟨hG, e⟩
    · rw [atKey_put_same hm (kl_key _)]
    · rw [atKey_put_other (kl_ne e)]
      exact h4 G hG z
/-- A key is taken away. -/
theorem dirM_del {w' : World} {mb n : Nat} {gs : List SpotD} {D : DataW Unit} (F : SpotD) (h3 : ∀ s, has D (kl s) = true ↔ ∃ F ∈ gs, F.key = s) (h4 : ∀ F ∈ gs, ∀ z, D.atKey (kl F.key) z = spotDat F) (h5 : srtS gs)
    (hw : w'.ownsMap Tryz.prog 9 spotElem mb n (D.del (kl F.key))) : DirM w' mb n (setD gs F true) := by
  refine ⟨_, hw, fun s => ?_, fun G hG z => ?_, srtS_set _ _ h5⟩
  · by_cases e : s = F.key
    · subst e
      rw [has_del_same]
      simp only [Bool.false_eq_true, false_iff]
      rintro ⟨G, hG, e⟩
      rcases set_mem.1 hG with ⟨h, -⟩ | ⟨-, h⟩
      · cases h
      · exact h e
    · rw [has_del_other (kl_ne e), h3 s]
      constructor
      · rintro ⟨G, hG, rfl⟩
        exact ⟨G, set_mem.2 (.inr ⟨hG, e⟩), rfl⟩
      · rintro ⟨G, hG, rfl⟩
        rcases set_mem.1 hG with ⟨h, -⟩ | ⟨hG, _⟩
        · cases h
        · exact ⟨G, hG, rfl⟩
  · rcases set_mem.1 hG with ⟨h, -⟩ | ⟨hG, e⟩
    · cases h
    · rw [atKey_del_other (kl_ne e)]
      exact h4 G hG z
end Go.Proofs.YtmmchemgegmhhaaGreatDoor
