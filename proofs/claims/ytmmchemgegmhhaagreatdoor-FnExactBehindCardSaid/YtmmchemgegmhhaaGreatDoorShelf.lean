/- A shelf: a map from names to pointers to files, as it stands in memory. -/
import Derived.Test.YtmmchemgegmhhaaGreatDoorActP
import Derived.Test.YtmmchemgegmhhaaGreatDoorBlk
import Derived.Test.YtmmchemgegmhhaaGreatDoorKeyL
namespace Go.Proofs.YtmmchemgegmhhaaGreatDoor
open Go.RowKit Go.Maps

/-- How a pointer to a block reads. -/
def ptrElem : Value → Option (DataW Unit × List MemPlace)
  | .pointer (some ⟨p, 0, none⟩) => some (.lit (.int .i64 (p : Int)), [])
  | .pointer none => some (.nil, [])
  | _ => none
theorem ptrElem_inv {v : Value} {p : Nat} {ps : List MemPlace} (h : ptrElem v = some (.lit (.int .i64 (p : Int)), ps)) : v = .pointer (some ⟨p, 0, none⟩) := by
  unfold ptrElem at h
  split at h
  · simp only [Option.some.injEq, Prod.mk.injEq, DataW.lit.injEq, Lit.int.injEq, true_and] at h
    obtain ⟨h1, _⟩ := h
    have : (_ : Nat) = p := Int.ofNat.inj h1
    rw [this]
  · simp at h
  · cases h

def fileObj (F : FileD) : Obj := .cells #[.string F.name, .string F.text, .int .i64 F.kept] 74 (0, 0)

/-- The map in block mb, which reads as D, holds just the files gs, each behind the pointer pt of its name. -/
def ShelfD (w : World) (B mb : Nat) (gs : List FileD) (D : DataW Unit) (pt : ByteArray → Nat) : Prop :=
  w.ownsMap Tryz.prog 9 ptrElem mb (size D) D ∧ size D = gs.length ∧ (∀ s, has D (kl s) = true ↔ ∃ F ∈ gs, F.name = s) ∧
  (∀ F ∈ gs, (∀ z, D.atKey (kl F.name) z = .lit (.int .i64 (pt F.name : Int))) ∧ B ≤ pt F.name ∧ pt F.name ≠ mb ∧ w.heap[pt F.name]? = some (fileObj F)) ∧
  (∀ F ∈ gs, ∀ G ∈ gs, pt F.name = pt G.name → F.name = G.name)
def ShelfAt (w : World) (B mb : Nat) (gs : List FileD) : Prop := ∃ D pt, ShelfD w B mb gs D pt

theorem ownsMap_tight {w : World} {b n : Nat} {D : DataW Unit} (h : w.ownsMap Tryz.prog 9 ptrElem b n D) : w.ownsMap Tryz.prog 9 ptrElem b (size D) D := by
  obtain ⟨es, clock, hb, F, _, rfl⟩ := h
  exact ⟨es, clock, hb, F, by simp [size, length_sorted], rfl⟩

theorem shelfD_keep {w w' : World} {B mb : Nat} {gs : List FileD} {D : DataW Unit} {pt : ByteArray → Nat} {r : Option Nat} (h : ShelfD w B mb gs D pt) (hg : w.grownBy w' r) (hr : ∀ k, r = some k → k ≠ mb ∧ ∀ F ∈ gs, pt F.name ≠ k) : ShelfD w' B mb gs D pt := by
  obtain ⟨h1, h2, h3, h4, h5⟩ := h
  refine ⟨h1.kept hg (fun e => (hr mb e.symm).1 rfl), h2, h3, fun F hF => ?_, h5⟩
  obtain ⟨a, b, c, d⟩ := h4 F hF
  exact ⟨a, b, c, blk_grown d hg (fun e => (hr _ e.symm).2 F hF rfl)⟩
theorem shelfD_below {w w' : World} {B mb : Nat} {gs : List FileD} {D : DataW Unit} {pt : ByteArray → Nat} (h : ShelfD w B mb gs D pt) (hb : Below w.heap.size w w') : ShelfD w' B mb gs D pt :=
  shelfD_keep h (grownBy_below none hb) (fun k e => by cases e)
theorem shelf_below {w w' : World} {B mb : Nat} {gs : List FileD} (h : ShelfAt w B mb gs) (hb : Below w.heap.size w w') : ShelfAt w' B mb gs := by
  obtain ⟨D, pt, h⟩ := h
  exact ⟨D, pt, shelfD_below h hb⟩
theorem shelf_keep {w w' : World} {B mb : Nat} {gs : List FileD} {r : Option Nat} (h : ShelfAt w B mb gs) (hg : w.grownBy w' r) (hr : ∀ k, r = some k → k < B ∧ k ≠ mb) : ShelfAt w' B mb gs := by
  obtain ⟨D, pt, h⟩ := h
  refine ⟨D, pt, shelfD_keep h hg (fun k e => ⟨(hr k e).2, fun F hF e2 => ?_⟩)⟩
  have h1 := (h.2.2.2.1 F hF).2.1
  have h2 := (hr k e).1
  omega

/-! ### What is in files when one is put, when one is taken away -/
theorem put_mem {gs : List FileD} {F G : FileD} : G ∈ putD gs F ↔ G = F ∨ (G ∈ gs ∧ G.name ≠ F.name) := by
  rw [mem_putD]
  constructor
  · rintro (⟨h1, h2⟩ | h | ⟨h1, h2⟩)
    · refine .inr ⟨h1, fun e => ?_⟩
      rw [lessF, e, less_irrefl] at h2
      cases h2
    · exact .inl h
    · refine .inr ⟨h1, fun e => ?_⟩
      rw [moreF, e] at h2
      simp at h2
  · rintro (h | ⟨h1, h2⟩)
    · exact .inr (.inl h)
    · cases hl : Op.bytesLess G.name.toList F.name.toList
      · refine .inr (.inr ⟨h1, ?_⟩)
        rw [moreF, hl, toList_ne.2 h2]
        rfl
      · exact .inl ⟨h1, hl⟩
theorem without_mem {gs : List FileD} {nm : ByteArray} {G : FileD} : G ∈ withoutD gs nm ↔ G ∈ gs ∧ G.name ≠ nm := by
  rw [withoutD, List.mem_filter, otherF]
  constructor
  · rintro ⟨h1, h2⟩
    exact ⟨h1, toList_ne.1 (by simpa using h2)⟩
  · rintro ⟨h1, h2⟩
    exact ⟨h1, by rw [toList_ne.2 h2]; rfl⟩

theorem shelf_put {w w' : World} {B mb p n : Nat} {gs : List FileD} {D : DataW Unit} {pt : ByteArray → Nat} {F : FileD} (h : ShelfD w B mb gs D pt) (hp : w.heap[p]? = some (fileObj F)) (hB : B ≤ p) (hne : p ≠ mb)
    (hap : ∀ G ∈ gs, G.name ≠ F.name → pt G.name ≠ p) (hw : w'.ownsMap Tryz.prog 9 ptrElem mb n (D.put (kl F.name) (.lit (.int .i64 (p : Int))))) (hg : w.grownBy w' (some mb)) (hlen : (putD gs F).length = size (D.put (kl F.name) (.lit (.int .i64 (p : Int))))) :
    ShelfD w' B mb (putD gs F) (D.put (kl F.name) (.lit (.int .i64 (p : Int)))) (fun s => if s = F.name then p else pt s) := by
  obtain ⟨h1, h2, h3, h4, h5⟩ := h
  have hm := h1.isMap
  refine ⟨ownsMap_tight hw, hlen.symm, fun s => ?_, fun G hG => ?_, fun G hG G' hG' e => ?_⟩
  · by_cases e : s = F.name
    · subst e
      rw [has_put_same hm (kl_key _)]
      simp only [true_iff]
      exact ⟨F, put_mem.2 (.inl rfl), rfl⟩
    · rw [has_put_other (kl_ne e), h3 s]
      constructor
      · rintro ⟨G, hG, rfl⟩
        exact ⟨G, put_mem.2 (.inr ⟨hG, e⟩), rfl⟩
      · rintro ⟨G, hG, rfl⟩
        rcases put_mem.1 hG with rfl | ⟨hG, _⟩
        · exact absurd rfl e
        · exact ⟨G, hG, rfl⟩
  · rcases put_mem.1 hG with rfl | ⟨hG, e⟩
    · refine ⟨fun z => by rw [atKey_put_same hm (kl_key _)]; simp, by simp [hB], by simp [hne], ?_⟩
      simp only [if_true]
      exact blk_grown hp hg (by simpa using hne)
    · obtain ⟨a, b, c, d⟩ := h4 G hG
      simp only [if_neg e]
      exact ⟨fun z => by rw [atKey_put_other (kl_ne e)]; exact a z, b, c, blk_grown d hg (by simpa using c)⟩
  · simp only at e
    rcases put_mem.1 hG with rfl | ⟨hGm, e1⟩ <;> rcases put_mem.1 hG' with rfl | ⟨hGm', e2⟩
    · rfl
    · rw [if_pos rfl, if_neg e2] at e
      exact absurd e.symm (hap G' hGm' e2)
    · rw [if_pos rfl, if_neg e1] at e
      exact absurd e (hap G hGm e1)
    · rw [if_neg e1, if_neg e2] at e
      exact h5 G hGm G' hGm' e

theorem shelf_drop {w w' : World} {B mb n : Nat} {gs : List FileD} {D : DataW Unit} {pt : ByteArray → Nat} {nm : ByteArray} (h : ShelfD w B mb gs D pt) (hw : w'.ownsMap Tryz.prog 9 ptrElem mb n (D.del (kl nm))) (hg : w.grownBy w' (some mb)) (hlen : (withoutD gs nm).length = size (D.del (kl nm))) :
    ShelfD w' B mb (withoutD gs nm) (D.del (kl nm)) pt := by
  obtain ⟨h1, h2, h3, h4, h5⟩ := h
  refine ⟨ownsMap_tight hw, hlen.symm, fun s => ?_, fun G hG => ?_, fun G hG G' hG' e => h5 G (without_mem.1 hG).1 G' (without_mem.1 hG').1 e⟩
  · by_cases e : s = nm
    · subst e
      rw [has_del_same]
      simp only [Bool.false_eq_true, false_iff]
      rintro ⟨G, hG, e⟩
      exact (without_mem.1 hG).2 e
    · rw [has_del_other (kl_ne e), h3 s]
      constructor
      · rintro ⟨G, hG, rfl⟩
        exact ⟨G, without_mem.2 ⟨hG, e⟩, rfl⟩
      · rintro ⟨G, hG, rfl⟩
        exact ⟨G, (without_mem.1 hG).1, rfl⟩
  · obtain ⟨hG, e⟩ := without_mem.1 hG
    obtain ⟨a, b, c, d⟩ := h4 G hG
    exact ⟨fun z => by rw [atKey_del_other (kl_ne e)]; exact a z, b, c, blk_grown d hg (by simpa using c)⟩

/-- A file is written anew where it stands. -/
theorem shelf_write {w w' : World} {B mb : Nat} {gs : List FileD} {D : DataW Unit} {pt : ByteArray → Nat} {F F' : FileD} (h : ShelfD w B mb gs D pt) (hF : F ∈ gs) (hn : F'.name = F.name) (hg : w.grownBy w' (some (pt F.name))) (hw : w'.heap[pt F.name]? = some (fileObj F')) (hlen : (putD gs F').length = gs.length) : ShelfD w' B mb (putD gs F') D pt := by
  obtain ⟨h1, h2, h3, h4, h5⟩ := h
  obtain ⟨a, b, c, d⟩ := h4 F hF
  refine ⟨h1.kept hg (by simpa using c.symm), by rw [hlen]; exact h2, fun s => ?_, fun G hG => ?_, fun G hG G' hG' e => ?_⟩
  · rw [h3 s]
    constructor
    · rintro ⟨G, hG, rfl⟩
      by_cases e : G.name = F'.name
      · exact ⟨F', put_mem.2 (.inl rfl), e.symm⟩
      · exact ⟨G, put_mem.2 (.inr ⟨hG, e⟩), rfl⟩
    · rintro ⟨G, hG, rfl⟩
      rcases put_mem.1 hG with rfl | ⟨hG, _⟩
      · exact ⟨F, hF, hn.symm⟩
      · exact ⟨G, hG, rfl⟩
  · rcases put_mem.1 hG with rfl | ⟨hG, e⟩
    · rw [hn]; exact ⟨a, b, c, hw⟩
    · obtain ⟨a', b', c', d'⟩ := h4 G hG
      refine ⟨a', b', c', blk_grown d' hg (fun e2 => ?_)⟩
      have := h5 G hG F hF (by simpa using e2)
      exact e (this.trans hn.symm)
  · have key : ∀ X ∈ putD gs F', ∃ Y ∈ gs, Y.name = X.name := by
      intro X hX
      rcases put_mem.1 hX with rfl | ⟨hX, _⟩
      · exact ⟨F, hF, hn.symm⟩
      · exact ⟨X, hX, rfl⟩
    obtain ⟨Y, hY, ey⟩ := key G hG
    obtain ⟨Y', hY', ey'⟩ := key G' hG'
    rw [← ey, ← ey'] at e ⊢
    exact h5 Y hY Y' hY' e
end Go.Proofs.YtmmchemgegmhhaaGreatDoor
