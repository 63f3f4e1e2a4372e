/- Drawn values, plainly: what the loops of l10Val make is right. -/
import Derived.Test.YtbenmgokhklnjaaValP
namespace Go.Proofs.Ytbenmgokhklnjaa
open Go.RowKit

/-- The names that are put in. -/
def nmD : Nat → ByteArray
  | 0 => ⟨#[102]⟩
  | 1 => ⟨#[103]⟩
  | 2 => ⟨#[104]⟩
  | _ => ⟨#[105]⟩
theorem nmD_size (i : Nat) : (nmD i).size = 1 := by
  unfold nmD
  split <;> rfl
theorem nmD_less (i j : Nat) (hij : i < j) (hj : j < 4) : Op.bytesLess (nmD i).toList (nmD j).toList = true := by
  rw [ByteArray.toList_eq, ByteArray.toList_eq]
  have : (i = 0 ∧ j = 1) ∨ (i = 0 ∧ j = 2) ∨ (i = 0 ∧ j = 3) ∨ (i = 1 ∧ j = 2) ∨ (i = 1 ∧ j = 3) ∨ (i = 2 ∧ j = 3) := by omega
  rcases this with ⟨rfl, rfl⟩ | ⟨rfl, rfl⟩ | ⟨rfl, rfl⟩ | ⟨rfl, rfl⟩ | ⟨rfl, rfl⟩ | ⟨rfl, rfl⟩ <;> rfl
/-- A set while it is made: i names were asked for. -/
def SetR (i : Nat) (acc : List ByteArray) : Prop := i ≤ 4 ∧ acc.length ≤ i ∧ (0 < i → 0 < acc.length) ∧ Small acc ∧ Asc acc ∧ ∀ x ∈ acc, ∃ m, m < i ∧ x = nmD m
/-- Fields while they are made. -/
def FldR (i : Nat) (acc : List ByteArray) : Prop := i ≤ 4 ∧ acc.length ≤ 2 * i ∧ acc.length % 2 = 0 ∧ (0 < i → 0 < acc.length) ∧ Small acc ∧ AscF acc ∧ ∀ j (h : j < acc.length), j % 2 = 0 → ∃ m, m < i ∧ acc[j] = nmD m
theorem setR_zero : SetR 0 [] := ⟨by omega, by simp, fun h => absurd h (by omega), fun s hs => absurd hs List.not_mem_nil, fun j h => absurd h (by simp), fun x hx => absurd hx List.not_mem_nil⟩
theorem fldR_zero : FldR 0 [] := ⟨by omega, by simp, by simp, fun h => absurd h (by omega), fun s hs => absurd hs List.not_mem_nil, fun j h => absurd h (by simp), fun j h => absurd h (by simp)⟩
theorem setR_skip {i : Nat} {acc : List ByteArray} (h : SetR i acc) (h0 : 0 < i) (hi : i < 4) : SetR (i + 1) acc := by
  obtain ⟨h1, h2, h3, h4, h5, h6⟩ := h
  exact ⟨by omega, by omega, fun _ => h3 h0, h4, h5, fun x hx => by obtain ⟨m, hm, e⟩ := h6 x hx; exact ⟨m, by omega, e⟩⟩
theorem fldR_skip {i : Nat} {acc : List ByteArray} (h : FldR i acc) (h0 : 0 < i) (hi : i < 4) : FldR (i + 1) acc := by
  obtain ⟨h1, h2, h3, h4, h5, h6, h7⟩ := h
  exact ⟨by omega, by omega, h3, fun _ => h4 h0, h5, h6, fun j hj he => by obtain ⟨m, hm, e⟩ := h7 j hj he; exact ⟨m, by omega, e⟩⟩
theorem setR_put {i : Nat} {acc : List ByteArray} (h : SetR i acc) (hi : i < 4) : SetR (i + 1) (acc ++ [nmD i]) := by
  obtain ⟨h1, h2, h3, h4, h5, h6⟩ := h
  refine ⟨by omega, by simp; omega, fun _ => by simp, fun s hs => ?_, fun j hj => ?_, fun x hx => ?_⟩
  · rcases List.mem_append.1 hs with hs | hs
    · exact h4 s hs
    · obtain rfl : s = nmD i := by simpa using hs
      rw [nmD_size]; omega
  · simp only [List.length_append, List.length_cons, List.length_nil] at hj
    by_cases hl : j + 1 < acc.length
    · rw [List.getElem_append_left (by omega), List.getElem_append_left hl]
      exact h5 j hl
    · have e : j + 1 = acc.length := by omega
      rw [List.getElem_append_left (by omega), List.getElem_append_right (by omega)]
      simp only [e, Nat.sub_self, List.getElem_cons_zero]
      obtain ⟨m, hm, e2⟩ := h6 acc[j] (List.getElem_mem _)
      rw [e2]
      exact nmD_less m i hm hi
  · rcases List.mem_append.1 hx with hx | hx
    · obtain ⟨m, hm, e⟩ := h6 x hx
      exact ⟨m, by omega, e⟩
    · obtain rfl : x = nmD i := by simpa using hx
      exact ⟨i, by omega, rfl⟩
theorem fldR_put {i : Nat} {acc : List ByteArray} {y : ByteArray} (h : FldR i acc) (hi : i < 4) (hy : y.size ≤ 60) : FldR (i + 1) (acc ++ [nmD i] ++ [y]) := by
  obtain ⟨h1, h2, h3, h4, h5, h6, h7⟩ := h
  have e0 : acc ++ [nmD i] ++ [y] = acc ++ [nmD i, y] := by simp
  rw [e0]
  refine ⟨by omega, by simp; omega, by simp; omega, fun _ => by simp, fun s hs => ?_, fun j hj he => ?_, fun j hj he => ?_⟩
  · rcases List.mem_append.1 hs with hs | hs
    · exact h5 s hs
    · simp only [List.mem_cons, List.not_mem_nil, or_false] at hs
      rcases hs with rfl | rfl
      · rw [nmD_size]; omega
      · exact hy
  · simp only [List.length_append, List.length_cons, List.length_nil] at hj
    by_cases hl : j + 2 < acc.length
    · rw [List.getElem_append_left (by omega), List.getElem_append_left hl]
      exact h6 j hl he
    · have e : j + 2 = acc.length := by omega
      rw [List.getElem_append_left (by omega), List.getElem_append_right (by omega)]
      simp only [e, Nat.sub_self, List.getElem_cons_zero]
      obtain ⟨m, hm, e2⟩ := h7 j (by omega) he
      rw [e2]
      exact nmD_less m i hm hi
  · simp only [List.length_append, List.length_cons, List.length_nil] at hj
    by_cases hl : j < acc.length
    · rw [List.getElem_append_left hl]
      obtain ⟨m, hm, e⟩ := h7 j hl he
      exact ⟨m, by omega, e⟩
    · have e : j = acc.length := by omega
      rw [List.getElem_append_right (by omega)]
      simp only [e, Nat.sub_self, List.getElem_cons_zero]
      exact ⟨i, by omega, rfl⟩
theorem setR_end {u : Int} {acc : List ByteArray} (h : SetR 4 acc) (h0 : 0 ≤ u) (h1 : u ≤ 100000) : ValR ⟨4, u, ⟨#[]⟩, acc⟩ := by
  obtain ⟨-, g2, g3, g4, g5, -⟩ := h
  exact ⟨h0, h1, .inr (.inr (.inr ⟨rfl, rfl, ⟨g3 (by omega), by show acc.length ≤ 24; omega, g4⟩, g5⟩))⟩
theorem fldR_end {u : Int} {acc : List ByteArray} (h : FldR 4 acc) (h0 : 0 ≤ u) (h1 : u ≤ 100000) : ValR ⟨3, u, ⟨#[]⟩, acc⟩ := by
  obtain ⟨-, g2, g3, g4, g5, g6, -⟩ := h
  exact ⟨h0, h1, .inr (.inr (.inl ⟨rfl, rfl, ⟨g4 (by omega), by show acc.length ≤ 24; omega, g5⟩, g3, g6⟩))⟩
theorem listR_end {u : Int} {acc : List ByteArray} (hl : 1 ≤ acc.length) (hm : acc.length ≤ 24) (hs : Small acc) (h0 : 0 ≤ u) (h1 : u ≤ 100000) : ValR ⟨2, u, ⟨#[]⟩, acc⟩ :=
  ⟨h0, h1, .inr (.inl ⟨rfl, rfl, hl, hm, hs⟩)⟩
theorem textR_end {u : Int} {s : ByteArray} (hs : s.size ≤ 60) (h0 : 0 ≤ u) (h1 : u ≤ 100000) : ValR ⟨1, u, s, []⟩ :=
  ⟨h0, h1, .inl ⟨rfl, rfl, hs⟩⟩
end Go.Proofs.Ytbenmgokhklnjaa
