/- Names of commands as nine bytes, plainly. -/
import Derived.Test.YteidjnmfjkpolaaDoorCmdL
import Derived.Test.YteidjnmfjkpolaaDoorUpp
import Derived.Laws.CopyRow
namespace Go.Proofs.YteidjnmfjkpolaaDoor
open Go.RowKit

/-- A byte as a value. -/
def b8 (b : UInt8) : Value := .int .u8 (b.toNat : Int)
/-- Nine bytes: the text's first ones, then zeros. -/
def padN (s : ByteArray) : List UInt8 := s.data.toList.take 9 ++ List.replicate (9 - (s.data.toList.take 9).length) 0
theorem padN_length (s : ByteArray) : (padN s).length = 9 := by simp [padN]; omega
def nmC (s : ByteArray) : Array Value := ((padN s).map b8).toArray
theorem nmC_size (s : ByteArray) : (nmC s).size = 9 := by simp [nmC, padN_length]
theorem nmC_one (s : ByteArray) : (nmC s).all (·.oneCell') = true := by
  rw [Array.all_eq_true_iff_forall_mem]
  intro x hx
  simp only [nmC, List.mem_toArray, List.mem_map] at hx
  obtain ⟨b, _, rfl⟩ := hx
  rfl
theorem nmC_row (s : ByteArray) (n : Nat) (hn : Nat.min s.size 9 = n) :
    ((((s.data.toList.take n).map b8) ++ ((List.replicate 9 (Value.int .u8 0)).drop ((s.data.toList.take n).map b8).length))).toArray = nmC s := by
  have hl : s.data.toList.length = s.size := Array.length_toList
  have e : s.data.toList.take n = s.data.toList.take 9 := by
    subst hn
    rcases Nat.le_total s.size 9 with h | h
    · rw [show Nat.min s.size 9 = s.size from Nat.min_eq_left h, List.take_of_length_le (by omega), List.take_of_length_le (by omega)]
    · rw [show Nat.min s.size 9 = 9 from Nat.min_eq_right h]
  rw [e]
  unfold nmC padN
  rw [List.map_append, List.map_replicate, List.length_map, List.drop_replicate]
  rfl

/-- Without the zeros at its end. -/
def trimZ (l : List UInt8) : List UInt8 := (l.reverse.dropWhile (· == 0)).reverse
theorem trimZ_nil : trimZ [] = [] := rfl
theorem trimZ_zero (l : List UInt8) : trimZ (l ++ [0]) = trimZ l := by simp [trimZ]
theorem trimZ_keep (l : List UInt8) (b : UInt8) (h : b ≠ 0) : trimZ (l ++ [b]) = l ++ [b] := by simp [trimZ, h]
/-- What the name tells again. -/
def nmT (s : ByteArray) : ByteArray := ⟨(trimZ (padN s)).toArray⟩
theorem cmds_told : ∀ t ∈ cmdsL, nmT t = t := by decide +kernel
theorem nmC_inj {s t : ByteArray} (h : nmC s = nmC t) : nmT s = nmT t := by
  unfold nmC at h
  have h1 := List.toArray_inj h
  have h2 : padN s = padN t := by
    have hb : ∀ (l m : List UInt8), l.map b8 = m.map b8 → l = m := by
      intro l
      induction l with
      | nil => intro m h; cases m with | nil => rfl | cons _ _ => simp at h
      | cons a l ih =>
        intro m h
        cases m with
        | nil => simp at h
        | cons c m =>
          simp only [List.map_cons, List.cons.injEq] at h
          obtain ⟨h1, h2⟩ := h
          simp only [b8, Value.int.injEq, true_and] at h1
          rw [ih m h2, UInt8.toNat_inj.1 (by omega : a.toNat = c.toNat)]
    exact hb _ _ h1
  unfold nmT
  rw [h2]
/-- A name that tells its text is a command's just where the text is. -/
theorem nmC_eq {s t : ByteArray} (hs : nmT s = s) (ht : t ∈ cmdsL) : (nmC t = nmC s) ↔ t = s := by
  constructor
  · intro h
    have := nmC_inj h
    rwa [cmds_told t ht, hs] at this
  · rintro rfl
    rfl

theorem run_copy_str {P : Program} (w : World) (dT sT ty elem : TypeId) (g dLen dCap : Nat) (s : ByteArray) (cur : Array Value) (t : TypeId) (n : Nat) (hn : Nat.min s.size dLen = n)
    (hu : P.underlying dT = some (.slice elem)) (hsz : (P.info? elem).map (·.size) = some 1) (hg : w.heap[g]? = some (.cells cur t (0, 0))) (hfit : dLen ≤ cur.size) :
    (Builtin.copy_ #[dT, sT] ty #[.slice (some ⟨g, 0, none⟩) dLen dCap, .string s]).run P w = .ok (goInt n) (w.setRow g (((s.data.toList.take n).map b8) ++ cur.toList.drop ((s.data.toList.take n).map b8).length).toArray) := by
  have hl : s.data.toList.length = s.size := Array.length_toList
  have hle : n ≤ dLen := by subst hn; exact Nat.min_le_right _ _
  have hle2 : n ≤ s.size := by subst hn; exact Nat.min_le_left _ _
  have hst := run_storeCells_at P g 0 t ((s.data.toList.take n).map b8) 0 cur w hg (by simp; omega) (by intro v hv; simp only [List.mem_map] at hv; obtain ⟨b, _, rfl⟩ := hv; rfl)
  simp only [Nat.add_zero, List.take_zero, List.nil_append, Nat.zero_add] at hst
  cases hq : P.info? elem with
  | none => simp [hq] at hsz
  | some i =>
    have hmin : min s.size dLen = n := hn
    have hb : (fun b : UInt8 => Value.int .u8 (b.toNat : Int)) = b8 := rfl
    simp only [List.map_take] at hst ⊢
    have hrun := run_underlying hu w
    simp [Builtin.copy_, Sem.run_bind, hrun, Builtin.lenOf, Builtin.firstCells, sizeOf, typeInfo, hq, hmin, hb]
    simp at hst
    rw [hst]
    rfl
end Go.Proofs.YteidjnmfjkpolaaDoor
