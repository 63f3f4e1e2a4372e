/- Rows of texts as the laws hold them. -/
import Derived.Test.YtpibnhodlojajaaDoorTxtA
import Derived.Test.YtpibnhodlojajaaDoorMarkText
import Derived.Lib.SmallJoins
import Derived.OpenShut
namespace Go.Proofs.YtpibnhodlojajaaDoor
open Go.RowKit

/-- What a row leaves of a measure; below 0: it is too great. -/
def szTs : List ByteArray → Int → Int
  | [], n => n
  | s :: r, n => if n < (s.size : Int) then -1 else szTs r (n - s.size)
theorem szTs_small : ∀ (ts : List ByteArray) (n : Int), n ≤ 1048576 → 0 ≤ n → 0 ≤ szTs ts n → ∀ s ∈ ts, s.size ≤ 1048576
  | [], _, _, _, _, _, h => absurd h List.not_mem_nil
  | F :: r, n, h0, h1, h2, A, hA => by
    unfold szTs at h2
    split at h2
    · omega
    · rcases List.mem_cons.1 hA with rfl | hA
      · omega
      · exact szTs_small r _ (by omega) (by omega) h2 A hA
theorem szTs_le : ∀ (ts : List ByteArray) (n : Int), 0 ≤ n → szTs ts n ≤ n
  | [], _, _ => Int.le_refl _
  | F :: r, n, h => by
    unfold szTs
    split
    · omega
    · have := szTs_le r (n - F.size) (by omega)
      omega
/-- The same with the row's length counted. -/
def szTx (ts : List ByteArray) (n : Int) : Int := if n < ts.length then -1 else szTs ts (n - ts.length)
theorem szTx_le (ts : List ByteArray) (n : Int) (h : 0 ≤ n) : szTx ts n ≤ n := by
  unfold szTx
  split
  · omega
  · have := szTs_le ts (n - ts.length) (by omega)
    omega
theorem szTx_small {ts : List ByteArray} {n : Int} (h0 : n ≤ 1048576) (h : 0 ≤ szTx ts n) (hn : 0 ≤ n) : ts.length ≤ 1048576 ∧ ∀ s ∈ ts, s.size ≤ 1048576 := by
  unfold szTx at h
  split at h
  · omega
  · exact ⟨by omega, szTs_small ts _ (by omega) (by omega) h⟩

/-- The marks k, k + 1, .., n of them. -/
def markTs (k n : Nat) : List ByteArray := (List.range n).map (fun j => ⟨(mk (k + j)).toArray⟩)
theorem markTs_length (k n : Nat) : (markTs k n).length = n := by simp [markTs]
theorem markTs_get (k n j : Nat) (h : j < (markTs k n).length) : (markTs k n)[j] = ⟨(mk (k + j)).toArray⟩ := by simp [markTs]

open Go.ChangeShapes Go.WideShapes Go.Deep Go.Joins in
set_option maxRecDepth 100000 in
/-- A row of texts that came in, opened out of its own cell. -/
theorem texts_in {H : Type} {enc : TypeId × Value → H} {w : World} {fuel : Nat} {v : Value} {z : DataW H × List MemPlace} (h : DataW.trod enc Tryd.prog w 0 (fun _ => true) true fuel 27 [v] = some z) :
    ∃ (ao : Option Addr) (ts : List ByteArray) (cap : Nat), v = .slice ao ts.length cap ∧ ts.length ≤ maxLen ∧ TextsAt w ao ts ∧ ∀ s ∈ ts, s.size ≤ maxLen := by
  have hc : Tryd.prog.cellsOf 9 = 1 := by kernel_rfl
  rcases open_slice Tryd.underlying27 h with ⟨e, _⟩ | ⟨a, l0, c0, m, n', D, Pl, e, _, hle, hmx, hm, _, hel⟩
  · simp at e
    subst e
    exact ⟨none, [], 0, rfl, by unfold maxLen; simp, fun j hj => absurd hj (by simp), fun F hF => absurd hF List.not_mem_nil⟩
  · simp at e
    subst e
    rw [hc] at hel
    have hm' : l0 ≤ m := by rw [hm]; simpa using hle
    have hch : ∀ i, i < l0 → ∃ A : ByteArray, w.cells? 0 (a.add (i * 1)) 1 = some [.string A] ∧ A.size ≤ maxLen := by
      intro i hi
      obtain ⟨cs', g1, g2⟩ := hel i (by omega)
      obtain ⟨s0, e0, _, z0⟩ := DataW.trod_string Tryd.underlying9 g2
      subst e0
      exact ⟨s0, g1, z0⟩
    haveI : Inhabited ByteArray := ⟨⟨#[]⟩⟩
    obtain ⟨G, hG⟩ := choose_lt hch
    refine ⟨some a, (List.range l0).map G, c0, by simp, by simp; omega, ?_, ?_⟩
    · intro j hj
      have hj' : j < l0 := by simpa using hj
      have g1 := (hG j hj').1
      obtain ⟨_, _, hcell⟩ := World.cells?_some g1
      have q0 := hcell 0 (by omega)
      obtain ⟨b, off, spot⟩ := a
      have hspot : spot = none := by
        obtain ⟨_, _, hcell0⟩ := World.cells?_some (hG 0 (by omega)).1
        have q := hcell0 0 (by omega)
        simpa [Addr.add] using World.cell?_spot q
      subst hspot
      have ha : ∀ o i, ((⟨b, o, none⟩ : Addr).add i) = ⟨b, o + i, none⟩ := by intro o i; cases i <;> simp [Addr.add]
      simp only [ha] at q0
      refine ⟨b, off, rfl, ?_, ?_⟩
      · rcases Nat.lt_or_ge b w.heap.size with h | h
        · exact h
        · unfold World.cell? at q0
          rw [show w.heap[(⟨b, off + j * 1 + 0, none⟩ : Addr).block]? = none from Array.getElem?_eq_none h] at q0
          cases q0
      · simpa using q0
    · intro A hA
      obtain ⟨i, hi, rfl⟩ := List.mem_map.1 hA
      exact (hG i (by simpa using hi)).2
end Go.Proofs.YtpibnhodlojajaaDoor
