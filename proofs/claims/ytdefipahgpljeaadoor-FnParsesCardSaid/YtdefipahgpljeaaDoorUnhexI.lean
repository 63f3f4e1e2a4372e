/- The text whose figures these are: the program's reader, and the law on Unhex. -/
import Derived.Test.YtdefipahgpljeaaDoorUnhex
namespace Go.Proofs.YtdefipahgpljeaaDoor
open Go.RowKit

theorem figs_yes (s : ByteArray) (c : Nat) (w : World) (hs : s.size ≤ 40000) (hc : c ≤ 16) (hok : ∀ p, p < s.size → Wd.isFig s c p) :
    Calls Tryd.prog 74 #[.string s, .int .i64 c] w fun e w' => ∃ v, e = .returned (.tuple #[v, .bool true]) ∧ w'.ownsRow w.heap.size 5 1 v (Wd.valsF s s.size).length ((Wd.valsF s s.size).map bv) ∧ Below w.heap.size w w' := by
  refine (figs_any s c w hs hc).mono ?_
  rintro e w' ⟨hb, ⟨_, v, he, hown⟩ | ⟨⟨p, hp, hno⟩, _⟩⟩
  · exact ⟨v, he, hown, hb⟩
  · exact absurd (hok p hp) hno
/-- The same, the slice written out. -/
theorem figs_row (s : ByteArray) (c : Nat) (w : World) (hs : s.size ≤ 40000) (hc : c ≤ 16) (hok : ∀ p, p < s.size → Wd.isFig s c p) :
    Calls Tryd.prog 74 #[.string s, .int .i64 c] w fun e w' => ∃ a cap, e = .returned (.tuple #[.slice a s.size cap, .bool true]) ∧
      Hid (0 < s.size → ∃ g, a = some ⟨g, 0, none⟩ ∧ g < w'.heap.size ∧ w'.ownsRow w.heap.size 5 1 (.slice (some ⟨g, 0, none⟩) s.size cap) s.size ((Wd.valsF s s.size).map bv)) ∧ Below w.heap.size w w' := by
  refine (figs_yes s c w hs hc hok).mono ?_
  rintro e w' ⟨v, he, hown, hb⟩
  rw [Wd.valsF_length] at hown
  rcases hown.2 with ⟨rfl, h0⟩ | ⟨g, cap, cur, rfl, hg, hh, _⟩
  · exact ⟨none, 0, by rw [h0]; exact he, fun h => absurd h (by omega), hb⟩
  · refine ⟨_, cap, he, fun _ => ⟨g, rfl, ?_, hown⟩, hb⟩
    exact (hown.lt g rfl).2

theorem figs_no (s : ByteArray) (c : Nat) (w : World) (hs : s.size ≤ 40000) (hc : c ≤ 16) (hno : ¬ ∀ p, p < s.size → Wd.isFig s c p) :
    Calls Tryd.prog 74 #[.string s, .int .i64 c] w fun e w' => e = .returned (.tuple #[.slice none 0 0, .bool false]) ∧ Below w.heap.size w w' := by
  refine (figs_any s c w hs hc).mono ?_
  rintro e w' ⟨hb, ⟨hok, _⟩ | ⟨_, he⟩⟩
  · exact absurd hok hno
  · exact ⟨he, hb⟩

/-- The value at a place of a row of figures. -/
theorem vals_cell {s : ByteArray} {w : World} {B g n cap : Nat} (hown : w.ownsRow B 5 1 (.slice (some ⟨g, 0, none⟩) n cap) n ((Wd.valsF s n).map bv)) (p : Nat) (hp : p < n) (hf : 0 ≤ Wd.valI (Wd.bt s p)) :
    w.cell? ⟨g, p, none⟩ = some (.int .u8 (Wd.valI (Wd.bt s p))) := by
  have := hown.cellAt p (by omega)
  rw [this, List.getElem?_map, Wd.valsF_get s n p hp]
  have hv := Wd.valI_bd (Wd.bt s p)
  have e : (((UInt8.ofNat (Wd.valI (Wd.bt s p)).toNat).toNat : Nat) : Int) = Wd.valI (Wd.bt s p) := by simp only [UInt8.toNat_ofNat']; omega
  simp only [Option.map_some, bv, e]

end Go.Proofs.YtdefipahgpljeaaDoor
