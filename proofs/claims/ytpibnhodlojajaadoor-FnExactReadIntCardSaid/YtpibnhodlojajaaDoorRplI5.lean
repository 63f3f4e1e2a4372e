/- The program's ReplyAt and Replies. -/
import Derived.Test.YtpibnhodlojajaaDoorRplI4
namespace Go.Proofs.YtpibnhodlojajaaDoor
open Go.RowKit

/-- What ReplyAt tells. -/
def AtPost (w : World) (o : Option Nat) (e : Ending) (w' : World) : Prop := ((∃ j, o = some j ∧ e = .returned (.tuple #[.int .i64 (j : Int), .bool true])) ∨ (o = none ∧ e = .returned (.tuple #[.int .i64 0, .bool false]))) ∧ Below w.heap.size w w'

/-- What Replies leaves. -/
def RplPost (w : World) (o : Option (List ByteArray)) (e : Ending) (w' : World) : Prop :=
  ((∃ L v, o = some L ∧ e = .returned (.tuple #[v, .bool true]) ∧ RowText w' w.heap.size v L) ∨ (o = none ∧ e = .returned (.tuple #[.slice none 0 0, .bool false]))) ∧ Below w.heap.size w w'

theorem rplF_step {V : ByteArray → Option Int} {s : ByteArray} {f i : Nat} (h : i < s.size) : rplF V s (f + 1) i = match rpAt V s 4 i with | none => none | some j => match rplF V s f j with | none => none | some l => some (s.extract i j :: l) := by
  rw [rplF, if_neg (by omega)]
  cases rpAt V s 4 i with
  | none => rfl
  | some j => cases rplF V s f j <;> rfl
theorem rplF_end {V : ByteArray → Option Int} {s : ByteArray} {f i : Nat} (h : s.size ≤ i) : rplF V s f i = some [] := by
  cases f with
  | zero => rfl
  | succ f => rw [rplF, if_pos h]

end Go.Proofs.YtpibnhodlojajaaDoor
