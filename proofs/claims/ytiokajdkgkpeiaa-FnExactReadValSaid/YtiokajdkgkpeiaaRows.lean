/-
  No cell of these rows narrows 'for every input' (looked for: loops, veiled, ifaces, maps, wideKeys, modest, calm, conditions, laid).
  DERIVED. THE GIVEN ROWS OF THIS SEAT. 6 by the template 'for every input the law returns true; each argument reads behind the call as it read before'; 0 by the template 'total and deterministic' (their statements: YtiokajdkgkpeiaaTotals.lean).
  GIVEN WITH THE SEED: the statements are not yours to turn. If you find one false, say at which input.
  Laid BY PROGRAM, IN A SANDBOX (cutbox-rows.mjs): the forced cells as the released guide's own fill.sh prints them over the translation e610e6ca496b7a1d… (all of the seat's roots in one cut). By AI agents, Wed Nov 11 2026. No macro, syntax, notation, axiom, sorry.
-/
import Derived.Test.YtiokajdkgkpeiaaChecked
import GoSem.Claim
import GoSem.ClaimJoined
import GoSem.ClaimMapViews
import Derived.JoinedTies
import Derived.KernelRfl
namespace Go.Proofs.Ytiokajdkgkpeiaa
/- THE CELL 'sum', in the pinned program and in every row, IS THE sha256 OF THE DUMP (.gsa) THAT YtiokajdkgkpeiaaProg.lean LOADS. Nothing in Lean hashes anything: it is a label: what it is worth is what the hold of that sum in a sandbox is worth. -/
noncomputable def Try.pinned : Pinned := { name := "ytiokajdkgkpeiaa", sum := "e610e6ca496b7a1d2f9509630b82dba990ce8b80b4a3d4adabbb6d093a219bb8", checked := Try.checked }
namespace Rows
def none {H : Type} : Left H := { results := [], args := [] }

/-- 'laws.FnExactValOk': WHATEVER THE INPUT: true; the input reads as it did. -/
def fnExactValOkSpec : ChangeSpec := { name := "fnExactValOk", fn := fun _ => fun
  | [d] => { results := [.lit (.bool true)], args := [d] }
  | _ => none }
def fnExactValOkRow : OpenClaim := { program := "ytiokajdkgkpeiaa", sum := "e610e6ca496b7a1d2f9509630b82dba990ce8b80b4a3d4adabbb6d093a219bb8", func := "loop.example/g00124/laws.FnExactValOk", spec := "fnExactValOk", unfollowed := true, recurses := true, apart := false }
def FnExactValOkSaid : Prop := fnExactValOkRow.holds Try.pinned (OpenSpec.ofChange fnExactValOkSpec)

/-- ITS FALSE NEIGHBOUR: 'it returns false'. Refute it at one input. -/
def fnExactValOkWrong : ChangeSpec := { name := "fnExactValOk", fn := fun _ => fun
  | [d] => { results := [.lit (.bool false)], args := [d] }
  | _ => none }
def FnExactValOkWrongFalsely : Prop := fnExactValOkRow.holds Try.pinned (OpenSpec.ofChange fnExactValOkWrong)

/-- 'laws.FnExactTableOk': WHATEVER THE INPUT: true; the input reads as it did. -/
def fnExactTableOkSpec : ChangeSpec := { name := "fnExactTableOk", fn := fun _ => fun
  | [d] => { results := [.lit (.bool true)], args := [d] }
  | _ => none }
def fnExactTableOkRow : OpenClaim := { program := "ytiokajdkgkpeiaa", sum := "e610e6ca496b7a1d2f9509630b82dba990ce8b80b4a3d4adabbb6d093a219bb8", func := "loop.example/g00124/laws.FnExactTableOk", spec := "fnExactTableOk", unfollowed := true, recurses := true, apart := false }
def FnExactTableOkSaid : Prop := fnExactTableOkRow.holds Try.pinned (OpenSpec.ofChange fnExactTableOkSpec)

/-- ITS FALSE NEIGHBOUR: 'it returns false'. Refute it at one input. -/
def fnExactTableOkWrong : ChangeSpec := { name := "fnExactTableOk", fn := fun _ => fun
  | [d] => { results := [.lit (.bool false)], args := [d] }
  | _ => none }
def FnExactTableOkWrongFalsely : Prop := fnExactTableOkRow.holds Try.pinned (OpenSpec.ofChange fnExactTableOkWrong)

/-- 'laws.FnExactValText': WHATEVER THE INPUT: true; the input reads as it did. -/
def fnExactValTextSpec : ChangeSpec := { name := "fnExactValText", fn := fun _ => fun
  | [d] => { results := [.lit (.bool true)], args := [d] }
  | _ => none }
def fnExactValTextRow : OpenClaim := { program := "ytiokajdkgkpeiaa", sum := "e610e6ca496b7a1d2f9509630b82dba990ce8b80b4a3d4adabbb6d093a219bb8", func := "loop.example/g00124/laws.FnExactValText", spec := "fnExactValText", unfollowed := true, recurses := true, apart := false }
def FnExactValTextSaid : Prop := fnExactValTextRow.holds Try.pinned (OpenSpec.ofChange fnExactValTextSpec)

/-- ITS FALSE NEIGHBOUR: 'it returns false'. Refute it at one input. -/
def fnExactValTextWrong : ChangeSpec := { name := "fnExactValText", fn := fun _ => fun
  | [d] => { results := [.lit (.bool false)], args := [d] }
  | _ => none }
def FnExactValTextWrongFalsely : Prop := fnExactValTextRow.holds Try.pinned (OpenSpec.ofChange fnExactValTextWrong)

/-- 'laws.FnExactReadVal': WHATEVER THE INPUT: true; the input reads as it did. -/
def fnExactReadValSpec : ChangeSpec := { name := "fnExactReadVal", fn := fun _ => fun
  | [d] => { results := [.lit (.bool true)], args := [d] }
  | _ => none }
def fnExactReadValRow : OpenClaim := { program := "ytiokajdkgkpeiaa", sum := "e610e6ca496b7a1d2f9509630b82dba990ce8b80b4a3d4adabbb6d093a219bb8", func := "loop.example/g00124/laws.FnExactReadVal", spec := "fnExactReadVal", unfollowed := true, recurses := true, apart := false }
def FnExactReadValSaid : Prop := fnExactReadValRow.holds Try.pinned (OpenSpec.ofChange fnExactReadValSpec)

/-- ITS FALSE NEIGHBOUR: 'it returns false'. Refute it at one input. -/
def fnExactReadValWrong : ChangeSpec := { name := "fnExactReadVal", fn := fun _ => fun
  | [d] => { results := [.lit (.bool false)], args := [d] }
  | _ => none }
def FnExactReadValWrongFalsely : Prop := fnExactReadValRow.holds Try.pinned (OpenSpec.ofChange fnExactReadValWrong)

/-- 'laws.FnExactFind': WHATEVER THE INPUT: true; the input reads as it did. -/
def fnExactFindSpec : ChangeSpec := { name := "fnExactFind", fn := fun _ => fun
  | [d1, d2] => { results := [.lit (.bool true)], args := [d1, d2] }
  | _ => none }
def fnExactFindRow : OpenClaim := { program := "ytiokajdkgkpeiaa", sum := "e610e6ca496b7a1d2f9509630b82dba990ce8b80b4a3d4adabbb6d093a219bb8", func := "loop.example/g00124/laws.FnExactFind", spec := "fnExactFind", apart := false }
def FnExactFindSaid : Prop := fnExactFindRow.holds Try.pinned (OpenSpec.ofChange fnExactFindSpec)

/-- ITS FALSE NEIGHBOUR: 'it returns false'. Refute it at one input. -/
def fnExactFindWrong : ChangeSpec := { name := "fnExactFind", fn := fun _ => fun
  | [d1, d2] => { results := [.lit (.bool false)], args := [d1, d2] }
  | _ => none }
def FnExactFindWrongFalsely : Prop := fnExactFindRow.holds Try.pinned (OpenSpec.ofChange fnExactFindWrong)

/-- 'laws.FnExactLive': WHATEVER THE INPUT: true; the input reads as it did. -/
def fnExactLiveSpec : ChangeSpec := { name := "fnExactLive", fn := fun _ => fun
  | [d1, d2] => { results := [.lit (.bool true)], args := [d1, d2] }
  | _ => none }
def fnExactLiveRow : OpenClaim := { program := "ytiokajdkgkpeiaa", sum := "e610e6ca496b7a1d2f9509630b82dba990ce8b80b4a3d4adabbb6d093a219bb8", func := "loop.example/g00124/laws.FnExactLive", spec := "fnExactLive", apart := false }
def FnExactLiveSaid : Prop := fnExactLiveRow.holds Try.pinned (OpenSpec.ofChange fnExactLiveSpec)

/-- ITS FALSE NEIGHBOUR: 'it returns false'. Refute it at one input. -/
def fnExactLiveWrong : ChangeSpec := { name := "fnExactLive", fn := fun _ => fun
  | [d1, d2] => { results := [.lit (.bool false)], args := [d1, d2] }
  | _ => none }
def FnExactLiveWrongFalsely : Prop := fnExactLiveRow.holds Try.pinned (OpenSpec.ofChange fnExactLiveWrong)

/- THE SECOND FORM. 'bulk': how many values and letters a reading holds, each counted each time it is reached (what is shared counts as often as it is met; a slice's spare places count too). A statement '..UptoSaid' is the law's where the arguments, and the package variables that the reading takes, are together of bulk at most 1048576: NARROWER than '..Said'. Prove '..Said' where nothing that the law and all that it calls make is longer than what came in: it says more and counts as full. Else prove '..UptoSaid'. A law counts once. -/
mutual
def uptoBulk {H : Type} : DataW H → Nat
  | .lit (.string bytes) => bytes.length + 1
  | .lit _ => 1
  | .nil => 1
  | .ptr d => uptoBulk d + 1
  | .slice elems spare => uptoBulkAll elems + uptoBulkAll spare + 1
  | .agg parts => uptoBulkAll parts + 1
  | .iface _ d => uptoBulk d + 1
  | .map entries => uptoBulkEntries entries + 1
  | .held _ => 1
def uptoBulkAll {H : Type} : List (DataW H) → Nat
  | [] => 0
  | d :: r => uptoBulk d + uptoBulkAll r
def uptoBulkEntries {H : Type} : List (Lit × DataW H) → Nat
  | [] => 0
  | x :: r => uptoBulkEntry x + uptoBulkEntries r
def uptoBulkEntry {H : Type} : Lit × DataW H → Nat
  | (.string bytes, d) => bytes.length + uptoBulk d + 1
  | (_, d) => uptoBulk d + 1
 end
def uptoSmall : (H : Type) → List (DataW H) → Bool := fun _ ds => decide (uptoBulkAll ds ≤ 1048576)
def OpenSpec.upto (s : _root_.Go.ChangeSpec) : _root_.Go.OpenSpec := { _root_.Go.OpenSpec.ofChange s with cond := some uptoSmall }

/-- 'laws.FnExactValOk', WHERE WHAT IT READS IS OF BULK AT MOST 1048576: true; the input reads as it did. -/
def fnExactValOkUptoRow : OpenClaim := { program := "ytiokajdkgkpeiaa", sum := "e610e6ca496b7a1d2f9509630b82dba990ce8b80b4a3d4adabbb6d093a219bb8", func := "loop.example/g00124/laws.FnExactValOk", spec := "fnExactValOk", unfollowed := true, recurses := true, apart := false, narrowed := true }
def FnExactValOkUptoSaid : Prop := fnExactValOkUptoRow.holds Try.pinned (OpenSpec.upto fnExactValOkSpec)

/-- 'laws.FnExactTableOk', WHERE WHAT IT READS IS OF BULK AT MOST 1048576: true; the input reads as it did. -/
def fnExactTableOkUptoRow : OpenClaim := { program := "ytiokajdkgkpeiaa", sum := "e610e6ca496b7a1d2f9509630b82dba990ce8b80b4a3d4adabbb6d093a219bb8", func := "loop.example/g00124/laws.FnExactTableOk", spec := "fnExactTableOk", unfollowed := true, recurses := true, apart := false, narrowed := true }
def FnExactTableOkUptoSaid : Prop := fnExactTableOkUptoRow.holds Try.pinned (OpenSpec.upto fnExactTableOkSpec)

/-- 'laws.FnExactValText', WHERE WHAT IT READS IS OF BULK AT MOST 1048576: true; the input reads as it did. -/
def fnExactValTextUptoRow : OpenClaim := { program := "ytiokajdkgkpeiaa", sum := "e610e6ca496b7a1d2f9509630b82dba990ce8b80b4a3d4adabbb6d093a219bb8", func := "loop.example/g00124/laws.FnExactValText", spec := "fnExactValText", unfollowed := true, recurses := true, apart := false, narrowed := true }
def FnExactValTextUptoSaid : Prop := fnExactValTextUptoRow.holds Try.pinned (OpenSpec.upto fnExactValTextSpec)

/-- 'laws.FnExactReadVal', WHERE WHAT IT READS IS OF BULK AT MOST 1048576: true; the input reads as it did. -/
def fnExactReadValUptoRow : OpenClaim := { program := "ytiokajdkgkpeiaa", sum := "e610e6ca496b7a1d2f9509630b82dba990ce8b80b4a3d4adabbb6d093a219bb8", func := "loop.example/g00124/laws.FnExactReadVal", spec := "fnExactReadVal", unfollowed := true, recurses := true, apart := false, narrowed := true }
def FnExactReadValUptoSaid : Prop := fnExactReadValUptoRow.holds Try.pinned (OpenSpec.upto fnExactReadValSpec)

/-- 'laws.FnExactFind', WHERE WHAT IT READS IS OF BULK AT MOST 1048576: true; the input reads as it did. -/
def fnExactFindUptoRow : OpenClaim := { program := "ytiokajdkgkpeiaa", sum := "e610e6ca496b7a1d2f9509630b82dba990ce8b80b4a3d4adabbb6d093a219bb8", func := "loop.example/g00124/laws.FnExactFind", spec := "fnExactFind", apart := false, narrowed := true }
def FnExactFindUptoSaid : Prop := fnExactFindUptoRow.holds Try.pinned (OpenSpec.upto fnExactFindSpec)

/-- 'laws.FnExactLive', WHERE WHAT IT READS IS OF BULK AT MOST 1048576: true; the input reads as it did. -/
def fnExactLiveUptoRow : OpenClaim := { program := "ytiokajdkgkpeiaa", sum := "e610e6ca496b7a1d2f9509630b82dba990ce8b80b4a3d4adabbb6d093a219bb8", func := "loop.example/g00124/laws.FnExactLive", spec := "fnExactLive", apart := false, narrowed := true }
def FnExactLiveUptoSaid : Prop := fnExactLiveUptoRow.holds Try.pinned (OpenSpec.upto fnExactLiveSpec)

end Rows
end Go.Proofs.Ytiokajdkgkpeiaa
