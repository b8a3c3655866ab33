/-
  No cell of these rows narrows 'for every input' (looked for: loops, veiled, ifaces, maps, wideKeys, modest, calm, conditions, laid).
  DERIVED. THE GIVEN ROWS OF THIS SEAT. 8 by the template 'for every input the law returns true; each argument reads behind the call as it read before'; 0 by the template 'total and deterministic' (their statements: YtmgjgmbdfkkagaaTotals.lean).
  GIVEN WITH THE SEED: the statements are not yours to turn. If you find one false, say at which input.
  Laid BY PROGRAM, IN A SANDBOX (cutbox-rows.mjs): the forced cells as the released guide's own fill.sh prints them over the translation 59ac01dfddd4e542… (all of the seat's roots in one cut). By AI agents, Wed Nov 11 2026. No macro, syntax, notation, axiom, sorry.
-/
import Derived.Test.YtmgjgmbdfkkagaaChecked
import GoSem.Claim
import GoSem.ClaimJoined
import GoSem.ClaimMapViews
import Derived.JoinedTies
import Derived.KernelRfl
namespace Go.Proofs.Ytmgjgmbdfkkagaa
/- THE CELL 'sum', in the pinned program and in every row, IS THE sha256 OF THE DUMP (.gsa) THAT YtmgjgmbdfkkagaaProg.lean LOADS. Nothing in Lean hashes anything: it is a label: what it is worth is what the hold of that sum in a sandbox is worth. -/
noncomputable def Try.pinned : Pinned := { name := "ytmgjgmbdfkkagaa", sum := "59ac01dfddd4e542a2dfb5505d358f9a107209ddc55c55f0751de015a293211e", checked := Try.checked }
namespace Rows
def none {H : Type} : Left H := { results := [], args := [] }

/-- 'laws.FnTransStep': WHATEVER THE INPUT: true; the input reads as it did. -/
def fnTransStepSpec : ChangeSpec := { name := "fnTransStep", fn := fun _ => fun
  | [d] => { results := [.lit (.bool true)], args := [d] }
  | _ => none }
def fnTransStepRow : OpenClaim := { program := "ytmgjgmbdfkkagaa", sum := "59ac01dfddd4e542a2dfb5505d358f9a107209ddc55c55f0751de015a293211e", func := "loop.example/conferencehall/laws.FnTransStep", spec := "fnTransStep", apart := false }
def FnTransStepSaid : Prop := fnTransStepRow.holds Try.pinned (OpenSpec.ofChange fnTransStepSpec)

/-- ITS FALSE NEIGHBOUR: 'it returns false'. Refute it at one input. -/
def fnTransStepWrong : ChangeSpec := { name := "fnTransStep", fn := fun _ => fun
  | [d] => { results := [.lit (.bool false)], args := [d] }
  | _ => none }
def FnTransStepWrongFalsely : Prop := fnTransStepRow.holds Try.pinned (OpenSpec.ofChange fnTransStepWrong)

/-- 'laws.FnTransRun': WHATEVER THE INPUT: true; the input reads as it did. -/
def fnTransRunSpec : ChangeSpec := { name := "fnTransRun", fn := fun _ => fun
  | [d] => { results := [.lit (.bool true)], args := [d] }
  | _ => none }
def fnTransRunRow : OpenClaim := { program := "ytmgjgmbdfkkagaa", sum := "59ac01dfddd4e542a2dfb5505d358f9a107209ddc55c55f0751de015a293211e", func := "loop.example/conferencehall/laws.FnTransRun", spec := "fnTransRun", apart := false }
def FnTransRunSaid : Prop := fnTransRunRow.holds Try.pinned (OpenSpec.ofChange fnTransRunSpec)

/-- ITS FALSE NEIGHBOUR: 'it returns false'. Refute it at one input. -/
def fnTransRunWrong : ChangeSpec := { name := "fnTransRun", fn := fun _ => fun
  | [d] => { results := [.lit (.bool false)], args := [d] }
  | _ => none }
def FnTransRunWrongFalsely : Prop := fnTransRunRow.holds Try.pinned (OpenSpec.ofChange fnTransRunWrong)

/-- 'laws.FnHearsOf': WHATEVER THE INPUT: true; the input reads as it did. -/
def fnHearsOfSpec : ChangeSpec := { name := "fnHearsOf", fn := fun _ => fun
  | [d] => { results := [.lit (.bool true)], args := [d] }
  | _ => none }
def fnHearsOfRow : OpenClaim := { program := "ytmgjgmbdfkkagaa", sum := "59ac01dfddd4e542a2dfb5505d358f9a107209ddc55c55f0751de015a293211e", func := "loop.example/conferencehall/laws.FnHearsOf", spec := "fnHearsOf", apart := false }
def FnHearsOfSaid : Prop := fnHearsOfRow.holds Try.pinned (OpenSpec.ofChange fnHearsOfSpec)

/-- ITS FALSE NEIGHBOUR: 'it returns false'. Refute it at one input. -/
def fnHearsOfWrong : ChangeSpec := { name := "fnHearsOf", fn := fun _ => fun
  | [d] => { results := [.lit (.bool false)], args := [d] }
  | _ => none }
def FnHearsOfWrongFalsely : Prop := fnHearsOfRow.holds Try.pinned (OpenSpec.ofChange fnHearsOfWrong)

/-- 'laws.FnStateText': WHATEVER THE INPUT: true; the input reads as it did. -/
def fnStateTextSpec : ChangeSpec := { name := "fnStateText", fn := fun _ => fun
  | [d] => { results := [.lit (.bool true)], args := [d] }
  | _ => none }
def fnStateTextRow : OpenClaim := { program := "ytmgjgmbdfkkagaa", sum := "59ac01dfddd4e542a2dfb5505d358f9a107209ddc55c55f0751de015a293211e", func := "loop.example/conferencehall/laws.FnStateText", spec := "fnStateText", apart := false }
def FnStateTextSaid : Prop := fnStateTextRow.holds Try.pinned (OpenSpec.ofChange fnStateTextSpec)

/-- ITS FALSE NEIGHBOUR: 'it returns false'. Refute it at one input. -/
def fnStateTextWrong : ChangeSpec := { name := "fnStateText", fn := fun _ => fun
  | [d] => { results := [.lit (.bool false)], args := [d] }
  | _ => none }
def FnStateTextWrongFalsely : Prop := fnStateTextRow.holds Try.pinned (OpenSpec.ofChange fnStateTextWrong)

/-- 'laws.FnExactTransStep': WHATEVER THE INPUT: true; the input reads as it did. -/
def fnExactTransStepSpec : ChangeSpec := { name := "fnExactTransStep", fn := fun _ => fun
  | [d1, d2] => { results := [.lit (.bool true)], args := [d1, d2] }
  | _ => none }
def fnExactTransStepRow : OpenClaim := { program := "ytmgjgmbdfkkagaa", sum := "59ac01dfddd4e542a2dfb5505d358f9a107209ddc55c55f0751de015a293211e", func := "loop.example/conferencehall/laws.FnExactTransStep", spec := "fnExactTransStep", apart := false }
def FnExactTransStepSaid : Prop := fnExactTransStepRow.holds Try.pinned (OpenSpec.ofChange fnExactTransStepSpec)

/-- ITS FALSE NEIGHBOUR: 'it returns false'. Refute it at one input. -/
def fnExactTransStepWrong : ChangeSpec := { name := "fnExactTransStep", fn := fun _ => fun
  | [d1, d2] => { results := [.lit (.bool false)], args := [d1, d2] }
  | _ => none }
def FnExactTransStepWrongFalsely : Prop := fnExactTransStepRow.holds Try.pinned (OpenSpec.ofChange fnExactTransStepWrong)

/-- 'laws.FnExactTransRun': WHATEVER THE INPUT: true; the input reads as it did. -/
def fnExactTransRunSpec : ChangeSpec := { name := "fnExactTransRun", fn := fun _ => fun
  | [d] => { results := [.lit (.bool true)], args := [d] }
  | _ => none }
def fnExactTransRunRow : OpenClaim := { program := "ytmgjgmbdfkkagaa", sum := "59ac01dfddd4e542a2dfb5505d358f9a107209ddc55c55f0751de015a293211e", func := "loop.example/conferencehall/laws.FnExactTransRun", spec := "fnExactTransRun", apart := false }
def FnExactTransRunSaid : Prop := fnExactTransRunRow.holds Try.pinned (OpenSpec.ofChange fnExactTransRunSpec)

/-- ITS FALSE NEIGHBOUR: 'it returns false'. Refute it at one input. -/
def fnExactTransRunWrong : ChangeSpec := { name := "fnExactTransRun", fn := fun _ => fun
  | [d] => { results := [.lit (.bool false)], args := [d] }
  | _ => none }
def FnExactTransRunWrongFalsely : Prop := fnExactTransRunRow.holds Try.pinned (OpenSpec.ofChange fnExactTransRunWrong)

/-- 'laws.FnExactHearsOf': WHATEVER THE INPUT: true; the input reads as it did. -/
def fnExactHearsOfSpec : ChangeSpec := { name := "fnExactHearsOf", fn := fun _ => fun
  | [d] => { results := [.lit (.bool true)], args := [d] }
  | _ => none }
def fnExactHearsOfRow : OpenClaim := { program := "ytmgjgmbdfkkagaa", sum := "59ac01dfddd4e542a2dfb5505d358f9a107209ddc55c55f0751de015a293211e", func := "loop.example/conferencehall/laws.FnExactHearsOf", spec := "fnExactHearsOf", apart := false }
def FnExactHearsOfSaid : Prop := fnExactHearsOfRow.holds Try.pinned (OpenSpec.ofChange fnExactHearsOfSpec)

/-- ITS FALSE NEIGHBOUR: 'it returns false'. Refute it at one input. -/
def fnExactHearsOfWrong : ChangeSpec := { name := "fnExactHearsOf", fn := fun _ => fun
  | [d] => { results := [.lit (.bool false)], args := [d] }
  | _ => none }
def FnExactHearsOfWrongFalsely : Prop := fnExactHearsOfRow.holds Try.pinned (OpenSpec.ofChange fnExactHearsOfWrong)

/-- 'laws.FnExactStateText': WHATEVER THE INPUT: true; the input reads as it did. -/
def fnExactStateTextSpec : ChangeSpec := { name := "fnExactStateText", fn := fun _ => fun
  | [d] => { results := [.lit (.bool true)], args := [d] }
  | _ => none }
def fnExactStateTextRow : OpenClaim := { program := "ytmgjgmbdfkkagaa", sum := "59ac01dfddd4e542a2dfb5505d358f9a107209ddc55c55f0751de015a293211e", func := "loop.example/conferencehall/laws.FnExactStateText", spec := "fnExactStateText", apart := false }
def FnExactStateTextSaid : Prop := fnExactStateTextRow.holds Try.pinned (OpenSpec.ofChange fnExactStateTextSpec)

/-- ITS FALSE NEIGHBOUR: 'it returns false'. Refute it at one input. -/
def fnExactStateTextWrong : ChangeSpec := { name := "fnExactStateText", fn := fun _ => fun
  | [d] => { results := [.lit (.bool false)], args := [d] }
  | _ => none }
def FnExactStateTextWrongFalsely : Prop := fnExactStateTextRow.holds Try.pinned (OpenSpec.ofChange fnExactStateTextWrong)

/- THE SECOND FORM. 'bulk': how many values and letters a reading holds, each counted each time it is reached (what is shared counts as often as it is met; a slice's spare places count too). A statement '..UptoSaid' is the law's where the arguments, and the package variables that the reading takes, are together of bulk at most 1048576: NARROWER than '..Said'. Prove '..Said' where nothing that the law and all that it calls make is longer than what came in: it says more and counts as full. Else prove '..UptoSaid'. A law counts once. -/
mutual
def uptoBulk {H : Type} : DataW H → Nat
  | .lit (.string bytes) => bytes.length + 1
  | .lit _ => 1
  | .nil => 1
  | .ptr d => uptoBulk d + 1
  | .slice elems spare => uptoBulkAll elems + uptoBulkAll spare + 1
  | .agg parts => uptoBulkAll parts + 1
  | .iface _ d => uptoBulk d + 1
  | .map entries => uptoBulkEntries entries + 1
  | .held _ => 1
def uptoBulkAll {H : Type} : List (DataW H) → Nat
  | [] => 0
  | d :: r => uptoBulk d + uptoBulkAll r
def uptoBulkEntries {H : Type} : List (Lit × DataW H) → Nat
  | [] => 0
  | x :: r => uptoBulkEntry x + uptoBulkEntries r
def uptoBulkEntry {H : Type} : Lit × DataW H → Nat
  | (.string bytes, d) => bytes.length + uptoBulk d + 1
  | (_, d) => uptoBulk d + 1
 end
def uptoSmall : (H : Type) → List (DataW H) → Bool := fun _ ds => decide (uptoBulkAll ds ≤ 1048576)
def OpenSpec.upto (s : _root_.Go.ChangeSpec) : _root_.Go.OpenSpec := { _root_.Go.OpenSpec.ofChange s with cond := some uptoSmall }

/-- 'laws.FnTransStep', WHERE WHAT IT READS IS OF BULK AT MOST 1048576: true; the input reads as it did. -/
def fnTransStepUptoRow : OpenClaim := { program := "ytmgjgmbdfkkagaa", sum := "59ac01dfddd4e542a2dfb5505d358f9a107209ddc55c55f0751de015a293211e", func := "loop.example/conferencehall/laws.FnTransStep", spec := "fnTransStep", apart := false, narrowed := true }
def FnTransStepUptoSaid : Prop := fnTransStepUptoRow.holds Try.pinned (OpenSpec.upto fnTransStepSpec)

/-- 'laws.FnTransRun', WHERE WHAT IT READS IS OF BULK AT MOST 1048576: true; the input reads as it did. -/
def fnTransRunUptoRow : OpenClaim := { program := "ytmgjgmbdfkkagaa", sum := "59ac01dfddd4e542a2dfb5505d358f9a107209ddc55c55f0751de015a293211e", func := "loop.example/conferencehall/laws.FnTransRun", spec := "fnTransRun", apart := false, narrowed := true }
def FnTransRunUptoSaid : Prop := fnTransRunUptoRow.holds Try.pinned (OpenSpec.upto fnTransRunSpec)

/-- 'laws.FnHearsOf', WHERE WHAT IT READS IS OF BULK AT MOST 1048576: true; the input reads as it did. -/
def fnHearsOfUptoRow : OpenClaim := { program := "ytmgjgmbdfkkagaa", sum := "59ac01dfddd4e542a2dfb5505d358f9a107209ddc55c55f0751de015a293211e", func := "loop.example/conferencehall/laws.FnHearsOf", spec := "fnHearsOf", apart := false, narrowed := true }
def FnHearsOfUptoSaid : Prop := fnHearsOfUptoRow.holds Try.pinned (OpenSpec.upto fnHearsOfSpec)

/-- 'laws.FnStateText', WHERE WHAT IT READS IS OF BULK AT MOST 1048576: true; the input reads as it did. -/
def fnStateTextUptoRow : OpenClaim := { program := "ytmgjgmbdfkkagaa", sum := "59ac01dfddd4e542a2dfb5505d358f9a107209ddc55c55f0751de015a293211e", func := "loop.example/conferencehall/laws.FnStateText", spec := "fnStateText", apart := false, narrowed := true }
def FnStateTextUptoSaid : Prop := fnStateTextUptoRow.holds Try.pinned (OpenSpec.upto fnStateTextSpec)

/-- 'laws.FnExactTransStep', WHERE WHAT IT READS IS OF BULK AT MOST 1048576: true; the input reads as it did. -/
def fnExactTransStepUptoRow : OpenClaim := { program := "ytmgjgmbdfkkagaa", sum := "59ac01dfddd4e542a2dfb5505d358f9a107209ddc55c55f0751de015a293211e", func := "loop.example/conferencehall/laws.FnExactTransStep", spec := "fnExactTransStep", apart := false, narrowed := true }
def FnExactTransStepUptoSaid : Prop := fnExactTransStepUptoRow.holds Try.pinned (OpenSpec.upto fnExactTransStepSpec)

/-- 'laws.FnExactTransRun', WHERE WHAT IT READS IS OF BULK AT MOST 1048576: true; the input reads as it did. -/
def fnExactTransRunUptoRow : OpenClaim := { program := "ytmgjgmbdfkkagaa", sum := "59ac01dfddd4e542a2dfb5505d358f9a107209ddc55c55f0751de015a293211e", func := "loop.example/conferencehall/laws.FnExactTransRun", spec := "fnExactTransRun", apart := false, narrowed := true }
def FnExactTransRunUptoSaid : Prop := fnExactTransRunUptoRow.holds Try.pinned (OpenSpec.upto fnExactTransRunSpec)

/-- 'laws.FnExactHearsOf', WHERE WHAT IT READS IS OF BULK AT MOST 1048576: true; the input reads as it did. -/
def fnExactHearsOfUptoRow : OpenClaim := { program := "ytmgjgmbdfkkagaa", sum := "59ac01dfddd4e542a2dfb5505d358f9a107209ddc55c55f0751de015a293211e", func := "loop.example/conferencehall/laws.FnExactHearsOf", spec := "fnExactHearsOf", apart := false, narrowed := true }
def FnExactHearsOfUptoSaid : Prop := fnExactHearsOfUptoRow.holds Try.pinned (OpenSpec.upto fnExactHearsOfSpec)

/-- 'laws.FnExactStateText', WHERE WHAT IT READS IS OF BULK AT MOST 1048576: true; the input reads as it did. -/
def fnExactStateTextUptoRow : OpenClaim := { program := "ytmgjgmbdfkkagaa", sum := "59ac01dfddd4e542a2dfb5505d358f9a107209ddc55c55f0751de015a293211e", func := "loop.example/conferencehall/laws.FnExactStateText", spec := "fnExactStateText", apart := false, narrowed := true }
def FnExactStateTextUptoSaid : Prop := fnExactStateTextUptoRow.holds Try.pinned (OpenSpec.upto fnExactStateTextSpec)

end Rows
end Go.Proofs.Ytmgjgmbdfkkagaa
