/-
  No cell of these rows narrows 'for every input' (looked for: loops, veiled, ifaces, maps, wideKeys, modest, calm, conditions, laid).
  DERIVED. THE GIVEN ROWS OF THIS SEAT. 6 by the template 'for every input the law returns true; each argument reads behind the call as it read before'; 0 by the template 'total and deterministic' (their statements: YtcgaflnegjakdaaTotals.lean).
  GIVEN WITH THE SEED: the statements are not yours to turn. If you find one false, say at which input.
  Laid BY PROGRAM, IN A SANDBOX (cutbox-rows.mjs): the forced cells as the released guide's own fill.sh prints them over the translation 155cdcd35bbecfd0… (all of the seat's roots in one cut). By AI agents, Wed Nov 11 2026. No macro, syntax, notation, axiom, sorry.
-/
import Derived.Test.YtcgaflnegjakdaaChecked
import GoSem.Claim
import GoSem.ClaimJoined
import GoSem.ClaimMapViews
import Derived.JoinedTies
import Derived.KernelRfl
namespace Go.Proofs.Ytcgaflnegjakdaa
/- THE CELL 'sum', in the pinned program and in every row, IS THE sha256 OF THE DUMP (.gsa) THAT YtcgaflnegjakdaaProg.lean LOADS. Nothing in Lean hashes anything: it is a label: what it is worth is what the hold of that sum in a sandbox is worth. -/
noncomputable def Try.pinned : Pinned := { name := "ytcgaflnegjakdaa", sum := "155cdcd35bbecfd03b48df89036cae35465e517f749323e0aa8d05eb0860b95b", checked := Try.checked }
namespace Rows
def none {H : Type} : Left H := { results := [], args := [] }

/-- 'laws.FnRetryWait': WHATEVER THE INPUT: true; the input reads as it did. -/
def fnRetryWaitSpec : ChangeSpec := { name := "fnRetryWait", fn := fun _ => fun
  | [d] => { results := [.lit (.bool true)], args := [d] }
  | _ => none }
def fnRetryWaitRow : OpenClaim := { program := "ytcgaflnegjakdaa", sum := "155cdcd35bbecfd03b48df89036cae35465e517f749323e0aa8d05eb0860b95b", func := "loop.example/conferencehall/laws.FnRetryWait", spec := "fnRetryWait", apart := false }
def FnRetryWaitSaid : Prop := fnRetryWaitRow.holds Try.pinned (OpenSpec.ofChange fnRetryWaitSpec)

/-- ITS FALSE NEIGHBOUR: 'it returns false'. Refute it at one input. -/
def fnRetryWaitWrong : ChangeSpec := { name := "fnRetryWait", fn := fun _ => fun
  | [d] => { results := [.lit (.bool false)], args := [d] }
  | _ => none }
def FnRetryWaitWrongFalsely : Prop := fnRetryWaitRow.holds Try.pinned (OpenSpec.ofChange fnRetryWaitWrong)

/-- 'laws.FnRetryTimes': WHATEVER THE INPUT: true; the input reads as it did. -/
def fnRetryTimesSpec : ChangeSpec := { name := "fnRetryTimes", fn := fun _ => fun
  | [d] => { results := [.lit (.bool true)], args := [d] }
  | _ => none }
def fnRetryTimesRow : OpenClaim := { program := "ytcgaflnegjakdaa", sum := "155cdcd35bbecfd03b48df89036cae35465e517f749323e0aa8d05eb0860b95b", func := "loop.example/conferencehall/laws.FnRetryTimes", spec := "fnRetryTimes", apart := false }
def FnRetryTimesSaid : Prop := fnRetryTimesRow.holds Try.pinned (OpenSpec.ofChange fnRetryTimesSpec)

/-- ITS FALSE NEIGHBOUR: 'it returns false'. Refute it at one input. -/
def fnRetryTimesWrong : ChangeSpec := { name := "fnRetryTimes", fn := fun _ => fun
  | [d] => { results := [.lit (.bool false)], args := [d] }
  | _ => none }
def FnRetryTimesWrongFalsely : Prop := fnRetryTimesRow.holds Try.pinned (OpenSpec.ofChange fnRetryTimesWrong)

/-- 'laws.FnNextRetry': WHATEVER THE INPUT: true; the input reads as it did. -/
def fnNextRetrySpec : ChangeSpec := { name := "fnNextRetry", fn := fun _ => fun
  | [d] => { results := [.lit (.bool true)], args := [d] }
  | _ => none }
def fnNextRetryRow : OpenClaim := { program := "ytcgaflnegjakdaa", sum := "155cdcd35bbecfd03b48df89036cae35465e517f749323e0aa8d05eb0860b95b", func := "loop.example/conferencehall/laws.FnNextRetry", spec := "fnNextRetry", apart := false }
def FnNextRetrySaid : Prop := fnNextRetryRow.holds Try.pinned (OpenSpec.ofChange fnNextRetrySpec)

/-- ITS FALSE NEIGHBOUR: 'it returns false'. Refute it at one input. -/
def fnNextRetryWrong : ChangeSpec := { name := "fnNextRetry", fn := fun _ => fun
  | [d] => { results := [.lit (.bool false)], args := [d] }
  | _ => none }
def FnNextRetryWrongFalsely : Prop := fnNextRetryRow.holds Try.pinned (OpenSpec.ofChange fnNextRetryWrong)

/-- 'laws.FnExactRetryWait': WHATEVER THE INPUT: true; the input reads as it did. -/
def fnExactRetryWaitSpec : ChangeSpec := { name := "fnExactRetryWait", fn := fun _ => fun
  | [d] => { results := [.lit (.bool true)], args := [d] }
  | _ => none }
def fnExactRetryWaitRow : OpenClaim := { program := "ytcgaflnegjakdaa", sum := "155cdcd35bbecfd03b48df89036cae35465e517f749323e0aa8d05eb0860b95b", func := "loop.example/conferencehall/laws.FnExactRetryWait", spec := "fnExactRetryWait", apart := false }
def FnExactRetryWaitSaid : Prop := fnExactRetryWaitRow.holds Try.pinned (OpenSpec.ofChange fnExactRetryWaitSpec)

/-- ITS FALSE NEIGHBOUR: 'it returns false'. Refute it at one input. -/
def fnExactRetryWaitWrong : ChangeSpec := { name := "fnExactRetryWait", fn := fun _ => fun
  | [d] => { results := [.lit (.bool false)], args := [d] }
  | _ => none }
def FnExactRetryWaitWrongFalsely : Prop := fnExactRetryWaitRow.holds Try.pinned (OpenSpec.ofChange fnExactRetryWaitWrong)

/-- 'laws.FnExactRetryTimes': WHATEVER THE INPUT: true; the input reads as it did. -/
def fnExactRetryTimesSpec : ChangeSpec := { name := "fnExactRetryTimes", fn := fun _ => fun
  | [d] => { results := [.lit (.bool true)], args := [d] }
  | _ => none }
def fnExactRetryTimesRow : OpenClaim := { program := "ytcgaflnegjakdaa", sum := "155cdcd35bbecfd03b48df89036cae35465e517f749323e0aa8d05eb0860b95b", func := "loop.example/conferencehall/laws.FnExactRetryTimes", spec := "fnExactRetryTimes", apart := false }
def FnExactRetryTimesSaid : Prop := fnExactRetryTimesRow.holds Try.pinned (OpenSpec.ofChange fnExactRetryTimesSpec)

/-- ITS FALSE NEIGHBOUR: 'it returns false'. Refute it at one input. -/
def fnExactRetryTimesWrong : ChangeSpec := { name := "fnExactRetryTimes", fn := fun _ => fun
  | [d] => { results := [.lit (.bool false)], args := [d] }
  | _ => none }
def FnExactRetryTimesWrongFalsely : Prop := fnExactRetryTimesRow.holds Try.pinned (OpenSpec.ofChange fnExactRetryTimesWrong)

/-- 'laws.FnExactNextRetry': WHATEVER THE INPUT: true; the input reads as it did. -/
def fnExactNextRetrySpec : ChangeSpec := { name := "fnExactNextRetry", fn := fun _ => fun
  | [d] => { results := [.lit (.bool true)], args := [d] }
  | _ => none }
def fnExactNextRetryRow : OpenClaim := { program := "ytcgaflnegjakdaa", sum := "155cdcd35bbecfd03b48df89036cae35465e517f749323e0aa8d05eb0860b95b", func := "loop.example/conferencehall/laws.FnExactNextRetry", spec := "fnExactNextRetry", apart := false }
def FnExactNextRetrySaid : Prop := fnExactNextRetryRow.holds Try.pinned (OpenSpec.ofChange fnExactNextRetrySpec)

/-- ITS FALSE NEIGHBOUR: 'it returns false'. Refute it at one input. -/
def fnExactNextRetryWrong : ChangeSpec := { name := "fnExactNextRetry", fn := fun _ => fun
  | [d] => { results := [.lit (.bool false)], args := [d] }
  | _ => none }
def FnExactNextRetryWrongFalsely : Prop := fnExactNextRetryRow.holds Try.pinned (OpenSpec.ofChange fnExactNextRetryWrong)

/- THE SECOND FORM. 'bulk': how many values and letters a reading holds, each counted each time it is reached (what is shared counts as often as it is met; a slice's spare places count too). A statement '..UptoSaid' is the law's where the arguments, and the package variables that the reading takes, are together of bulk at most 1048576: NARROWER than '..Said'. Prove '..Said' where nothing that the law and all that it calls make is longer than what came in: it says more and counts as full. Else prove '..UptoSaid'. A law counts once. -/
mutual
def uptoBulk {H : Type} : DataW H → Nat
  | .lit (.string bytes) => bytes.length + 1
  | .lit _ => 1
  | .nil => 1
  | .ptr d => uptoBulk d + 1
  | .slice elems spare => uptoBulkAll elems + uptoBulkAll spare + 1
  | .agg parts => uptoBulkAll parts + 1
  | .iface _ d => uptoBulk d + 1
  | .map entries => uptoBulkEntries entries + 1
  | .held _ => 1
def uptoBulkAll {H : Type} : List (DataW H) → Nat
  | [] => 0
  | d :: r => uptoBulk d + uptoBulkAll r
def uptoBulkEntries {H : Type} : List (Lit × DataW H) → Nat
  | [] => 0
  | x :: r => uptoBulkEntry x + uptoBulkEntries r
def uptoBulkEntry {H : Type} : Lit × DataW H → Nat
  | (.string bytes, d) => bytes.length + uptoBulk d + 1
  | (_, d) => uptoBulk d + 1
 end
def uptoSmall : (H : Type) → List (DataW H) → Bool := fun _ ds => decide (uptoBulkAll ds ≤ 1048576)
def OpenSpec.upto (s : _root_.Go.ChangeSpec) : _root_.Go.OpenSpec := { _root_.Go.OpenSpec.ofChange s with cond := some uptoSmall }

/-- 'laws.FnRetryWait', WHERE WHAT IT READS IS OF BULK AT MOST 1048576: true; the input reads as it did. -/
def fnRetryWaitUptoRow : OpenClaim := { program := "ytcgaflnegjakdaa", sum := "155cdcd35bbecfd03b48df89036cae35465e517f749323e0aa8d05eb0860b95b", func := "loop.example/conferencehall/laws.FnRetryWait", spec := "fnRetryWait", apart := false, narrowed := true }
def FnRetryWaitUptoSaid : Prop := fnRetryWaitUptoRow.holds Try.pinned (OpenSpec.upto fnRetryWaitSpec)

/-- 'laws.FnRetryTimes', WHERE WHAT IT READS IS OF BULK AT MOST 1048576: true; the input reads as it did. -/
def fnRetryTimesUptoRow : OpenClaim := { program := "ytcgaflnegjakdaa", sum := "155cdcd35bbecfd03b48df89036cae35465e517f749323e0aa8d05eb0860b95b", func := "loop.example/conferencehall/laws.FnRetryTimes", spec := "fnRetryTimes", apart := false, narrowed := true }
def FnRetryTimesUptoSaid : Prop := fnRetryTimesUptoRow.holds Try.pinned (OpenSpec.upto fnRetryTimesSpec)

/-- 'laws.FnNextRetry', WHERE WHAT IT READS IS OF BULK AT MOST 1048576: true; the input reads as it did. -/
def fnNextRetryUptoRow : OpenClaim := { program := "ytcgaflnegjakdaa", sum := "155cdcd35bbecfd03b48df89036cae35465e517f749323e0aa8d05eb0860b95b", func := "loop.example/conferencehall/laws.FnNextRetry", spec := "fnNextRetry", apart := false, narrowed := true }
def FnNextRetryUptoSaid : Prop := fnNextRetryUptoRow.holds Try.pinned (OpenSpec.upto fnNextRetrySpec)

/-- 'laws.FnExactRetryWait', WHERE WHAT IT READS IS OF BULK AT MOST 1048576: true; the input reads as it did. -/
def fnExactRetryWaitUptoRow : OpenClaim := { program := "ytcgaflnegjakdaa", sum := "155cdcd35bbecfd03b48df89036cae35465e517f749323e0aa8d05eb0860b95b", func := "loop.example/conferencehall/laws.FnExactRetryWait", spec := "fnExactRetryWait", apart := false, narrowed := true }
def FnExactRetryWaitUptoSaid : Prop := fnExactRetryWaitUptoRow.holds Try.pinned (OpenSpec.upto fnExactRetryWaitSpec)

/-- 'laws.FnExactRetryTimes', WHERE WHAT IT READS IS OF BULK AT MOST 1048576: true; the input reads as it did. -/
def fnExactRetryTimesUptoRow : OpenClaim := { program := "ytcgaflnegjakdaa", sum := "155cdcd35bbecfd03b48df89036cae35465e517f749323e0aa8d05eb0860b95b", func := "loop.example/conferencehall/laws.FnExactRetryTimes", spec := "fnExactRetryTimes", apart := false, narrowed := true }
def FnExactRetryTimesUptoSaid : Prop := fnExactRetryTimesUptoRow.holds Try.pinned (OpenSpec.upto fnExactRetryTimesSpec)

/-- 'laws.FnExactNextRetry', WHERE WHAT IT READS IS OF BULK AT MOST 1048576: true; the input reads as it did. -/
def fnExactNextRetryUptoRow : OpenClaim := { program := "ytcgaflnegjakdaa", sum := "155cdcd35bbecfd03b48df89036cae35465e517f749323e0aa8d05eb0860b95b", func := "loop.example/conferencehall/laws.FnExactNextRetry", spec := "fnExactNextRetry", apart := false, narrowed := true }
def FnExactNextRetryUptoSaid : Prop := fnExactNextRetryUptoRow.holds Try.pinned (OpenSpec.upto fnExactNextRetrySpec)

end Rows
end Go.Proofs.Ytcgaflnegjakdaa
