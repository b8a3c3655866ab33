/-
  No cell of these rows narrows 'for every input' (looked for: loops, veiled, ifaces, maps, wideKeys, modest, calm, conditions, laid).
  DERIVED. THE GIVEN ROWS OF THIS SEAT. 8 by the template 'for every input the law returns true; each argument reads behind the call as it read before'; 0 by the template 'total and deterministic' (their statements: YtdofjbolhgoidaaTotals.lean).
  GIVEN WITH THE SEED: the statements are not yours to turn. If you find one false, say at which input.
  Laid BY PROGRAM, IN A SANDBOX (cutbox-rows.mjs): the forced cells as the released guide's own fill.sh prints them over the translation f88f9451daf1c38f… (all of the seat's roots in one cut). By AI agents, Wed Nov 11 2026. No macro, syntax, notation, axiom, sorry.
-/
import Derived.Test.YtdofjbolhgoidaaChecked
import GoSem.Claim
import GoSem.ClaimJoined
import GoSem.ClaimMapViews
import Derived.JoinedTies
import Derived.KernelRfl
namespace Go.Proofs.Ytdofjbolhgoidaa
/- THE CELL 'sum', in the pinned program and in every row, IS THE sha256 OF THE DUMP (.gsa) THAT YtdofjbolhgoidaaProg.lean LOADS. Nothing in Lean hashes anything: it is a label: what it is worth is what the hold of that sum in a sandbox is worth. -/
noncomputable def Try.pinned : Pinned := { name := "ytdofjbolhgoidaa", sum := "f88f9451daf1c38fa7378429fa35505920765cc8862df750b3cc15082f62b633", checked := Try.checked }
namespace Rows
def none {H : Type} : Left H := { results := [], args := [] }

/-- 'laws.FnDialogValid': WHATEVER THE INPUT: true; the input reads as it did. -/
def fnDialogValidSpec : ChangeSpec := { name := "fnDialogValid", fn := fun _ => fun
  | [d] => { results := [.lit (.bool true)], args := [d] }
  | _ => none }
def fnDialogValidRow : OpenClaim := { program := "ytdofjbolhgoidaa", sum := "f88f9451daf1c38fa7378429fa35505920765cc8862df750b3cc15082f62b633", func := "loop.example/conferencehall/laws.FnDialogValid", spec := "fnDialogValid", apart := false }
def FnDialogValidSaid : Prop := fnDialogValidRow.holds Try.pinned (OpenSpec.ofChange fnDialogValidSpec)

/-- ITS FALSE NEIGHBOUR: 'it returns false'. Refute it at one input. -/
def fnDialogValidWrong : ChangeSpec := { name := "fnDialogValid", fn := fun _ => fun
  | [d] => { results := [.lit (.bool false)], args := [d] }
  | _ => none }
def FnDialogValidWrongFalsely : Prop := fnDialogValidRow.holds Try.pinned (OpenSpec.ofChange fnDialogValidWrong)

/-- 'laws.FnDialogAsk': WHATEVER THE INPUT: true; the input reads as it did. -/
def fnDialogAskSpec : ChangeSpec := { name := "fnDialogAsk", fn := fun _ => fun
  | [d] => { results := [.lit (.bool true)], args := [d] }
  | _ => none }
def fnDialogAskRow : OpenClaim := { program := "ytdofjbolhgoidaa", sum := "f88f9451daf1c38fa7378429fa35505920765cc8862df750b3cc15082f62b633", func := "loop.example/conferencehall/laws.FnDialogAsk", spec := "fnDialogAsk", apart := false }
def FnDialogAskSaid : Prop := fnDialogAskRow.holds Try.pinned (OpenSpec.ofChange fnDialogAskSpec)

/-- ITS FALSE NEIGHBOUR: 'it returns false'. Refute it at one input. -/
def fnDialogAskWrong : ChangeSpec := { name := "fnDialogAsk", fn := fun _ => fun
  | [d] => { results := [.lit (.bool false)], args := [d] }
  | _ => none }
def FnDialogAskWrongFalsely : Prop := fnDialogAskRow.holds Try.pinned (OpenSpec.ofChange fnDialogAskWrong)

/-- 'laws.FnDialogHear': WHATEVER THE INPUT: true; the input reads as it did. -/
def fnDialogHearSpec : ChangeSpec := { name := "fnDialogHear", fn := fun _ => fun
  | [d] => { results := [.lit (.bool true)], args := [d] }
  | _ => none }
def fnDialogHearRow : OpenClaim := { program := "ytdofjbolhgoidaa", sum := "f88f9451daf1c38fa7378429fa35505920765cc8862df750b3cc15082f62b633", func := "loop.example/conferencehall/laws.FnDialogHear", spec := "fnDialogHear", apart := false }
def FnDialogHearSaid : Prop := fnDialogHearRow.holds Try.pinned (OpenSpec.ofChange fnDialogHearSpec)

/-- ITS FALSE NEIGHBOUR: 'it returns false'. Refute it at one input. -/
def fnDialogHearWrong : ChangeSpec := { name := "fnDialogHear", fn := fun _ => fun
  | [d] => { results := [.lit (.bool false)], args := [d] }
  | _ => none }
def FnDialogHearWrongFalsely : Prop := fnDialogHearRow.holds Try.pinned (OpenSpec.ofChange fnDialogHearWrong)

/-- 'laws.FnOtherSide': WHATEVER THE INPUT: true; the input reads as it did. -/
def fnOtherSideSpec : ChangeSpec := { name := "fnOtherSide", fn := fun _ => fun
  | [d] => { results := [.lit (.bool true)], args := [d] }
  | _ => none }
def fnOtherSideRow : OpenClaim := { program := "ytdofjbolhgoidaa", sum := "f88f9451daf1c38fa7378429fa35505920765cc8862df750b3cc15082f62b633", func := "loop.example/conferencehall/laws.FnOtherSide", spec := "fnOtherSide", apart := false }
def FnOtherSideSaid : Prop := fnOtherSideRow.holds Try.pinned (OpenSpec.ofChange fnOtherSideSpec)

/-- ITS FALSE NEIGHBOUR: 'it returns false'. Refute it at one input. -/
def fnOtherSideWrong : ChangeSpec := { name := "fnOtherSide", fn := fun _ => fun
  | [d] => { results := [.lit (.bool false)], args := [d] }
  | _ => none }
def FnOtherSideWrongFalsely : Prop := fnOtherSideRow.holds Try.pinned (OpenSpec.ofChange fnOtherSideWrong)

/-- 'laws.FnExactDialogValid': WHATEVER THE INPUT: true; the input reads as it did. -/
def fnExactDialogValidSpec : ChangeSpec := { name := "fnExactDialogValid", fn := fun _ => fun
  | [d] => { results := [.lit (.bool true)], args := [d] }
  | _ => none }
def fnExactDialogValidRow : OpenClaim := { program := "ytdofjbolhgoidaa", sum := "f88f9451daf1c38fa7378429fa35505920765cc8862df750b3cc15082f62b633", func := "loop.example/conferencehall/laws.FnExactDialogValid", spec := "fnExactDialogValid", apart := false }
def FnExactDialogValidSaid : Prop := fnExactDialogValidRow.holds Try.pinned (OpenSpec.ofChange fnExactDialogValidSpec)

/-- ITS FALSE NEIGHBOUR: 'it returns false'. Refute it at one input. -/
def fnExactDialogValidWrong : ChangeSpec := { name := "fnExactDialogValid", fn := fun _ => fun
  | [d] => { results := [.lit (.bool false)], args := [d] }
  | _ => none }
def FnExactDialogValidWrongFalsely : Prop := fnExactDialogValidRow.holds Try.pinned (OpenSpec.ofChange fnExactDialogValidWrong)

/-- 'laws.FnExactDialogAsk': WHATEVER THE INPUT: true; the input reads as it did. -/
def fnExactDialogAskSpec : ChangeSpec := { name := "fnExactDialogAsk", fn := fun _ => fun
  | [d1, d2] => { results := [.lit (.bool true)], args := [d1, d2] }
  | _ => none }
def fnExactDialogAskRow : OpenClaim := { program := "ytdofjbolhgoidaa", sum := "f88f9451daf1c38fa7378429fa35505920765cc8862df750b3cc15082f62b633", func := "loop.example/conferencehall/laws.FnExactDialogAsk", spec := "fnExactDialogAsk", apart := false }
def FnExactDialogAskSaid : Prop := fnExactDialogAskRow.holds Try.pinned (OpenSpec.ofChange fnExactDialogAskSpec)

/-- ITS FALSE NEIGHBOUR: 'it returns false'. Refute it at one input. -/
def fnExactDialogAskWrong : ChangeSpec := { name := "fnExactDialogAsk", fn := fun _ => fun
  | [d1, d2] => { results := [.lit (.bool false)], args := [d1, d2] }
  | _ => none }
def FnExactDialogAskWrongFalsely : Prop := fnExactDialogAskRow.holds Try.pinned (OpenSpec.ofChange fnExactDialogAskWrong)

/-- 'laws.FnExactDialogHear': WHATEVER THE INPUT: true; the input reads as it did. -/
def fnExactDialogHearSpec : ChangeSpec := { name := "fnExactDialogHear", fn := fun _ => fun
  | [d1, d2] => { results := [.lit (.bool true)], args := [d1, d2] }
  | _ => none }
def fnExactDialogHearRow : OpenClaim := { program := "ytdofjbolhgoidaa", sum := "f88f9451daf1c38fa7378429fa35505920765cc8862df750b3cc15082f62b633", func := "loop.example/conferencehall/laws.FnExactDialogHear", spec := "fnExactDialogHear", apart := false }
def FnExactDialogHearSaid : Prop := fnExactDialogHearRow.holds Try.pinned (OpenSpec.ofChange fnExactDialogHearSpec)

/-- ITS FALSE NEIGHBOUR: 'it returns false'. Refute it at one input. -/
def fnExactDialogHearWrong : ChangeSpec := { name := "fnExactDialogHear", fn := fun _ => fun
  | [d1, d2] => { results := [.lit (.bool false)], args := [d1, d2] }
  | _ => none }
def FnExactDialogHearWrongFalsely : Prop := fnExactDialogHearRow.holds Try.pinned (OpenSpec.ofChange fnExactDialogHearWrong)

/-- 'laws.FnExactOtherSide': WHATEVER THE INPUT: true; the input reads as it did. -/
def fnExactOtherSideSpec : ChangeSpec := { name := "fnExactOtherSide", fn := fun _ => fun
  | [d] => { results := [.lit (.bool true)], args := [d] }
  | _ => none }
def fnExactOtherSideRow : OpenClaim := { program := "ytdofjbolhgoidaa", sum := "f88f9451daf1c38fa7378429fa35505920765cc8862df750b3cc15082f62b633", func := "loop.example/conferencehall/laws.FnExactOtherSide", spec := "fnExactOtherSide", apart := false }
def FnExactOtherSideSaid : Prop := fnExactOtherSideRow.holds Try.pinned (OpenSpec.ofChange fnExactOtherSideSpec)

/-- ITS FALSE NEIGHBOUR: 'it returns false'. Refute it at one input. -/
def fnExactOtherSideWrong : ChangeSpec := { name := "fnExactOtherSide", fn := fun _ => fun
  | [d] => { results := [.lit (.bool false)], args := [d] }
  | _ => none }
def FnExactOtherSideWrongFalsely : Prop := fnExactOtherSideRow.holds Try.pinned (OpenSpec.ofChange fnExactOtherSideWrong)

/- THE SECOND FORM. 'bulk': how many values and letters a reading holds, each counted each time it is reached (what is shared counts as often as it is met; a slice's spare places count too). A statement '..UptoSaid' is the law's where the arguments, and the package variables that the reading takes, are together of bulk at most 1048576: NARROWER than '..Said'. Prove '..Said' where nothing that the law and all that it calls make is longer than what came in: it says more and counts as full. Else prove '..UptoSaid'. A law counts once. -/
mutual
def uptoBulk {H : Type} : DataW H → Nat
  | .lit (.string bytes) => bytes.length + 1
  | .lit _ => 1
  | .nil => 1
  | .ptr d => uptoBulk d + 1
  | .slice elems spare => uptoBulkAll elems + uptoBulkAll spare + 1
  | .agg parts => uptoBulkAll parts + 1
  | .iface _ d => uptoBulk d + 1
  | .map entries => uptoBulkEntries entries + 1
  | .held _ => 1
def uptoBulkAll {H : Type} : List (DataW H) → Nat
  | [] => 0
  | d :: r => uptoBulk d + uptoBulkAll r
def uptoBulkEntries {H : Type} : List (Lit × DataW H) → Nat
  | [] => 0
  | x :: r => uptoBulkEntry x + uptoBulkEntries r
def uptoBulkEntry {H : Type} : Lit × DataW H → Nat
  | (.string bytes, d) => bytes.length + uptoBulk d + 1
  | (_, d) => uptoBulk d + 1
 end
def uptoSmall : (H : Type) → List (DataW H) → Bool := fun _ ds => decide (uptoBulkAll ds ≤ 1048576)
def OpenSpec.upto (s : _root_.Go.ChangeSpec) : _root_.Go.OpenSpec := { _root_.Go.OpenSpec.ofChange s with cond := some uptoSmall }

/-- 'laws.FnDialogValid', WHERE WHAT IT READS IS OF BULK AT MOST 1048576: true; the input reads as it did. -/
def fnDialogValidUptoRow : OpenClaim := { program := "ytdofjbolhgoidaa", sum := "f88f9451daf1c38fa7378429fa35505920765cc8862df750b3cc15082f62b633", func := "loop.example/conferencehall/laws.FnDialogValid", spec := "fnDialogValid", apart := false, narrowed := true }
def FnDialogValidUptoSaid : Prop := fnDialogValidUptoRow.holds Try.pinned (OpenSpec.upto fnDialogValidSpec)

/-- 'laws.FnDialogAsk', WHERE WHAT IT READS IS OF BULK AT MOST 1048576: true; the input reads as it did. -/
def fnDialogAskUptoRow : OpenClaim := { program := "ytdofjbolhgoidaa", sum := "f88f9451daf1c38fa7378429fa35505920765cc8862df750b3cc15082f62b633", func := "loop.example/conferencehall/laws.FnDialogAsk", spec := "fnDialogAsk", apart := false, narrowed := true }
def FnDialogAskUptoSaid : Prop := fnDialogAskUptoRow.holds Try.pinned (OpenSpec.upto fnDialogAskSpec)

/-- 'laws.FnDialogHear', WHERE WHAT IT READS IS OF BULK AT MOST 1048576: true; the input reads as it did. -/
def fnDialogHearUptoRow : OpenClaim := { program := "ytdofjbolhgoidaa", sum := "f88f9451daf1c38fa7378429fa35505920765cc8862df750b3cc15082f62b633", func := "loop.example/conferencehall/laws.FnDialogHear", spec := "fnDialogHear", apart := false, narrowed := true }
def FnDialogHearUptoSaid : Prop := fnDialogHearUptoRow.holds Try.pinned (OpenSpec.upto fnDialogHearSpec)

/-- 'laws.FnOtherSide', WHERE WHAT IT READS IS OF BULK AT MOST 1048576: true; the input reads as it did. -/
def fnOtherSideUptoRow : OpenClaim := { program := "ytdofjbolhgoidaa", sum := "f88f9451daf1c38fa7378429fa35505920765cc8862df750b3cc15082f62b633", func := "loop.example/conferencehall/laws.FnOtherSide", spec := "fnOtherSide", apart := false, narrowed := true }
def FnOtherSideUptoSaid : Prop := fnOtherSideUptoRow.holds Try.pinned (OpenSpec.upto fnOtherSideSpec)

/-- 'laws.FnExactDialogValid', WHERE WHAT IT READS IS OF BULK AT MOST 1048576: true; the input reads as it did. -/
def fnExactDialogValidUptoRow : OpenClaim := { program := "ytdofjbolhgoidaa", sum := "f88f9451daf1c38fa7378429fa35505920765cc8862df750b3cc15082f62b633", func := "loop.example/conferencehall/laws.FnExactDialogValid", spec := "fnExactDialogValid", apart := false, narrowed := true }
def FnExactDialogValidUptoSaid : Prop := fnExactDialogValidUptoRow.holds Try.pinned (OpenSpec.upto fnExactDialogValidSpec)

/-- 'laws.FnExactDialogAsk', WHERE WHAT IT READS IS OF BULK AT MOST 1048576: true; the input reads as it did. -/
def fnExactDialogAskUptoRow : OpenClaim := { program := "ytdofjbolhgoidaa", sum := "f88f9451daf1c38fa7378429fa35505920765cc8862df750b3cc15082f62b633", func := "loop.example/conferencehall/laws.FnExactDialogAsk", spec := "fnExactDialogAsk", apart := false, narrowed := true }
def FnExactDialogAskUptoSaid : Prop := fnExactDialogAskUptoRow.holds Try.pinned (OpenSpec.upto fnExactDialogAskSpec)

/-- 'laws.FnExactDialogHear', WHERE WHAT IT READS IS OF BULK AT MOST 1048576: true; the input reads as it did. -/
def fnExactDialogHearUptoRow : OpenClaim := { program := "ytdofjbolhgoidaa", sum := "f88f9451daf1c38fa7378429fa35505920765cc8862df750b3cc15082f62b633", func := "loop.example/conferencehall/laws.FnExactDialogHear", spec := "fnExactDialogHear", apart := false, narrowed := true }
def FnExactDialogHearUptoSaid : Prop := fnExactDialogHearUptoRow.holds Try.pinned (OpenSpec.upto fnExactDialogHearSpec)

/-- 'laws.FnExactOtherSide', WHERE WHAT IT READS IS OF BULK AT MOST 1048576: true; the input reads as it did. -/
def fnExactOtherSideUptoRow : OpenClaim := { program := "ytdofjbolhgoidaa", sum := "f88f9451daf1c38fa7378429fa35505920765cc8862df750b3cc15082f62b633", func := "loop.example/conferencehall/laws.FnExactOtherSide", spec := "fnExactOtherSide", apart := false, narrowed := true }
def FnExactOtherSideUptoSaid : Prop := fnExactOtherSideUptoRow.holds Try.pinned (OpenSpec.upto fnExactOtherSideSpec)

end Rows
end Go.Proofs.Ytdofjbolhgoidaa
