/-
  No cell of these rows narrows 'for every input' (looked for: loops, veiled, ifaces, maps, wideKeys, modest, calm, conditions, laid).
  DERIVED. THE GIVEN ROWS OF THIS SEAT. 6 by the template 'for every input the law returns true; each argument reads behind the call as it read before'; 0 by the template 'total and deterministic' (their statements: YtdhjfbnlkecggaaTotals.lean).
  GIVEN WITH THE SEED: the statements are not yours to turn. If you find one false, say at which input.
  Laid BY PROGRAM, IN A SANDBOX (cutbox-rows.mjs): the forced cells as the released guide's own fill.sh prints them over the translation 7381ec26b81c5c43… (all of the seat's roots in one cut). By AI agents, Wed Nov 11 2026. No macro, syntax, notation, axiom, sorry.
-/
import Derived.Test.YtdhjfbnlkecggaaChecked
import GoSem.Claim
import GoSem.ClaimJoined
import GoSem.ClaimMapViews
import Derived.JoinedTies
import Derived.KernelRfl
namespace Go.Proofs.Ytdhjfbnlkecggaa
/- THE CELL 'sum', in the pinned program and in every row, IS THE sha256 OF THE DUMP (.gsa) THAT YtdhjfbnlkecggaaProg.lean LOADS. Nothing in Lean hashes anything: it is a label: what it is worth is what the hold of that sum in a sandbox is worth. -/
noncomputable def Try.pinned : Pinned := { name := "ytdhjfbnlkecggaa", sum := "7381ec26b81c5c439efc9ffb457e152c75c640f37a17ab2949e4cffa663c2692", checked := Try.checked }
namespace Rows
def none {H : Type} : Left H := { results := [], args := [] }

/-- 'laws.FnMayAct': WHATEVER THE INPUT: true; the input reads as it did. -/
def fnMayActSpec : ChangeSpec := { name := "fnMayAct", fn := fun _ => fun
  | [d] => { results := [.lit (.bool true)], args := [d] }
  | _ => none }
def fnMayActRow : OpenClaim := { program := "ytdhjfbnlkecggaa", sum := "7381ec26b81c5c439efc9ffb457e152c75c640f37a17ab2949e4cffa663c2692", func := "loop.example/conferencehall/laws.FnMayAct", spec := "fnMayAct", apart := false }
def FnMayActSaid : Prop := fnMayActRow.holds Try.pinned (OpenSpec.ofChange fnMayActSpec)

/-- ITS FALSE NEIGHBOUR: 'it returns false'. Refute it at one input. -/
def fnMayActWrong : ChangeSpec := { name := "fnMayAct", fn := fun _ => fun
  | [d] => { results := [.lit (.bool false)], args := [d] }
  | _ => none }
def FnMayActWrongFalsely : Prop := fnMayActRow.holds Try.pinned (OpenSpec.ofChange fnMayActWrong)

/-- 'laws.FnExactMayAct': WHATEVER THE INPUT: true; the input reads as it did. -/
def fnExactMayActSpec : ChangeSpec := { name := "fnExactMayAct", fn := fun _ => fun
  | [d1, d2, d3, d4] => { results := [.lit (.bool true)], args := [d1, d2, d3, d4] }
  | _ => none }
def fnExactMayActRow : OpenClaim := { program := "ytdhjfbnlkecggaa", sum := "7381ec26b81c5c439efc9ffb457e152c75c640f37a17ab2949e4cffa663c2692", func := "loop.example/conferencehall/laws.FnExactMayAct", spec := "fnExactMayAct", apart := false }
def FnExactMayActSaid : Prop := fnExactMayActRow.holds Try.pinned (OpenSpec.ofChange fnExactMayActSpec)

/-- ITS FALSE NEIGHBOUR: 'it returns false'. Refute it at one input. -/
def fnExactMayActWrong : ChangeSpec := { name := "fnExactMayAct", fn := fun _ => fun
  | [d1, d2, d3, d4] => { results := [.lit (.bool false)], args := [d1, d2, d3, d4] }
  | _ => none }
def FnExactMayActWrongFalsely : Prop := fnExactMayActRow.holds Try.pinned (OpenSpec.ofChange fnExactMayActWrong)

/-- 'laws.FnMutePerson': WHATEVER THE INPUT: true; the input reads as it did. -/
def fnMutePersonSpec : ChangeSpec := { name := "fnMutePerson", fn := fun _ => fun
  | [d] => { results := [.lit (.bool true)], args := [d] }
  | _ => none }
def fnMutePersonRow : OpenClaim := { program := "ytdhjfbnlkecggaa", sum := "7381ec26b81c5c439efc9ffb457e152c75c640f37a17ab2949e4cffa663c2692", func := "loop.example/conferencehall/laws.FnMutePerson", spec := "fnMutePerson", apart := false }
def FnMutePersonSaid : Prop := fnMutePersonRow.holds Try.pinned (OpenSpec.ofChange fnMutePersonSpec)

/-- ITS FALSE NEIGHBOUR: 'it returns false'. Refute it at one input. -/
def fnMutePersonWrong : ChangeSpec := { name := "fnMutePerson", fn := fun _ => fun
  | [d] => { results := [.lit (.bool false)], args := [d] }
  | _ => none }
def FnMutePersonWrongFalsely : Prop := fnMutePersonRow.holds Try.pinned (OpenSpec.ofChange fnMutePersonWrong)

/-- 'laws.FnExactMutePerson': WHATEVER THE INPUT: true; the input reads as it did. -/
def fnExactMutePersonSpec : ChangeSpec := { name := "fnExactMutePerson", fn := fun _ => fun
  | [d1, d2, d3, d4] => { results := [.lit (.bool true)], args := [d1, d2, d3, d4] }
  | _ => none }
def fnExactMutePersonRow : OpenClaim := { program := "ytdhjfbnlkecggaa", sum := "7381ec26b81c5c439efc9ffb457e152c75c640f37a17ab2949e4cffa663c2692", func := "loop.example/conferencehall/laws.FnExactMutePerson", spec := "fnExactMutePerson", apart := false }
def FnExactMutePersonSaid : Prop := fnExactMutePersonRow.holds Try.pinned (OpenSpec.ofChange fnExactMutePersonSpec)

/-- ITS FALSE NEIGHBOUR: 'it returns false'. Refute it at one input. -/
def fnExactMutePersonWrong : ChangeSpec := { name := "fnExactMutePerson", fn := fun _ => fun
  | [d1, d2, d3, d4] => { results := [.lit (.bool false)], args := [d1, d2, d3, d4] }
  | _ => none }
def FnExactMutePersonWrongFalsely : Prop := fnExactMutePersonRow.holds Try.pinned (OpenSpec.ofChange fnExactMutePersonWrong)

/-- 'laws.FnRaisePerson': WHATEVER THE INPUT: true; the input reads as it did. -/
def fnRaisePersonSpec : ChangeSpec := { name := "fnRaisePerson", fn := fun _ => fun
  | [d] => { results := [.lit (.bool true)], args := [d] }
  | _ => none }
def fnRaisePersonRow : OpenClaim := { program := "ytdhjfbnlkecggaa", sum := "7381ec26b81c5c439efc9ffb457e152c75c640f37a17ab2949e4cffa663c2692", func := "loop.example/conferencehall/laws.FnRaisePerson", spec := "fnRaisePerson", apart := false }
def FnRaisePersonSaid : Prop := fnRaisePersonRow.holds Try.pinned (OpenSpec.ofChange fnRaisePersonSpec)

/-- ITS FALSE NEIGHBOUR: 'it returns false'. Refute it at one input. -/
def fnRaisePersonWrong : ChangeSpec := { name := "fnRaisePerson", fn := fun _ => fun
  | [d] => { results := [.lit (.bool false)], args := [d] }
  | _ => none }
def FnRaisePersonWrongFalsely : Prop := fnRaisePersonRow.holds Try.pinned (OpenSpec.ofChange fnRaisePersonWrong)

/-- 'laws.FnExactRaisePerson': WHATEVER THE INPUT: true; the input reads as it did. -/
def fnExactRaisePersonSpec : ChangeSpec := { name := "fnExactRaisePerson", fn := fun _ => fun
  | [d1, d2, d3, d4] => { results := [.lit (.bool true)], args := [d1, d2, d3, d4] }
  | _ => none }
def fnExactRaisePersonRow : OpenClaim := { program := "ytdhjfbnlkecggaa", sum := "7381ec26b81c5c439efc9ffb457e152c75c640f37a17ab2949e4cffa663c2692", func := "loop.example/conferencehall/laws.FnExactRaisePerson", spec := "fnExactRaisePerson", apart := false }
def FnExactRaisePersonSaid : Prop := fnExactRaisePersonRow.holds Try.pinned (OpenSpec.ofChange fnExactRaisePersonSpec)

/-- ITS FALSE NEIGHBOUR: 'it returns false'. Refute it at one input. -/
def fnExactRaisePersonWrong : ChangeSpec := { name := "fnExactRaisePerson", fn := fun _ => fun
  | [d1, d2, d3, d4] => { results := [.lit (.bool false)], args := [d1, d2, d3, d4] }
  | _ => none }
def FnExactRaisePersonWrongFalsely : Prop := fnExactRaisePersonRow.holds Try.pinned (OpenSpec.ofChange fnExactRaisePersonWrong)

/- THE SECOND FORM. 'bulk': how many values and letters a reading holds, each counted each time it is reached (what is shared counts as often as it is met; a slice's spare places count too). A statement '..UptoSaid' is the law's where the arguments, and the package variables that the reading takes, are together of bulk at most 1048576: NARROWER than '..Said'. Prove '..Said' where nothing that the law and all that it calls make is longer than what came in: it says more and counts as full. Else prove '..UptoSaid'. A law counts once. -/
mutual
def uptoBulk {H : Type} : DataW H → Nat
  | .lit (.string bytes) => bytes.length + 1
  | .lit _ => 1
  | .nil => 1
  | .ptr d => uptoBulk d + 1
  | .slice elems spare => uptoBulkAll elems + uptoBulkAll spare + 1
  | .agg parts => uptoBulkAll parts + 1
  | .iface _ d => uptoBulk d + 1
  | .map entries => uptoBulkEntries entries + 1
  | .held _ => 1
def uptoBulkAll {H : Type} : List (DataW H) → Nat
  | [] => 0
  | d :: r => uptoBulk d + uptoBulkAll r
def uptoBulkEntries {H : Type} : List (Lit × DataW H) → Nat
  | [] => 0
  | x :: r => uptoBulkEntry x + uptoBulkEntries r
def uptoBulkEntry {H : Type} : Lit × DataW H → Nat
  | (.string bytes, d) => bytes.length + uptoBulk d + 1
  | (_, d) => uptoBulk d + 1
 end
def uptoSmall : (H : Type) → List (DataW H) → Bool := fun _ ds => decide (uptoBulkAll ds ≤ 1048576)
def OpenSpec.upto (s : _root_.Go.ChangeSpec) : _root_.Go.OpenSpec := { _root_.Go.OpenSpec.ofChange s with cond := some uptoSmall }

/-- 'laws.FnMayAct', WHERE WHAT IT READS IS OF BULK AT MOST 1048576: true; the input reads as it did. -/
def fnMayActUptoRow : OpenClaim := { program := "ytdhjfbnlkecggaa", sum := "7381ec26b81c5c439efc9ffb457e152c75c640f37a17ab2949e4cffa663c2692", func := "loop.example/conferencehall/laws.FnMayAct", spec := "fnMayAct", apart := false, narrowed := true }
def FnMayActUptoSaid : Prop := fnMayActUptoRow.holds Try.pinned (OpenSpec.upto fnMayActSpec)

/-- 'laws.FnExactMayAct', WHERE WHAT IT READS IS OF BULK AT MOST 1048576: true; the input reads as it did. -/
def fnExactMayActUptoRow : OpenClaim := { program := "ytdhjfbnlkecggaa", sum := "7381ec26b81c5c439efc9ffb457e152c75c640f37a17ab2949e4cffa663c2692", func := "loop.example/conferencehall/laws.FnExactMayAct", spec := "fnExactMayAct", apart := false, narrowed := true }
def FnExactMayActUptoSaid : Prop := fnExactMayActUptoRow.holds Try.pinned (OpenSpec.upto fnExactMayActSpec)

/-- 'laws.FnMutePerson', WHERE WHAT IT READS IS OF BULK AT MOST 1048576: true; the input reads as it did. -/
def fnMutePersonUptoRow : OpenClaim := { program := "ytdhjfbnlkecggaa", sum := "7381ec26b81c5c439efc9ffb457e152c75c640f37a17ab2949e4cffa663c2692", func := "loop.example/conferencehall/laws.FnMutePerson", spec := "fnMutePerson", apart := false, narrowed := true }
def FnMutePersonUptoSaid : Prop := fnMutePersonUptoRow.holds Try.pinned (OpenSpec.upto fnMutePersonSpec)

/-- 'laws.FnExactMutePerson', WHERE WHAT IT READS IS OF BULK AT MOST 1048576: true; the input reads as it did. -/
def fnExactMutePersonUptoRow : OpenClaim := { program := "ytdhjfbnlkecggaa", sum := "7381ec26b81c5c439efc9ffb457e152c75c640f37a17ab2949e4cffa663c2692", func := "loop.example/conferencehall/laws.FnExactMutePerson", spec := "fnExactMutePerson", apart := false, narrowed := true }
def FnExactMutePersonUptoSaid : Prop := fnExactMutePersonUptoRow.holds Try.pinned (OpenSpec.upto fnExactMutePersonSpec)

/-- 'laws.FnRaisePerson', WHERE WHAT IT READS IS OF BULK AT MOST 1048576: true; the input reads as it did. -/
def fnRaisePersonUptoRow : OpenClaim := { program := "ytdhjfbnlkecggaa", sum := "7381ec26b81c5c439efc9ffb457e152c75c640f37a17ab2949e4cffa663c2692", func := "loop.example/conferencehall/laws.FnRaisePerson", spec := "fnRaisePerson", apart := false, narrowed := true }
def FnRaisePersonUptoSaid : Prop := fnRaisePersonUptoRow.holds Try.pinned (OpenSpec.upto fnRaisePersonSpec)

/-- 'laws.FnExactRaisePerson', WHERE WHAT IT READS IS OF BULK AT MOST 1048576: true; the input reads as it did. -/
def fnExactRaisePersonUptoRow : OpenClaim := { program := "ytdhjfbnlkecggaa", sum := "7381ec26b81c5c439efc9ffb457e152c75c640f37a17ab2949e4cffa663c2692", func := "loop.example/conferencehall/laws.FnExactRaisePerson", spec := "fnExactRaisePerson", apart := false, narrowed := true }
def FnExactRaisePersonUptoSaid : Prop := fnExactRaisePersonUptoRow.holds Try.pinned (OpenSpec.upto fnExactRaisePersonSpec)

end Rows
end Go.Proofs.Ytdhjfbnlkecggaa
