/-
  No cell of these rows narrows 'for every input' (looked for: loops, veiled, ifaces, maps, wideKeys, modest, calm, conditions, laid).
  DERIVED. THE GIVEN ROWS OF THIS SEAT. 8 by the template 'for every input the law returns true; each argument reads behind the call as it read before'; 0 by the template 'total and deterministic' (their statements: YtfkhnfbmpjgjgaaTotals.lean).
  GIVEN WITH THE SEED: the statements are not yours to turn. If you find one false, say at which input.
  Laid BY PROGRAM, IN A SANDBOX (cutbox-rows.mjs): the forced cells as the released guide's own fill.sh prints them over the translation 5ee79183ffbe45ec… (all of the seat's roots in one cut). By AI agents, Wed Nov 11 2026. No macro, syntax, notation, axiom, sorry.
-/
import Derived.Test.YtfkhnfbmpjgjgaaChecked
import GoSem.Claim
import GoSem.ClaimJoined
import GoSem.ClaimMapViews
import Derived.JoinedTies
import Derived.KernelRfl
namespace Go.Proofs.Ytfkhnfbmpjgjgaa
/- THE CELL 'sum', in the pinned program and in every row, IS THE sha256 OF THE DUMP (.gsa) THAT YtfkhnfbmpjgjgaaProg.lean LOADS. Nothing in Lean hashes anything: it is a label: what it is worth is what the hold of that sum in a sandbox is worth. -/
noncomputable def Try.pinned : Pinned := { name := "ytfkhnfbmpjgjgaa", sum := "5ee79183ffbe45ecd47f6921680518d787f20bc27fa787cc43fefbd29c4c565c", checked := Try.checked }
namespace Rows
def none {H : Type} : Left H := { results := [], args := [] }

/-- 'laws.FnMessageValid': WHATEVER THE INPUT: true; the input reads as it did. -/
def fnMessageValidSpec : ChangeSpec := { name := "fnMessageValid", fn := fun _ => fun
  | [d] => { results := [.lit (.bool true)], args := [d] }
  | _ => none }
def fnMessageValidRow : OpenClaim := { program := "ytfkhnfbmpjgjgaa", sum := "5ee79183ffbe45ecd47f6921680518d787f20bc27fa787cc43fefbd29c4c565c", func := "loop.example/conferencehall/laws.FnMessageValid", spec := "fnMessageValid", apart := false }
def FnMessageValidSaid : Prop := fnMessageValidRow.holds Try.pinned (OpenSpec.ofChange fnMessageValidSpec)

/-- ITS FALSE NEIGHBOUR: 'it returns false'. Refute it at one input. -/
def fnMessageValidWrong : ChangeSpec := { name := "fnMessageValid", fn := fun _ => fun
  | [d] => { results := [.lit (.bool false)], args := [d] }
  | _ => none }
def FnMessageValidWrongFalsely : Prop := fnMessageValidRow.holds Try.pinned (OpenSpec.ofChange fnMessageValidWrong)

/-- 'laws.FnMessageLines': WHATEVER THE INPUT: true; the input reads as it did. -/
def fnMessageLinesSpec : ChangeSpec := { name := "fnMessageLines", fn := fun _ => fun
  | [d] => { results := [.lit (.bool true)], args := [d] }
  | _ => none }
def fnMessageLinesRow : OpenClaim := { program := "ytfkhnfbmpjgjgaa", sum := "5ee79183ffbe45ecd47f6921680518d787f20bc27fa787cc43fefbd29c4c565c", func := "loop.example/conferencehall/laws.FnMessageLines", spec := "fnMessageLines", apart := false }
def FnMessageLinesSaid : Prop := fnMessageLinesRow.holds Try.pinned (OpenSpec.ofChange fnMessageLinesSpec)

/-- ITS FALSE NEIGHBOUR: 'it returns false'. Refute it at one input. -/
def fnMessageLinesWrong : ChangeSpec := { name := "fnMessageLines", fn := fun _ => fun
  | [d] => { results := [.lit (.bool false)], args := [d] }
  | _ => none }
def FnMessageLinesWrongFalsely : Prop := fnMessageLinesRow.holds Try.pinned (OpenSpec.ofChange fnMessageLinesWrong)

/-- 'laws.FnReadMessage': WHATEVER THE INPUT: true; the input reads as it did. -/
def fnReadMessageSpec : ChangeSpec := { name := "fnReadMessage", fn := fun _ => fun
  | [d] => { results := [.lit (.bool true)], args := [d] }
  | _ => none }
def fnReadMessageRow : OpenClaim := { program := "ytfkhnfbmpjgjgaa", sum := "5ee79183ffbe45ecd47f6921680518d787f20bc27fa787cc43fefbd29c4c565c", func := "loop.example/conferencehall/laws.FnReadMessage", spec := "fnReadMessage", apart := false }
def FnReadMessageSaid : Prop := fnReadMessageRow.holds Try.pinned (OpenSpec.ofChange fnReadMessageSpec)

/-- ITS FALSE NEIGHBOUR: 'it returns false'. Refute it at one input. -/
def fnReadMessageWrong : ChangeSpec := { name := "fnReadMessage", fn := fun _ => fun
  | [d] => { results := [.lit (.bool false)], args := [d] }
  | _ => none }
def FnReadMessageWrongFalsely : Prop := fnReadMessageRow.holds Try.pinned (OpenSpec.ofChange fnReadMessageWrong)

/-- 'laws.FnAnswerTo': WHATEVER THE INPUT: true; the input reads as it did. -/
def fnAnswerToSpec : ChangeSpec := { name := "fnAnswerTo", fn := fun _ => fun
  | [d] => { results := [.lit (.bool true)], args := [d] }
  | _ => none }
def fnAnswerToRow : OpenClaim := { program := "ytfkhnfbmpjgjgaa", sum := "5ee79183ffbe45ecd47f6921680518d787f20bc27fa787cc43fefbd29c4c565c", func := "loop.example/conferencehall/laws.FnAnswerTo", spec := "fnAnswerTo", apart := false }
def FnAnswerToSaid : Prop := fnAnswerToRow.holds Try.pinned (OpenSpec.ofChange fnAnswerToSpec)

/-- ITS FALSE NEIGHBOUR: 'it returns false'. Refute it at one input. -/
def fnAnswerToWrong : ChangeSpec := { name := "fnAnswerTo", fn := fun _ => fun
  | [d] => { results := [.lit (.bool false)], args := [d] }
  | _ => none }
def FnAnswerToWrongFalsely : Prop := fnAnswerToRow.holds Try.pinned (OpenSpec.ofChange fnAnswerToWrong)

/-- 'laws.FnExactMessageValid': WHATEVER THE INPUT: true; the input reads as it did. -/
def fnExactMessageValidSpec : ChangeSpec := { name := "fnExactMessageValid", fn := fun _ => fun
  | [d] => { results := [.lit (.bool true)], args := [d] }
  | _ => none }
def fnExactMessageValidRow : OpenClaim := { program := "ytfkhnfbmpjgjgaa", sum := "5ee79183ffbe45ecd47f6921680518d787f20bc27fa787cc43fefbd29c4c565c", func := "loop.example/conferencehall/laws.FnExactMessageValid", spec := "fnExactMessageValid", apart := false }
def FnExactMessageValidSaid : Prop := fnExactMessageValidRow.holds Try.pinned (OpenSpec.ofChange fnExactMessageValidSpec)

/-- ITS FALSE NEIGHBOUR: 'it returns false'. Refute it at one input. -/
def fnExactMessageValidWrong : ChangeSpec := { name := "fnExactMessageValid", fn := fun _ => fun
  | [d] => { results := [.lit (.bool false)], args := [d] }
  | _ => none }
def FnExactMessageValidWrongFalsely : Prop := fnExactMessageValidRow.holds Try.pinned (OpenSpec.ofChange fnExactMessageValidWrong)

/-- 'laws.FnExactMessageLines': WHATEVER THE INPUT: true; the input reads as it did. -/
def fnExactMessageLinesSpec : ChangeSpec := { name := "fnExactMessageLines", fn := fun _ => fun
  | [d] => { results := [.lit (.bool true)], args := [d] }
  | _ => none }
def fnExactMessageLinesRow : OpenClaim := { program := "ytfkhnfbmpjgjgaa", sum := "5ee79183ffbe45ecd47f6921680518d787f20bc27fa787cc43fefbd29c4c565c", func := "loop.example/conferencehall/laws.FnExactMessageLines", spec := "fnExactMessageLines", apart := false }
def FnExactMessageLinesSaid : Prop := fnExactMessageLinesRow.holds Try.pinned (OpenSpec.ofChange fnExactMessageLinesSpec)

/-- ITS FALSE NEIGHBOUR: 'it returns false'. Refute it at one input. -/
def fnExactMessageLinesWrong : ChangeSpec := { name := "fnExactMessageLines", fn := fun _ => fun
  | [d] => { results := [.lit (.bool false)], args := [d] }
  | _ => none }
def FnExactMessageLinesWrongFalsely : Prop := fnExactMessageLinesRow.holds Try.pinned (OpenSpec.ofChange fnExactMessageLinesWrong)

/-- 'laws.FnExactReadMessage': WHATEVER THE INPUT: true; the input reads as it did. -/
def fnExactReadMessageSpec : ChangeSpec := { name := "fnExactReadMessage", fn := fun _ => fun
  | [d] => { results := [.lit (.bool true)], args := [d] }
  | _ => none }
def fnExactReadMessageRow : OpenClaim := { program := "ytfkhnfbmpjgjgaa", sum := "5ee79183ffbe45ecd47f6921680518d787f20bc27fa787cc43fefbd29c4c565c", func := "loop.example/conferencehall/laws.FnExactReadMessage", spec := "fnExactReadMessage", apart := false }
def FnExactReadMessageSaid : Prop := fnExactReadMessageRow.holds Try.pinned (OpenSpec.ofChange fnExactReadMessageSpec)

/-- ITS FALSE NEIGHBOUR: 'it returns false'. Refute it at one input. -/
def fnExactReadMessageWrong : ChangeSpec := { name := "fnExactReadMessage", fn := fun _ => fun
  | [d] => { results := [.lit (.bool false)], args := [d] }
  | _ => none }
def FnExactReadMessageWrongFalsely : Prop := fnExactReadMessageRow.holds Try.pinned (OpenSpec.ofChange fnExactReadMessageWrong)

/-- 'laws.FnExactAnswerTo': WHATEVER THE INPUT: true; the input reads as it did. -/
def fnExactAnswerToSpec : ChangeSpec := { name := "fnExactAnswerTo", fn := fun _ => fun
  | [d1, d2] => { results := [.lit (.bool true)], args := [d1, d2] }
  | _ => none }
def fnExactAnswerToRow : OpenClaim := { program := "ytfkhnfbmpjgjgaa", sum := "5ee79183ffbe45ecd47f6921680518d787f20bc27fa787cc43fefbd29c4c565c", func := "loop.example/conferencehall/laws.FnExactAnswerTo", spec := "fnExactAnswerTo", apart := false }
def FnExactAnswerToSaid : Prop := fnExactAnswerToRow.holds Try.pinned (OpenSpec.ofChange fnExactAnswerToSpec)

/-- ITS FALSE NEIGHBOUR: 'it returns false'. Refute it at one input. -/
def fnExactAnswerToWrong : ChangeSpec := { name := "fnExactAnswerTo", fn := fun _ => fun
  | [d1, d2] => { results := [.lit (.bool false)], args := [d1, d2] }
  | _ => none }
def FnExactAnswerToWrongFalsely : Prop := fnExactAnswerToRow.holds Try.pinned (OpenSpec.ofChange fnExactAnswerToWrong)

/- THE SECOND FORM. 'bulk': how many values and letters a reading holds, each counted each time it is reached (what is shared counts as often as it is met; a slice's spare places count too). A statement '..UptoSaid' is the law's where the arguments, and the package variables that the reading takes, are together of bulk at most 1048576: NARROWER than '..Said'. Prove '..Said' where nothing that the law and all that it calls make is longer than what came in: it says more and counts as full. Else prove '..UptoSaid'. A law counts once. -/
mutual
def uptoBulk {H : Type} : DataW H → Nat
  | .lit (.string bytes) => bytes.length + 1
  | .lit _ => 1
  | .nil => 1
  | .ptr d => uptoBulk d + 1
  | .slice elems spare => uptoBulkAll elems + uptoBulkAll spare + 1
  | .agg parts => uptoBulkAll parts + 1
  | .iface _ d => uptoBulk d + 1
  | .map entries => uptoBulkEntries entries + 1
  | .held _ => 1
def uptoBulkAll {H : Type} : List (DataW H) → Nat
  | [] => 0
  | d :: r => uptoBulk d + uptoBulkAll r
def uptoBulkEntries {H : Type} : List (Lit × DataW H) → Nat
  | [] => 0
  | x :: r => uptoBulkEntry x + uptoBulkEntries r
def uptoBulkEntry {H : Type} : Lit × DataW H → Nat
  | (.string bytes, d) => bytes.length + uptoBulk d + 1
  | (_, d) => uptoBulk d + 1
 end
def uptoSmall : (H : Type) → List (DataW H) → Bool := fun _ ds => decide (uptoBulkAll ds ≤ 1048576)
def OpenSpec.upto (s : _root_.Go.ChangeSpec) : _root_.Go.OpenSpec := { _root_.Go.OpenSpec.ofChange s with cond := some uptoSmall }

/-- 'laws.FnMessageValid', WHERE WHAT IT READS IS OF BULK AT MOST 1048576: true; the input reads as it did. -/
def fnMessageValidUptoRow : OpenClaim := { program := "ytfkhnfbmpjgjgaa", sum := "5ee79183ffbe45ecd47f6921680518d787f20bc27fa787cc43fefbd29c4c565c", func := "loop.example/conferencehall/laws.FnMessageValid", spec := "fnMessageValid", apart := false, narrowed := true }
def FnMessageValidUptoSaid : Prop := fnMessageValidUptoRow.holds Try.pinned (OpenSpec.upto fnMessageValidSpec)

/-- 'laws.FnMessageLines', WHERE WHAT IT READS IS OF BULK AT MOST 1048576: true; the input reads as it did. -/
def fnMessageLinesUptoRow : OpenClaim := { program := "ytfkhnfbmpjgjgaa", sum := "5ee79183ffbe45ecd47f6921680518d787f20bc27fa787cc43fefbd29c4c565c", func := "loop.example/conferencehall/laws.FnMessageLines", spec := "fnMessageLines", apart := false, narrowed := true }
def FnMessageLinesUptoSaid : Prop := fnMessageLinesUptoRow.holds Try.pinned (OpenSpec.upto fnMessageLinesSpec)

/-- 'laws.FnReadMessage', WHERE WHAT IT READS IS OF BULK AT MOST 1048576: true; the input reads as it did. -/
def fnReadMessageUptoRow : OpenClaim := { program := "ytfkhnfbmpjgjgaa", sum := "5ee79183ffbe45ecd47f6921680518d787f20bc27fa787cc43fefbd29c4c565c", func := "loop.example/conferencehall/laws.FnReadMessage", spec := "fnReadMessage", apart := false, narrowed := true }
def FnReadMessageUptoSaid : Prop := fnReadMessageUptoRow.holds Try.pinned (OpenSpec.upto fnReadMessageSpec)

/-- 'laws.FnAnswerTo', WHERE WHAT IT READS IS OF BULK AT MOST 1048576: true; the input reads as it did. -/
def fnAnswerToUptoRow : OpenClaim := { program := "ytfkhnfbmpjgjgaa", sum := "5ee79183ffbe45ecd47f6921680518d787f20bc27fa787cc43fefbd29c4c565c", func := "loop.example/conferencehall/laws.FnAnswerTo", spec := "fnAnswerTo", apart := false, narrowed := true }
def FnAnswerToUptoSaid : Prop := fnAnswerToUptoRow.holds Try.pinned (OpenSpec.upto fnAnswerToSpec)

/-- 'laws.FnExactMessageValid', WHERE WHAT IT READS IS OF BULK AT MOST 1048576: true; the input reads as it did. -/
def fnExactMessageValidUptoRow : OpenClaim := { program := "ytfkhnfbmpjgjgaa", sum := "5ee79183ffbe45ecd47f6921680518d787f20bc27fa787cc43fefbd29c4c565c", func := "loop.example/conferencehall/laws.FnExactMessageValid", spec := "fnExactMessageValid", apart := false, narrowed := true }
def FnExactMessageValidUptoSaid : Prop := fnExactMessageValidUptoRow.holds Try.pinned (OpenSpec.upto fnExactMessageValidSpec)

/-- 'laws.FnExactMessageLines', WHERE WHAT IT READS IS OF BULK AT MOST 1048576: true; the input reads as it did. -/
def fnExactMessageLinesUptoRow : OpenClaim := { program := "ytfkhnfbmpjgjgaa", sum := "5ee79183ffbe45ecd47f6921680518d787f20bc27fa787cc43fefbd29c4c565c", func := "loop.example/conferencehall/laws.FnExactMessageLines", spec := "fnExactMessageLines", apart := false, narrowed := true }
def FnExactMessageLinesUptoSaid : Prop := fnExactMessageLinesUptoRow.holds Try.pinned (OpenSpec.upto fnExactMessageLinesSpec)

/-- 'laws.FnExactReadMessage', WHERE WHAT IT READS IS OF BULK AT MOST 1048576: true; the input reads as it did. -/
def fnExactReadMessageUptoRow : OpenClaim := { program := "ytfkhnfbmpjgjgaa", sum := "5ee79183ffbe45ecd47f6921680518d787f20bc27fa787cc43fefbd29c4c565c", func := "loop.example/conferencehall/laws.FnExactReadMessage", spec := "fnExactReadMessage", apart := false, narrowed := true }
def FnExactReadMessageUptoSaid : Prop := fnExactReadMessageUptoRow.holds Try.pinned (OpenSpec.upto fnExactReadMessageSpec)

/-- 'laws.FnExactAnswerTo', WHERE WHAT IT READS IS OF BULK AT MOST 1048576: true; the input reads as it did. -/
def fnExactAnswerToUptoRow : OpenClaim := { program := "ytfkhnfbmpjgjgaa", sum := "5ee79183ffbe45ecd47f6921680518d787f20bc27fa787cc43fefbd29c4c565c", func := "loop.example/conferencehall/laws.FnExactAnswerTo", spec := "fnExactAnswerTo", apart := false, narrowed := true }
def FnExactAnswerToUptoSaid : Prop := fnExactAnswerToUptoRow.holds Try.pinned (OpenSpec.upto fnExactAnswerToSpec)

end Rows
end Go.Proofs.Ytfkhnfbmpjgjgaa
