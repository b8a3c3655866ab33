/-
  No cell of these rows narrows 'for every input' (looked for: loops, veiled, ifaces, maps, wideKeys, modest, calm, conditions, laid).
  DERIVED. THE GIVEN ROWS OF THIS SEAT. 10 by the template 'for every input the law returns true; each argument reads behind the call as it read before'; 0 by the template 'total and deterministic' (their statements: YtnhbhopiioclmaaTotals.lean).
  GIVEN WITH THE SEED: the statements are not yours to turn. If you find one false, say at which input.
  Laid BY PROGRAM, IN A SANDBOX (cutbox-rows.mjs): the forced cells as the released guide's own fill.sh prints them over the translation a1693ba25273c49e… (all of the seat's roots in one cut). By AI agents, Wed Nov 11 2026. No macro, syntax, notation, axiom, sorry.
-/
import Derived.Test.YtnhbhopiioclmaaChecked
import GoSem.Claim
import GoSem.ClaimJoined
import GoSem.ClaimMapViews
import Derived.JoinedTies
import Derived.KernelRfl
namespace Go.Proofs.Ytnhbhopiioclmaa
/- THE CELL 'sum', in the pinned program and in every row, IS THE sha256 OF THE DUMP (.gsa) THAT YtnhbhopiioclmaaProg.lean LOADS. Nothing in Lean hashes anything: it is a label: what it is worth is what the hold of that sum in a sandbox is worth. -/
noncomputable def Try.pinned : Pinned := { name := "ytnhbhopiioclmaa", sum := "a1693ba25273c49e6081f5967b5fd7d607ae996dfcb0f49fe69e67d850dacd9f", checked := Try.checked }
namespace Rows
def none {H : Type} : Left H := { results := [], args := [] }

/-- 'laws.FnHeadsValid': WHATEVER THE INPUT: true; the input reads as it did. -/
def fnHeadsValidSpec : ChangeSpec := { name := "fnHeadsValid", fn := fun _ => fun
  | [d] => { results := [.lit (.bool true)], args := [d] }
  | _ => none }
def fnHeadsValidRow : OpenClaim := { program := "ytnhbhopiioclmaa", sum := "a1693ba25273c49e6081f5967b5fd7d607ae996dfcb0f49fe69e67d850dacd9f", func := "loop.example/conferencehall/laws.FnHeadsValid", spec := "fnHeadsValid", apart := false }
def FnHeadsValidSaid : Prop := fnHeadsValidRow.holds Try.pinned (OpenSpec.ofChange fnHeadsValidSpec)

/-- ITS FALSE NEIGHBOUR: 'it returns false'. Refute it at one input. -/
def fnHeadsValidWrong : ChangeSpec := { name := "fnHeadsValid", fn := fun _ => fun
  | [d] => { results := [.lit (.bool false)], args := [d] }
  | _ => none }
def FnHeadsValidWrongFalsely : Prop := fnHeadsValidRow.holds Try.pinned (OpenSpec.ofChange fnHeadsValidWrong)

/-- 'laws.FnHeadLines': WHATEVER THE INPUT: true; the input reads as it did. -/
def fnHeadLinesSpec : ChangeSpec := { name := "fnHeadLines", fn := fun _ => fun
  | [d] => { results := [.lit (.bool true)], args := [d] }
  | _ => none }
def fnHeadLinesRow : OpenClaim := { program := "ytnhbhopiioclmaa", sum := "a1693ba25273c49e6081f5967b5fd7d607ae996dfcb0f49fe69e67d850dacd9f", func := "loop.example/conferencehall/laws.FnHeadLines", spec := "fnHeadLines", apart := false }
def FnHeadLinesSaid : Prop := fnHeadLinesRow.holds Try.pinned (OpenSpec.ofChange fnHeadLinesSpec)

/-- ITS FALSE NEIGHBOUR: 'it returns false'. Refute it at one input. -/
def fnHeadLinesWrong : ChangeSpec := { name := "fnHeadLines", fn := fun _ => fun
  | [d] => { results := [.lit (.bool false)], args := [d] }
  | _ => none }
def FnHeadLinesWrongFalsely : Prop := fnHeadLinesRow.holds Try.pinned (OpenSpec.ofChange fnHeadLinesWrong)

/-- 'laws.FnReadHeads': WHATEVER THE INPUT: true; the input reads as it did. -/
def fnReadHeadsSpec : ChangeSpec := { name := "fnReadHeads", fn := fun _ => fun
  | [d] => { results := [.lit (.bool true)], args := [d] }
  | _ => none }
def fnReadHeadsRow : OpenClaim := { program := "ytnhbhopiioclmaa", sum := "a1693ba25273c49e6081f5967b5fd7d607ae996dfcb0f49fe69e67d850dacd9f", func := "loop.example/conferencehall/laws.FnReadHeads", spec := "fnReadHeads", apart := false }
def FnReadHeadsSaid : Prop := fnReadHeadsRow.holds Try.pinned (OpenSpec.ofChange fnReadHeadsSpec)

/-- ITS FALSE NEIGHBOUR: 'it returns false'. Refute it at one input. -/
def fnReadHeadsWrong : ChangeSpec := { name := "fnReadHeads", fn := fun _ => fun
  | [d] => { results := [.lit (.bool false)], args := [d] }
  | _ => none }
def FnReadHeadsWrongFalsely : Prop := fnReadHeadsRow.holds Try.pinned (OpenSpec.ofChange fnReadHeadsWrong)

/-- 'laws.FnFirstHead': WHATEVER THE INPUT: true; the input reads as it did. -/
def fnFirstHeadSpec : ChangeSpec := { name := "fnFirstHead", fn := fun _ => fun
  | [d] => { results := [.lit (.bool true)], args := [d] }
  | _ => none }
def fnFirstHeadRow : OpenClaim := { program := "ytnhbhopiioclmaa", sum := "a1693ba25273c49e6081f5967b5fd7d607ae996dfcb0f49fe69e67d850dacd9f", func := "loop.example/conferencehall/laws.FnFirstHead", spec := "fnFirstHead", apart := false }
def FnFirstHeadSaid : Prop := fnFirstHeadRow.holds Try.pinned (OpenSpec.ofChange fnFirstHeadSpec)

/-- ITS FALSE NEIGHBOUR: 'it returns false'. Refute it at one input. -/
def fnFirstHeadWrong : ChangeSpec := { name := "fnFirstHead", fn := fun _ => fun
  | [d] => { results := [.lit (.bool false)], args := [d] }
  | _ => none }
def FnFirstHeadWrongFalsely : Prop := fnFirstHeadRow.holds Try.pinned (OpenSpec.ofChange fnFirstHeadWrong)

/-- 'laws.FnSetHead': WHATEVER THE INPUT: true; the input reads as it did. -/
def fnSetHeadSpec : ChangeSpec := { name := "fnSetHead", fn := fun _ => fun
  | [d] => { results := [.lit (.bool true)], args := [d] }
  | _ => none }
def fnSetHeadRow : OpenClaim := { program := "ytnhbhopiioclmaa", sum := "a1693ba25273c49e6081f5967b5fd7d607ae996dfcb0f49fe69e67d850dacd9f", func := "loop.example/conferencehall/laws.FnSetHead", spec := "fnSetHead", apart := false }
def FnSetHeadSaid : Prop := fnSetHeadRow.holds Try.pinned (OpenSpec.ofChange fnSetHeadSpec)

/-- ITS FALSE NEIGHBOUR: 'it returns false'. Refute it at one input. -/
def fnSetHeadWrong : ChangeSpec := { name := "fnSetHead", fn := fun _ => fun
  | [d] => { results := [.lit (.bool false)], args := [d] }
  | _ => none }
def FnSetHeadWrongFalsely : Prop := fnSetHeadRow.holds Try.pinned (OpenSpec.ofChange fnSetHeadWrong)

/-- 'laws.FnExactHeadsValid': WHATEVER THE INPUT: true; the input reads as it did. -/
def fnExactHeadsValidSpec : ChangeSpec := { name := "fnExactHeadsValid", fn := fun _ => fun
  | [d] => { results := [.lit (.bool true)], args := [d] }
  | _ => none }
def fnExactHeadsValidRow : OpenClaim := { program := "ytnhbhopiioclmaa", sum := "a1693ba25273c49e6081f5967b5fd7d607ae996dfcb0f49fe69e67d850dacd9f", func := "loop.example/conferencehall/laws.FnExactHeadsValid", spec := "fnExactHeadsValid", apart := false }
def FnExactHeadsValidSaid : Prop := fnExactHeadsValidRow.holds Try.pinned (OpenSpec.ofChange fnExactHeadsValidSpec)

/-- ITS FALSE NEIGHBOUR: 'it returns false'. Refute it at one input. -/
def fnExactHeadsValidWrong : ChangeSpec := { name := "fnExactHeadsValid", fn := fun _ => fun
  | [d] => { results := [.lit (.bool false)], args := [d] }
  | _ => none }
def FnExactHeadsValidWrongFalsely : Prop := fnExactHeadsValidRow.holds Try.pinned (OpenSpec.ofChange fnExactHeadsValidWrong)

/-- 'laws.FnExactHeadLines': WHATEVER THE INPUT: true; the input reads as it did. -/
def fnExactHeadLinesSpec : ChangeSpec := { name := "fnExactHeadLines", fn := fun _ => fun
  | [d] => { results := [.lit (.bool true)], args := [d] }
  | _ => none }
def fnExactHeadLinesRow : OpenClaim := { program := "ytnhbhopiioclmaa", sum := "a1693ba25273c49e6081f5967b5fd7d607ae996dfcb0f49fe69e67d850dacd9f", func := "loop.example/conferencehall/laws.FnExactHeadLines", spec := "fnExactHeadLines", apart := false }
def FnExactHeadLinesSaid : Prop := fnExactHeadLinesRow.holds Try.pinned (OpenSpec.ofChange fnExactHeadLinesSpec)

/-- ITS FALSE NEIGHBOUR: 'it returns false'. Refute it at one input. -/
def fnExactHeadLinesWrong : ChangeSpec := { name := "fnExactHeadLines", fn := fun _ => fun
  | [d] => { results := [.lit (.bool false)], args := [d] }
  | _ => none }
def FnExactHeadLinesWrongFalsely : Prop := fnExactHeadLinesRow.holds Try.pinned (OpenSpec.ofChange fnExactHeadLinesWrong)

/-- 'laws.FnExactReadHeads': WHATEVER THE INPUT: true; the input reads as it did. -/
def fnExactReadHeadsSpec : ChangeSpec := { name := "fnExactReadHeads", fn := fun _ => fun
  | [d] => { results := [.lit (.bool true)], args := [d] }
  | _ => none }
def fnExactReadHeadsRow : OpenClaim := { program := "ytnhbhopiioclmaa", sum := "a1693ba25273c49e6081f5967b5fd7d607ae996dfcb0f49fe69e67d850dacd9f", func := "loop.example/conferencehall/laws.FnExactReadHeads", spec := "fnExactReadHeads", apart := false }
def FnExactReadHeadsSaid : Prop := fnExactReadHeadsRow.holds Try.pinned (OpenSpec.ofChange fnExactReadHeadsSpec)

/-- ITS FALSE NEIGHBOUR: 'it returns false'. Refute it at one input. -/
def fnExactReadHeadsWrong : ChangeSpec := { name := "fnExactReadHeads", fn := fun _ => fun
  | [d] => { results := [.lit (.bool false)], args := [d] }
  | _ => none }
def FnExactReadHeadsWrongFalsely : Prop := fnExactReadHeadsRow.holds Try.pinned (OpenSpec.ofChange fnExactReadHeadsWrong)

/-- 'laws.FnExactFirstHead': WHATEVER THE INPUT: true; the input reads as it did. -/
def fnExactFirstHeadSpec : ChangeSpec := { name := "fnExactFirstHead", fn := fun _ => fun
  | [d1, d2] => { results := [.lit (.bool true)], args := [d1, d2] }
  | _ => none }
def fnExactFirstHeadRow : OpenClaim := { program := "ytnhbhopiioclmaa", sum := "a1693ba25273c49e6081f5967b5fd7d607ae996dfcb0f49fe69e67d850dacd9f", func := "loop.example/conferencehall/laws.FnExactFirstHead", spec := "fnExactFirstHead", apart := false }
def FnExactFirstHeadSaid : Prop := fnExactFirstHeadRow.holds Try.pinned (OpenSpec.ofChange fnExactFirstHeadSpec)

/-- ITS FALSE NEIGHBOUR: 'it returns false'. Refute it at one input. -/
def fnExactFirstHeadWrong : ChangeSpec := { name := "fnExactFirstHead", fn := fun _ => fun
  | [d1, d2] => { results := [.lit (.bool false)], args := [d1, d2] }
  | _ => none }
def FnExactFirstHeadWrongFalsely : Prop := fnExactFirstHeadRow.holds Try.pinned (OpenSpec.ofChange fnExactFirstHeadWrong)

/-- 'laws.FnExactSetHead': WHATEVER THE INPUT: true; the input reads as it did. -/
def fnExactSetHeadSpec : ChangeSpec := { name := "fnExactSetHead", fn := fun _ => fun
  | [d1, d2, d3] => { results := [.lit (.bool true)], args := [d1, d2, d3] }
  | _ => none }
def fnExactSetHeadRow : OpenClaim := { program := "ytnhbhopiioclmaa", sum := "a1693ba25273c49e6081f5967b5fd7d607ae996dfcb0f49fe69e67d850dacd9f", func := "loop.example/conferencehall/laws.FnExactSetHead", spec := "fnExactSetHead", apart := false }
def FnExactSetHeadSaid : Prop := fnExactSetHeadRow.holds Try.pinned (OpenSpec.ofChange fnExactSetHeadSpec)

/-- ITS FALSE NEIGHBOUR: 'it returns false'. Refute it at one input. -/
def fnExactSetHeadWrong : ChangeSpec := { name := "fnExactSetHead", fn := fun _ => fun
  | [d1, d2, d3] => { results := [.lit (.bool false)], args := [d1, d2, d3] }
  | _ => none }
def FnExactSetHeadWrongFalsely : Prop := fnExactSetHeadRow.holds Try.pinned (OpenSpec.ofChange fnExactSetHeadWrong)

/- THE SECOND FORM. 'bulk': how many values and letters a reading holds, each counted each time it is reached (what is shared counts as often as it is met; a slice's spare places count too). A statement '..UptoSaid' is the law's where the arguments, and the package variables that the reading takes, are together of bulk at most 1048576: NARROWER than '..Said'. Prove '..Said' where nothing that the law and all that it calls make is longer than what came in: it says more and counts as full. Else prove '..UptoSaid'. A law counts once. -/
mutual
def uptoBulk {H : Type} : DataW H → Nat
  | .lit (.string bytes) => bytes.length + 1
  | .lit _ => 1
  | .nil => 1
  | .ptr d => uptoBulk d + 1
  | .slice elems spare => uptoBulkAll elems + uptoBulkAll spare + 1
  | .agg parts => uptoBulkAll parts + 1
  | .iface _ d => uptoBulk d + 1
  | .map entries => uptoBulkEntries entries + 1
  | .held _ => 1
def uptoBulkAll {H : Type} : List (DataW H) → Nat
  | [] => 0
  | d :: r => uptoBulk d + uptoBulkAll r
def uptoBulkEntries {H : Type} : List (Lit × DataW H) → Nat
  | [] => 0
  | x :: r => uptoBulkEntry x + uptoBulkEntries r
def uptoBulkEntry {H : Type} : Lit × DataW H → Nat
  | (.string bytes, d) => bytes.length + uptoBulk d + 1
  | (_, d) => uptoBulk d + 1
 end
def uptoSmall : (H : Type) → List (DataW H) → Bool := fun _ ds => decide (uptoBulkAll ds ≤ 1048576)
def OpenSpec.upto (s : _root_.Go.ChangeSpec) : _root_.Go.OpenSpec := { _root_.Go.OpenSpec.ofChange s with cond := some uptoSmall }

/-- 'laws.FnHeadsValid', WHERE WHAT IT READS IS OF BULK AT MOST 1048576: true; the input reads as it did. -/
def fnHeadsValidUptoRow : OpenClaim := { program := "ytnhbhopiioclmaa", sum := "a1693ba25273c49e6081f5967b5fd7d607ae996dfcb0f49fe69e67d850dacd9f", func := "loop.example/conferencehall/laws.FnHeadsValid", spec := "fnHeadsValid", apart := false, narrowed := true }
def FnHeadsValidUptoSaid : Prop := fnHeadsValidUptoRow.holds Try.pinned (OpenSpec.upto fnHeadsValidSpec)

/-- 'laws.FnHeadLines', WHERE WHAT IT READS IS OF BULK AT MOST 1048576: true; the input reads as it did. -/
def fnHeadLinesUptoRow : OpenClaim := { program := "ytnhbhopiioclmaa", sum := "a1693ba25273c49e6081f5967b5fd7d607ae996dfcb0f49fe69e67d850dacd9f", func := "loop.example/conferencehall/laws.FnHeadLines", spec := "fnHeadLines", apart := false, narrowed := true }
def FnHeadLinesUptoSaid : Prop := fnHeadLinesUptoRow.holds Try.pinned (OpenSpec.upto fnHeadLinesSpec)

/-- 'laws.FnReadHeads', WHERE WHAT IT READS IS OF BULK AT MOST 1048576: true; the input reads as it did. -/
def fnReadHeadsUptoRow : OpenClaim := { program := "ytnhbhopiioclmaa", sum := "a1693ba25273c49e6081f5967b5fd7d607ae996dfcb0f49fe69e67d850dacd9f", func := "loop.example/conferencehall/laws.FnReadHeads", spec := "fnReadHeads", apart := false, narrowed := true }
def FnReadHeadsUptoSaid : Prop := fnReadHeadsUptoRow.holds Try.pinned (OpenSpec.upto fnReadHeadsSpec)

/-- 'laws.FnFirstHead', WHERE WHAT IT READS IS OF BULK AT MOST 1048576: true; the input reads as it did. -/
def fnFirstHeadUptoRow : OpenClaim := { program := "ytnhbhopiioclmaa", sum := "a1693ba25273c49e6081f5967b5fd7d607ae996dfcb0f49fe69e67d850dacd9f", func := "loop.example/conferencehall/laws.FnFirstHead", spec := "fnFirstHead", apart := false, narrowed := true }
def FnFirstHeadUptoSaid : Prop := fnFirstHeadUptoRow.holds Try.pinned (OpenSpec.upto fnFirstHeadSpec)

/-- 'laws.FnSetHead', WHERE WHAT IT READS IS OF BULK AT MOST 1048576: true; the input reads as it did. -/
def fnSetHeadUptoRow : OpenClaim := { program := "ytnhbhopiioclmaa", sum := "a1693ba25273c49e6081f5967b5fd7d607ae996dfcb0f49fe69e67d850dacd9f", func := "loop.example/conferencehall/laws.FnSetHead", spec := "fnSetHead", apart := false, narrowed := true }
def FnSetHeadUptoSaid : Prop := fnSetHeadUptoRow.holds Try.pinned (OpenSpec.upto fnSetHeadSpec)

/-- 'laws.FnExactHeadsValid', WHERE WHAT IT READS IS OF BULK AT MOST 1048576: true; the input reads as it did. -/
def fnExactHeadsValidUptoRow : OpenClaim := { program := "ytnhbhopiioclmaa", sum := "a1693ba25273c49e6081f5967b5fd7d607ae996dfcb0f49fe69e67d850dacd9f", func := "loop.example/conferencehall/laws.FnExactHeadsValid", spec := "fnExactHeadsValid", apart := false, narrowed := true }
def FnExactHeadsValidUptoSaid : Prop := fnExactHeadsValidUptoRow.holds Try.pinned (OpenSpec.upto fnExactHeadsValidSpec)

/-- 'laws.FnExactHeadLines', WHERE WHAT IT READS IS OF BULK AT MOST 1048576: true; the input reads as it did. -/
def fnExactHeadLinesUptoRow : OpenClaim := { program := "ytnhbhopiioclmaa", sum := "a1693ba25273c49e6081f5967b5fd7d607ae996dfcb0f49fe69e67d850dacd9f", func := "loop.example/conferencehall/laws.FnExactHeadLines", spec := "fnExactHeadLines", apart := false, narrowed := true }
def FnExactHeadLinesUptoSaid : Prop := fnExactHeadLinesUptoRow.holds Try.pinned (OpenSpec.upto fnExactHeadLinesSpec)

/-- 'laws.FnExactReadHeads', WHERE WHAT IT READS IS OF BULK AT MOST 1048576: true; the input reads as it did. -/
def fnExactReadHeadsUptoRow : OpenClaim := { program := "ytnhbhopiioclmaa", sum := "a1693ba25273c49e6081f5967b5fd7d607ae996dfcb0f49fe69e67d850dacd9f", func := "loop.example/conferencehall/laws.FnExactReadHeads", spec := "fnExactReadHeads", apart := false, narrowed := true }
def FnExactReadHeadsUptoSaid : Prop := fnExactReadHeadsUptoRow.holds Try.pinned (OpenSpec.upto fnExactReadHeadsSpec)

/-- 'laws.FnExactFirstHead', WHERE WHAT IT READS IS OF BULK AT MOST 1048576: true; the input reads as it did. -/
def fnExactFirstHeadUptoRow : OpenClaim := { program := "ytnhbhopiioclmaa", sum := "a1693ba25273c49e6081f5967b5fd7d607ae996dfcb0f49fe69e67d850dacd9f", func := "loop.example/conferencehall/laws.FnExactFirstHead", spec := "fnExactFirstHead", apart := false, narrowed := true }
def FnExactFirstHeadUptoSaid : Prop := fnExactFirstHeadUptoRow.holds Try.pinned (OpenSpec.upto fnExactFirstHeadSpec)

/-- 'laws.FnExactSetHead', WHERE WHAT IT READS IS OF BULK AT MOST 1048576: true; the input reads as it did. -/
def fnExactSetHeadUptoRow : OpenClaim := { program := "ytnhbhopiioclmaa", sum := "a1693ba25273c49e6081f5967b5fd7d607ae996dfcb0f49fe69e67d850dacd9f", func := "loop.example/conferencehall/laws.FnExactSetHead", spec := "fnExactSetHead", apart := false, narrowed := true }
def FnExactSetHeadUptoSaid : Prop := fnExactSetHeadUptoRow.holds Try.pinned (OpenSpec.upto fnExactSetHeadSpec)

end Rows
end Go.Proofs.Ytnhbhopiioclmaa
