/-
  No cell of these rows narrows 'for every input' (looked for: loops, veiled, ifaces, maps, wideKeys, modest, calm, conditions, laid).
  DERIVED. THE GIVEN ROWS OF THIS SEAT. 8 by the template 'for every input the law returns true; each argument reads behind the call as it read before'; 0 by the template 'total and deterministic' (their statements: YtabkefacphhkmaaTotals.lean).
  GIVEN WITH THE SEED: the statements are not yours to turn. If you find one false, say at which input.
  Laid BY PROGRAM, IN A SANDBOX (cutbox-rows.mjs): the forced cells as the released guide's own fill.sh prints them over the translation 8fa7e2217a76dad6… (all of the seat's roots in one cut). By AI agents, Wed Nov 11 2026. No macro, syntax, notation, axiom, sorry.
-/
import Derived.Test.YtabkefacphhkmaaChecked
import GoSem.Claim
import GoSem.ClaimJoined
import GoSem.ClaimMapViews
import Derived.JoinedTies
import Derived.KernelRfl
namespace Go.Proofs.Ytabkefacphhkmaa
/- THE CELL 'sum', in the pinned program and in every row, IS THE sha256 OF THE DUMP (.gsa) THAT YtabkefacphhkmaaProg.lean LOADS. Nothing in Lean hashes anything: it is a label: what it is worth is what the hold of that sum in a sandbox is worth. -/
noncomputable def Try.pinned : Pinned := { name := "ytabkefacphhkmaa", sum := "8fa7e2217a76dad68b45e7c70494ceec21ef31899f7757d0baf992d4b20a1585", checked := Try.checked }
namespace Rows
def none {H : Type} : Left H := { results := [], args := [] }

/-- 'laws.FnSequenceValid': WHATEVER THE INPUT: true; the input reads as it did. -/
def fnSequenceValidSpec : ChangeSpec := { name := "fnSequenceValid", fn := fun _ => fun
  | [d] => { results := [.lit (.bool true)], args := [d] }
  | _ => none }
def fnSequenceValidRow : OpenClaim := { program := "ytabkefacphhkmaa", sum := "8fa7e2217a76dad68b45e7c70494ceec21ef31899f7757d0baf992d4b20a1585", func := "loop.example/conferencehall/laws.FnSequenceValid", spec := "fnSequenceValid", apart := false }
def FnSequenceValidSaid : Prop := fnSequenceValidRow.holds Try.pinned (OpenSpec.ofChange fnSequenceValidSpec)

/-- ITS FALSE NEIGHBOUR: 'it returns false'. Refute it at one input. -/
def fnSequenceValidWrong : ChangeSpec := { name := "fnSequenceValid", fn := fun _ => fun
  | [d] => { results := [.lit (.bool false)], args := [d] }
  | _ => none }
def FnSequenceValidWrongFalsely : Prop := fnSequenceValidRow.holds Try.pinned (OpenSpec.ofChange fnSequenceValidWrong)

/-- 'laws.FnSequenceText': WHATEVER THE INPUT: true; the input reads as it did. -/
def fnSequenceTextSpec : ChangeSpec := { name := "fnSequenceText", fn := fun _ => fun
  | [d] => { results := [.lit (.bool true)], args := [d] }
  | _ => none }
def fnSequenceTextRow : OpenClaim := { program := "ytabkefacphhkmaa", sum := "8fa7e2217a76dad68b45e7c70494ceec21ef31899f7757d0baf992d4b20a1585", func := "loop.example/conferencehall/laws.FnSequenceText", spec := "fnSequenceText", apart := false }
def FnSequenceTextSaid : Prop := fnSequenceTextRow.holds Try.pinned (OpenSpec.ofChange fnSequenceTextSpec)

/-- ITS FALSE NEIGHBOUR: 'it returns false'. Refute it at one input. -/
def fnSequenceTextWrong : ChangeSpec := { name := "fnSequenceText", fn := fun _ => fun
  | [d] => { results := [.lit (.bool false)], args := [d] }
  | _ => none }
def FnSequenceTextWrongFalsely : Prop := fnSequenceTextRow.holds Try.pinned (OpenSpec.ofChange fnSequenceTextWrong)

/-- 'laws.FnReadSequence': WHATEVER THE INPUT: true; the input reads as it did. -/
def fnReadSequenceSpec : ChangeSpec := { name := "fnReadSequence", fn := fun _ => fun
  | [d] => { results := [.lit (.bool true)], args := [d] }
  | _ => none }
def fnReadSequenceRow : OpenClaim := { program := "ytabkefacphhkmaa", sum := "8fa7e2217a76dad68b45e7c70494ceec21ef31899f7757d0baf992d4b20a1585", func := "loop.example/conferencehall/laws.FnReadSequence", spec := "fnReadSequence", apart := false }
def FnReadSequenceSaid : Prop := fnReadSequenceRow.holds Try.pinned (OpenSpec.ofChange fnReadSequenceSpec)

/-- ITS FALSE NEIGHBOUR: 'it returns false'. Refute it at one input. -/
def fnReadSequenceWrong : ChangeSpec := { name := "fnReadSequence", fn := fun _ => fun
  | [d] => { results := [.lit (.bool false)], args := [d] }
  | _ => none }
def FnReadSequenceWrongFalsely : Prop := fnReadSequenceRow.holds Try.pinned (OpenSpec.ofChange fnReadSequenceWrong)

/-- 'laws.FnSequenceFits': WHATEVER THE INPUT: true; the input reads as it did. -/
def fnSequenceFitsSpec : ChangeSpec := { name := "fnSequenceFits", fn := fun _ => fun
  | [d] => { results := [.lit (.bool true)], args := [d] }
  | _ => none }
def fnSequenceFitsRow : OpenClaim := { program := "ytabkefacphhkmaa", sum := "8fa7e2217a76dad68b45e7c70494ceec21ef31899f7757d0baf992d4b20a1585", func := "loop.example/conferencehall/laws.FnSequenceFits", spec := "fnSequenceFits", apart := false }
def FnSequenceFitsSaid : Prop := fnSequenceFitsRow.holds Try.pinned (OpenSpec.ofChange fnSequenceFitsSpec)

/-- ITS FALSE NEIGHBOUR: 'it returns false'. Refute it at one input. -/
def fnSequenceFitsWrong : ChangeSpec := { name := "fnSequenceFits", fn := fun _ => fun
  | [d] => { results := [.lit (.bool false)], args := [d] }
  | _ => none }
def FnSequenceFitsWrongFalsely : Prop := fnSequenceFitsRow.holds Try.pinned (OpenSpec.ofChange fnSequenceFitsWrong)

/-- 'laws.FnExactSequenceValid': WHATEVER THE INPUT: true; the input reads as it did. -/
def fnExactSequenceValidSpec : ChangeSpec := { name := "fnExactSequenceValid", fn := fun _ => fun
  | [d] => { results := [.lit (.bool true)], args := [d] }
  | _ => none }
def fnExactSequenceValidRow : OpenClaim := { program := "ytabkefacphhkmaa", sum := "8fa7e2217a76dad68b45e7c70494ceec21ef31899f7757d0baf992d4b20a1585", func := "loop.example/conferencehall/laws.FnExactSequenceValid", spec := "fnExactSequenceValid", apart := false }
def FnExactSequenceValidSaid : Prop := fnExactSequenceValidRow.holds Try.pinned (OpenSpec.ofChange fnExactSequenceValidSpec)

/-- ITS FALSE NEIGHBOUR: 'it returns false'. Refute it at one input. -/
def fnExactSequenceValidWrong : ChangeSpec := { name := "fnExactSequenceValid", fn := fun _ => fun
  | [d] => { results := [.lit (.bool false)], args := [d] }
  | _ => none }
def FnExactSequenceValidWrongFalsely : Prop := fnExactSequenceValidRow.holds Try.pinned (OpenSpec.ofChange fnExactSequenceValidWrong)

/-- 'laws.FnExactSequenceText': WHATEVER THE INPUT: true; the input reads as it did. -/
def fnExactSequenceTextSpec : ChangeSpec := { name := "fnExactSequenceText", fn := fun _ => fun
  | [d] => { results := [.lit (.bool true)], args := [d] }
  | _ => none }
def fnExactSequenceTextRow : OpenClaim := { program := "ytabkefacphhkmaa", sum := "8fa7e2217a76dad68b45e7c70494ceec21ef31899f7757d0baf992d4b20a1585", func := "loop.example/conferencehall/laws.FnExactSequenceText", spec := "fnExactSequenceText", apart := false }
def FnExactSequenceTextSaid : Prop := fnExactSequenceTextRow.holds Try.pinned (OpenSpec.ofChange fnExactSequenceTextSpec)

/-- ITS FALSE NEIGHBOUR: 'it returns false'. Refute it at one input. -/
def fnExactSequenceTextWrong : ChangeSpec := { name := "fnExactSequenceText", fn := fun _ => fun
  | [d] => { results := [.lit (.bool false)], args := [d] }
  | _ => none }
def FnExactSequenceTextWrongFalsely : Prop := fnExactSequenceTextRow.holds Try.pinned (OpenSpec.ofChange fnExactSequenceTextWrong)

/-- 'laws.FnExactReadSequence': WHATEVER THE INPUT: true; the input reads as it did. -/
def fnExactReadSequenceSpec : ChangeSpec := { name := "fnExactReadSequence", fn := fun _ => fun
  | [d] => { results := [.lit (.bool true)], args := [d] }
  | _ => none }
def fnExactReadSequenceRow : OpenClaim := { program := "ytabkefacphhkmaa", sum := "8fa7e2217a76dad68b45e7c70494ceec21ef31899f7757d0baf992d4b20a1585", func := "loop.example/conferencehall/laws.FnExactReadSequence", spec := "fnExactReadSequence", apart := false }
def FnExactReadSequenceSaid : Prop := fnExactReadSequenceRow.holds Try.pinned (OpenSpec.ofChange fnExactReadSequenceSpec)

/-- ITS FALSE NEIGHBOUR: 'it returns false'. Refute it at one input. -/
def fnExactReadSequenceWrong : ChangeSpec := { name := "fnExactReadSequence", fn := fun _ => fun
  | [d] => { results := [.lit (.bool false)], args := [d] }
  | _ => none }
def FnExactReadSequenceWrongFalsely : Prop := fnExactReadSequenceRow.holds Try.pinned (OpenSpec.ofChange fnExactReadSequenceWrong)

/-- 'laws.FnExactSequenceFits': WHATEVER THE INPUT: true; the input reads as it did. -/
def fnExactSequenceFitsSpec : ChangeSpec := { name := "fnExactSequenceFits", fn := fun _ => fun
  | [d1, d2] => { results := [.lit (.bool true)], args := [d1, d2] }
  | _ => none }
def fnExactSequenceFitsRow : OpenClaim := { program := "ytabkefacphhkmaa", sum := "8fa7e2217a76dad68b45e7c70494ceec21ef31899f7757d0baf992d4b20a1585", func := "loop.example/conferencehall/laws.FnExactSequenceFits", spec := "fnExactSequenceFits", apart := false }
def FnExactSequenceFitsSaid : Prop := fnExactSequenceFitsRow.holds Try.pinned (OpenSpec.ofChange fnExactSequenceFitsSpec)

/-- ITS FALSE NEIGHBOUR: 'it returns false'. Refute it at one input. -/
def fnExactSequenceFitsWrong : ChangeSpec := { name := "fnExactSequenceFits", fn := fun _ => fun
  | [d1, d2] => { results := [.lit (.bool false)], args := [d1, d2] }
  | _ => none }
def FnExactSequenceFitsWrongFalsely : Prop := fnExactSequenceFitsRow.holds Try.pinned (OpenSpec.ofChange fnExactSequenceFitsWrong)

/- THE SECOND FORM. 'bulk': how many values and letters a reading holds, each counted each time it is reached (what is shared counts as often as it is met; a slice's spare places count too). A statement '..UptoSaid' is the law's where the arguments, and the package variables that the reading takes, are together of bulk at most 1048576: NARROWER than '..Said'. Prove '..Said' where nothing that the law and all that it calls make is longer than what came in: it says more and counts as full. Else prove '..UptoSaid'. A law counts once. -/
mutual
def uptoBulk {H : Type} : DataW H → Nat
  | .lit (.string bytes) => bytes.length + 1
  | .lit _ => 1
  | .nil => 1
  | .ptr d => uptoBulk d + 1
  | .slice elems spare => uptoBulkAll elems + uptoBulkAll spare + 1
  | .agg parts => uptoBulkAll parts + 1
  | .iface _ d => uptoBulk d + 1
  | .map entries => uptoBulkEntries entries + 1
  | .held _ => 1
def uptoBulkAll {H : Type} : List (DataW H) → Nat
  | [] => 0
  | d :: r => uptoBulk d + uptoBulkAll r
def uptoBulkEntries {H : Type} : List (Lit × DataW H) → Nat
  | [] => 0
  | x :: r => uptoBulkEntry x + uptoBulkEntries r
def uptoBulkEntry {H : Type} : Lit × DataW H → Nat
  | (.string bytes, d) => bytes.length + uptoBulk d + 1
  | (_, d) => uptoBulk d + 1
 end
def uptoSmall : (H : Type) → List (DataW H) → Bool := fun _ ds => decide (uptoBulkAll ds ≤ 1048576)
def OpenSpec.upto (s : _root_.Go.ChangeSpec) : _root_.Go.OpenSpec := { _root_.Go.OpenSpec.ofChange s with cond := some uptoSmall }

/-- 'laws.FnSequenceValid', WHERE WHAT IT READS IS OF BULK AT MOST 1048576: true; the input reads as it did. -/
def fnSequenceValidUptoRow : OpenClaim := { program := "ytabkefacphhkmaa", sum := "8fa7e2217a76dad68b45e7c70494ceec21ef31899f7757d0baf992d4b20a1585", func := "loop.example/conferencehall/laws.FnSequenceValid", spec := "fnSequenceValid", apart := false, narrowed := true }
def FnSequenceValidUptoSaid : Prop := fnSequenceValidUptoRow.holds Try.pinned (OpenSpec.upto fnSequenceValidSpec)

/-- 'laws.FnSequenceText', WHERE WHAT IT READS IS OF BULK AT MOST 1048576: true; the input reads as it did. -/
def fnSequenceTextUptoRow : OpenClaim := { program := "ytabkefacphhkmaa", sum := "8fa7e2217a76dad68b45e7c70494ceec21ef31899f7757d0baf992d4b20a1585", func := "loop.example/conferencehall/laws.FnSequenceText", spec := "fnSequenceText", apart := false, narrowed := true }
def FnSequenceTextUptoSaid : Prop := fnSequenceTextUptoRow.holds Try.pinned (OpenSpec.upto fnSequenceTextSpec)

/-- 'laws.FnReadSequence', WHERE WHAT IT READS IS OF BULK AT MOST 1048576: true; the input reads as it did. -/
def fnReadSequenceUptoRow : OpenClaim := { program := "ytabkefacphhkmaa", sum := "8fa7e2217a76dad68b45e7c70494ceec21ef31899f7757d0baf992d4b20a1585", func := "loop.example/conferencehall/laws.FnReadSequence", spec := "fnReadSequence", apart := false, narrowed := true }
def FnReadSequenceUptoSaid : Prop := fnReadSequenceUptoRow.holds Try.pinned (OpenSpec.upto fnReadSequenceSpec)

/-- 'laws.FnSequenceFits', WHERE WHAT IT READS IS OF BULK AT MOST 1048576: true; the input reads as it did. -/
def fnSequenceFitsUptoRow : OpenClaim := { program := "ytabkefacphhkmaa", sum := "8fa7e2217a76dad68b45e7c70494ceec21ef31899f7757d0baf992d4b20a1585", func := "loop.example/conferencehall/laws.FnSequenceFits", spec := "fnSequenceFits", apart := false, narrowed := true }
def FnSequenceFitsUptoSaid : Prop := fnSequenceFitsUptoRow.holds Try.pinned (OpenSpec.upto fnSequenceFitsSpec)

/-- 'laws.FnExactSequenceValid', WHERE WHAT IT READS IS OF BULK AT MOST 1048576: true; the input reads as it did. -/
def fnExactSequenceValidUptoRow : OpenClaim := { program := "ytabkefacphhkmaa", sum := "8fa7e2217a76dad68b45e7c70494ceec21ef31899f7757d0baf992d4b20a1585", func := "loop.example/conferencehall/laws.FnExactSequenceValid", spec := "fnExactSequenceValid", apart := false, narrowed := true }
def FnExactSequenceValidUptoSaid : Prop := fnExactSequenceValidUptoRow.holds Try.pinned (OpenSpec.upto fnExactSequenceValidSpec)

/-- 'laws.FnExactSequenceText', WHERE WHAT IT READS IS OF BULK AT MOST 1048576: true; the input reads as it did. -/
def fnExactSequenceTextUptoRow : OpenClaim := { program := "ytabkefacphhkmaa", sum := "8fa7e2217a76dad68b45e7c70494ceec21ef31899f7757d0baf992d4b20a1585", func := "loop.example/conferencehall/laws.FnExactSequenceText", spec := "fnExactSequenceText", apart := false, narrowed := true }
def FnExactSequenceTextUptoSaid : Prop := fnExactSequenceTextUptoRow.holds Try.pinned (OpenSpec.upto fnExactSequenceTextSpec)

/-- 'laws.FnExactReadSequence', WHERE WHAT IT READS IS OF BULK AT MOST 1048576: true; the input reads as it did. -/
def fnExactReadSequenceUptoRow : OpenClaim := { program := "ytabkefacphhkmaa", sum := "8fa7e2217a76dad68b45e7c70494ceec21ef31899f7757d0baf992d4b20a1585", func := "loop.example/conferencehall/laws.FnExactReadSequence", spec := "fnExactReadSequence", apart := false, narrowed := true }
def FnExactReadSequenceUptoSaid : Prop := fnExactReadSequenceUptoRow.holds Try.pinned (OpenSpec.upto fnExactReadSequenceSpec)

/-- 'laws.FnExactSequenceFits', WHERE WHAT IT READS IS OF BULK AT MOST 1048576: true; the input reads as it did. -/
def fnExactSequenceFitsUptoRow : OpenClaim := { program := "ytabkefacphhkmaa", sum := "8fa7e2217a76dad68b45e7c70494ceec21ef31899f7757d0baf992d4b20a1585", func := "loop.example/conferencehall/laws.FnExactSequenceFits", spec := "fnExactSequenceFits", apart := false, narrowed := true }
def FnExactSequenceFitsUptoSaid : Prop := fnExactSequenceFitsUptoRow.holds Try.pinned (OpenSpec.upto fnExactSequenceFitsSpec)

end Rows
end Go.Proofs.Ytabkefacphhkmaa
