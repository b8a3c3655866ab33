/-
  No cell of these rows narrows 'for every input' (looked for: loops, veiled, ifaces, maps, wideKeys, modest, calm, conditions, laid).
  DERIVED. THE GIVEN ROWS OF THIS SEAT. 8 by the template 'for every input the law returns true; each argument reads behind the call as it read before'; 0 by the template 'total and deterministic' (their statements: YtcnmpghenfbflaaTotals.lean).
  GIVEN WITH THE SEED: the statements are not yours to turn. If you find one false, say at which input.
  Laid BY PROGRAM, IN A SANDBOX (cutbox-rows.mjs): the forced cells as the released guide's own fill.sh prints them over the translation d790a08df4fba628… (all of the seat's roots in one cut). By AI agents, Wed Nov 11 2026. No macro, syntax, notation, axiom, sorry.
-/
import Derived.Test.YtcnmpghenfbflaaChecked
import GoSem.Claim
import GoSem.ClaimJoined
import GoSem.ClaimMapViews
import Derived.JoinedTies
import Derived.KernelRfl
namespace Go.Proofs.Ytcnmpghenfbflaa
/- THE CELL 'sum', in the pinned program and in every row, IS THE sha256 OF THE DUMP (.gsa) THAT YtcnmpghenfbflaaProg.lean LOADS. Nothing in Lean hashes anything: it is a label: what it is worth is what the hold of that sum in a sandbox is worth. -/
noncomputable def Try.pinned : Pinned := { name := "ytcnmpghenfbflaa", sum := "d790a08df4fba6280476d23b520e2dac4fc62905644b8b18c4baa2b0d9963ebe", checked := Try.checked }
namespace Rows
def none {H : Type} : Left H := { results := [], args := [] }

/-- 'laws.FnRoomValid': WHATEVER THE INPUT: true; the input reads as it did. -/
def fnRoomValidSpec : ChangeSpec := { name := "fnRoomValid", fn := fun _ => fun
  | [d] => { results := [.lit (.bool true)], args := [d] }
  | _ => none }
def fnRoomValidRow : OpenClaim := { program := "ytcnmpghenfbflaa", sum := "d790a08df4fba6280476d23b520e2dac4fc62905644b8b18c4baa2b0d9963ebe", func := "loop.example/conferencehall/laws.FnRoomValid", spec := "fnRoomValid", apart := false }
def FnRoomValidSaid : Prop := fnRoomValidRow.holds Try.pinned (OpenSpec.ofChange fnRoomValidSpec)

/-- ITS FALSE NEIGHBOUR: 'it returns false'. Refute it at one input. -/
def fnRoomValidWrong : ChangeSpec := { name := "fnRoomValid", fn := fun _ => fun
  | [d] => { results := [.lit (.bool false)], args := [d] }
  | _ => none }
def FnRoomValidWrongFalsely : Prop := fnRoomValidRow.holds Try.pinned (OpenSpec.ofChange fnRoomValidWrong)

/-- 'laws.FnExactRoomValid': WHATEVER THE INPUT: true; the input reads as it did. -/
def fnExactRoomValidSpec : ChangeSpec := { name := "fnExactRoomValid", fn := fun _ => fun
  | [d] => { results := [.lit (.bool true)], args := [d] }
  | _ => none }
def fnExactRoomValidRow : OpenClaim := { program := "ytcnmpghenfbflaa", sum := "d790a08df4fba6280476d23b520e2dac4fc62905644b8b18c4baa2b0d9963ebe", func := "loop.example/conferencehall/laws.FnExactRoomValid", spec := "fnExactRoomValid", apart := false }
def FnExactRoomValidSaid : Prop := fnExactRoomValidRow.holds Try.pinned (OpenSpec.ofChange fnExactRoomValidSpec)

/-- ITS FALSE NEIGHBOUR: 'it returns false'. Refute it at one input. -/
def fnExactRoomValidWrong : ChangeSpec := { name := "fnExactRoomValid", fn := fun _ => fun
  | [d] => { results := [.lit (.bool false)], args := [d] }
  | _ => none }
def FnExactRoomValidWrongFalsely : Prop := fnExactRoomValidRow.holds Try.pinned (OpenSpec.ofChange fnExactRoomValidWrong)

/-- 'laws.FnEnterRoom': WHATEVER THE INPUT: true; the input reads as it did. -/
def fnEnterRoomSpec : ChangeSpec := { name := "fnEnterRoom", fn := fun _ => fun
  | [d] => { results := [.lit (.bool true)], args := [d] }
  | _ => none }
def fnEnterRoomRow : OpenClaim := { program := "ytcnmpghenfbflaa", sum := "d790a08df4fba6280476d23b520e2dac4fc62905644b8b18c4baa2b0d9963ebe", func := "loop.example/conferencehall/laws.FnEnterRoom", spec := "fnEnterRoom", apart := false }
def FnEnterRoomSaid : Prop := fnEnterRoomRow.holds Try.pinned (OpenSpec.ofChange fnEnterRoomSpec)

/-- ITS FALSE NEIGHBOUR: 'it returns false'. Refute it at one input. -/
def fnEnterRoomWrong : ChangeSpec := { name := "fnEnterRoom", fn := fun _ => fun
  | [d] => { results := [.lit (.bool false)], args := [d] }
  | _ => none }
def FnEnterRoomWrongFalsely : Prop := fnEnterRoomRow.holds Try.pinned (OpenSpec.ofChange fnEnterRoomWrong)

/-- 'laws.FnExactEnterRoom': WHATEVER THE INPUT: true; the input reads as it did. -/
def fnExactEnterRoomSpec : ChangeSpec := { name := "fnExactEnterRoom", fn := fun _ => fun
  | [d1, d2, d3, d4] => { results := [.lit (.bool true)], args := [d1, d2, d3, d4] }
  | _ => none }
def fnExactEnterRoomRow : OpenClaim := { program := "ytcnmpghenfbflaa", sum := "d790a08df4fba6280476d23b520e2dac4fc62905644b8b18c4baa2b0d9963ebe", func := "loop.example/conferencehall/laws.FnExactEnterRoom", spec := "fnExactEnterRoom", apart := false }
def FnExactEnterRoomSaid : Prop := fnExactEnterRoomRow.holds Try.pinned (OpenSpec.ofChange fnExactEnterRoomSpec)

/-- ITS FALSE NEIGHBOUR: 'it returns false'. Refute it at one input. -/
def fnExactEnterRoomWrong : ChangeSpec := { name := "fnExactEnterRoom", fn := fun _ => fun
  | [d1, d2, d3, d4] => { results := [.lit (.bool false)], args := [d1, d2, d3, d4] }
  | _ => none }
def FnExactEnterRoomWrongFalsely : Prop := fnExactEnterRoomRow.holds Try.pinned (OpenSpec.ofChange fnExactEnterRoomWrong)

/-- 'laws.FnAdmitNext': WHATEVER THE INPUT: true; the input reads as it did. -/
def fnAdmitNextSpec : ChangeSpec := { name := "fnAdmitNext", fn := fun _ => fun
  | [d] => { results := [.lit (.bool true)], args := [d] }
  | _ => none }
def fnAdmitNextRow : OpenClaim := { program := "ytcnmpghenfbflaa", sum := "d790a08df4fba6280476d23b520e2dac4fc62905644b8b18c4baa2b0d9963ebe", func := "loop.example/conferencehall/laws.FnAdmitNext", spec := "fnAdmitNext", apart := false }
def FnAdmitNextSaid : Prop := fnAdmitNextRow.holds Try.pinned (OpenSpec.ofChange fnAdmitNextSpec)

/-- ITS FALSE NEIGHBOUR: 'it returns false'. Refute it at one input. -/
def fnAdmitNextWrong : ChangeSpec := { name := "fnAdmitNext", fn := fun _ => fun
  | [d] => { results := [.lit (.bool false)], args := [d] }
  | _ => none }
def FnAdmitNextWrongFalsely : Prop := fnAdmitNextRow.holds Try.pinned (OpenSpec.ofChange fnAdmitNextWrong)

/-- 'laws.FnExactAdmitNext': WHATEVER THE INPUT: true; the input reads as it did. -/
def fnExactAdmitNextSpec : ChangeSpec := { name := "fnExactAdmitNext", fn := fun _ => fun
  | [d] => { results := [.lit (.bool true)], args := [d] }
  | _ => none }
def fnExactAdmitNextRow : OpenClaim := { program := "ytcnmpghenfbflaa", sum := "d790a08df4fba6280476d23b520e2dac4fc62905644b8b18c4baa2b0d9963ebe", func := "loop.example/conferencehall/laws.FnExactAdmitNext", spec := "fnExactAdmitNext", apart := false }
def FnExactAdmitNextSaid : Prop := fnExactAdmitNextRow.holds Try.pinned (OpenSpec.ofChange fnExactAdmitNextSpec)

/-- ITS FALSE NEIGHBOUR: 'it returns false'. Refute it at one input. -/
def fnExactAdmitNextWrong : ChangeSpec := { name := "fnExactAdmitNext", fn := fun _ => fun
  | [d] => { results := [.lit (.bool false)], args := [d] }
  | _ => none }
def FnExactAdmitNextWrongFalsely : Prop := fnExactAdmitNextRow.holds Try.pinned (OpenSpec.ofChange fnExactAdmitNextWrong)

/-- 'laws.FnLockRoom': WHATEVER THE INPUT: true; the input reads as it did. -/
def fnLockRoomSpec : ChangeSpec := { name := "fnLockRoom", fn := fun _ => fun
  | [d] => { results := [.lit (.bool true)], args := [d] }
  | _ => none }
def fnLockRoomRow : OpenClaim := { program := "ytcnmpghenfbflaa", sum := "d790a08df4fba6280476d23b520e2dac4fc62905644b8b18c4baa2b0d9963ebe", func := "loop.example/conferencehall/laws.FnLockRoom", spec := "fnLockRoom", apart := false }
def FnLockRoomSaid : Prop := fnLockRoomRow.holds Try.pinned (OpenSpec.ofChange fnLockRoomSpec)

/-- ITS FALSE NEIGHBOUR: 'it returns false'. Refute it at one input. -/
def fnLockRoomWrong : ChangeSpec := { name := "fnLockRoom", fn := fun _ => fun
  | [d] => { results := [.lit (.bool false)], args := [d] }
  | _ => none }
def FnLockRoomWrongFalsely : Prop := fnLockRoomRow.holds Try.pinned (OpenSpec.ofChange fnLockRoomWrong)

/-- 'laws.FnExactLockRoom': WHATEVER THE INPUT: true; the input reads as it did. -/
def fnExactLockRoomSpec : ChangeSpec := { name := "fnExactLockRoom", fn := fun _ => fun
  | [d1, d2] => { results := [.lit (.bool true)], args := [d1, d2] }
  | _ => none }
def fnExactLockRoomRow : OpenClaim := { program := "ytcnmpghenfbflaa", sum := "d790a08df4fba6280476d23b520e2dac4fc62905644b8b18c4baa2b0d9963ebe", func := "loop.example/conferencehall/laws.FnExactLockRoom", spec := "fnExactLockRoom", apart := false }
def FnExactLockRoomSaid : Prop := fnExactLockRoomRow.holds Try.pinned (OpenSpec.ofChange fnExactLockRoomSpec)

/-- ITS FALSE NEIGHBOUR: 'it returns false'. Refute it at one input. -/
def fnExactLockRoomWrong : ChangeSpec := { name := "fnExactLockRoom", fn := fun _ => fun
  | [d1, d2] => { results := [.lit (.bool false)], args := [d1, d2] }
  | _ => none }
def FnExactLockRoomWrongFalsely : Prop := fnExactLockRoomRow.holds Try.pinned (OpenSpec.ofChange fnExactLockRoomWrong)

/- THE SECOND FORM. 'bulk': how many values and letters a reading holds, each counted each time it is reached (what is shared counts as often as it is met; a slice's spare places count too). A statement '..UptoSaid' is the law's where the arguments, and the package variables that the reading takes, are together of bulk at most 1048576: NARROWER than '..Said'. Prove '..Said' where nothing that the law and all that it calls make is longer than what came in: it says more and counts as full. Else prove '..UptoSaid'. A law counts once. -/
mutual
def uptoBulk {H : Type} : DataW H → Nat
  | .lit (.string bytes) => bytes.length + 1
  | .lit _ => 1
  | .nil => 1
  | .ptr d => uptoBulk d + 1
  | .slice elems spare => uptoBulkAll elems + uptoBulkAll spare + 1
  | .agg parts => uptoBulkAll parts + 1
  | .iface _ d => uptoBulk d + 1
  | .map entries => uptoBulkEntries entries + 1
  | .held _ => 1
def uptoBulkAll {H : Type} : List (DataW H) → Nat
  | [] => 0
  | d :: r => uptoBulk d + uptoBulkAll r
def uptoBulkEntries {H : Type} : List (Lit × DataW H) → Nat
  | [] => 0
  | x :: r => uptoBulkEntry x + uptoBulkEntries r
def uptoBulkEntry {H : Type} : Lit × DataW H → Nat
  | (.string bytes, d) => bytes.length + uptoBulk d + 1
  | (_, d) => uptoBulk d + 1
 end
def uptoSmall : (H : Type) → List (DataW H) → Bool := fun _ ds => decide (uptoBulkAll ds ≤ 1048576)
def OpenSpec.upto (s : _root_.Go.ChangeSpec) : _root_.Go.OpenSpec := { _root_.Go.OpenSpec.ofChange s with cond := some uptoSmall }

/-- 'laws.FnRoomValid', WHERE WHAT IT READS IS OF BULK AT MOST 1048576: true; the input reads as it did. -/
def fnRoomValidUptoRow : OpenClaim := { program := "ytcnmpghenfbflaa", sum := "d790a08df4fba6280476d23b520e2dac4fc62905644b8b18c4baa2b0d9963ebe", func := "loop.example/conferencehall/laws.FnRoomValid", spec := "fnRoomValid", apart := false, narrowed := true }
def FnRoomValidUptoSaid : Prop := fnRoomValidUptoRow.holds Try.pinned (OpenSpec.upto fnRoomValidSpec)

/-- 'laws.FnExactRoomValid', WHERE WHAT IT READS IS OF BULK AT MOST 1048576: true; the input reads as it did. -/
def fnExactRoomValidUptoRow : OpenClaim := { program := "ytcnmpghenfbflaa", sum := "d790a08df4fba6280476d23b520e2dac4fc62905644b8b18c4baa2b0d9963ebe", func := "loop.example/conferencehall/laws.FnExactRoomValid", spec := "fnExactRoomValid", apart := false, narrowed := true }
def FnExactRoomValidUptoSaid : Prop := fnExactRoomValidUptoRow.holds Try.pinned (OpenSpec.upto fnExactRoomValidSpec)

/-- 'laws.FnEnterRoom', WHERE WHAT IT READS IS OF BULK AT MOST 1048576: true; the input reads as it did. -/
def fnEnterRoomUptoRow : OpenClaim := { program := "ytcnmpghenfbflaa", sum := "d790a08df4fba6280476d23b520e2dac4fc62905644b8b18c4baa2b0d9963ebe", func := "loop.example/conferencehall/laws.FnEnterRoom", spec := "fnEnterRoom", apart := false, narrowed := true }
def FnEnterRoomUptoSaid : Prop := fnEnterRoomUptoRow.holds Try.pinned (OpenSpec.upto fnEnterRoomSpec)

/-- 'laws.FnExactEnterRoom', WHERE WHAT IT READS IS OF BULK AT MOST 1048576: true; the input reads as it did. -/
def fnExactEnterRoomUptoRow : OpenClaim := { program := "ytcnmpghenfbflaa", sum := "d790a08df4fba6280476d23b520e2dac4fc62905644b8b18c4baa2b0d9963ebe", func := "loop.example/conferencehall/laws.FnExactEnterRoom", spec := "fnExactEnterRoom", apart := false, narrowed := true }
def FnExactEnterRoomUptoSaid : Prop := fnExactEnterRoomUptoRow.holds Try.pinned (OpenSpec.upto fnExactEnterRoomSpec)

/-- 'laws.FnAdmitNext', WHERE WHAT IT READS IS OF BULK AT MOST 1048576: true; the input reads as it did. -/
def fnAdmitNextUptoRow : OpenClaim := { program := "ytcnmpghenfbflaa", sum := "d790a08df4fba6280476d23b520e2dac4fc62905644b8b18c4baa2b0d9963ebe", func := "loop.example/conferencehall/laws.FnAdmitNext", spec := "fnAdmitNext", apart := false, narrowed := true }
def FnAdmitNextUptoSaid : Prop := fnAdmitNextUptoRow.holds Try.pinned (OpenSpec.upto fnAdmitNextSpec)

/-- 'laws.FnExactAdmitNext', WHERE WHAT IT READS IS OF BULK AT MOST 1048576: true; the input reads as it did. -/
def fnExactAdmitNextUptoRow : OpenClaim := { program := "ytcnmpghenfbflaa", sum := "d790a08df4fba6280476d23b520e2dac4fc62905644b8b18c4baa2b0d9963ebe", func := "loop.example/conferencehall/laws.FnExactAdmitNext", spec := "fnExactAdmitNext", apart := false, narrowed := true }
def FnExactAdmitNextUptoSaid : Prop := fnExactAdmitNextUptoRow.holds Try.pinned (OpenSpec.upto fnExactAdmitNextSpec)

/-- 'laws.FnLockRoom', WHERE WHAT IT READS IS OF BULK AT MOST 1048576: true; the input reads as it did. -/
def fnLockRoomUptoRow : OpenClaim := { program := "ytcnmpghenfbflaa", sum := "d790a08df4fba6280476d23b520e2dac4fc62905644b8b18c4baa2b0d9963ebe", func := "loop.example/conferencehall/laws.FnLockRoom", spec := "fnLockRoom", apart := false, narrowed := true }
def FnLockRoomUptoSaid : Prop := fnLockRoomUptoRow.holds Try.pinned (OpenSpec.upto fnLockRoomSpec)

/-- 'laws.FnExactLockRoom', WHERE WHAT IT READS IS OF BULK AT MOST 1048576: true; the input reads as it did. -/
def fnExactLockRoomUptoRow : OpenClaim := { program := "ytcnmpghenfbflaa", sum := "d790a08df4fba6280476d23b520e2dac4fc62905644b8b18c4baa2b0d9963ebe", func := "loop.example/conferencehall/laws.FnExactLockRoom", spec := "fnExactLockRoom", apart := false, narrowed := true }
def FnExactLockRoomUptoSaid : Prop := fnExactLockRoomUptoRow.holds Try.pinned (OpenSpec.upto fnExactLockRoomSpec)

end Rows
end Go.Proofs.Ytcnmpghenfbflaa
