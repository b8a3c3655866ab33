/-
  No cell of these rows narrows 'for every input' (looked for: loops, veiled, ifaces, maps, wideKeys, modest, calm, conditions, laid).
  DERIVED. THE GIVEN ROWS OF THIS SEAT. 8 by the template 'for every input the law returns true; each argument reads behind the call as it read before'; 0 by the template 'total and deterministic' (their statements: YtnilekbmffjhfaaTotals.lean).
  GIVEN WITH THE SEED: the statements are not yours to turn. If you find one false, say at which input.
  Laid BY PROGRAM, IN A SANDBOX (cutbox-rows.mjs): the forced cells as the released guide's own fill.sh prints them over the translation d1a591850144f101… (all of the seat's roots in one cut). By AI agents, Wed Nov 11 2026. No macro, syntax, notation, axiom, sorry.
-/
import Derived.Test.YtnilekbmffjhfaaChecked
import GoSem.Claim
import GoSem.ClaimJoined
import GoSem.ClaimMapViews
import Derived.JoinedTies
import Derived.KernelRfl
namespace Go.Proofs.Ytnilekbmffjhfaa
/- THE CELL 'sum', in the pinned program and in every row, IS THE sha256 OF THE DUMP (.gsa) THAT YtnilekbmffjhfaaProg.lean LOADS. Nothing in Lean hashes anything: it is a label: what it is worth is what the hold of that sum in a sandbox is worth. -/
noncomputable def Try.pinned : Pinned := { name := "ytnilekbmffjhfaa", sum := "d1a591850144f1017d74a38d37fae8a3e5e9cf6fe092b5a8e8b514eade0203da", checked := Try.checked }
namespace Rows
def none {H : Type} : Left H := { results := [], args := [] }

/-- 'laws.FnRosterValid': WHATEVER THE INPUT: true; the input reads as it did. -/
def fnRosterValidSpec : ChangeSpec := { name := "fnRosterValid", fn := fun _ => fun
  | [d] => { results := [.lit (.bool true)], args := [d] }
  | _ => none }
def fnRosterValidRow : OpenClaim := { program := "ytnilekbmffjhfaa", sum := "d1a591850144f1017d74a38d37fae8a3e5e9cf6fe092b5a8e8b514eade0203da", func := "loop.example/conferencehall/laws.FnRosterValid", spec := "fnRosterValid", apart := false }
def FnRosterValidSaid : Prop := fnRosterValidRow.holds Try.pinned (OpenSpec.ofChange fnRosterValidSpec)

/-- ITS FALSE NEIGHBOUR: 'it returns false'. Refute it at one input. -/
def fnRosterValidWrong : ChangeSpec := { name := "fnRosterValid", fn := fun _ => fun
  | [d] => { results := [.lit (.bool false)], args := [d] }
  | _ => none }
def FnRosterValidWrongFalsely : Prop := fnRosterValidRow.holds Try.pinned (OpenSpec.ofChange fnRosterValidWrong)

/-- 'laws.FnExactRosterValid': WHATEVER THE INPUT: true; the input reads as it did. -/
def fnExactRosterValidSpec : ChangeSpec := { name := "fnExactRosterValid", fn := fun _ => fun
  | [d] => { results := [.lit (.bool true)], args := [d] }
  | _ => none }
def fnExactRosterValidRow : OpenClaim := { program := "ytnilekbmffjhfaa", sum := "d1a591850144f1017d74a38d37fae8a3e5e9cf6fe092b5a8e8b514eade0203da", func := "loop.example/conferencehall/laws.FnExactRosterValid", spec := "fnExactRosterValid", apart := false }
def FnExactRosterValidSaid : Prop := fnExactRosterValidRow.holds Try.pinned (OpenSpec.ofChange fnExactRosterValidSpec)

/-- ITS FALSE NEIGHBOUR: 'it returns false'. Refute it at one input. -/
def fnExactRosterValidWrong : ChangeSpec := { name := "fnExactRosterValid", fn := fun _ => fun
  | [d] => { results := [.lit (.bool false)], args := [d] }
  | _ => none }
def FnExactRosterValidWrongFalsely : Prop := fnExactRosterValidRow.holds Try.pinned (OpenSpec.ofChange fnExactRosterValidWrong)

/-- 'laws.FnPersonAt': WHATEVER THE INPUT: true; the input reads as it did. -/
def fnPersonAtSpec : ChangeSpec := { name := "fnPersonAt", fn := fun _ => fun
  | [d] => { results := [.lit (.bool true)], args := [d] }
  | _ => none }
def fnPersonAtRow : OpenClaim := { program := "ytnilekbmffjhfaa", sum := "d1a591850144f1017d74a38d37fae8a3e5e9cf6fe092b5a8e8b514eade0203da", func := "loop.example/conferencehall/laws.FnPersonAt", spec := "fnPersonAt", apart := false }
def FnPersonAtSaid : Prop := fnPersonAtRow.holds Try.pinned (OpenSpec.ofChange fnPersonAtSpec)

/-- ITS FALSE NEIGHBOUR: 'it returns false'. Refute it at one input. -/
def fnPersonAtWrong : ChangeSpec := { name := "fnPersonAt", fn := fun _ => fun
  | [d] => { results := [.lit (.bool false)], args := [d] }
  | _ => none }
def FnPersonAtWrongFalsely : Prop := fnPersonAtRow.holds Try.pinned (OpenSpec.ofChange fnPersonAtWrong)

/-- 'laws.FnExactPersonAt': WHATEVER THE INPUT: true; the input reads as it did. -/
def fnExactPersonAtSpec : ChangeSpec := { name := "fnExactPersonAt", fn := fun _ => fun
  | [d1, d2] => { results := [.lit (.bool true)], args := [d1, d2] }
  | _ => none }
def fnExactPersonAtRow : OpenClaim := { program := "ytnilekbmffjhfaa", sum := "d1a591850144f1017d74a38d37fae8a3e5e9cf6fe092b5a8e8b514eade0203da", func := "loop.example/conferencehall/laws.FnExactPersonAt", spec := "fnExactPersonAt", apart := false }
def FnExactPersonAtSaid : Prop := fnExactPersonAtRow.holds Try.pinned (OpenSpec.ofChange fnExactPersonAtSpec)

/-- ITS FALSE NEIGHBOUR: 'it returns false'. Refute it at one input. -/
def fnExactPersonAtWrong : ChangeSpec := { name := "fnExactPersonAt", fn := fun _ => fun
  | [d1, d2] => { results := [.lit (.bool false)], args := [d1, d2] }
  | _ => none }
def FnExactPersonAtWrongFalsely : Prop := fnExactPersonAtRow.holds Try.pinned (OpenSpec.ofChange fnExactPersonAtWrong)

/-- 'laws.FnJoinRoster': WHATEVER THE INPUT: true; the input reads as it did. -/
def fnJoinRosterSpec : ChangeSpec := { name := "fnJoinRoster", fn := fun _ => fun
  | [d] => { results := [.lit (.bool true)], args := [d] }
  | _ => none }
def fnJoinRosterRow : OpenClaim := { program := "ytnilekbmffjhfaa", sum := "d1a591850144f1017d74a38d37fae8a3e5e9cf6fe092b5a8e8b514eade0203da", func := "loop.example/conferencehall/laws.FnJoinRoster", spec := "fnJoinRoster", apart := false }
def FnJoinRosterSaid : Prop := fnJoinRosterRow.holds Try.pinned (OpenSpec.ofChange fnJoinRosterSpec)

/-- ITS FALSE NEIGHBOUR: 'it returns false'. Refute it at one input. -/
def fnJoinRosterWrong : ChangeSpec := { name := "fnJoinRoster", fn := fun _ => fun
  | [d] => { results := [.lit (.bool false)], args := [d] }
  | _ => none }
def FnJoinRosterWrongFalsely : Prop := fnJoinRosterRow.holds Try.pinned (OpenSpec.ofChange fnJoinRosterWrong)

/-- 'laws.FnExactJoinRoster': WHATEVER THE INPUT: true; the input reads as it did. -/
def fnExactJoinRosterSpec : ChangeSpec := { name := "fnExactJoinRoster", fn := fun _ => fun
  | [d1, d2] => { results := [.lit (.bool true)], args := [d1, d2] }
  | _ => none }
def fnExactJoinRosterRow : OpenClaim := { program := "ytnilekbmffjhfaa", sum := "d1a591850144f1017d74a38d37fae8a3e5e9cf6fe092b5a8e8b514eade0203da", func := "loop.example/conferencehall/laws.FnExactJoinRoster", spec := "fnExactJoinRoster", apart := false }
def FnExactJoinRosterSaid : Prop := fnExactJoinRosterRow.holds Try.pinned (OpenSpec.ofChange fnExactJoinRosterSpec)

/-- ITS FALSE NEIGHBOUR: 'it returns false'. Refute it at one input. -/
def fnExactJoinRosterWrong : ChangeSpec := { name := "fnExactJoinRoster", fn := fun _ => fun
  | [d1, d2] => { results := [.lit (.bool false)], args := [d1, d2] }
  | _ => none }
def FnExactJoinRosterWrongFalsely : Prop := fnExactJoinRosterRow.holds Try.pinned (OpenSpec.ofChange fnExactJoinRosterWrong)

/-- 'laws.FnLeaveRoster': WHATEVER THE INPUT: true; the input reads as it did. -/
def fnLeaveRosterSpec : ChangeSpec := { name := "fnLeaveRoster", fn := fun _ => fun
  | [d] => { results := [.lit (.bool true)], args := [d] }
  | _ => none }
def fnLeaveRosterRow : OpenClaim := { program := "ytnilekbmffjhfaa", sum := "d1a591850144f1017d74a38d37fae8a3e5e9cf6fe092b5a8e8b514eade0203da", func := "loop.example/conferencehall/laws.FnLeaveRoster", spec := "fnLeaveRoster", apart := false }
def FnLeaveRosterSaid : Prop := fnLeaveRosterRow.holds Try.pinned (OpenSpec.ofChange fnLeaveRosterSpec)

/-- ITS FALSE NEIGHBOUR: 'it returns false'. Refute it at one input. -/
def fnLeaveRosterWrong : ChangeSpec := { name := "fnLeaveRoster", fn := fun _ => fun
  | [d] => { results := [.lit (.bool false)], args := [d] }
  | _ => none }
def FnLeaveRosterWrongFalsely : Prop := fnLeaveRosterRow.holds Try.pinned (OpenSpec.ofChange fnLeaveRosterWrong)

/-- 'laws.FnExactLeaveRoster': WHATEVER THE INPUT: true; the input reads as it did. -/
def fnExactLeaveRosterSpec : ChangeSpec := { name := "fnExactLeaveRoster", fn := fun _ => fun
  | [d1, d2] => { results := [.lit (.bool true)], args := [d1, d2] }
  | _ => none }
def fnExactLeaveRosterRow : OpenClaim := { program := "ytnilekbmffjhfaa", sum := "d1a591850144f1017d74a38d37fae8a3e5e9cf6fe092b5a8e8b514eade0203da", func := "loop.example/conferencehall/laws.FnExactLeaveRoster", spec := "fnExactLeaveRoster", apart := false }
def FnExactLeaveRosterSaid : Prop := fnExactLeaveRosterRow.holds Try.pinned (OpenSpec.ofChange fnExactLeaveRosterSpec)

/-- ITS FALSE NEIGHBOUR: 'it returns false'. Refute it at one input. -/
def fnExactLeaveRosterWrong : ChangeSpec := { name := "fnExactLeaveRoster", fn := fun _ => fun
  | [d1, d2] => { results := [.lit (.bool false)], args := [d1, d2] }
  | _ => none }
def FnExactLeaveRosterWrongFalsely : Prop := fnExactLeaveRosterRow.holds Try.pinned (OpenSpec.ofChange fnExactLeaveRosterWrong)

/- THE SECOND FORM. 'bulk': how many values and letters a reading holds, each counted each time it is reached (what is shared counts as often as it is met; a slice's spare places count too). A statement '..UptoSaid' is the law's where the arguments, and the package variables that the reading takes, are together of bulk at most 1048576: NARROWER than '..Said'. Prove '..Said' where nothing that the law and all that it calls make is longer than what came in: it says more and counts as full. Else prove '..UptoSaid'. A law counts once. -/
mutual
def uptoBulk {H : Type} : DataW H → Nat
  | .lit (.string bytes) => bytes.length + 1
  | .lit _ => 1
  | .nil => 1
  | .ptr d => uptoBulk d + 1
  | .slice elems spare => uptoBulkAll elems + uptoBulkAll spare + 1
  | .agg parts => uptoBulkAll parts + 1
  | .iface _ d => uptoBulk d + 1
  | .map entries => uptoBulkEntries entries + 1
  | .held _ => 1
def uptoBulkAll {H : Type} : List (DataW H) → Nat
  | [] => 0
  | d :: r => uptoBulk d + uptoBulkAll r
def uptoBulkEntries {H : Type} : List (Lit × DataW H) → Nat
  | [] => 0
  | x :: r => uptoBulkEntry x + uptoBulkEntries r
def uptoBulkEntry {H : Type} : Lit × DataW H → Nat
  | (.string bytes, d) => bytes.length + uptoBulk d + 1
  | (_, d) => uptoBulk d + 1
 end
def uptoSmall : (H : Type) → List (DataW H) → Bool := fun _ ds => decide (uptoBulkAll ds ≤ 1048576)
def OpenSpec.upto (s : _root_.Go.ChangeSpec) : _root_.Go.OpenSpec := { _root_.Go.OpenSpec.ofChange s with cond := some uptoSmall }

/-- 'laws.FnRosterValid', WHERE WHAT IT READS IS OF BULK AT MOST 1048576: true; the input reads as it did. -/
def fnRosterValidUptoRow : OpenClaim := { program := "ytnilekbmffjhfaa", sum := "d1a591850144f1017d74a38d37fae8a3e5e9cf6fe092b5a8e8b514eade0203da", func := "loop.example/conferencehall/laws.FnRosterValid", spec := "fnRosterValid", apart := false, narrowed := true }
def FnRosterValidUptoSaid : Prop := fnRosterValidUptoRow.holds Try.pinned (OpenSpec.upto fnRosterValidSpec)

/-- 'laws.FnExactRosterValid', WHERE WHAT IT READS IS OF BULK AT MOST 1048576: true; the input reads as it did. -/
def fnExactRosterValidUptoRow : OpenClaim := { program := "ytnilekbmffjhfaa", sum := "d1a591850144f1017d74a38d37fae8a3e5e9cf6fe092b5a8e8b514eade0203da", func := "loop.example/conferencehall/laws.FnExactRosterValid", spec := "fnExactRosterValid", apart := false, narrowed := true }
def FnExactRosterValidUptoSaid : Prop := fnExactRosterValidUptoRow.holds Try.pinned (OpenSpec.upto fnExactRosterValidSpec)

/-- 'laws.FnPersonAt', WHERE WHAT IT READS IS OF BULK AT MOST 1048576: true; the input reads as it did. -/
def fnPersonAtUptoRow : OpenClaim := { program := "ytnilekbmffjhfaa", sum := "d1a591850144f1017d74a38d37fae8a3e5e9cf6fe092b5a8e8b514eade0203da", func := "loop.example/conferencehall/laws.FnPersonAt", spec := "fnPersonAt", apart := false, narrowed := true }
def FnPersonAtUptoSaid : Prop := fnPersonAtUptoRow.holds Try.pinned (OpenSpec.upto fnPersonAtSpec)

/-- 'laws.FnExactPersonAt', WHERE WHAT IT READS IS OF BULK AT MOST 1048576: true; the input reads as it did. -/
def fnExactPersonAtUptoRow : OpenClaim := { program := "ytnilekbmffjhfaa", sum := "d1a591850144f1017d74a38d37fae8a3e5e9cf6fe092b5a8e8b514eade0203da", func := "loop.example/conferencehall/laws.FnExactPersonAt", spec := "fnExactPersonAt", apart := false, narrowed := true }
def FnExactPersonAtUptoSaid : Prop := fnExactPersonAtUptoRow.holds Try.pinned (OpenSpec.upto fnExactPersonAtSpec)

/-- 'laws.FnJoinRoster', WHERE WHAT IT READS IS OF BULK AT MOST 1048576: true; the input reads as it did. -/
def fnJoinRosterUptoRow : OpenClaim := { program := "ytnilekbmffjhfaa", sum := "d1a591850144f1017d74a38d37fae8a3e5e9cf6fe092b5a8e8b514eade0203da", func := "loop.example/conferencehall/laws.FnJoinRoster", spec := "fnJoinRoster", apart := false, narrowed := true }
def FnJoinRosterUptoSaid : Prop := fnJoinRosterUptoRow.holds Try.pinned (OpenSpec.upto fnJoinRosterSpec)

/-- 'laws.FnExactJoinRoster', WHERE WHAT IT READS IS OF BULK AT MOST 1048576: true; the input reads as it did. -/
def fnExactJoinRosterUptoRow : OpenClaim := { program := "ytnilekbmffjhfaa", sum := "d1a591850144f1017d74a38d37fae8a3e5e9cf6fe092b5a8e8b514eade0203da", func := "loop.example/conferencehall/laws.FnExactJoinRoster", spec := "fnExactJoinRoster", apart := false, narrowed := true }
def FnExactJoinRosterUptoSaid : Prop := fnExactJoinRosterUptoRow.holds Try.pinned (OpenSpec.upto fnExactJoinRosterSpec)

/-- 'laws.FnLeaveRoster', WHERE WHAT IT READS IS OF BULK AT MOST 1048576: true; the input reads as it did. -/
def fnLeaveRosterUptoRow : OpenClaim := { program := "ytnilekbmffjhfaa", sum := "d1a591850144f1017d74a38d37fae8a3e5e9cf6fe092b5a8e8b514eade0203da", func := "loop.example/conferencehall/laws.FnLeaveRoster", spec := "fnLeaveRoster", apart := false, narrowed := true }
def FnLeaveRosterUptoSaid : Prop := fnLeaveRosterUptoRow.holds Try.pinned (OpenSpec.upto fnLeaveRosterSpec)

/-- 'laws.FnExactLeaveRoster', WHERE WHAT IT READS IS OF BULK AT MOST 1048576: true; the input reads as it did. -/
def fnExactLeaveRosterUptoRow : OpenClaim := { program := "ytnilekbmffjhfaa", sum := "d1a591850144f1017d74a38d37fae8a3e5e9cf6fe092b5a8e8b514eade0203da", func := "loop.example/conferencehall/laws.FnExactLeaveRoster", spec := "fnExactLeaveRoster", apart := false, narrowed := true }
def FnExactLeaveRosterUptoSaid : Prop := fnExactLeaveRosterUptoRow.holds Try.pinned (OpenSpec.upto fnExactLeaveRosterSpec)

end Rows
end Go.Proofs.Ytnilekbmffjhfaa
