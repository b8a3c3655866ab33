/-
  No cell of these rows narrows 'for every input' (looked for: loops, veiled, ifaces, maps, wideKeys, modest, calm, conditions, laid).
  DERIVED. THE GIVEN ROWS OF THIS SEAT. 8 by the template 'for every input the law returns true; each argument reads behind the call as it read before'; 0 by the template 'total and deterministic' (their statements: YtjleempapphlhaaTotals.lean).
  GIVEN WITH THE SEED: the statements are not yours to turn. If you find one false, say at which input.
  Laid BY PROGRAM, IN A SANDBOX (cutbox-rows.mjs): the forced cells as the released guide's own fill.sh prints them over the translation 0b50bd61a7d39ebb… (all of the seat's roots in one cut). By AI agents, Wed Nov 11 2026. No macro, syntax, notation, axiom, sorry.
-/
import Derived.Test.YtjleempapphlhaaChecked
import GoSem.Claim
import GoSem.ClaimJoined
import GoSem.ClaimMapViews
import Derived.JoinedTies
import Derived.KernelRfl
namespace Go.Proofs.Ytjleempapphlhaa
/- THE CELL 'sum', in the pinned program and in every row, IS THE sha256 OF THE DUMP (.gsa) THAT YtjleempapphlhaaProg.lean LOADS. Nothing in Lean hashes anything: it is a label: what it is worth is what the hold of that sum in a sandbox is worth. -/
noncomputable def Try.pinned : Pinned := { name := "ytjleempapphlhaa", sum := "0b50bd61a7d39ebb1f216b15187a357d19ba0c2b13389d2e180e3a0fb6830d8d", checked := Try.checked }
namespace Rows
def none {H : Type} : Left H := { results := [], args := [] }

/-- 'laws.FnMediaValid': WHATEVER THE INPUT: true; the input reads as it did. -/
def fnMediaValidSpec : ChangeSpec := { name := "fnMediaValid", fn := fun _ => fun
  | [d] => { results := [.lit (.bool true)], args := [d] }
  | _ => none }
def fnMediaValidRow : OpenClaim := { program := "ytjleempapphlhaa", sum := "0b50bd61a7d39ebb1f216b15187a357d19ba0c2b13389d2e180e3a0fb6830d8d", func := "loop.example/conferencehall/laws.FnMediaValid", spec := "fnMediaValid", apart := false }
def FnMediaValidSaid : Prop := fnMediaValidRow.holds Try.pinned (OpenSpec.ofChange fnMediaValidSpec)

/-- ITS FALSE NEIGHBOUR: 'it returns false'. Refute it at one input. -/
def fnMediaValidWrong : ChangeSpec := { name := "fnMediaValid", fn := fun _ => fun
  | [d] => { results := [.lit (.bool false)], args := [d] }
  | _ => none }
def FnMediaValidWrongFalsely : Prop := fnMediaValidRow.holds Try.pinned (OpenSpec.ofChange fnMediaValidWrong)

/-- 'laws.FnExactMediaValid': WHATEVER THE INPUT: true; the input reads as it did. -/
def fnExactMediaValidSpec : ChangeSpec := { name := "fnExactMediaValid", fn := fun _ => fun
  | [d] => { results := [.lit (.bool true)], args := [d] }
  | _ => none }
def fnExactMediaValidRow : OpenClaim := { program := "ytjleempapphlhaa", sum := "0b50bd61a7d39ebb1f216b15187a357d19ba0c2b13389d2e180e3a0fb6830d8d", func := "loop.example/conferencehall/laws.FnExactMediaValid", spec := "fnExactMediaValid", apart := false }
def FnExactMediaValidSaid : Prop := fnExactMediaValidRow.holds Try.pinned (OpenSpec.ofChange fnExactMediaValidSpec)

/-- ITS FALSE NEIGHBOUR: 'it returns false'. Refute it at one input. -/
def fnExactMediaValidWrong : ChangeSpec := { name := "fnExactMediaValid", fn := fun _ => fun
  | [d] => { results := [.lit (.bool false)], args := [d] }
  | _ => none }
def FnExactMediaValidWrongFalsely : Prop := fnExactMediaValidRow.holds Try.pinned (OpenSpec.ofChange fnExactMediaValidWrong)

/-- 'laws.FnOfferValid': WHATEVER THE INPUT: true; the input reads as it did. -/
def fnOfferValidSpec : ChangeSpec := { name := "fnOfferValid", fn := fun _ => fun
  | [d] => { results := [.lit (.bool true)], args := [d] }
  | _ => none }
def fnOfferValidRow : OpenClaim := { program := "ytjleempapphlhaa", sum := "0b50bd61a7d39ebb1f216b15187a357d19ba0c2b13389d2e180e3a0fb6830d8d", func := "loop.example/conferencehall/laws.FnOfferValid", spec := "fnOfferValid", apart := false }
def FnOfferValidSaid : Prop := fnOfferValidRow.holds Try.pinned (OpenSpec.ofChange fnOfferValidSpec)

/-- ITS FALSE NEIGHBOUR: 'it returns false'. Refute it at one input. -/
def fnOfferValidWrong : ChangeSpec := { name := "fnOfferValid", fn := fun _ => fun
  | [d] => { results := [.lit (.bool false)], args := [d] }
  | _ => none }
def FnOfferValidWrongFalsely : Prop := fnOfferValidRow.holds Try.pinned (OpenSpec.ofChange fnOfferValidWrong)

/-- 'laws.FnExactOfferValid': WHATEVER THE INPUT: true; the input reads as it did. -/
def fnExactOfferValidSpec : ChangeSpec := { name := "fnExactOfferValid", fn := fun _ => fun
  | [d] => { results := [.lit (.bool true)], args := [d] }
  | _ => none }
def fnExactOfferValidRow : OpenClaim := { program := "ytjleempapphlhaa", sum := "0b50bd61a7d39ebb1f216b15187a357d19ba0c2b13389d2e180e3a0fb6830d8d", func := "loop.example/conferencehall/laws.FnExactOfferValid", spec := "fnExactOfferValid", apart := false }
def FnExactOfferValidSaid : Prop := fnExactOfferValidRow.holds Try.pinned (OpenSpec.ofChange fnExactOfferValidSpec)

/-- ITS FALSE NEIGHBOUR: 'it returns false'. Refute it at one input. -/
def fnExactOfferValidWrong : ChangeSpec := { name := "fnExactOfferValid", fn := fun _ => fun
  | [d] => { results := [.lit (.bool false)], args := [d] }
  | _ => none }
def FnExactOfferValidWrongFalsely : Prop := fnExactOfferValidRow.holds Try.pinned (OpenSpec.ofChange fnExactOfferValidWrong)

/-- 'laws.FnOfferLines': WHATEVER THE INPUT: true; the input reads as it did. -/
def fnOfferLinesSpec : ChangeSpec := { name := "fnOfferLines", fn := fun _ => fun
  | [d] => { results := [.lit (.bool true)], args := [d] }
  | _ => none }
def fnOfferLinesRow : OpenClaim := { program := "ytjleempapphlhaa", sum := "0b50bd61a7d39ebb1f216b15187a357d19ba0c2b13389d2e180e3a0fb6830d8d", func := "loop.example/conferencehall/laws.FnOfferLines", spec := "fnOfferLines", apart := false }
def FnOfferLinesSaid : Prop := fnOfferLinesRow.holds Try.pinned (OpenSpec.ofChange fnOfferLinesSpec)

/-- ITS FALSE NEIGHBOUR: 'it returns false'. Refute it at one input. -/
def fnOfferLinesWrong : ChangeSpec := { name := "fnOfferLines", fn := fun _ => fun
  | [d] => { results := [.lit (.bool false)], args := [d] }
  | _ => none }
def FnOfferLinesWrongFalsely : Prop := fnOfferLinesRow.holds Try.pinned (OpenSpec.ofChange fnOfferLinesWrong)

/-- 'laws.FnExactOfferLines': WHATEVER THE INPUT: true; the input reads as it did. -/
def fnExactOfferLinesSpec : ChangeSpec := { name := "fnExactOfferLines", fn := fun _ => fun
  | [d] => { results := [.lit (.bool true)], args := [d] }
  | _ => none }
def fnExactOfferLinesRow : OpenClaim := { program := "ytjleempapphlhaa", sum := "0b50bd61a7d39ebb1f216b15187a357d19ba0c2b13389d2e180e3a0fb6830d8d", func := "loop.example/conferencehall/laws.FnExactOfferLines", spec := "fnExactOfferLines", apart := false }
def FnExactOfferLinesSaid : Prop := fnExactOfferLinesRow.holds Try.pinned (OpenSpec.ofChange fnExactOfferLinesSpec)

/-- ITS FALSE NEIGHBOUR: 'it returns false'. Refute it at one input. -/
def fnExactOfferLinesWrong : ChangeSpec := { name := "fnExactOfferLines", fn := fun _ => fun
  | [d] => { results := [.lit (.bool false)], args := [d] }
  | _ => none }
def FnExactOfferLinesWrongFalsely : Prop := fnExactOfferLinesRow.holds Try.pinned (OpenSpec.ofChange fnExactOfferLinesWrong)

/-- 'laws.FnReadOffer': WHATEVER THE INPUT: true; the input reads as it did. -/
def fnReadOfferSpec : ChangeSpec := { name := "fnReadOffer", fn := fun _ => fun
  | [d] => { results := [.lit (.bool true)], args := [d] }
  | _ => none }
def fnReadOfferRow : OpenClaim := { program := "ytjleempapphlhaa", sum := "0b50bd61a7d39ebb1f216b15187a357d19ba0c2b13389d2e180e3a0fb6830d8d", func := "loop.example/conferencehall/laws.FnReadOffer", spec := "fnReadOffer", apart := false }
def FnReadOfferSaid : Prop := fnReadOfferRow.holds Try.pinned (OpenSpec.ofChange fnReadOfferSpec)

/-- ITS FALSE NEIGHBOUR: 'it returns false'. Refute it at one input. -/
def fnReadOfferWrong : ChangeSpec := { name := "fnReadOffer", fn := fun _ => fun
  | [d] => { results := [.lit (.bool false)], args := [d] }
  | _ => none }
def FnReadOfferWrongFalsely : Prop := fnReadOfferRow.holds Try.pinned (OpenSpec.ofChange fnReadOfferWrong)

/-- 'laws.FnExactReadOffer': WHATEVER THE INPUT: true; the input reads as it did. -/
def fnExactReadOfferSpec : ChangeSpec := { name := "fnExactReadOffer", fn := fun _ => fun
  | [d] => { results := [.lit (.bool true)], args := [d] }
  | _ => none }
def fnExactReadOfferRow : OpenClaim := { program := "ytjleempapphlhaa", sum := "0b50bd61a7d39ebb1f216b15187a357d19ba0c2b13389d2e180e3a0fb6830d8d", func := "loop.example/conferencehall/laws.FnExactReadOffer", spec := "fnExactReadOffer", apart := false }
def FnExactReadOfferSaid : Prop := fnExactReadOfferRow.holds Try.pinned (OpenSpec.ofChange fnExactReadOfferSpec)

/-- ITS FALSE NEIGHBOUR: 'it returns false'. Refute it at one input. -/
def fnExactReadOfferWrong : ChangeSpec := { name := "fnExactReadOffer", fn := fun _ => fun
  | [d] => { results := [.lit (.bool false)], args := [d] }
  | _ => none }
def FnExactReadOfferWrongFalsely : Prop := fnExactReadOfferRow.holds Try.pinned (OpenSpec.ofChange fnExactReadOfferWrong)

/- THE SECOND FORM. 'bulk': how many values and letters a reading holds, each counted each time it is reached (what is shared counts as often as it is met; a slice's spare places count too). A statement '..UptoSaid' is the law's where the arguments, and the package variables that the reading takes, are together of bulk at most 1048576: NARROWER than '..Said'. Prove '..Said' where nothing that the law and all that it calls make is longer than what came in: it says more and counts as full. Else prove '..UptoSaid'. A law counts once. -/
mutual
def uptoBulk {H : Type} : DataW H → Nat
  | .lit (.string bytes) => bytes.length + 1
  | .lit _ => 1
  | .nil => 1
  | .ptr d => uptoBulk d + 1
  | .slice elems spare => uptoBulkAll elems + uptoBulkAll spare + 1
  | .agg parts => uptoBulkAll parts + 1
  | .iface _ d => uptoBulk d + 1
  | .map entries => uptoBulkEntries entries + 1
  | .held _ => 1
def uptoBulkAll {H : Type} : List (DataW H) → Nat
  | [] => 0
  | d :: r => uptoBulk d + uptoBulkAll r
def uptoBulkEntries {H : Type} : List (Lit × DataW H) → Nat
  | [] => 0
  | x :: r => uptoBulkEntry x + uptoBulkEntries r
def uptoBulkEntry {H : Type} : Lit × DataW H → Nat
  | (.string bytes, d) => bytes.length + uptoBulk d + 1
  | (_, d) => uptoBulk d + 1
 end
def uptoSmall : (H : Type) → List (DataW H) → Bool := fun _ ds => decide (uptoBulkAll ds ≤ 1048576)
def OpenSpec.upto (s : _root_.Go.ChangeSpec) : _root_.Go.OpenSpec := { _root_.Go.OpenSpec.ofChange s with cond := some uptoSmall }

/-- 'laws.FnMediaValid', WHERE WHAT IT READS IS OF BULK AT MOST 1048576: true; the input reads as it did. -/
def fnMediaValidUptoRow : OpenClaim := { program := "ytjleempapphlhaa", sum := "0b50bd61a7d39ebb1f216b15187a357d19ba0c2b13389d2e180e3a0fb6830d8d", func := "loop.example/conferencehall/laws.FnMediaValid", spec := "fnMediaValid", apart := false, narrowed := true }
def FnMediaValidUptoSaid : Prop := fnMediaValidUptoRow.holds Try.pinned (OpenSpec.upto fnMediaValidSpec)

/-- 'laws.FnExactMediaValid', WHERE WHAT IT READS IS OF BULK AT MOST 1048576: true; the input reads as it did. -/
def fnExactMediaValidUptoRow : OpenClaim := { program := "ytjleempapphlhaa", sum := "0b50bd61a7d39ebb1f216b15187a357d19ba0c2b13389d2e180e3a0fb6830d8d", func := "loop.example/conferencehall/laws.FnExactMediaValid", spec := "fnExactMediaValid", apart := false, narrowed := true }
def FnExactMediaValidUptoSaid : Prop := fnExactMediaValidUptoRow.holds Try.pinned (OpenSpec.upto fnExactMediaValidSpec)

/-- 'laws.FnOfferValid', WHERE WHAT IT READS IS OF BULK AT MOST 1048576: true; the input reads as it did. -/
def fnOfferValidUptoRow : OpenClaim := { program := "ytjleempapphlhaa", sum := "0b50bd61a7d39ebb1f216b15187a357d19ba0c2b13389d2e180e3a0fb6830d8d", func := "loop.example/conferencehall/laws.FnOfferValid", spec := "fnOfferValid", apart := false, narrowed := true }
def FnOfferValidUptoSaid : Prop := fnOfferValidUptoRow.holds Try.pinned (OpenSpec.upto fnOfferValidSpec)

/-- 'laws.FnExactOfferValid', WHERE WHAT IT READS IS OF BULK AT MOST 1048576: true; the input reads as it did. -/
def fnExactOfferValidUptoRow : OpenClaim := { program := "ytjleempapphlhaa", sum := "0b50bd61a7d39ebb1f216b15187a357d19ba0c2b13389d2e180e3a0fb6830d8d", func := "loop.example/conferencehall/laws.FnExactOfferValid", spec := "fnExactOfferValid", apart := false, narrowed := true }
def FnExactOfferValidUptoSaid : Prop := fnExactOfferValidUptoRow.holds Try.pinned (OpenSpec.upto fnExactOfferValidSpec)

/-- 'laws.FnOfferLines', WHERE WHAT IT READS IS OF BULK AT MOST 1048576: true; the input reads as it did. -/
def fnOfferLinesUptoRow : OpenClaim := { program := "ytjleempapphlhaa", sum := "0b50bd61a7d39ebb1f216b15187a357d19ba0c2b13389d2e180e3a0fb6830d8d", func := "loop.example/conferencehall/laws.FnOfferLines", spec := "fnOfferLines", apart := false, narrowed := true }
def FnOfferLinesUptoSaid : Prop := fnOfferLinesUptoRow.holds Try.pinned (OpenSpec.upto fnOfferLinesSpec)

/-- 'laws.FnExactOfferLines', WHERE WHAT IT READS IS OF BULK AT MOST 1048576: true; the input reads as it did. -/
def fnExactOfferLinesUptoRow : OpenClaim := { program := "ytjleempapphlhaa", sum := "0b50bd61a7d39ebb1f216b15187a357d19ba0c2b13389d2e180e3a0fb6830d8d", func := "loop.example/conferencehall/laws.FnExactOfferLines", spec := "fnExactOfferLines", apart := false, narrowed := true }
def FnExactOfferLinesUptoSaid : Prop := fnExactOfferLinesUptoRow.holds Try.pinned (OpenSpec.upto fnExactOfferLinesSpec)

/-- 'laws.FnReadOffer', WHERE WHAT IT READS IS OF BULK AT MOST 1048576: true; the input reads as it did. -/
def fnReadOfferUptoRow : OpenClaim := { program := "ytjleempapphlhaa", sum := "0b50bd61a7d39ebb1f216b15187a357d19ba0c2b13389d2e180e3a0fb6830d8d", func := "loop.example/conferencehall/laws.FnReadOffer", spec := "fnReadOffer", apart := false, narrowed := true }
def FnReadOfferUptoSaid : Prop := fnReadOfferUptoRow.holds Try.pinned (OpenSpec.upto fnReadOfferSpec)

/-- 'laws.FnExactReadOffer', WHERE WHAT IT READS IS OF BULK AT MOST 1048576: true; the input reads as it did. -/
def fnExactReadOfferUptoRow : OpenClaim := { program := "ytjleempapphlhaa", sum := "0b50bd61a7d39ebb1f216b15187a357d19ba0c2b13389d2e180e3a0fb6830d8d", func := "loop.example/conferencehall/laws.FnExactReadOffer", spec := "fnExactReadOffer", apart := false, narrowed := true }
def FnExactReadOfferUptoSaid : Prop := fnExactReadOfferUptoRow.holds Try.pinned (OpenSpec.upto fnExactReadOfferSpec)

end Rows
end Go.Proofs.Ytjleempapphlhaa
