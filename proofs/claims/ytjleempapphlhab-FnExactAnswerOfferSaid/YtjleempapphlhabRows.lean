/-
  No cell of these rows narrows 'for every input' (looked for: loops, veiled, ifaces, maps, wideKeys, modest, calm, conditions, laid).
  DERIVED. THE GIVEN ROWS OF THIS SEAT. 6 by the template 'for every input the law returns true; each argument reads behind the call as it read before'; 0 by the template 'total and deterministic' (their statements: YtjleempapphlhabTotals.lean).
  GIVEN WITH THE SEED: the statements are not yours to turn. If you find one false, say at which input.
  Laid BY PROGRAM, IN A SANDBOX (cutbox-rows.mjs): the forced cells as the released guide's own fill.sh prints them over the translation d95d8bbbb32ed886… (all of the seat's roots in one cut). By AI agents, Wed Nov 11 2026. No macro, syntax, notation, axiom, sorry.
-/
import Derived.Test.YtjleempapphlhabChecked
import GoSem.Claim
import GoSem.ClaimJoined
import GoSem.ClaimMapViews
import Derived.JoinedTies
import Derived.KernelRfl
namespace Go.Proofs.Ytjleempapphlhab
/- THE CELL 'sum', in the pinned program and in every row, IS THE sha256 OF THE DUMP (.gsa) THAT YtjleempapphlhabProg.lean LOADS. Nothing in Lean hashes anything: it is a label: what it is worth is what the hold of that sum in a sandbox is worth. -/
noncomputable def Try.pinned : Pinned := { name := "ytjleempapphlhab", sum := "d95d8bbbb32ed886e28193a657e9f020061e3fe616f92f4993d0215c63b0f9e3", checked := Try.checked }
namespace Rows
def none {H : Type} : Left H := { results := [], args := [] }

/-- 'laws.FnAnswerMedia': WHATEVER THE INPUT: true; the input reads as it did. -/
def fnAnswerMediaSpec : ChangeSpec := { name := "fnAnswerMedia", fn := fun _ => fun
  | [d] => { results := [.lit (.bool true)], args := [d] }
  | _ => none }
def fnAnswerMediaRow : OpenClaim := { program := "ytjleempapphlhab", sum := "d95d8bbbb32ed886e28193a657e9f020061e3fe616f92f4993d0215c63b0f9e3", func := "loop.example/conferencehall/laws.FnAnswerMedia", spec := "fnAnswerMedia", apart := false }
def FnAnswerMediaSaid : Prop := fnAnswerMediaRow.holds Try.pinned (OpenSpec.ofChange fnAnswerMediaSpec)

/-- ITS FALSE NEIGHBOUR: 'it returns false'. Refute it at one input. -/
def fnAnswerMediaWrong : ChangeSpec := { name := "fnAnswerMedia", fn := fun _ => fun
  | [d] => { results := [.lit (.bool false)], args := [d] }
  | _ => none }
def FnAnswerMediaWrongFalsely : Prop := fnAnswerMediaRow.holds Try.pinned (OpenSpec.ofChange fnAnswerMediaWrong)

/-- 'laws.FnExactAnswerMedia': WHATEVER THE INPUT: true; the input reads as it did. -/
def fnExactAnswerMediaSpec : ChangeSpec := { name := "fnExactAnswerMedia", fn := fun _ => fun
  | [d1, d2] => { results := [.lit (.bool true)], args := [d1, d2] }
  | _ => none }
def fnExactAnswerMediaRow : OpenClaim := { program := "ytjleempapphlhab", sum := "d95d8bbbb32ed886e28193a657e9f020061e3fe616f92f4993d0215c63b0f9e3", func := "loop.example/conferencehall/laws.FnExactAnswerMedia", spec := "fnExactAnswerMedia", apart := false }
def FnExactAnswerMediaSaid : Prop := fnExactAnswerMediaRow.holds Try.pinned (OpenSpec.ofChange fnExactAnswerMediaSpec)

/-- ITS FALSE NEIGHBOUR: 'it returns false'. Refute it at one input. -/
def fnExactAnswerMediaWrong : ChangeSpec := { name := "fnExactAnswerMedia", fn := fun _ => fun
  | [d1, d2] => { results := [.lit (.bool false)], args := [d1, d2] }
  | _ => none }
def FnExactAnswerMediaWrongFalsely : Prop := fnExactAnswerMediaRow.holds Try.pinned (OpenSpec.ofChange fnExactAnswerMediaWrong)

/-- 'laws.FnAnswerOffer': WHATEVER THE INPUT: true; the input reads as it did. -/
def fnAnswerOfferSpec : ChangeSpec := { name := "fnAnswerOffer", fn := fun _ => fun
  | [d] => { results := [.lit (.bool true)], args := [d] }
  | _ => none }
def fnAnswerOfferRow : OpenClaim := { program := "ytjleempapphlhab", sum := "d95d8bbbb32ed886e28193a657e9f020061e3fe616f92f4993d0215c63b0f9e3", func := "loop.example/conferencehall/laws.FnAnswerOffer", spec := "fnAnswerOffer", apart := false }
def FnAnswerOfferSaid : Prop := fnAnswerOfferRow.holds Try.pinned (OpenSpec.ofChange fnAnswerOfferSpec)

/-- ITS FALSE NEIGHBOUR: 'it returns false'. Refute it at one input. -/
def fnAnswerOfferWrong : ChangeSpec := { name := "fnAnswerOffer", fn := fun _ => fun
  | [d] => { results := [.lit (.bool false)], args := [d] }
  | _ => none }
def FnAnswerOfferWrongFalsely : Prop := fnAnswerOfferRow.holds Try.pinned (OpenSpec.ofChange fnAnswerOfferWrong)

/-- 'laws.FnExactAnswerOffer': WHATEVER THE INPUT: true; the input reads as it did. -/
def fnExactAnswerOfferSpec : ChangeSpec := { name := "fnExactAnswerOffer", fn := fun _ => fun
  | [d1, d2] => { results := [.lit (.bool true)], args := [d1, d2] }
  | _ => none }
def fnExactAnswerOfferRow : OpenClaim := { program := "ytjleempapphlhab", sum := "d95d8bbbb32ed886e28193a657e9f020061e3fe616f92f4993d0215c63b0f9e3", func := "loop.example/conferencehall/laws.FnExactAnswerOffer", spec := "fnExactAnswerOffer", apart := false }
def FnExactAnswerOfferSaid : Prop := fnExactAnswerOfferRow.holds Try.pinned (OpenSpec.ofChange fnExactAnswerOfferSpec)

/-- ITS FALSE NEIGHBOUR: 'it returns false'. Refute it at one input. -/
def fnExactAnswerOfferWrong : ChangeSpec := { name := "fnExactAnswerOffer", fn := fun _ => fun
  | [d1, d2] => { results := [.lit (.bool false)], args := [d1, d2] }
  | _ => none }
def FnExactAnswerOfferWrongFalsely : Prop := fnExactAnswerOfferRow.holds Try.pinned (OpenSpec.ofChange fnExactAnswerOfferWrong)

/-- 'laws.FnAnswerFits': WHATEVER THE INPUT: true; the input reads as it did. -/
def fnAnswerFitsSpec : ChangeSpec := { name := "fnAnswerFits", fn := fun _ => fun
  | [d] => { results := [.lit (.bool true)], args := [d] }
  | _ => none }
def fnAnswerFitsRow : OpenClaim := { program := "ytjleempapphlhab", sum := "d95d8bbbb32ed886e28193a657e9f020061e3fe616f92f4993d0215c63b0f9e3", func := "loop.example/conferencehall/laws.FnAnswerFits", spec := "fnAnswerFits", apart := false }
def FnAnswerFitsSaid : Prop := fnAnswerFitsRow.holds Try.pinned (OpenSpec.ofChange fnAnswerFitsSpec)

/-- ITS FALSE NEIGHBOUR: 'it returns false'. Refute it at one input. -/
def fnAnswerFitsWrong : ChangeSpec := { name := "fnAnswerFits", fn := fun _ => fun
  | [d] => { results := [.lit (.bool false)], args := [d] }
  | _ => none }
def FnAnswerFitsWrongFalsely : Prop := fnAnswerFitsRow.holds Try.pinned (OpenSpec.ofChange fnAnswerFitsWrong)

/-- 'laws.FnExactAnswerFits': WHATEVER THE INPUT: true; the input reads as it did. -/
def fnExactAnswerFitsSpec : ChangeSpec := { name := "fnExactAnswerFits", fn := fun _ => fun
  | [d1, d2] => { results := [.lit (.bool true)], args := [d1, d2] }
  | _ => none }
def fnExactAnswerFitsRow : OpenClaim := { program := "ytjleempapphlhab", sum := "d95d8bbbb32ed886e28193a657e9f020061e3fe616f92f4993d0215c63b0f9e3", func := "loop.example/conferencehall/laws.FnExactAnswerFits", spec := "fnExactAnswerFits", apart := false }
def FnExactAnswerFitsSaid : Prop := fnExactAnswerFitsRow.holds Try.pinned (OpenSpec.ofChange fnExactAnswerFitsSpec)

/-- ITS FALSE NEIGHBOUR: 'it returns false'. Refute it at one input. -/
def fnExactAnswerFitsWrong : ChangeSpec := { name := "fnExactAnswerFits", fn := fun _ => fun
  | [d1, d2] => { results := [.lit (.bool false)], args := [d1, d2] }
  | _ => none }
def FnExactAnswerFitsWrongFalsely : Prop := fnExactAnswerFitsRow.holds Try.pinned (OpenSpec.ofChange fnExactAnswerFitsWrong)

/- THE SECOND FORM. 'bulk': how many values and letters a reading holds, each counted each time it is reached (what is shared counts as often as it is met; a slice's spare places count too). A statement '..UptoSaid' is the law's where the arguments, and the package variables that the reading takes, are together of bulk at most 1048576: NARROWER than '..Said'. Prove '..Said' where nothing that the law and all that it calls make is longer than what came in: it says more and counts as full. Else prove '..UptoSaid'. A law counts once. -/
mutual
def uptoBulk {H : Type} : DataW H → Nat
  | .lit (.string bytes) => bytes.length + 1
  | .lit _ => 1
  | .nil => 1
  | .ptr d => uptoBulk d + 1
  | .slice elems spare => uptoBulkAll elems + uptoBulkAll spare + 1
  | .agg parts => uptoBulkAll parts + 1
  | .iface _ d => uptoBulk d + 1
  | .map entries => uptoBulkEntries entries + 1
  | .held _ => 1
def uptoBulkAll {H : Type} : List (DataW H) → Nat
  | [] => 0
  | d :: r => uptoBulk d + uptoBulkAll r
def uptoBulkEntries {H : Type} : List (Lit × DataW H) → Nat
  | [] => 0
  | x :: r => uptoBulkEntry x + uptoBulkEntries r
def uptoBulkEntry {H : Type} : Lit × DataW H → Nat
  | (.string bytes, d) => bytes.length + uptoBulk d + 1
  | (_, d) => uptoBulk d + 1
 end
def uptoSmall : (H : Type) → List (DataW H) → Bool := fun _ ds => decide (uptoBulkAll ds ≤ 1048576)
def OpenSpec.upto (s : _root_.Go.ChangeSpec) : _root_.Go.OpenSpec := { _root_.Go.OpenSpec.ofChange s with cond := some uptoSmall }

/-- 'laws.FnAnswerMedia', WHERE WHAT IT READS IS OF BULK AT MOST 1048576: true; the input reads as it did. -/
def fnAnswerMediaUptoRow : OpenClaim := { program := "ytjleempapphlhab", sum := "d95d8bbbb32ed886e28193a657e9f020061e3fe616f92f4993d0215c63b0f9e3", func := "loop.example/conferencehall/laws.FnAnswerMedia", spec := "fnAnswerMedia", apart := false, narrowed := true }
def FnAnswerMediaUptoSaid : Prop := fnAnswerMediaUptoRow.holds Try.pinned (OpenSpec.upto fnAnswerMediaSpec)

/-- 'laws.FnExactAnswerMedia', WHERE WHAT IT READS IS OF BULK AT MOST 1048576: true; the input reads as it did. -/
def fnExactAnswerMediaUptoRow : OpenClaim := { program := "ytjleempapphlhab", sum := "d95d8bbbb32ed886e28193a657e9f020061e3fe616f92f4993d0215c63b0f9e3", func := "loop.example/conferencehall/laws.FnExactAnswerMedia", spec := "fnExactAnswerMedia", apart := false, narrowed := true }
def FnExactAnswerMediaUptoSaid : Prop := fnExactAnswerMediaUptoRow.holds Try.pinned (OpenSpec.upto fnExactAnswerMediaSpec)

/-- 'laws.FnAnswerOffer', WHERE WHAT IT READS IS OF BULK AT MOST 1048576: true; the input reads as it did. -/
def fnAnswerOfferUptoRow : OpenClaim := { program := "ytjleempapphlhab", sum := "d95d8bbbb32ed886e28193a657e9f020061e3fe616f92f4993d0215c63b0f9e3", func := "loop.example/conferencehall/laws.FnAnswerOffer", spec := "fnAnswerOffer", apart := false, narrowed := true }
def FnAnswerOfferUptoSaid : Prop := fnAnswerOfferUptoRow.holds Try.pinned (OpenSpec.upto fnAnswerOfferSpec)

/-- 'laws.FnExactAnswerOffer', WHERE WHAT IT READS IS OF BULK AT MOST 1048576: true; the input reads as it did. -/
def fnExactAnswerOfferUptoRow : OpenClaim := { program := "ytjleempapphlhab", sum := "d95d8bbbb32ed886e28193a657e9f020061e3fe616f92f4993d0215c63b0f9e3", func := "loop.example/conferencehall/laws.FnExactAnswerOffer", spec := "fnExactAnswerOffer", apart := false, narrowed := true }
def FnExactAnswerOfferUptoSaid : Prop := fnExactAnswerOfferUptoRow.holds Try.pinned (OpenSpec.upto fnExactAnswerOfferSpec)

/-- 'laws.FnAnswerFits', WHERE WHAT IT READS IS OF BULK AT MOST 1048576: true; the input reads as it did. -/
def fnAnswerFitsUptoRow : OpenClaim := { program := "ytjleempapphlhab", sum := "d95d8bbbb32ed886e28193a657e9f020061e3fe616f92f4993d0215c63b0f9e3", func := "loop.example/conferencehall/laws.FnAnswerFits", spec := "fnAnswerFits", apart := false, narrowed := true }
def FnAnswerFitsUptoSaid : Prop := fnAnswerFitsUptoRow.holds Try.pinned (OpenSpec.upto fnAnswerFitsSpec)

/-- 'laws.FnExactAnswerFits', WHERE WHAT IT READS IS OF BULK AT MOST 1048576: true; the input reads as it did. -/
def fnExactAnswerFitsUptoRow : OpenClaim := { program := "ytjleempapphlhab", sum := "d95d8bbbb32ed886e28193a657e9f020061e3fe616f92f4993d0215c63b0f9e3", func := "loop.example/conferencehall/laws.FnExactAnswerFits", spec := "fnExactAnswerFits", apart := false, narrowed := true }
def FnExactAnswerFitsUptoSaid : Prop := fnExactAnswerFitsUptoRow.holds Try.pinned (OpenSpec.upto fnExactAnswerFitsSpec)

end Rows
end Go.Proofs.Ytjleempapphlhab
