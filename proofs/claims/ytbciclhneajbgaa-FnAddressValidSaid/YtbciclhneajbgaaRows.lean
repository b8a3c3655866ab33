/-
  No cell of these rows narrows 'for every input' (looked for: loops, veiled, ifaces, maps, wideKeys, modest, calm, conditions, laid).
  DERIVED. THE GIVEN ROWS OF THIS SEAT. 6 by the template 'for every input the law returns true; each argument reads behind the call as it read before'; 0 by the template 'total and deterministic' (their statements: YtbciclhneajbgaaTotals.lean).
  GIVEN WITH THE SEED: the statements are not yours to turn. If you find one false, say at which input.
  Laid BY PROGRAM, IN A SANDBOX (cutbox-rows.mjs): the forced cells as the released guide's own fill.sh prints them over the translation 8abdb004b7b3539a… (all of the seat's roots in one cut). By AI agents, Wed Nov 11 2026. No macro, syntax, notation, axiom, sorry.
-/
import Derived.Test.YtbciclhneajbgaaChecked
import GoSem.Claim
import GoSem.ClaimJoined
import GoSem.ClaimMapViews
import Derived.JoinedTies
import Derived.KernelRfl
namespace Go.Proofs.Ytbciclhneajbgaa
/- THE CELL 'sum', in the pinned program and in every row, IS THE sha256 OF THE DUMP (.gsa) THAT YtbciclhneajbgaaProg.lean LOADS. Nothing in Lean hashes anything: it is a label: what it is worth is what the hold of that sum in a sandbox is worth. -/
noncomputable def Try.pinned : Pinned := { name := "ytbciclhneajbgaa", sum := "8abdb004b7b3539af38cc85eb534f4811db63162334442aa7fbe4b9a72feab37", checked := Try.checked }
namespace Rows
def none {H : Type} : Left H := { results := [], args := [] }

/-- 'laws.FnAddressValid': WHATEVER THE INPUT: true; the input reads as it did. -/
def fnAddressValidSpec : ChangeSpec := { name := "fnAddressValid", fn := fun _ => fun
  | [d] => { results := [.lit (.bool true)], args := [d] }
  | _ => none }
def fnAddressValidRow : OpenClaim := { program := "ytbciclhneajbgaa", sum := "8abdb004b7b3539af38cc85eb534f4811db63162334442aa7fbe4b9a72feab37", func := "loop.example/conferencehall/laws.FnAddressValid", spec := "fnAddressValid", apart := false }
def FnAddressValidSaid : Prop := fnAddressValidRow.holds Try.pinned (OpenSpec.ofChange fnAddressValidSpec)

/-- ITS FALSE NEIGHBOUR: 'it returns false'. Refute it at one input. -/
def fnAddressValidWrong : ChangeSpec := { name := "fnAddressValid", fn := fun _ => fun
  | [d] => { results := [.lit (.bool false)], args := [d] }
  | _ => none }
def FnAddressValidWrongFalsely : Prop := fnAddressValidRow.holds Try.pinned (OpenSpec.ofChange fnAddressValidWrong)

/-- 'laws.FnAddressText': WHATEVER THE INPUT: true; the input reads as it did. -/
def fnAddressTextSpec : ChangeSpec := { name := "fnAddressText", fn := fun _ => fun
  | [d] => { results := [.lit (.bool true)], args := [d] }
  | _ => none }
def fnAddressTextRow : OpenClaim := { program := "ytbciclhneajbgaa", sum := "8abdb004b7b3539af38cc85eb534f4811db63162334442aa7fbe4b9a72feab37", func := "loop.example/conferencehall/laws.FnAddressText", spec := "fnAddressText", apart := false }
def FnAddressTextSaid : Prop := fnAddressTextRow.holds Try.pinned (OpenSpec.ofChange fnAddressTextSpec)

/-- ITS FALSE NEIGHBOUR: 'it returns false'. Refute it at one input. -/
def fnAddressTextWrong : ChangeSpec := { name := "fnAddressText", fn := fun _ => fun
  | [d] => { results := [.lit (.bool false)], args := [d] }
  | _ => none }
def FnAddressTextWrongFalsely : Prop := fnAddressTextRow.holds Try.pinned (OpenSpec.ofChange fnAddressTextWrong)

/-- 'laws.FnReadAddress': WHATEVER THE INPUT: true; the input reads as it did. -/
def fnReadAddressSpec : ChangeSpec := { name := "fnReadAddress", fn := fun _ => fun
  | [d] => { results := [.lit (.bool true)], args := [d] }
  | _ => none }
def fnReadAddressRow : OpenClaim := { program := "ytbciclhneajbgaa", sum := "8abdb004b7b3539af38cc85eb534f4811db63162334442aa7fbe4b9a72feab37", func := "loop.example/conferencehall/laws.FnReadAddress", spec := "fnReadAddress", apart := false }
def FnReadAddressSaid : Prop := fnReadAddressRow.holds Try.pinned (OpenSpec.ofChange fnReadAddressSpec)

/-- ITS FALSE NEIGHBOUR: 'it returns false'. Refute it at one input. -/
def fnReadAddressWrong : ChangeSpec := { name := "fnReadAddress", fn := fun _ => fun
  | [d] => { results := [.lit (.bool false)], args := [d] }
  | _ => none }
def FnReadAddressWrongFalsely : Prop := fnReadAddressRow.holds Try.pinned (OpenSpec.ofChange fnReadAddressWrong)

/-- 'laws.FnExactAddressValid': WHATEVER THE INPUT: true; the input reads as it did. -/
def fnExactAddressValidSpec : ChangeSpec := { name := "fnExactAddressValid", fn := fun _ => fun
  | [d] => { results := [.lit (.bool true)], args := [d] }
  | _ => none }
def fnExactAddressValidRow : OpenClaim := { program := "ytbciclhneajbgaa", sum := "8abdb004b7b3539af38cc85eb534f4811db63162334442aa7fbe4b9a72feab37", func := "loop.example/conferencehall/laws.FnExactAddressValid", spec := "fnExactAddressValid", apart := false }
def FnExactAddressValidSaid : Prop := fnExactAddressValidRow.holds Try.pinned (OpenSpec.ofChange fnExactAddressValidSpec)

/-- ITS FALSE NEIGHBOUR: 'it returns false'. Refute it at one input. -/
def fnExactAddressValidWrong : ChangeSpec := { name := "fnExactAddressValid", fn := fun _ => fun
  | [d] => { results := [.lit (.bool false)], args := [d] }
  | _ => none }
def FnExactAddressValidWrongFalsely : Prop := fnExactAddressValidRow.holds Try.pinned (OpenSpec.ofChange fnExactAddressValidWrong)

/-- 'laws.FnExactAddressText': WHATEVER THE INPUT: true; the input reads as it did. -/
def fnExactAddressTextSpec : ChangeSpec := { name := "fnExactAddressText", fn := fun _ => fun
  | [d] => { results := [.lit (.bool true)], args := [d] }
  | _ => none }
def fnExactAddressTextRow : OpenClaim := { program := "ytbciclhneajbgaa", sum := "8abdb004b7b3539af38cc85eb534f4811db63162334442aa7fbe4b9a72feab37", func := "loop.example/conferencehall/laws.FnExactAddressText", spec := "fnExactAddressText", apart := false }
def FnExactAddressTextSaid : Prop := fnExactAddressTextRow.holds Try.pinned (OpenSpec.ofChange fnExactAddressTextSpec)

/-- ITS FALSE NEIGHBOUR: 'it returns false'. Refute it at one input. -/
def fnExactAddressTextWrong : ChangeSpec := { name := "fnExactAddressText", fn := fun _ => fun
  | [d] => { results := [.lit (.bool false)], args := [d] }
  | _ => none }
def FnExactAddressTextWrongFalsely : Prop := fnExactAddressTextRow.holds Try.pinned (OpenSpec.ofChange fnExactAddressTextWrong)

/-- 'laws.FnExactReadAddress': WHATEVER THE INPUT: true; the input reads as it did. -/
def fnExactReadAddressSpec : ChangeSpec := { name := "fnExactReadAddress", fn := fun _ => fun
  | [d] => { results := [.lit (.bool true)], args := [d] }
  | _ => none }
def fnExactReadAddressRow : OpenClaim := { program := "ytbciclhneajbgaa", sum := "8abdb004b7b3539af38cc85eb534f4811db63162334442aa7fbe4b9a72feab37", func := "loop.example/conferencehall/laws.FnExactReadAddress", spec := "fnExactReadAddress", apart := false }
def FnExactReadAddressSaid : Prop := fnExactReadAddressRow.holds Try.pinned (OpenSpec.ofChange fnExactReadAddressSpec)

/-- ITS FALSE NEIGHBOUR: 'it returns false'. Refute it at one input. -/
def fnExactReadAddressWrong : ChangeSpec := { name := "fnExactReadAddress", fn := fun _ => fun
  | [d] => { results := [.lit (.bool false)], args := [d] }
  | _ => none }
def FnExactReadAddressWrongFalsely : Prop := fnExactReadAddressRow.holds Try.pinned (OpenSpec.ofChange fnExactReadAddressWrong)

/- THE SECOND FORM. 'bulk': how many values and letters a reading holds, each counted each time it is reached (what is shared counts as often as it is met; a slice's spare places count too). A statement '..UptoSaid' is the law's where the arguments, and the package variables that the reading takes, are together of bulk at most 1048576: NARROWER than '..Said'. Prove '..Said' where nothing that the law and all that it calls make is longer than what came in: it says more and counts as full. Else prove '..UptoSaid'. A law counts once. -/
mutual
def uptoBulk {H : Type} : DataW H → Nat
  | .lit (.string bytes) => bytes.length + 1
  | .lit _ => 1
  | .nil => 1
  | .ptr d => uptoBulk d + 1
  | .slice elems spare => uptoBulkAll elems + uptoBulkAll spare + 1
  | .agg parts => uptoBulkAll parts + 1
  | .iface _ d => uptoBulk d + 1
  | .map entries => uptoBulkEntries entries + 1
  | .held _ => 1
def uptoBulkAll {H : Type} : List (DataW H) → Nat
  | [] => 0
  | d :: r => uptoBulk d + uptoBulkAll r
def uptoBulkEntries {H : Type} : List (Lit × DataW H) → Nat
  | [] => 0
  | x :: r => uptoBulkEntry x + uptoBulkEntries r
def uptoBulkEntry {H : Type} : Lit × DataW H → Nat
  | (.string bytes, d) => bytes.length + uptoBulk d + 1
  | (_, d) => uptoBulk d + 1
 end
def uptoSmall : (H : Type) → List (DataW H) → Bool := fun _ ds => decide (uptoBulkAll ds ≤ 1048576)
def OpenSpec.upto (s : _root_.Go.ChangeSpec) : _root_.Go.OpenSpec := { _root_.Go.OpenSpec.ofChange s with cond := some uptoSmall }

/-- 'laws.FnAddressValid', WHERE WHAT IT READS IS OF BULK AT MOST 1048576: true; the input reads as it did. -/
def fnAddressValidUptoRow : OpenClaim := { program := "ytbciclhneajbgaa", sum := "8abdb004b7b3539af38cc85eb534f4811db63162334442aa7fbe4b9a72feab37", func := "loop.example/conferencehall/laws.FnAddressValid", spec := "fnAddressValid", apart := false, narrowed := true }
def FnAddressValidUptoSaid : Prop := fnAddressValidUptoRow.holds Try.pinned (OpenSpec.upto fnAddressValidSpec)

/-- 'laws.FnAddressText', WHERE WHAT IT READS IS OF BULK AT MOST 1048576: true; the input reads as it did. -/
def fnAddressTextUptoRow : OpenClaim := { program := "ytbciclhneajbgaa", sum := "8abdb004b7b3539af38cc85eb534f4811db63162334442aa7fbe4b9a72feab37", func := "loop.example/conferencehall/laws.FnAddressText", spec := "fnAddressText", apart := false, narrowed := true }
def FnAddressTextUptoSaid : Prop := fnAddressTextUptoRow.holds Try.pinned (OpenSpec.upto fnAddressTextSpec)

/-- 'laws.FnReadAddress', WHERE WHAT IT READS IS OF BULK AT MOST 1048576: true; the input reads as it did. -/
def fnReadAddressUptoRow : OpenClaim := { program := "ytbciclhneajbgaa", sum := "8abdb004b7b3539af38cc85eb534f4811db63162334442aa7fbe4b9a72feab37", func := "loop.example/conferencehall/laws.FnReadAddress", spec := "fnReadAddress", apart := false, narrowed := true }
def FnReadAddressUptoSaid : Prop := fnReadAddressUptoRow.holds Try.pinned (OpenSpec.upto fnReadAddressSpec)

/-- 'laws.FnExactAddressValid', WHERE WHAT IT READS IS OF BULK AT MOST 1048576: true; the input reads as it did. -/
def fnExactAddressValidUptoRow : OpenClaim := { program := "ytbciclhneajbgaa", sum := "8abdb004b7b3539af38cc85eb534f4811db63162334442aa7fbe4b9a72feab37", func := "loop.example/conferencehall/laws.FnExactAddressValid", spec := "fnExactAddressValid", apart := false, narrowed := true }
def FnExactAddressValidUptoSaid : Prop := fnExactAddressValidUptoRow.holds Try.pinned (OpenSpec.upto fnExactAddressValidSpec)

/-- 'laws.FnExactAddressText', WHERE WHAT IT READS IS OF BULK AT MOST 1048576: true; the input reads as it did. -/
def fnExactAddressTextUptoRow : OpenClaim := { program := "ytbciclhneajbgaa", sum := "8abdb004b7b3539af38cc85eb534f4811db63162334442aa7fbe4b9a72feab37", func := "loop.example/conferencehall/laws.FnExactAddressText", spec := "fnExactAddressText", apart := false, narrowed := true }
def FnExactAddressTextUptoSaid : Prop := fnExactAddressTextUptoRow.holds Try.pinned (OpenSpec.upto fnExactAddressTextSpec)

/-- 'laws.FnExactReadAddress', WHERE WHAT IT READS IS OF BULK AT MOST 1048576: true; the input reads as it did. -/
def fnExactReadAddressUptoRow : OpenClaim := { program := "ytbciclhneajbgaa", sum := "8abdb004b7b3539af38cc85eb534f4811db63162334442aa7fbe4b9a72feab37", func := "loop.example/conferencehall/laws.FnExactReadAddress", spec := "fnExactReadAddress", apart := false, narrowed := true }
def FnExactReadAddressUptoSaid : Prop := fnExactReadAddressUptoRow.holds Try.pinned (OpenSpec.upto fnExactReadAddressSpec)

end Rows
end Go.Proofs.Ytbciclhneajbgaa
