/-
  No cell of these rows narrows 'for every input' (looked for: loops, veiled, ifaces, maps, wideKeys, modest, calm, conditions, laid).
  DERIVED. THE GIVEN ROWS OF THIS SEAT. 8 by the template 'for every input the law returns true; each argument reads behind the call as it read before'; 0 by the template 'total and deterministic' (their statements: YtjebhnbajblfpaaTotals.lean).
  GIVEN WITH THE SEED: the statements are not yours to turn. If you find one false, say at which input.
  Laid BY PROGRAM, IN A SANDBOX (cutbox-rows.mjs): the forced cells as the released guide's own fill.sh prints them over the translation 3a076fc5510af9b5… (all of the seat's roots in one cut). By AI agents, Wed Nov 11 2026. No macro, syntax, notation, axiom, sorry.
-/
import Derived.Test.YtjebhnbajblfpaaChecked
import GoSem.Claim
import GoSem.ClaimJoined
import GoSem.ClaimMapViews
import Derived.JoinedTies
import Derived.KernelRfl
namespace Go.Proofs.Ytjebhnbajblfpaa
/- THE CELL 'sum', in the pinned program and in every row, IS THE sha256 OF THE DUMP (.gsa) THAT YtjebhnbajblfpaaProg.lean LOADS. Nothing in Lean hashes anything: it is a label: what it is worth is what the hold of that sum in a sandbox is worth. -/
noncomputable def Try.pinned : Pinned := { name := "ytjebhnbajblfpaa", sum := "3a076fc5510af9b56acf253e039ec665e0f1bce777c3f94e28ff18f640150f68", checked := Try.checked }
namespace Rows
def none {H : Type} : Left H := { results := [], args := [] }

/-- 'laws.FnWordValid': WHATEVER THE INPUT: true; the input reads as it did. -/
def fnWordValidSpec : ChangeSpec := { name := "fnWordValid", fn := fun _ => fun
  | [d] => { results := [.lit (.bool true)], args := [d] }
  | _ => none }
def fnWordValidRow : OpenClaim := { program := "ytjebhnbajblfpaa", sum := "3a076fc5510af9b56acf253e039ec665e0f1bce777c3f94e28ff18f640150f68", func := "loop.example/conferencehall/laws.FnWordValid", spec := "fnWordValid", apart := false }
def FnWordValidSaid : Prop := fnWordValidRow.holds Try.pinned (OpenSpec.ofChange fnWordValidSpec)

/-- ITS FALSE NEIGHBOUR: 'it returns false'. Refute it at one input. -/
def fnWordValidWrong : ChangeSpec := { name := "fnWordValid", fn := fun _ => fun
  | [d] => { results := [.lit (.bool false)], args := [d] }
  | _ => none }
def FnWordValidWrongFalsely : Prop := fnWordValidRow.holds Try.pinned (OpenSpec.ofChange fnWordValidWrong)

/-- 'laws.FnLineValid': WHATEVER THE INPUT: true; the input reads as it did. -/
def fnLineValidSpec : ChangeSpec := { name := "fnLineValid", fn := fun _ => fun
  | [d] => { results := [.lit (.bool true)], args := [d] }
  | _ => none }
def fnLineValidRow : OpenClaim := { program := "ytjebhnbajblfpaa", sum := "3a076fc5510af9b56acf253e039ec665e0f1bce777c3f94e28ff18f640150f68", func := "loop.example/conferencehall/laws.FnLineValid", spec := "fnLineValid", apart := false }
def FnLineValidSaid : Prop := fnLineValidRow.holds Try.pinned (OpenSpec.ofChange fnLineValidSpec)

/-- ITS FALSE NEIGHBOUR: 'it returns false'. Refute it at one input. -/
def fnLineValidWrong : ChangeSpec := { name := "fnLineValid", fn := fun _ => fun
  | [d] => { results := [.lit (.bool false)], args := [d] }
  | _ => none }
def FnLineValidWrongFalsely : Prop := fnLineValidRow.holds Try.pinned (OpenSpec.ofChange fnLineValidWrong)

/-- 'laws.FnNumberText': WHATEVER THE INPUT: true; the input reads as it did. -/
def fnNumberTextSpec : ChangeSpec := { name := "fnNumberText", fn := fun _ => fun
  | [d] => { results := [.lit (.bool true)], args := [d] }
  | _ => none }
def fnNumberTextRow : OpenClaim := { program := "ytjebhnbajblfpaa", sum := "3a076fc5510af9b56acf253e039ec665e0f1bce777c3f94e28ff18f640150f68", func := "loop.example/conferencehall/laws.FnNumberText", spec := "fnNumberText", apart := false }
def FnNumberTextSaid : Prop := fnNumberTextRow.holds Try.pinned (OpenSpec.ofChange fnNumberTextSpec)

/-- ITS FALSE NEIGHBOUR: 'it returns false'. Refute it at one input. -/
def fnNumberTextWrong : ChangeSpec := { name := "fnNumberText", fn := fun _ => fun
  | [d] => { results := [.lit (.bool false)], args := [d] }
  | _ => none }
def FnNumberTextWrongFalsely : Prop := fnNumberTextRow.holds Try.pinned (OpenSpec.ofChange fnNumberTextWrong)

/-- 'laws.FnReadNumber': WHATEVER THE INPUT: true; the input reads as it did. -/
def fnReadNumberSpec : ChangeSpec := { name := "fnReadNumber", fn := fun _ => fun
  | [d] => { results := [.lit (.bool true)], args := [d] }
  | _ => none }
def fnReadNumberRow : OpenClaim := { program := "ytjebhnbajblfpaa", sum := "3a076fc5510af9b56acf253e039ec665e0f1bce777c3f94e28ff18f640150f68", func := "loop.example/conferencehall/laws.FnReadNumber", spec := "fnReadNumber", apart := false }
def FnReadNumberSaid : Prop := fnReadNumberRow.holds Try.pinned (OpenSpec.ofChange fnReadNumberSpec)

/-- ITS FALSE NEIGHBOUR: 'it returns false'. Refute it at one input. -/
def fnReadNumberWrong : ChangeSpec := { name := "fnReadNumber", fn := fun _ => fun
  | [d] => { results := [.lit (.bool false)], args := [d] }
  | _ => none }
def FnReadNumberWrongFalsely : Prop := fnReadNumberRow.holds Try.pinned (OpenSpec.ofChange fnReadNumberWrong)

/-- 'laws.FnExactWordValid': WHATEVER THE INPUT: true; the input reads as it did. -/
def fnExactWordValidSpec : ChangeSpec := { name := "fnExactWordValid", fn := fun _ => fun
  | [d] => { results := [.lit (.bool true)], args := [d] }
  | _ => none }
def fnExactWordValidRow : OpenClaim := { program := "ytjebhnbajblfpaa", sum := "3a076fc5510af9b56acf253e039ec665e0f1bce777c3f94e28ff18f640150f68", func := "loop.example/conferencehall/laws.FnExactWordValid", spec := "fnExactWordValid", apart := false }
def FnExactWordValidSaid : Prop := fnExactWordValidRow.holds Try.pinned (OpenSpec.ofChange fnExactWordValidSpec)

/-- ITS FALSE NEIGHBOUR: 'it returns false'. Refute it at one input. -/
def fnExactWordValidWrong : ChangeSpec := { name := "fnExactWordValid", fn := fun _ => fun
  | [d] => { results := [.lit (.bool false)], args := [d] }
  | _ => none }
def FnExactWordValidWrongFalsely : Prop := fnExactWordValidRow.holds Try.pinned (OpenSpec.ofChange fnExactWordValidWrong)

/-- 'laws.FnExactLineValid': WHATEVER THE INPUT: true; the input reads as it did. -/
def fnExactLineValidSpec : ChangeSpec := { name := "fnExactLineValid", fn := fun _ => fun
  | [d] => { results := [.lit (.bool true)], args := [d] }
  | _ => none }
def fnExactLineValidRow : OpenClaim := { program := "ytjebhnbajblfpaa", sum := "3a076fc5510af9b56acf253e039ec665e0f1bce777c3f94e28ff18f640150f68", func := "loop.example/conferencehall/laws.FnExactLineValid", spec := "fnExactLineValid", apart := false }
def FnExactLineValidSaid : Prop := fnExactLineValidRow.holds Try.pinned (OpenSpec.ofChange fnExactLineValidSpec)

/-- ITS FALSE NEIGHBOUR: 'it returns false'. Refute it at one input. -/
def fnExactLineValidWrong : ChangeSpec := { name := "fnExactLineValid", fn := fun _ => fun
  | [d] => { results := [.lit (.bool false)], args := [d] }
  | _ => none }
def FnExactLineValidWrongFalsely : Prop := fnExactLineValidRow.holds Try.pinned (OpenSpec.ofChange fnExactLineValidWrong)

/-- 'laws.FnExactNumberText': WHATEVER THE INPUT: true; the input reads as it did. -/
def fnExactNumberTextSpec : ChangeSpec := { name := "fnExactNumberText", fn := fun _ => fun
  | [d] => { results := [.lit (.bool true)], args := [d] }
  | _ => none }
def fnExactNumberTextRow : OpenClaim := { program := "ytjebhnbajblfpaa", sum := "3a076fc5510af9b56acf253e039ec665e0f1bce777c3f94e28ff18f640150f68", func := "loop.example/conferencehall/laws.FnExactNumberText", spec := "fnExactNumberText", apart := false }
def FnExactNumberTextSaid : Prop := fnExactNumberTextRow.holds Try.pinned (OpenSpec.ofChange fnExactNumberTextSpec)

/-- ITS FALSE NEIGHBOUR: 'it returns false'. Refute it at one input. -/
def fnExactNumberTextWrong : ChangeSpec := { name := "fnExactNumberText", fn := fun _ => fun
  | [d] => { results := [.lit (.bool false)], args := [d] }
  | _ => none }
def FnExactNumberTextWrongFalsely : Prop := fnExactNumberTextRow.holds Try.pinned (OpenSpec.ofChange fnExactNumberTextWrong)

/-- 'laws.FnExactReadNumber': WHATEVER THE INPUT: true; the input reads as it did. -/
def fnExactReadNumberSpec : ChangeSpec := { name := "fnExactReadNumber", fn := fun _ => fun
  | [d] => { results := [.lit (.bool true)], args := [d] }
  | _ => none }
def fnExactReadNumberRow : OpenClaim := { program := "ytjebhnbajblfpaa", sum := "3a076fc5510af9b56acf253e039ec665e0f1bce777c3f94e28ff18f640150f68", func := "loop.example/conferencehall/laws.FnExactReadNumber", spec := "fnExactReadNumber", apart := false }
def FnExactReadNumberSaid : Prop := fnExactReadNumberRow.holds Try.pinned (OpenSpec.ofChange fnExactReadNumberSpec)

/-- ITS FALSE NEIGHBOUR: 'it returns false'. Refute it at one input. -/
def fnExactReadNumberWrong : ChangeSpec := { name := "fnExactReadNumber", fn := fun _ => fun
  | [d] => { results := [.lit (.bool false)], args := [d] }
  | _ => none }
def FnExactReadNumberWrongFalsely : Prop := fnExactReadNumberRow.holds Try.pinned (OpenSpec.ofChange fnExactReadNumberWrong)

/- THE SECOND FORM. 'bulk': how many values and letters a reading holds, each counted each time it is reached (what is shared counts as often as it is met; a slice's spare places count too). A statement '..UptoSaid' is the law's where the arguments, and the package variables that the reading takes, are together of bulk at most 1048576: NARROWER than '..Said'. Prove '..Said' where nothing that the law and all that it calls make is longer than what came in: it says more and counts as full. Else prove '..UptoSaid'. A law counts once. -/
mutual
def uptoBulk {H : Type} : DataW H → Nat
  | .lit (.string bytes) => bytes.length + 1
  | .lit _ => 1
  | .nil => 1
  | .ptr d => uptoBulk d + 1
  | .slice elems spare => uptoBulkAll elems + uptoBulkAll spare + 1
  | .agg parts => uptoBulkAll parts + 1
  | .iface _ d => uptoBulk d + 1
  | .map entries => uptoBulkEntries entries + 1
  | .held _ => 1
def uptoBulkAll {H : Type} : List (DataW H) → Nat
  | [] => 0
  | d :: r => uptoBulk d + uptoBulkAll r
def uptoBulkEntries {H : Type} : List (Lit × DataW H) → Nat
  | [] => 0
  | x :: r => uptoBulkEntry x + uptoBulkEntries r
def uptoBulkEntry {H : Type} : Lit × DataW H → Nat
  | (.string bytes, d) => bytes.length + uptoBulk d + 1
  | (_, d) => uptoBulk d + 1
 end
def uptoSmall : (H : Type) → List (DataW H) → Bool := fun _ ds => decide (uptoBulkAll ds ≤ 1048576)
def OpenSpec.upto (s : _root_.Go.ChangeSpec) : _root_.Go.OpenSpec := { _root_.Go.OpenSpec.ofChange s with cond := some uptoSmall }

/-- 'laws.FnWordValid', WHERE WHAT IT READS IS OF BULK AT MOST 1048576: true; the input reads as it did. -/
def fnWordValidUptoRow : OpenClaim := { program := "ytjebhnbajblfpaa", sum := "3a076fc5510af9b56acf253e039ec665e0f1bce777c3f94e28ff18f640150f68", func := "loop.example/conferencehall/laws.FnWordValid", spec := "fnWordValid", apart := false, narrowed := true }
def FnWordValidUptoSaid : Prop := fnWordValidUptoRow.holds Try.pinned (OpenSpec.upto fnWordValidSpec)

/-- 'laws.FnLineValid', WHERE WHAT IT READS IS OF BULK AT MOST 1048576: true; the input reads as it did. -/
def fnLineValidUptoRow : OpenClaim := { program := "ytjebhnbajblfpaa", sum := "3a076fc5510af9b56acf253e039ec665e0f1bce777c3f94e28ff18f640150f68", func := "loop.example/conferencehall/laws.FnLineValid", spec := "fnLineValid", apart := false, narrowed := true }
def FnLineValidUptoSaid : Prop := fnLineValidUptoRow.holds Try.pinned (OpenSpec.upto fnLineValidSpec)

/-- 'laws.FnNumberText', WHERE WHAT IT READS IS OF BULK AT MOST 1048576: true; the input reads as it did. -/
def fnNumberTextUptoRow : OpenClaim := { program := "ytjebhnbajblfpaa", sum := "3a076fc5510af9b56acf253e039ec665e0f1bce777c3f94e28ff18f640150f68", func := "loop.example/conferencehall/laws.FnNumberText", spec := "fnNumberText", apart := false, narrowed := true }
def FnNumberTextUptoSaid : Prop := fnNumberTextUptoRow.holds Try.pinned (OpenSpec.upto fnNumberTextSpec)

/-- 'laws.FnReadNumber', WHERE WHAT IT READS IS OF BULK AT MOST 1048576: true; the input reads as it did. -/
def fnReadNumberUptoRow : OpenClaim := { program := "ytjebhnbajblfpaa", sum := "3a076fc5510af9b56acf253e039ec665e0f1bce777c3f94e28ff18f640150f68", func := "loop.example/conferencehall/laws.FnReadNumber", spec := "fnReadNumber", apart := false, narrowed := true }
def FnReadNumberUptoSaid : Prop := fnReadNumberUptoRow.holds Try.pinned (OpenSpec.upto fnReadNumberSpec)

/-- 'laws.FnExactWordValid', WHERE WHAT IT READS IS OF BULK AT MOST 1048576: true; the input reads as it did. -/
def fnExactWordValidUptoRow : OpenClaim := { program := "ytjebhnbajblfpaa", sum := "3a076fc5510af9b56acf253e039ec665e0f1bce777c3f94e28ff18f640150f68", func := "loop.example/conferencehall/laws.FnExactWordValid", spec := "fnExactWordValid", apart := false, narrowed := true }
def FnExactWordValidUptoSaid : Prop := fnExactWordValidUptoRow.holds Try.pinned (OpenSpec.upto fnExactWordValidSpec)

/-- 'laws.FnExactLineValid', WHERE WHAT IT READS IS OF BULK AT MOST 1048576: true; the input reads as it did. -/
def fnExactLineValidUptoRow : OpenClaim := { program := "ytjebhnbajblfpaa", sum := "3a076fc5510af9b56acf253e039ec665e0f1bce777c3f94e28ff18f640150f68", func := "loop.example/conferencehall/laws.FnExactLineValid", spec := "fnExactLineValid", apart := false, narrowed := true }
def FnExactLineValidUptoSaid : Prop := fnExactLineValidUptoRow.holds Try.pinned (OpenSpec.upto fnExactLineValidSpec)

/-- 'laws.FnExactNumberText', WHERE WHAT IT READS IS OF BULK AT MOST 1048576: true; the input reads as it did. -/
def fnExactNumberTextUptoRow : OpenClaim := { program := "ytjebhnbajblfpaa", sum := "3a076fc5510af9b56acf253e039ec665e0f1bce777c3f94e28ff18f640150f68", func := "loop.example/conferencehall/laws.FnExactNumberText", spec := "fnExactNumberText", apart := false, narrowed := true }
def FnExactNumberTextUptoSaid : Prop := fnExactNumberTextUptoRow.holds Try.pinned (OpenSpec.upto fnExactNumberTextSpec)

/-- 'laws.FnExactReadNumber', WHERE WHAT IT READS IS OF BULK AT MOST 1048576: true; the input reads as it did. -/
def fnExactReadNumberUptoRow : OpenClaim := { program := "ytjebhnbajblfpaa", sum := "3a076fc5510af9b56acf253e039ec665e0f1bce777c3f94e28ff18f640150f68", func := "loop.example/conferencehall/laws.FnExactReadNumber", spec := "fnExactReadNumber", apart := false, narrowed := true }
def FnExactReadNumberUptoSaid : Prop := fnExactReadNumberUptoRow.holds Try.pinned (OpenSpec.upto fnExactReadNumberSpec)

end Rows
end Go.Proofs.Ytjebhnbajblfpaa
