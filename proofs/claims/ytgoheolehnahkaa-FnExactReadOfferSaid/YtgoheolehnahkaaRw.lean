/- Exact values: words, lines and addresses drawn by a reader. -/
import Derived.Test.YtgoheolehnahkaaRdP
namespace Go.Proofs.Ytgoheolehnahkaa.Mini
open Go Go.RowKit
set_option linter.unusedVariables false
set_option linter.unusedSimpArgs false
set_option maxRecDepth 20000
def wOk (s : ByteArray) : Prop := wordB s.data.toList = true
def lOk (s : ByteArray) : Prop := lineB s.data.toList = true
end Go.Proofs.Ytgoheolehnahkaa.Mini
