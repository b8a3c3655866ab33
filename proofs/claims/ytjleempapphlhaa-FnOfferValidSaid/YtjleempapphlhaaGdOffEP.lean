/- Parts of the proof: OffE, OffEP. -/
import Derived.Test.YtjleempapphlhaaGdIOffP
import Derived.Test.YtjleempapphlhaaGdHelp
section
namespace Go.Proofs.Ytjleempapphlhaa.Mini
open Go Go.RowKit
set_option linter.unusedVariables false
set_option linter.unusedSimpArgs false
set_option maxRecDepth 20000
def impD (l : List Med) : List D := [.list 25 l.length (offD l)]
end Go.Proofs.Ytjleempapphlhaa.Mini
end
section
namespace Go.Proofs.Ytjleempapphlhaa.Mini
open Go Go.RowKit
set_option linter.unusedVariables false
set_option linter.unusedSimpArgs false
set_option maxRecDepth 20000
theorem unM_lit (m : Med) : unM [D.str m.k, .int .i64 m.p, .bool m.s, .bool m.h, .list 9 m.c.length (textsD m.c)] = m := unM_med m
end Go.Proofs.Ytjleempapphlhaa.Mini
end
