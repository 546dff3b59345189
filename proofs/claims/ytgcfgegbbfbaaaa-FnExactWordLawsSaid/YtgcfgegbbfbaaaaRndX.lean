/- Exact laws of chapter 5 over a list that came in: the program's contracts given. -/
import Derived.Test.YtgcfgegbbfbaaaaGG
import Derived.Test.YtgcfgegbbfbaaaaRndE
import Derived.Test.YtgcfgegbbfbaaaaToInts
namespace Go.Proofs.Ytgcfgegbbfbaaaa
open Go.RowKit Go.Shelf
set_option linter.unusedVariables false
end Go.Proofs.Ytgcfgegbbfbaaaa
