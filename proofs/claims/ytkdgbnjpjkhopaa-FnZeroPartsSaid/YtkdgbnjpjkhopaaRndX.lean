/- Exact laws of chapter 5 over a list that came in: the program's contracts given. -/
import Derived.Test.YtkdgbnjpjkhopaaGG
import Derived.Test.YtkdgbnjpjkhopaaRndE
import Derived.Test.YtkdgbnjpjkhopaaToInts
namespace Go.Proofs.Ytkdgbnjpjkhopaa
open Go.RowKit Go.Shelf
set_option linter.unusedVariables false
end Go.Proofs.Ytkdgbnjpjkhopaa
