/- Exact laws of chapter 5 over a list that came in: the program's contracts given. -/
import Derived.Test.YtnlalccnhpblkaaGG
import Derived.Test.YtnlalccnhpblkaaRndE
import Derived.Test.YtnlalccnhpblkaaToInts
namespace Go.Proofs.Ytnlalccnhpblkaa
open Go.RowKit Go.Shelf
set_option linter.unusedVariables false
end Go.Proofs.Ytnlalccnhpblkaa
