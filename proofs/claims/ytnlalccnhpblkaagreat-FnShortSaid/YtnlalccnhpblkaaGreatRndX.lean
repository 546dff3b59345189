/- Exact laws of chapter 5 over a list that came in: the program's contracts given. -/
import Derived.Test.YtnlalccnhpblkaaGreatGG
import Derived.Test.YtnlalccnhpblkaaGreatRndE
import Derived.Test.YtnlalccnhpblkaaGreatToInts
namespace Go.Proofs.YtnlalccnhpblkaaGreat
open Go.RowKit Go.Shelf
set_option linter.unusedVariables false
end Go.Proofs.YtnlalccnhpblkaaGreat
