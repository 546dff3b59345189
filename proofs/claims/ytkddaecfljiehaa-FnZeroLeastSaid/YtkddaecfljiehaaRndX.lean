/- Exact laws of chapter 5 over a list that came in: the program's contracts given. -/
import Derived.Test.YtkddaecfljiehaaGG
import Derived.Test.YtkddaecfljiehaaRndE
import Derived.Test.YtkddaecfljiehaaToInts
namespace Go.Proofs.Ytkddaecfljiehaa
open Go.RowKit Go.Shelf
set_option linter.unusedVariables false
end Go.Proofs.Ytkddaecfljiehaa
