/- Exact laws of chapter 5 over a list that came in: the program's contracts given. -/
import Derived.Test.YtmcbcjhoglcdoaaGG
import Derived.Test.YtmcbcjhoglcdoaaRndE
import Derived.Test.YtmcbcjhoglcdoaaToInts
namespace Go.Proofs.Ytmcbcjhoglcdoaa
open Go.RowKit Go.Shelf
set_option linter.unusedVariables false
end Go.Proofs.Ytmcbcjhoglcdoaa
