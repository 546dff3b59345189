/- Exact laws of chapter 5 over a list that came in: the program's contracts given. -/
import Derived.Test.YtaopejgmnbmngaaGG
import Derived.Test.YtaopejgmnbmngaaRndE
import Derived.Test.YtaopejgmnbmngaaToInts
namespace Go.Proofs.Ytaopejgmnbmngaa
open Go.RowKit Go.Shelf
set_option linter.unusedVariables false
end Go.Proofs.Ytaopejgmnbmngaa
