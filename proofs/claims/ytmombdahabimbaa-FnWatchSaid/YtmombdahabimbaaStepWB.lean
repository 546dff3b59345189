/- The functions of chapter 2 as others call them: part, parts, halves, cuts. -/
import Derived.Test.YtmombdahabimbaaStepWA
import Derived.Test.YtmombdahabimbaaGC
import Derived.Test.YtmombdahabimbaaStepH
import Derived.Test.YtmombdahabimbaaStepC
namespace Go.Proofs.Ytmombdahabimbaa
open Go.RowKit
set_option linter.unusedVariables false
end Go.Proofs.Ytmombdahabimbaa
