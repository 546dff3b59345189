/- StepHalves and StepCuts of the model. -/
import Derived.Test.YtgonanembcnlgaaStepH
import Derived.Test.YtgonanembcnlgaaStepC
import Derived.Test.YtgonanembcnlgaaStepWA
namespace Go.Proofs.Ytgonanembcnlgaa
open Go.RowKit
set_option linter.unusedVariables false
end Go.Proofs.Ytgonanembcnlgaa
