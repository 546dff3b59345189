/- The exact laws of FarList, FarLayers, FarMost and FarSum. -/
import Derived.Test.YtookciehnjnmnaaFarLL
import Derived.Test.YtookciehnjnmnaaGF
import Derived.Test.YtookciehnjnmnaaGD
namespace Go.Proofs.Ytookciehnjnmnaa
open Go.RowKit
set_option linter.unusedVariables false
end Go.Proofs.Ytookciehnjnmnaa
