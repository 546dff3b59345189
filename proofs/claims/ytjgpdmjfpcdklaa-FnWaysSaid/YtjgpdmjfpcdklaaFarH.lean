/- The exact laws of FarList, FarLayers, FarMost and FarSum. -/
import Derived.Test.YtjgpdmjfpcdklaaFarLL
import Derived.Test.YtjgpdmjfpcdklaaGF
import Derived.Test.YtjgpdmjfpcdklaaGD
namespace Go.Proofs.Ytjgpdmjfpcdklaa
open Go.RowKit
set_option linter.unusedVariables false
end Go.Proofs.Ytjgpdmjfpcdklaa
