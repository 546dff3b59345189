/- RingAlike: the program and the model. -/
import Derived.Test.YtecjhkpldcmlaaaDoorWrapB
import Derived.Test.YtecjhkpldcmlaaaDoorGB
import Derived.Test.YtecjhkpldcmlaaaDoorLaw1
namespace Go.Proofs.YtecjhkpldcmlaaaDoor
open Go.RowKit
set_option linter.unusedVariables false
end Go.Proofs.YtecjhkpldcmlaaaDoor
