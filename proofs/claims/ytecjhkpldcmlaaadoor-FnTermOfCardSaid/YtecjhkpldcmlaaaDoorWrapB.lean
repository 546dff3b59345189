/- RingFirst and RingAlike as others call them. -/
import Derived.Test.YtecjhkpldcmlaaaDoorGB
import Derived.Test.YtecjhkpldcmlaaaDoorFirst
namespace Go.Proofs.YtecjhkpldcmlaaaDoor
open Go.RowKit
set_option linter.unusedVariables false
end Go.Proofs.YtecjhkpldcmlaaaDoor
