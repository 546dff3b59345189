import Derived.Test.YtecjhkpldcmlaaaDoorGA
import Derived.Test.YtecjhkpldcmlaaaDoorGB
namespace Go.Proofs.YtecjhkpldcmlaaaDoor
open Go.RowKit Go.WideShapes Go.ChangeShapes
set_option linter.unusedVariables false
end Go.Proofs.YtecjhkpldcmlaaaDoor
