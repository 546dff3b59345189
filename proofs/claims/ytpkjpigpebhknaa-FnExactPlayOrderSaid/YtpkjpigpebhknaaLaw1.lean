import Derived.Test.YtpkjpigpebhknaaGA
import Derived.Test.YtpkjpigpebhknaaGB
namespace Go.Proofs.Ytpkjpigpebhknaa
open Go.RowKit Go.WideShapes Go.ChangeShapes
set_option linter.unusedVariables false
end Go.Proofs.Ytpkjpigpebhknaa
