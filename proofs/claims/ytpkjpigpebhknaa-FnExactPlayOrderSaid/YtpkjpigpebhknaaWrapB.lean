/- RingFirst and RingAlike as others call them. -/
import Derived.Test.YtpkjpigpebhknaaGB
import Derived.Test.YtpkjpigpebhknaaFirst
namespace Go.Proofs.Ytpkjpigpebhknaa
open Go.RowKit
set_option linter.unusedVariables false
end Go.Proofs.Ytpkjpigpebhknaa
