/- RingFirst and RingAlike as others call them. -/
import Derived.Test.YtaklmepioeoohaaGB
import Derived.Test.YtaklmepioeoohaaFirst
namespace Go.Proofs.Ytaklmepioeoohaa
open Go.RowKit
set_option linter.unusedVariables false
end Go.Proofs.Ytaklmepioeoohaa
