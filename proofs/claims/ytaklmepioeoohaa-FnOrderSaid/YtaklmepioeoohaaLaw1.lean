import Derived.Test.YtaklmepioeoohaaGA
import Derived.Test.YtaklmepioeoohaaGB
namespace Go.Proofs.Ytaklmepioeoohaa
open Go.RowKit Go.WideShapes Go.ChangeShapes
set_option linter.unusedVariables false
end Go.Proofs.Ytaklmepioeoohaa
