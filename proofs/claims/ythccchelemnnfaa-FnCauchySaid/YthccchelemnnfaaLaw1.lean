import Derived.Test.YthccchelemnnfaaRingC
import Derived.Test.YthccchelemnnfaaPost
namespace Go.Proofs.Ythccchelemnnfaa
open Go.RowKit Go.WideShapes Go.ChangeShapes
set_option linter.unusedVariables false
end Go.Proofs.Ythccchelemnnfaa
