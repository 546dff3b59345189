/- Words: the laws' marks of lists of texts. Written by gen116.py. -/
import Derived.Test.YtnlalccnhpblkaaWrdZ
import Derived.Test.YtnlalccnhpblkaaGV
import Derived.Test.YtnlalccnhpblkaaGD
import Derived.Test.YtnlalccnhpblkaaWrdN
import Derived.Test.YtnlalccnhpblkaaGG
namespace Go.Proofs.Ytnlalccnhpblkaa
open Go.RowKit Go.Shelf
set_option linter.unusedVariables false
end Go.Proofs.Ytnlalccnhpblkaa
