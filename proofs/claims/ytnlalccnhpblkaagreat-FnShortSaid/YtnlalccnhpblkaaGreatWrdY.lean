/- FnExactWordFar over given contracts of the program. Written by gen107.py. -/
import Derived.Test.YtnlalccnhpblkaaGreatWrdX
namespace Go.Proofs.YtnlalccnhpblkaaGreat
open Go.RowKit Go.Shelf
set_option linter.unusedVariables false
end Go.Proofs.YtnlalccnhpblkaaGreat
