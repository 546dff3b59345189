/- The functions of chapter 1 as others call them. -/
import Derived.Test.YtmnhkjcfldojiaaSpecA
import Derived.Test.YtmnhkjcfldojiaaTurn
import Derived.Test.YtmnhkjcfldojiaaSum
import Derived.Test.YtmnhkjcfldojiaaUnits
import Derived.Test.YtmnhkjcfldojiaaHolds
import Derived.Test.YtmnhkjcfldojiaaLeast
namespace Go.Proofs.Ytmnhkjcfldojiaa
open Go.RowKit
set_option linter.unusedVariables false
theorem nil_no (n : Int) (w : World) (h : ¬ (1 ≤ n ∧ n ≤ 12)) :
    Calls Try.prog 48 #[.int .i64 n, .slice none 0 0] w fun e w' => e = .returned (.tuple #[.agg #[.int .i64 0], .bool false]) ∧ Below w.heap.size w w' := ringOf_out n _ w h
end Go.Proofs.Ytmnhkjcfldojiaa
