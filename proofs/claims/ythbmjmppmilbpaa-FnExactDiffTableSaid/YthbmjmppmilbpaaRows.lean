/-
  No cell of these rows narrows 'for every input' (looked for: loops, veiled, ifaces, maps, wideKeys, modest, calm, conditions, laid).
  DERIVED. THE GIVEN ROWS OF THIS SEAT. 8 by the template 'for every input the law returns true; each argument reads behind the call as it read before'; 0 by the template 'total and deterministic' (their statements: YthbmjmppmilbpaaTotals.lean).
  GIVEN WITH THE SEED: the statements are not yours to turn. If you find one false, say at which input.
  Laid BY PROGRAM, IN A SANDBOX (cutbox-rows.mjs): the forced cells as the released guide's own fill.sh prints them over the translation a0023b44f55049c7… (all of the seat's roots in one cut). By AI agents, Wed Nov 11 2026. No macro, syntax, notation, axiom, sorry.
-/
import Derived.Test.YthbmjmppmilbpaaChecked
import GoSem.Claim
import GoSem.ClaimJoined
import GoSem.ClaimMapViews
import Derived.JoinedTies
import Derived.KernelRfl
namespace Go.Proofs.Ythbmjmppmilbpaa
/- THE CELL 'sum', in the pinned program and in every row, IS THE sha256 OF THE DUMP (.gsa) THAT YthbmjmppmilbpaaProg.lean LOADS. Nothing in Lean hashes anything: it is a label: what it is worth is what the hold of that sum in a sandbox is worth. -/
noncomputable def Try.pinned : Pinned := { name := "ythbmjmppmilbpaa", sum := "a0023b44f55049c7b29d38fcda4246dd7261dbb7389bd9aeb8eb46e18baed5a3", checked := Try.checked }
namespace Rows
def none {H : Type} : Left H := { results := [], args := [] }

/-- 'laws.FnExactDiffTable': WHATEVER THE INPUT: true; the input reads as it did. -/
def fnExactDiffTableSpec : ChangeSpec := { name := "fnExactDiffTable", fn := fun _ => fun
  | [d1, d2] => { results := [.lit (.bool true)], args := [d1, d2] }
  | _ => none }
def fnExactDiffTableRow : OpenClaim := { program := "ythbmjmppmilbpaa", sum := "a0023b44f55049c7b29d38fcda4246dd7261dbb7389bd9aeb8eb46e18baed5a3", func := "loop.example/ringsofsteps/laws.FnExactDiffTable", spec := "fnExactDiffTable", unfollowed := true, recurses := true, apart := false }
def FnExactDiffTableSaid : Prop := fnExactDiffTableRow.holds Try.pinned (OpenSpec.ofChange fnExactDiffTableSpec)

/-- ITS FALSE NEIGHBOUR: 'it returns false'. Refute it at one input. -/
def fnExactDiffTableWrong : ChangeSpec := { name := "fnExactDiffTable", fn := fun _ => fun
  | [d1, d2] => { results := [.lit (.bool false)], args := [d1, d2] }
  | _ => none }
def FnExactDiffTableWrongFalsely : Prop := fnExactDiffTableRow.holds Try.pinned (OpenSpec.ofChange fnExactDiffTableWrong)

/-- 'laws.FnExactDiffEven': WHATEVER THE INPUT: true; the input reads as it did. -/
def fnExactDiffEvenSpec : ChangeSpec := { name := "fnExactDiffEven", fn := fun _ => fun
  | [d1, d2] => { results := [.lit (.bool true)], args := [d1, d2] }
  | _ => none }
def fnExactDiffEvenRow : OpenClaim := { program := "ythbmjmppmilbpaa", sum := "a0023b44f55049c7b29d38fcda4246dd7261dbb7389bd9aeb8eb46e18baed5a3", func := "loop.example/ringsofsteps/laws.FnExactDiffEven", spec := "fnExactDiffEven", unfollowed := true, recurses := true, apart := false }
def FnExactDiffEvenSaid : Prop := fnExactDiffEvenRow.holds Try.pinned (OpenSpec.ofChange fnExactDiffEvenSpec)

/-- ITS FALSE NEIGHBOUR: 'it returns false'. Refute it at one input. -/
def fnExactDiffEvenWrong : ChangeSpec := { name := "fnExactDiffEven", fn := fun _ => fun
  | [d1, d2] => { results := [.lit (.bool false)], args := [d1, d2] }
  | _ => none }
def FnExactDiffEvenWrongFalsely : Prop := fnExactDiffEvenRow.holds Try.pinned (OpenSpec.ofChange fnExactDiffEvenWrong)

/-- 'laws.FnExactDiffFind': WHATEVER THE INPUT: true; the input reads as it did. -/
def fnExactDiffFindSpec : ChangeSpec := { name := "fnExactDiffFind", fn := fun _ => fun
  | [d1, d2] => { results := [.lit (.bool true)], args := [d1, d2] }
  | _ => none }
def fnExactDiffFindRow : OpenClaim := { program := "ythbmjmppmilbpaa", sum := "a0023b44f55049c7b29d38fcda4246dd7261dbb7389bd9aeb8eb46e18baed5a3", func := "loop.example/ringsofsteps/laws.FnExactDiffFind", spec := "fnExactDiffFind", unfollowed := true, recurses := true, apart := false }
def FnExactDiffFindSaid : Prop := fnExactDiffFindRow.holds Try.pinned (OpenSpec.ofChange fnExactDiffFindSpec)

/-- ITS FALSE NEIGHBOUR: 'it returns false'. Refute it at one input. -/
def fnExactDiffFindWrong : ChangeSpec := { name := "fnExactDiffFind", fn := fun _ => fun
  | [d1, d2] => { results := [.lit (.bool false)], args := [d1, d2] }
  | _ => none }
def FnExactDiffFindWrongFalsely : Prop := fnExactDiffFindRow.holds Try.pinned (OpenSpec.ofChange fnExactDiffFindWrong)

/-- 'laws.FnExactDiffThin': WHATEVER THE INPUT: true; the input reads as it did. -/
def fnExactDiffThinSpec : ChangeSpec := { name := "fnExactDiffThin", fn := fun _ => fun
  | [d1, d2] => { results := [.lit (.bool true)], args := [d1, d2] }
  | _ => none }
def fnExactDiffThinRow : OpenClaim := { program := "ythbmjmppmilbpaa", sum := "a0023b44f55049c7b29d38fcda4246dd7261dbb7389bd9aeb8eb46e18baed5a3", func := "loop.example/ringsofsteps/laws.FnExactDiffThin", spec := "fnExactDiffThin", unfollowed := true, recurses := true, apart := false }
def FnExactDiffThinSaid : Prop := fnExactDiffThinRow.holds Try.pinned (OpenSpec.ofChange fnExactDiffThinSpec)

/-- ITS FALSE NEIGHBOUR: 'it returns false'. Refute it at one input. -/
def fnExactDiffThinWrong : ChangeSpec := { name := "fnExactDiffThin", fn := fun _ => fun
  | [d1, d2] => { results := [.lit (.bool false)], args := [d1, d2] }
  | _ => none }
def FnExactDiffThinWrongFalsely : Prop := fnExactDiffThinRow.holds Try.pinned (OpenSpec.ofChange fnExactDiffThinWrong)

/-- 'laws.FnExactDiffThinMost': WHATEVER THE INPUT: true; the input reads as it did. -/
def fnExactDiffThinMostSpec : ChangeSpec := { name := "fnExactDiffThinMost", fn := fun _ => fun
  | [d] => { results := [.lit (.bool true)], args := [d] }
  | _ => none }
def fnExactDiffThinMostRow : OpenClaim := { program := "ythbmjmppmilbpaa", sum := "a0023b44f55049c7b29d38fcda4246dd7261dbb7389bd9aeb8eb46e18baed5a3", func := "loop.example/ringsofsteps/laws.FnExactDiffThinMost", spec := "fnExactDiffThinMost", unfollowed := true, recurses := true, apart := false }
def FnExactDiffThinMostSaid : Prop := fnExactDiffThinMostRow.holds Try.pinned (OpenSpec.ofChange fnExactDiffThinMostSpec)

/-- ITS FALSE NEIGHBOUR: 'it returns false'. Refute it at one input. -/
def fnExactDiffThinMostWrong : ChangeSpec := { name := "fnExactDiffThinMost", fn := fun _ => fun
  | [d] => { results := [.lit (.bool false)], args := [d] }
  | _ => none }
def FnExactDiffThinMostWrongFalsely : Prop := fnExactDiffThinMostRow.holds Try.pinned (OpenSpec.ofChange fnExactDiffThinMostWrong)

/-- 'laws.FnExactDiffWhole': WHATEVER THE INPUT: true; the input reads as it did. -/
def fnExactDiffWholeSpec : ChangeSpec := { name := "fnExactDiffWhole", fn := fun _ => fun
  | [d] => { results := [.lit (.bool true)], args := [d] }
  | _ => none }
def fnExactDiffWholeRow : OpenClaim := { program := "ythbmjmppmilbpaa", sum := "a0023b44f55049c7b29d38fcda4246dd7261dbb7389bd9aeb8eb46e18baed5a3", func := "loop.example/ringsofsteps/laws.FnExactDiffWhole", spec := "fnExactDiffWhole", unfollowed := true, recurses := true, apart := false }
def FnExactDiffWholeSaid : Prop := fnExactDiffWholeRow.holds Try.pinned (OpenSpec.ofChange fnExactDiffWholeSpec)

/-- ITS FALSE NEIGHBOUR: 'it returns false'. Refute it at one input. -/
def fnExactDiffWholeWrong : ChangeSpec := { name := "fnExactDiffWhole", fn := fun _ => fun
  | [d] => { results := [.lit (.bool false)], args := [d] }
  | _ => none }
def FnExactDiffWholeWrongFalsely : Prop := fnExactDiffWholeRow.holds Try.pinned (OpenSpec.ofChange fnExactDiffWholeWrong)

/-- 'laws.FnExactDiffCarries': WHATEVER THE INPUT: true; the input reads as it did. -/
def fnExactDiffCarriesSpec : ChangeSpec := { name := "fnExactDiffCarries", fn := fun _ => fun
  | [d1, d2] => { results := [.lit (.bool true)], args := [d1, d2] }
  | _ => none }
def fnExactDiffCarriesRow : OpenClaim := { program := "ythbmjmppmilbpaa", sum := "a0023b44f55049c7b29d38fcda4246dd7261dbb7389bd9aeb8eb46e18baed5a3", func := "loop.example/ringsofsteps/laws.FnExactDiffCarries", spec := "fnExactDiffCarries", unfollowed := true, recurses := true, apart := false }
def FnExactDiffCarriesSaid : Prop := fnExactDiffCarriesRow.holds Try.pinned (OpenSpec.ofChange fnExactDiffCarriesSpec)

/-- ITS FALSE NEIGHBOUR: 'it returns false'. Refute it at one input. -/
def fnExactDiffCarriesWrong : ChangeSpec := { name := "fnExactDiffCarries", fn := fun _ => fun
  | [d1, d2] => { results := [.lit (.bool false)], args := [d1, d2] }
  | _ => none }
def FnExactDiffCarriesWrongFalsely : Prop := fnExactDiffCarriesRow.holds Try.pinned (OpenSpec.ofChange fnExactDiffCarriesWrong)

/-- 'laws.FnExactFreeWatch': WHATEVER THE INPUT: true; the input reads as it did. -/
def fnExactFreeWatchSpec : ChangeSpec := { name := "fnExactFreeWatch", fn := fun _ => fun
  | [d1, d2] => { results := [.lit (.bool true)], args := [d1, d2] }
  | _ => none }
def fnExactFreeWatchRow : OpenClaim := { program := "ythbmjmppmilbpaa", sum := "a0023b44f55049c7b29d38fcda4246dd7261dbb7389bd9aeb8eb46e18baed5a3", func := "loop.example/ringsofsteps/laws.FnExactFreeWatch", spec := "fnExactFreeWatch", unfollowed := true, recurses := true, apart := false }
def FnExactFreeWatchSaid : Prop := fnExactFreeWatchRow.holds Try.pinned (OpenSpec.ofChange fnExactFreeWatchSpec)

/-- ITS FALSE NEIGHBOUR: 'it returns false'. Refute it at one input. -/
def fnExactFreeWatchWrong : ChangeSpec := { name := "fnExactFreeWatch", fn := fun _ => fun
  | [d1, d2] => { results := [.lit (.bool false)], args := [d1, d2] }
  | _ => none }
def FnExactFreeWatchWrongFalsely : Prop := fnExactFreeWatchRow.holds Try.pinned (OpenSpec.ofChange fnExactFreeWatchWrong)

/- THE SECOND FORM. 'bulk': how many values and letters a reading holds, each counted each time it is reached (what is shared counts as often as it is met; a slice's spare places count too). A statement '..UptoSaid' is the law's where the arguments, and the package variables that the reading takes, are together of bulk at most 1048576: NARROWER than '..Said'. Prove '..Said' where nothing that the law and all that it calls make is longer than what came in: it says more and counts as full. Else prove '..UptoSaid'. A law counts once. -/
mutual
def uptoBulk {H : Type} : DataW H → Nat
  | .lit (.string bytes) => bytes.length + 1
  | .lit _ => 1
  | .nil => 1
  | .ptr d => uptoBulk d + 1
  | .slice elems spare => uptoBulkAll elems + uptoBulkAll spare + 1
  | .agg parts => uptoBulkAll parts + 1
  | .iface _ d => uptoBulk d + 1
  | .map entries => uptoBulkEntries entries + 1
  | .held _ => 1
def uptoBulkAll {H : Type} : List (DataW H) → Nat
  | [] => 0
  | d :: r => uptoBulk d + uptoBulkAll r
def uptoBulkEntries {H : Type} : List (Lit × DataW H) → Nat
  | [] => 0
  | x :: r => uptoBulkEntry x + uptoBulkEntries r
def uptoBulkEntry {H : Type} : Lit × DataW H → Nat
  | (.string bytes, d) => bytes.length + uptoBulk d + 1
  | (_, d) => uptoBulk d + 1
 end
def uptoSmall : (H : Type) → List (DataW H) → Bool := fun _ ds => decide (uptoBulkAll ds ≤ 1048576)
def OpenSpec.upto (s : _root_.Go.ChangeSpec) : _root_.Go.OpenSpec := { _root_.Go.OpenSpec.ofChange s with cond := some uptoSmall }

/-- 'laws.FnExactDiffTable', WHERE WHAT IT READS IS OF BULK AT MOST 1048576: true; the input reads as it did. -/
def fnExactDiffTableUptoRow : OpenClaim := { program := "ythbmjmppmilbpaa", sum := "a0023b44f55049c7b29d38fcda4246dd7261dbb7389bd9aeb8eb46e18baed5a3", func := "loop.example/ringsofsteps/laws.FnExactDiffTable", spec := "fnExactDiffTable", unfollowed := true, recurses := true, apart := false, narrowed := true }
def FnExactDiffTableUptoSaid : Prop := fnExactDiffTableUptoRow.holds Try.pinned (OpenSpec.upto fnExactDiffTableSpec)

/-- 'laws.FnExactDiffEven', WHERE WHAT IT READS IS OF BULK AT MOST 1048576: true; the input reads as it did. -/
def fnExactDiffEvenUptoRow : OpenClaim := { program := "ythbmjmppmilbpaa", sum := "a0023b44f55049c7b29d38fcda4246dd7261dbb7389bd9aeb8eb46e18baed5a3", func := "loop.example/ringsofsteps/laws.FnExactDiffEven", spec := "fnExactDiffEven", unfollowed := true, recurses := true, apart := false, narrowed := true }
def FnExactDiffEvenUptoSaid : Prop := fnExactDiffEvenUptoRow.holds Try.pinned (OpenSpec.upto fnExactDiffEvenSpec)

/-- 'laws.FnExactDiffFind', WHERE WHAT IT READS IS OF BULK AT MOST 1048576: true; the input reads as it did. -/
def fnExactDiffFindUptoRow : OpenClaim := { program := "ythbmjmppmilbpaa", sum := "a0023b44f55049c7b29d38fcda4246dd7261dbb7389bd9aeb8eb46e18baed5a3", func := "loop.example/ringsofsteps/laws.FnExactDiffFind", spec := "fnExactDiffFind", unfollowed := true, recurses := true, apart := false, narrowed := true }
def FnExactDiffFindUptoSaid : Prop := fnExactDiffFindUptoRow.holds Try.pinned (OpenSpec.upto fnExactDiffFindSpec)

/-- 'laws.FnExactDiffThin', WHERE WHAT IT READS IS OF BULK AT MOST 1048576: true; the input reads as it did. -/
def fnExactDiffThinUptoRow : OpenClaim := { program := "ythbmjmppmilbpaa", sum := "a0023b44f55049c7b29d38fcda4246dd7261dbb7389bd9aeb8eb46e18baed5a3", func := "loop.example/ringsofsteps/laws.FnExactDiffThin", spec := "fnExactDiffThin", unfollowed := true, recurses := true, apart := false, narrowed := true }
def FnExactDiffThinUptoSaid : Prop := fnExactDiffThinUptoRow.holds Try.pinned (OpenSpec.upto fnExactDiffThinSpec)

/-- 'laws.FnExactDiffThinMost', WHERE WHAT IT READS IS OF BULK AT MOST 1048576: true; the input reads as it did. -/
def fnExactDiffThinMostUptoRow : OpenClaim := { program := "ythbmjmppmilbpaa", sum := "a0023b44f55049c7b29d38fcda4246dd7261dbb7389bd9aeb8eb46e18baed5a3", func := "loop.example/ringsofsteps/laws.FnExactDiffThinMost", spec := "fnExactDiffThinMost", unfollowed := true, recurses := true, apart := false, narrowed := true }
def FnExactDiffThinMostUptoSaid : Prop := fnExactDiffThinMostUptoRow.holds Try.pinned (OpenSpec.upto fnExactDiffThinMostSpec)

/-- 'laws.FnExactDiffWhole', WHERE WHAT IT READS IS OF BULK AT MOST 1048576: true; the input reads as it did. -/
def fnExactDiffWholeUptoRow : OpenClaim := { program := "ythbmjmppmilbpaa", sum := "a0023b44f55049c7b29d38fcda4246dd7261dbb7389bd9aeb8eb46e18baed5a3", func := "loop.example/ringsofsteps/laws.FnExactDiffWhole", spec := "fnExactDiffWhole", unfollowed := true, recurses := true, apart := false, narrowed := true }
def FnExactDiffWholeUptoSaid : Prop := fnExactDiffWholeUptoRow.holds Try.pinned (OpenSpec.upto fnExactDiffWholeSpec)

/-- 'laws.FnExactDiffCarries', WHERE WHAT IT READS IS OF BULK AT MOST 1048576: true; the input reads as it did. -/
def fnExactDiffCarriesUptoRow : OpenClaim := { program := "ythbmjmppmilbpaa", sum := "a0023b44f55049c7b29d38fcda4246dd7261dbb7389bd9aeb8eb46e18baed5a3", func := "loop.example/ringsofsteps/laws.FnExactDiffCarries", spec := "fnExactDiffCarries", unfollowed := true, recurses := true, apart := false, narrowed := true }
def FnExactDiffCarriesUptoSaid : Prop := fnExactDiffCarriesUptoRow.holds Try.pinned (OpenSpec.upto fnExactDiffCarriesSpec)

/-- 'laws.FnExactFreeWatch', WHERE WHAT IT READS IS OF BULK AT MOST 1048576: true; the input reads as it did. -/
def fnExactFreeWatchUptoRow : OpenClaim := { program := "ythbmjmppmilbpaa", sum := "a0023b44f55049c7b29d38fcda4246dd7261dbb7389bd9aeb8eb46e18baed5a3", func := "loop.example/ringsofsteps/laws.FnExactFreeWatch", spec := "fnExactFreeWatch", unfollowed := true, recurses := true, apart := false, narrowed := true }
def FnExactFreeWatchUptoSaid : Prop := fnExactFreeWatchUptoRow.holds Try.pinned (OpenSpec.upto fnExactFreeWatchSpec)

end Rows
end Go.Proofs.Ythbmjmppmilbpaa
