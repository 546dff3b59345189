/-
  No cell of these rows narrows 'for every input' (looked for: loops, veiled, ifaces, maps, wideKeys, modest, calm, conditions, laid).
  DERIVED. THE GIVEN ROWS OF THIS SEAT. 5 by the template 'for every input the law returns true; each argument reads behind the call as it read before'; 0 by the template 'total and deterministic' (their statements: YtkddaecfljiehaaTotals.lean).
  GIVEN WITH THE SEED: the statements are not yours to turn. If you find one false, say at which input.
  Laid BY PROGRAM, IN A SANDBOX (cutbox-rows.mjs): the forced cells as the released guide's own fill.sh prints them over the translation c9a6e57085adcfec… (all of the seat's roots in one cut). By AI agents, Wed Nov 11 2026. No macro, syntax, notation, axiom, sorry.
-/
import Derived.Test.YtkddaecfljiehaaChecked
import GoSem.Claim
import GoSem.ClaimJoined
import GoSem.ClaimMapViews
import Derived.JoinedTies
import Derived.KernelRfl
namespace Go.Proofs.Ytkddaecfljiehaa
/- THE CELL 'sum', in the pinned program and in every row, IS THE sha256 OF THE DUMP (.gsa) THAT YtkddaecfljiehaaProg.lean LOADS. Nothing in Lean hashes anything: it is a label: what it is worth is what the hold of that sum in a sandbox is worth. -/
noncomputable def Try.pinned : Pinned := { name := "ytkddaecfljiehaa", sum := "c9a6e57085adcfecb67a06d9b7835c451287c86cbbdf3bd540c3aa5f7681e168", checked := Try.checked }
namespace Rows
def none {H : Type} : Left H := { results := [], args := [] }

/-- 'laws.FnDavenport': WHATEVER THE INPUT: true; the input reads as it did. -/
def fnDavenportSpec : ChangeSpec := { name := "fnDavenport", fn := fun _ => fun
  | [d] => { results := [.lit (.bool true)], args := [d] }
  | _ => none }
def fnDavenportRow : OpenClaim := { program := "ytkddaecfljiehaa", sum := "c9a6e57085adcfecb67a06d9b7835c451287c86cbbdf3bd540c3aa5f7681e168", func := "loop.example/ringsofsteps/laws.FnDavenport", spec := "fnDavenport", unfollowed := true, recurses := true, apart := false }
def FnDavenportSaid : Prop := fnDavenportRow.holds Try.pinned (OpenSpec.ofChange fnDavenportSpec)

/-- ITS FALSE NEIGHBOUR: 'it returns false'. Refute it at one input. -/
def fnDavenportWrong : ChangeSpec := { name := "fnDavenport", fn := fun _ => fun
  | [d] => { results := [.lit (.bool false)], args := [d] }
  | _ => none }
def FnDavenportWrongFalsely : Prop := fnDavenportRow.holds Try.pinned (OpenSpec.ofChange fnDavenportWrong)

/-- 'laws.FnZeroSum': WHATEVER THE INPUT: true; the input reads as it did. -/
def fnZeroSumSpec : ChangeSpec := { name := "fnZeroSum", fn := fun _ => fun
  | [d] => { results := [.lit (.bool true)], args := [d] }
  | _ => none }
def fnZeroSumRow : OpenClaim := { program := "ytkddaecfljiehaa", sum := "c9a6e57085adcfecb67a06d9b7835c451287c86cbbdf3bd540c3aa5f7681e168", func := "loop.example/ringsofsteps/laws.FnZeroSum", spec := "fnZeroSum", apart := false }
def FnZeroSumSaid : Prop := fnZeroSumRow.holds Try.pinned (OpenSpec.ofChange fnZeroSumSpec)

/-- ITS FALSE NEIGHBOUR: 'it returns false'. Refute it at one input. -/
def fnZeroSumWrong : ChangeSpec := { name := "fnZeroSum", fn := fun _ => fun
  | [d] => { results := [.lit (.bool false)], args := [d] }
  | _ => none }
def FnZeroSumWrongFalsely : Prop := fnZeroSumRow.holds Try.pinned (OpenSpec.ofChange fnZeroSumWrong)

/-- 'laws.FnZeroLeast': WHATEVER THE INPUT: true; the input reads as it did. -/
def fnZeroLeastSpec : ChangeSpec := { name := "fnZeroLeast", fn := fun _ => fun
  | [d] => { results := [.lit (.bool true)], args := [d] }
  | _ => none }
def fnZeroLeastRow : OpenClaim := { program := "ytkddaecfljiehaa", sum := "c9a6e57085adcfecb67a06d9b7835c451287c86cbbdf3bd540c3aa5f7681e168", func := "loop.example/ringsofsteps/laws.FnZeroLeast", spec := "fnZeroLeast", unfollowed := true, recurses := true, apart := false }
def FnZeroLeastSaid : Prop := fnZeroLeastRow.holds Try.pinned (OpenSpec.ofChange fnZeroLeastSpec)

/-- ITS FALSE NEIGHBOUR: 'it returns false'. Refute it at one input. -/
def fnZeroLeastWrong : ChangeSpec := { name := "fnZeroLeast", fn := fun _ => fun
  | [d] => { results := [.lit (.bool false)], args := [d] }
  | _ => none }
def FnZeroLeastWrongFalsely : Prop := fnZeroLeastRow.holds Try.pinned (OpenSpec.ofChange fnZeroLeastWrong)

/-- 'laws.FnCountsMore': WHATEVER THE INPUT: true; the input reads as it did. -/
def fnCountsMoreSpec : ChangeSpec := { name := "fnCountsMore", fn := fun _ => fun
  | [d] => { results := [.lit (.bool true)], args := [d] }
  | _ => none }
def fnCountsMoreRow : OpenClaim := { program := "ytkddaecfljiehaa", sum := "c9a6e57085adcfecb67a06d9b7835c451287c86cbbdf3bd540c3aa5f7681e168", func := "loop.example/ringsofsteps/laws.FnCountsMore", spec := "fnCountsMore", unfollowed := true, recurses := true, apart := false }
def FnCountsMoreSaid : Prop := fnCountsMoreRow.holds Try.pinned (OpenSpec.ofChange fnCountsMoreSpec)

/-- ITS FALSE NEIGHBOUR: 'it returns false'. Refute it at one input. -/
def fnCountsMoreWrong : ChangeSpec := { name := "fnCountsMore", fn := fun _ => fun
  | [d] => { results := [.lit (.bool false)], args := [d] }
  | _ => none }
def FnCountsMoreWrongFalsely : Prop := fnCountsMoreRow.holds Try.pinned (OpenSpec.ofChange fnCountsMoreWrong)

/-- 'laws.FnZeroCounts': WHATEVER THE INPUT: true; the input reads as it did. -/
def fnZeroCountsSpec : ChangeSpec := { name := "fnZeroCounts", fn := fun _ => fun
  | [d] => { results := [.lit (.bool true)], args := [d] }
  | _ => none }
def fnZeroCountsRow : OpenClaim := { program := "ytkddaecfljiehaa", sum := "c9a6e57085adcfecb67a06d9b7835c451287c86cbbdf3bd540c3aa5f7681e168", func := "loop.example/ringsofsteps/laws.FnZeroCounts", spec := "fnZeroCounts", unfollowed := true, recurses := true, apart := false }
def FnZeroCountsSaid : Prop := fnZeroCountsRow.holds Try.pinned (OpenSpec.ofChange fnZeroCountsSpec)

/-- ITS FALSE NEIGHBOUR: 'it returns false'. Refute it at one input. -/
def fnZeroCountsWrong : ChangeSpec := { name := "fnZeroCounts", fn := fun _ => fun
  | [d] => { results := [.lit (.bool false)], args := [d] }
  | _ => none }
def FnZeroCountsWrongFalsely : Prop := fnZeroCountsRow.holds Try.pinned (OpenSpec.ofChange fnZeroCountsWrong)

/- THE SECOND FORM. 'bulk': how many values and letters a reading holds, each counted each time it is reached (what is shared counts as often as it is met; a slice's spare places count too). A statement '..UptoSaid' is the law's where the arguments, and the package variables that the reading takes, are together of bulk at most 1048576: NARROWER than '..Said'. Prove '..Said' where nothing that the law and all that it calls make is longer than what came in: it says more and counts as full. Else prove '..UptoSaid'. A law counts once. -/
mutual
def uptoBulk {H : Type} : DataW H → Nat
  | .lit (.string bytes) => bytes.length + 1
  | .lit _ => 1
  | .nil => 1
  | .ptr d => uptoBulk d + 1
  | .slice elems spare => uptoBulkAll elems + uptoBulkAll spare + 1
  | .agg parts => uptoBulkAll parts + 1
  | .iface _ d => uptoBulk d + 1
  | .map entries => uptoBulkEntries entries + 1
  | .held _ => 1
def uptoBulkAll {H : Type} : List (DataW H) → Nat
  | [] => 0
  | d :: r => uptoBulk d + uptoBulkAll r
def uptoBulkEntries {H : Type} : List (Lit × DataW H) → Nat
  | [] => 0
  | x :: r => uptoBulkEntry x + uptoBulkEntries r
def uptoBulkEntry {H : Type} : Lit × DataW H → Nat
  | (.string bytes, d) => bytes.length + uptoBulk d + 1
  | (_, d) => uptoBulk d + 1
 end
def uptoSmall : (H : Type) → List (DataW H) → Bool := fun _ ds => decide (uptoBulkAll ds ≤ 1048576)
def OpenSpec.upto (s : _root_.Go.ChangeSpec) : _root_.Go.OpenSpec := { _root_.Go.OpenSpec.ofChange s with cond := some uptoSmall }

/-- 'laws.FnDavenport', WHERE WHAT IT READS IS OF BULK AT MOST 1048576: true; the input reads as it did. -/
def fnDavenportUptoRow : OpenClaim := { program := "ytkddaecfljiehaa", sum := "c9a6e57085adcfecb67a06d9b7835c451287c86cbbdf3bd540c3aa5f7681e168", func := "loop.example/ringsofsteps/laws.FnDavenport", spec := "fnDavenport", unfollowed := true, recurses := true, apart := false, narrowed := true }
def FnDavenportUptoSaid : Prop := fnDavenportUptoRow.holds Try.pinned (OpenSpec.upto fnDavenportSpec)

/-- 'laws.FnZeroSum', WHERE WHAT IT READS IS OF BULK AT MOST 1048576: true; the input reads as it did. -/
def fnZeroSumUptoRow : OpenClaim := { program := "ytkddaecfljiehaa", sum := "c9a6e57085adcfecb67a06d9b7835c451287c86cbbdf3bd540c3aa5f7681e168", func := "loop.example/ringsofsteps/laws.FnZeroSum", spec := "fnZeroSum", apart := false, narrowed := true }
def FnZeroSumUptoSaid : Prop := fnZeroSumUptoRow.holds Try.pinned (OpenSpec.upto fnZeroSumSpec)

/-- 'laws.FnZeroLeast', WHERE WHAT IT READS IS OF BULK AT MOST 1048576: true; the input reads as it did. -/
def fnZeroLeastUptoRow : OpenClaim := { program := "ytkddaecfljiehaa", sum := "c9a6e57085adcfecb67a06d9b7835c451287c86cbbdf3bd540c3aa5f7681e168", func := "loop.example/ringsofsteps/laws.FnZeroLeast", spec := "fnZeroLeast", unfollowed := true, recurses := true, apart := false, narrowed := true }
def FnZeroLeastUptoSaid : Prop := fnZeroLeastUptoRow.holds Try.pinned (OpenSpec.upto fnZeroLeastSpec)

/-- 'laws.FnCountsMore', WHERE WHAT IT READS IS OF BULK AT MOST 1048576: true; the input reads as it did. -/
def fnCountsMoreUptoRow : OpenClaim := { program := "ytkddaecfljiehaa", sum := "c9a6e57085adcfecb67a06d9b7835c451287c86cbbdf3bd540c3aa5f7681e168", func := "loop.example/ringsofsteps/laws.FnCountsMore", spec := "fnCountsMore", unfollowed := true, recurses := true, apart := false, narrowed := true }
def FnCountsMoreUptoSaid : Prop := fnCountsMoreUptoRow.holds Try.pinned (OpenSpec.upto fnCountsMoreSpec)

/-- 'laws.FnZeroCounts', WHERE WHAT IT READS IS OF BULK AT MOST 1048576: true; the input reads as it did. -/
def fnZeroCountsUptoRow : OpenClaim := { program := "ytkddaecfljiehaa", sum := "c9a6e57085adcfecb67a06d9b7835c451287c86cbbdf3bd540c3aa5f7681e168", func := "loop.example/ringsofsteps/laws.FnZeroCounts", spec := "fnZeroCounts", unfollowed := true, recurses := true, apart := false, narrowed := true }
def FnZeroCountsUptoSaid : Prop := fnZeroCountsUptoRow.holds Try.pinned (OpenSpec.upto fnZeroCountsSpec)

end Rows
end Go.Proofs.Ytkddaecfljiehaa
