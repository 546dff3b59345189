/-
  No cell of these rows narrows 'for every input' (looked for: loops, veiled, ifaces, maps, wideKeys, modest, calm, conditions, laid).
  DERIVED. THE GIVEN ROWS OF THIS SEAT. 12 by the template 'for every input the law returns true; each argument reads behind the call as it read before'; 0 by the template 'total and deterministic' (their statements: YtfecjafnobgknaaTotals.lean).
  GIVEN WITH THE SEED: the statements are not yours to turn. If you find one false, say at which input.
  Laid BY PROGRAM, IN A SANDBOX (cutbox-rows.mjs): the forced cells as the released guide's own fill.sh prints them over the translation 5196c570b2dff518… (all of the seat's roots in one cut). By AI agents, Wed Nov 11 2026. No macro, syntax, notation, axiom, sorry.
-/
import Derived.Test.YtfecjafnobgknaaChecked
import GoSem.Claim
import GoSem.ClaimJoined
import GoSem.ClaimMapViews
import Derived.JoinedTies
import Derived.KernelRfl
namespace Go.Proofs.Ytfecjafnobgknaa
/- THE CELL 'sum', in the pinned program and in every row, IS THE sha256 OF THE DUMP (.gsa) THAT YtfecjafnobgknaaProg.lean LOADS. Nothing in Lean hashes anything: it is a label: what it is worth is what the hold of that sum in a sandbox is worth. -/
noncomputable def Try.pinned : Pinned := { name := "ytfecjafnobgknaa", sum := "5196c570b2dff518e60ec72e10cbd43cb1493e9eb898ea4c345785797623a724", checked := Try.checked }
namespace Rows
def none {H : Type} : Left H := { results := [], args := [] }

/-- 'laws.FnExactRingIn': WHATEVER THE INPUT: true; the input reads as it did. -/
def fnExactRingInSpec : ChangeSpec := { name := "fnExactRingIn", fn := fun _ => fun
  | [d1, d2] => { results := [.lit (.bool true)], args := [d1, d2] }
  | _ => none }
def fnExactRingInRow : OpenClaim := { program := "ytfecjafnobgknaa", sum := "5196c570b2dff518e60ec72e10cbd43cb1493e9eb898ea4c345785797623a724", func := "loop.example/ringsofsteps/laws.FnExactRingIn", spec := "fnExactRingIn", apart := false }
def FnExactRingInSaid : Prop := fnExactRingInRow.holds Try.pinned (OpenSpec.ofChange fnExactRingInSpec)

/-- ITS FALSE NEIGHBOUR: 'it returns false'. Refute it at one input. -/
def fnExactRingInWrong : ChangeSpec := { name := "fnExactRingIn", fn := fun _ => fun
  | [d1, d2] => { results := [.lit (.bool false)], args := [d1, d2] }
  | _ => none }
def FnExactRingInWrongFalsely : Prop := fnExactRingInRow.holds Try.pinned (OpenSpec.ofChange fnExactRingInWrong)

/-- 'laws.FnExactRingShift': WHATEVER THE INPUT: true; the input reads as it did. -/
def fnExactRingShiftSpec : ChangeSpec := { name := "fnExactRingShift", fn := fun _ => fun
  | [d1, d2, d3] => { results := [.lit (.bool true)], args := [d1, d2, d3] }
  | _ => none }
def fnExactRingShiftRow : OpenClaim := { program := "ytfecjafnobgknaa", sum := "5196c570b2dff518e60ec72e10cbd43cb1493e9eb898ea4c345785797623a724", func := "loop.example/ringsofsteps/laws.FnExactRingShift", spec := "fnExactRingShift", apart := false }
def FnExactRingShiftSaid : Prop := fnExactRingShiftRow.holds Try.pinned (OpenSpec.ofChange fnExactRingShiftSpec)

/-- ITS FALSE NEIGHBOUR: 'it returns false'. Refute it at one input. -/
def fnExactRingShiftWrong : ChangeSpec := { name := "fnExactRingShift", fn := fun _ => fun
  | [d1, d2, d3] => { results := [.lit (.bool false)], args := [d1, d2, d3] }
  | _ => none }
def FnExactRingShiftWrongFalsely : Prop := fnExactRingShiftRow.holds Try.pinned (OpenSpec.ofChange fnExactRingShiftWrong)

/-- 'laws.FnExactRingTurn': WHATEVER THE INPUT: true; the input reads as it did. -/
def fnExactRingTurnSpec : ChangeSpec := { name := "fnExactRingTurn", fn := fun _ => fun
  | [d1, d2, d3] => { results := [.lit (.bool true)], args := [d1, d2, d3] }
  | _ => none }
def fnExactRingTurnRow : OpenClaim := { program := "ytfecjafnobgknaa", sum := "5196c570b2dff518e60ec72e10cbd43cb1493e9eb898ea4c345785797623a724", func := "loop.example/ringsofsteps/laws.FnExactRingTurn", spec := "fnExactRingTurn", unfollowed := true, recurses := true, apart := false }
def FnExactRingTurnSaid : Prop := fnExactRingTurnRow.holds Try.pinned (OpenSpec.ofChange fnExactRingTurnSpec)

/-- ITS FALSE NEIGHBOUR: 'it returns false'. Refute it at one input. -/
def fnExactRingTurnWrong : ChangeSpec := { name := "fnExactRingTurn", fn := fun _ => fun
  | [d1, d2, d3] => { results := [.lit (.bool false)], args := [d1, d2, d3] }
  | _ => none }
def FnExactRingTurnWrongFalsely : Prop := fnExactRingTurnRow.holds Try.pinned (OpenSpec.ofChange fnExactRingTurnWrong)

/-- 'laws.FnExactRingSum': WHATEVER THE INPUT: true; the input reads as it did. -/
def fnExactRingSumSpec : ChangeSpec := { name := "fnExactRingSum", fn := fun _ => fun
  | [d1, d2, d3] => { results := [.lit (.bool true)], args := [d1, d2, d3] }
  | _ => none }
def fnExactRingSumRow : OpenClaim := { program := "ytfecjafnobgknaa", sum := "5196c570b2dff518e60ec72e10cbd43cb1493e9eb898ea4c345785797623a724", func := "loop.example/ringsofsteps/laws.FnExactRingSum", spec := "fnExactRingSum", unfollowed := true, recurses := true, apart := false }
def FnExactRingSumSaid : Prop := fnExactRingSumRow.holds Try.pinned (OpenSpec.ofChange fnExactRingSumSpec)

/-- ITS FALSE NEIGHBOUR: 'it returns false'. Refute it at one input. -/
def fnExactRingSumWrong : ChangeSpec := { name := "fnExactRingSum", fn := fun _ => fun
  | [d1, d2, d3] => { results := [.lit (.bool false)], args := [d1, d2, d3] }
  | _ => none }
def FnExactRingSumWrongFalsely : Prop := fnExactRingSumRow.holds Try.pinned (OpenSpec.ofChange fnExactRingSumWrong)

/-- 'laws.FnExactRingCounts': WHATEVER THE INPUT: true; the input reads as it did. -/
def fnExactRingCountsSpec : ChangeSpec := { name := "fnExactRingCounts", fn := fun _ => fun
  | [d1, d2, d3] => { results := [.lit (.bool true)], args := [d1, d2, d3] }
  | _ => none }
def fnExactRingCountsRow : OpenClaim := { program := "ytfecjafnobgknaa", sum := "5196c570b2dff518e60ec72e10cbd43cb1493e9eb898ea4c345785797623a724", func := "loop.example/ringsofsteps/laws.FnExactRingCounts", spec := "fnExactRingCounts", unfollowed := true, recurses := true, apart := false }
def FnExactRingCountsSaid : Prop := fnExactRingCountsRow.holds Try.pinned (OpenSpec.ofChange fnExactRingCountsSpec)

/-- ITS FALSE NEIGHBOUR: 'it returns false'. Refute it at one input. -/
def fnExactRingCountsWrong : ChangeSpec := { name := "fnExactRingCounts", fn := fun _ => fun
  | [d1, d2, d3] => { results := [.lit (.bool false)], args := [d1, d2, d3] }
  | _ => none }
def FnExactRingCountsWrongFalsely : Prop := fnExactRingCountsRow.holds Try.pinned (OpenSpec.ofChange fnExactRingCountsWrong)

/-- 'laws.FnExactRingMinus': WHATEVER THE INPUT: true; the input reads as it did. -/
def fnExactRingMinusSpec : ChangeSpec := { name := "fnExactRingMinus", fn := fun _ => fun
  | [d1, d2, d3] => { results := [.lit (.bool true)], args := [d1, d2, d3] }
  | _ => none }
def fnExactRingMinusRow : OpenClaim := { program := "ytfecjafnobgknaa", sum := "5196c570b2dff518e60ec72e10cbd43cb1493e9eb898ea4c345785797623a724", func := "loop.example/ringsofsteps/laws.FnExactRingMinus", spec := "fnExactRingMinus", unfollowed := true, recurses := true, apart := false }
def FnExactRingMinusSaid : Prop := fnExactRingMinusRow.holds Try.pinned (OpenSpec.ofChange fnExactRingMinusSpec)

/-- ITS FALSE NEIGHBOUR: 'it returns false'. Refute it at one input. -/
def fnExactRingMinusWrong : ChangeSpec := { name := "fnExactRingMinus", fn := fun _ => fun
  | [d1, d2, d3] => { results := [.lit (.bool false)], args := [d1, d2, d3] }
  | _ => none }
def FnExactRingMinusWrongFalsely : Prop := fnExactRingMinusRow.holds Try.pinned (OpenSpec.ofChange fnExactRingMinusWrong)

/-- 'laws.FnExactRingHolds': WHATEVER THE INPUT: true; the input reads as it did. -/
def fnExactRingHoldsSpec : ChangeSpec := { name := "fnExactRingHolds", fn := fun _ => fun
  | [d1, d2] => { results := [.lit (.bool true)], args := [d1, d2] }
  | _ => none }
def fnExactRingHoldsRow : OpenClaim := { program := "ytfecjafnobgknaa", sum := "5196c570b2dff518e60ec72e10cbd43cb1493e9eb898ea4c345785797623a724", func := "loop.example/ringsofsteps/laws.FnExactRingHolds", spec := "fnExactRingHolds", unfollowed := true, recurses := true, apart := false }
def FnExactRingHoldsSaid : Prop := fnExactRingHoldsRow.holds Try.pinned (OpenSpec.ofChange fnExactRingHoldsSpec)

/-- ITS FALSE NEIGHBOUR: 'it returns false'. Refute it at one input. -/
def fnExactRingHoldsWrong : ChangeSpec := { name := "fnExactRingHolds", fn := fun _ => fun
  | [d1, d2] => { results := [.lit (.bool false)], args := [d1, d2] }
  | _ => none }
def FnExactRingHoldsWrongFalsely : Prop := fnExactRingHoldsRow.holds Try.pinned (OpenSpec.ofChange fnExactRingHoldsWrong)

/-- 'laws.FnExactRingUnits': WHATEVER THE INPUT: true; the input reads as it did. -/
def fnExactRingUnitsSpec : ChangeSpec := { name := "fnExactRingUnits", fn := fun _ => fun
  | [d] => { results := [.lit (.bool true)], args := [d] }
  | _ => none }
def fnExactRingUnitsRow : OpenClaim := { program := "ytfecjafnobgknaa", sum := "5196c570b2dff518e60ec72e10cbd43cb1493e9eb898ea4c345785797623a724", func := "loop.example/ringsofsteps/laws.FnExactRingUnits", spec := "fnExactRingUnits", unfollowed := true, recurses := true, apart := false }
def FnExactRingUnitsSaid : Prop := fnExactRingUnitsRow.holds Try.pinned (OpenSpec.ofChange fnExactRingUnitsSpec)

/-- ITS FALSE NEIGHBOUR: 'it returns false'. Refute it at one input. -/
def fnExactRingUnitsWrong : ChangeSpec := { name := "fnExactRingUnits", fn := fun _ => fun
  | [d] => { results := [.lit (.bool false)], args := [d] }
  | _ => none }
def FnExactRingUnitsWrongFalsely : Prop := fnExactRingUnitsRow.holds Try.pinned (OpenSpec.ofChange fnExactRingUnitsWrong)

/-- 'laws.FnExactRingLeast': WHATEVER THE INPUT: true; the input reads as it did. -/
def fnExactRingLeastSpec : ChangeSpec := { name := "fnExactRingLeast", fn := fun _ => fun
  | [d1, d2] => { results := [.lit (.bool true)], args := [d1, d2] }
  | _ => none }
def fnExactRingLeastRow : OpenClaim := { program := "ytfecjafnobgknaa", sum := "5196c570b2dff518e60ec72e10cbd43cb1493e9eb898ea4c345785797623a724", func := "loop.example/ringsofsteps/laws.FnExactRingLeast", spec := "fnExactRingLeast", unfollowed := true, recurses := true, apart := false }
def FnExactRingLeastSaid : Prop := fnExactRingLeastRow.holds Try.pinned (OpenSpec.ofChange fnExactRingLeastSpec)

/-- ITS FALSE NEIGHBOUR: 'it returns false'. Refute it at one input. -/
def fnExactRingLeastWrong : ChangeSpec := { name := "fnExactRingLeast", fn := fun _ => fun
  | [d1, d2] => { results := [.lit (.bool false)], args := [d1, d2] }
  | _ => none }
def FnExactRingLeastWrongFalsely : Prop := fnExactRingLeastRow.holds Try.pinned (OpenSpec.ofChange fnExactRingLeastWrong)

/-- 'laws.FnExactRingAlike': WHATEVER THE INPUT: true; the input reads as it did. -/
def fnExactRingAlikeSpec : ChangeSpec := { name := "fnExactRingAlike", fn := fun _ => fun
  | [d1, d2, d3] => { results := [.lit (.bool true)], args := [d1, d2, d3] }
  | _ => none }
def fnExactRingAlikeRow : OpenClaim := { program := "ytfecjafnobgknaa", sum := "5196c570b2dff518e60ec72e10cbd43cb1493e9eb898ea4c345785797623a724", func := "loop.example/ringsofsteps/laws.FnExactRingAlike", spec := "fnExactRingAlike", unfollowed := true, recurses := true, apart := false }
def FnExactRingAlikeSaid : Prop := fnExactRingAlikeRow.holds Try.pinned (OpenSpec.ofChange fnExactRingAlikeSpec)

/-- ITS FALSE NEIGHBOUR: 'it returns false'. Refute it at one input. -/
def fnExactRingAlikeWrong : ChangeSpec := { name := "fnExactRingAlike", fn := fun _ => fun
  | [d1, d2, d3] => { results := [.lit (.bool false)], args := [d1, d2, d3] }
  | _ => none }
def FnExactRingAlikeWrongFalsely : Prop := fnExactRingAlikeRow.holds Try.pinned (OpenSpec.ofChange fnExactRingAlikeWrong)

/-- 'laws.FnExactRingFirst': WHATEVER THE INPUT: true; the input reads as it did. -/
def fnExactRingFirstSpec : ChangeSpec := { name := "fnExactRingFirst", fn := fun _ => fun
  | [d1, d2] => { results := [.lit (.bool true)], args := [d1, d2] }
  | _ => none }
def fnExactRingFirstRow : OpenClaim := { program := "ytfecjafnobgknaa", sum := "5196c570b2dff518e60ec72e10cbd43cb1493e9eb898ea4c345785797623a724", func := "loop.example/ringsofsteps/laws.FnExactRingFirst", spec := "fnExactRingFirst", unfollowed := true, recurses := true, apart := false }
def FnExactRingFirstSaid : Prop := fnExactRingFirstRow.holds Try.pinned (OpenSpec.ofChange fnExactRingFirstSpec)

/-- ITS FALSE NEIGHBOUR: 'it returns false'. Refute it at one input. -/
def fnExactRingFirstWrong : ChangeSpec := { name := "fnExactRingFirst", fn := fun _ => fun
  | [d1, d2] => { results := [.lit (.bool false)], args := [d1, d2] }
  | _ => none }
def FnExactRingFirstWrongFalsely : Prop := fnExactRingFirstRow.holds Try.pinned (OpenSpec.ofChange fnExactRingFirstWrong)

/-- 'laws.FnExactRingClasses': WHATEVER THE INPUT: true; the input reads as it did. -/
def fnExactRingClassesSpec : ChangeSpec := { name := "fnExactRingClasses", fn := fun _ => fun
  | [d] => { results := [.lit (.bool true)], args := [d] }
  | _ => none }
def fnExactRingClassesRow : OpenClaim := { program := "ytfecjafnobgknaa", sum := "5196c570b2dff518e60ec72e10cbd43cb1493e9eb898ea4c345785797623a724", func := "loop.example/ringsofsteps/laws.FnExactRingClasses", spec := "fnExactRingClasses", unfollowed := true, recurses := true, apart := false }
def FnExactRingClassesSaid : Prop := fnExactRingClassesRow.holds Try.pinned (OpenSpec.ofChange fnExactRingClassesSpec)

/-- ITS FALSE NEIGHBOUR: 'it returns false'. Refute it at one input. -/
def fnExactRingClassesWrong : ChangeSpec := { name := "fnExactRingClasses", fn := fun _ => fun
  | [d] => { results := [.lit (.bool false)], args := [d] }
  | _ => none }
def FnExactRingClassesWrongFalsely : Prop := fnExactRingClassesRow.holds Try.pinned (OpenSpec.ofChange fnExactRingClassesWrong)

/- THE SECOND FORM. 'bulk': how many values and letters a reading holds, each counted each time it is reached (what is shared counts as often as it is met; a slice's spare places count too). A statement '..UptoSaid' is the law's where the arguments, and the package variables that the reading takes, are together of bulk at most 1048576: NARROWER than '..Said'. Prove '..Said' where nothing that the law and all that it calls make is longer than what came in: it says more and counts as full. Else prove '..UptoSaid'. A law counts once. -/
mutual
def uptoBulk {H : Type} : DataW H → Nat
  | .lit (.string bytes) => bytes.length + 1
  | .lit _ => 1
  | .nil => 1
  | .ptr d => uptoBulk d + 1
  | .slice elems spare => uptoBulkAll elems + uptoBulkAll spare + 1
  | .agg parts => uptoBulkAll parts + 1
  | .iface _ d => uptoBulk d + 1
  | .map entries => uptoBulkEntries entries + 1
  | .held _ => 1
def uptoBulkAll {H : Type} : List (DataW H) → Nat
  | [] => 0
  | d :: r => uptoBulk d + uptoBulkAll r
def uptoBulkEntries {H : Type} : List (Lit × DataW H) → Nat
  | [] => 0
  | x :: r => uptoBulkEntry x + uptoBulkEntries r
def uptoBulkEntry {H : Type} : Lit × DataW H → Nat
  | (.string bytes, d) => bytes.length + uptoBulk d + 1
  | (_, d) => uptoBulk d + 1
 end
def uptoSmall : (H : Type) → List (DataW H) → Bool := fun _ ds => decide (uptoBulkAll ds ≤ 1048576)
def OpenSpec.upto (s : _root_.Go.ChangeSpec) : _root_.Go.OpenSpec := { _root_.Go.OpenSpec.ofChange s with cond := some uptoSmall }

/-- 'laws.FnExactRingIn', WHERE WHAT IT READS IS OF BULK AT MOST 1048576: true; the input reads as it did. -/
def fnExactRingInUptoRow : OpenClaim := { program := "ytfecjafnobgknaa", sum := "5196c570b2dff518e60ec72e10cbd43cb1493e9eb898ea4c345785797623a724", func := "loop.example/ringsofsteps/laws.FnExactRingIn", spec := "fnExactRingIn", apart := false, narrowed := true }
def FnExactRingInUptoSaid : Prop := fnExactRingInUptoRow.holds Try.pinned (OpenSpec.upto fnExactRingInSpec)

/-- 'laws.FnExactRingShift', WHERE WHAT IT READS IS OF BULK AT MOST 1048576: true; the input reads as it did. -/
def fnExactRingShiftUptoRow : OpenClaim := { program := "ytfecjafnobgknaa", sum := "5196c570b2dff518e60ec72e10cbd43cb1493e9eb898ea4c345785797623a724", func := "loop.example/ringsofsteps/laws.FnExactRingShift", spec := "fnExactRingShift", apart := false, narrowed := true }
def FnExactRingShiftUptoSaid : Prop := fnExactRingShiftUptoRow.holds Try.pinned (OpenSpec.upto fnExactRingShiftSpec)

/-- 'laws.FnExactRingTurn', WHERE WHAT IT READS IS OF BULK AT MOST 1048576: true; the input reads as it did. -/
def fnExactRingTurnUptoRow : OpenClaim := { program := "ytfecjafnobgknaa", sum := "5196c570b2dff518e60ec72e10cbd43cb1493e9eb898ea4c345785797623a724", func := "loop.example/ringsofsteps/laws.FnExactRingTurn", spec := "fnExactRingTurn", unfollowed := true, recurses := true, apart := false, narrowed := true }
def FnExactRingTurnUptoSaid : Prop := fnExactRingTurnUptoRow.holds Try.pinned (OpenSpec.upto fnExactRingTurnSpec)

/-- 'laws.FnExactRingSum', WHERE WHAT IT READS IS OF BULK AT MOST 1048576: true; the input reads as it did. -/
def fnExactRingSumUptoRow : OpenClaim := { program := "ytfecjafnobgknaa", sum := "5196c570b2dff518e60ec72e10cbd43cb1493e9eb898ea4c345785797623a724", func := "loop.example/ringsofsteps/laws.FnExactRingSum", spec := "fnExactRingSum", unfollowed := true, recurses := true, apart := false, narrowed := true }
def FnExactRingSumUptoSaid : Prop := fnExactRingSumUptoRow.holds Try.pinned (OpenSpec.upto fnExactRingSumSpec)

/-- 'laws.FnExactRingCounts', WHERE WHAT IT READS IS OF BULK AT MOST 1048576: true; the input reads as it did. -/
def fnExactRingCountsUptoRow : OpenClaim := { program := "ytfecjafnobgknaa", sum := "5196c570b2dff518e60ec72e10cbd43cb1493e9eb898ea4c345785797623a724", func := "loop.example/ringsofsteps/laws.FnExactRingCounts", spec := "fnExactRingCounts", unfollowed := true, recurses := true, apart := false, narrowed := true }
def FnExactRingCountsUptoSaid : Prop := fnExactRingCountsUptoRow.holds Try.pinned (OpenSpec.upto fnExactRingCountsSpec)

/-- 'laws.FnExactRingMinus', WHERE WHAT IT READS IS OF BULK AT MOST 1048576: true; the input reads as it did. -/
def fnExactRingMinusUptoRow : OpenClaim := { program := "ytfecjafnobgknaa", sum := "5196c570b2dff518e60ec72e10cbd43cb1493e9eb898ea4c345785797623a724", func := "loop.example/ringsofsteps/laws.FnExactRingMinus", spec := "fnExactRingMinus", unfollowed := true, recurses := true, apart := false, narrowed := true }
def FnExactRingMinusUptoSaid : Prop := fnExactRingMinusUptoRow.holds Try.pinned (OpenSpec.upto fnExactRingMinusSpec)

/-- 'laws.FnExactRingHolds', WHERE WHAT IT READS IS OF BULK AT MOST 1048576: true; the input reads as it did. -/
def fnExactRingHoldsUptoRow : OpenClaim := { program := "ytfecjafnobgknaa", sum := "5196c570b2dff518e60ec72e10cbd43cb1493e9eb898ea4c345785797623a724", func := "loop.example/ringsofsteps/laws.FnExactRingHolds", spec := "fnExactRingHolds", unfollowed := true, recurses := true, apart := false, narrowed := true }
def FnExactRingHoldsUptoSaid : Prop := fnExactRingHoldsUptoRow.holds Try.pinned (OpenSpec.upto fnExactRingHoldsSpec)

/-- 'laws.FnExactRingUnits', WHERE WHAT IT READS IS OF BULK AT MOST 1048576: true; the input reads as it did. -/
def fnExactRingUnitsUptoRow : OpenClaim := { program := "ytfecjafnobgknaa", sum := "5196c570b2dff518e60ec72e10cbd43cb1493e9eb898ea4c345785797623a724", func := "loop.example/ringsofsteps/laws.FnExactRingUnits", spec := "fnExactRingUnits", unfollowed := true, recurses := true, apart := false, narrowed := true }
def FnExactRingUnitsUptoSaid : Prop := fnExactRingUnitsUptoRow.holds Try.pinned (OpenSpec.upto fnExactRingUnitsSpec)

/-- 'laws.FnExactRingLeast', WHERE WHAT IT READS IS OF BULK AT MOST 1048576: true; the input reads as it did. -/
def fnExactRingLeastUptoRow : OpenClaim := { program := "ytfecjafnobgknaa", sum := "5196c570b2dff518e60ec72e10cbd43cb1493e9eb898ea4c345785797623a724", func := "loop.example/ringsofsteps/laws.FnExactRingLeast", spec := "fnExactRingLeast", unfollowed := true, recurses := true, apart := false, narrowed := true }
def FnExactRingLeastUptoSaid : Prop := fnExactRingLeastUptoRow.holds Try.pinned (OpenSpec.upto fnExactRingLeastSpec)

/-- 'laws.FnExactRingAlike', WHERE WHAT IT READS IS OF BULK AT MOST 1048576: true; the input reads as it did. -/
def fnExactRingAlikeUptoRow : OpenClaim := { program := "ytfecjafnobgknaa", sum := "5196c570b2dff518e60ec72e10cbd43cb1493e9eb898ea4c345785797623a724", func := "loop.example/ringsofsteps/laws.FnExactRingAlike", spec := "fnExactRingAlike", unfollowed := true, recurses := true, apart := false, narrowed := true }
def FnExactRingAlikeUptoSaid : Prop := fnExactRingAlikeUptoRow.holds Try.pinned (OpenSpec.upto fnExactRingAlikeSpec)

/-- 'laws.FnExactRingFirst', WHERE WHAT IT READS IS OF BULK AT MOST 1048576: true; the input reads as it did. -/
def fnExactRingFirstUptoRow : OpenClaim := { program := "ytfecjafnobgknaa", sum := "5196c570b2dff518e60ec72e10cbd43cb1493e9eb898ea4c345785797623a724", func := "loop.example/ringsofsteps/laws.FnExactRingFirst", spec := "fnExactRingFirst", unfollowed := true, recurses := true, apart := false, narrowed := true }
def FnExactRingFirstUptoSaid : Prop := fnExactRingFirstUptoRow.holds Try.pinned (OpenSpec.upto fnExactRingFirstSpec)

/-- 'laws.FnExactRingClasses', WHERE WHAT IT READS IS OF BULK AT MOST 1048576: true; the input reads as it did. -/
def fnExactRingClassesUptoRow : OpenClaim := { program := "ytfecjafnobgknaa", sum := "5196c570b2dff518e60ec72e10cbd43cb1493e9eb898ea4c345785797623a724", func := "loop.example/ringsofsteps/laws.FnExactRingClasses", spec := "fnExactRingClasses", unfollowed := true, recurses := true, apart := false, narrowed := true }
def FnExactRingClassesUptoSaid : Prop := fnExactRingClassesUptoRow.holds Try.pinned (OpenSpec.upto fnExactRingClassesSpec)

end Rows
end Go.Proofs.Ytfecjafnobgknaa
