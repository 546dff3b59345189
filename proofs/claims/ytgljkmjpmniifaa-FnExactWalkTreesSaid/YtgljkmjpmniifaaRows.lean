/-
  No cell of these rows narrows 'for every input' (looked for: loops, veiled, ifaces, maps, wideKeys, modest, calm, conditions, laid).
  DERIVED. THE GIVEN ROWS OF THIS SEAT. 7 by the template 'for every input the law returns true; each argument reads behind the call as it read before'; 0 by the template 'total and deterministic' (their statements: YtgljkmjpmniifaaTotals.lean).
  GIVEN WITH THE SEED: the statements are not yours to turn. If you find one false, say at which input.
  Laid BY PROGRAM, IN A SANDBOX (cutbox-rows.mjs): the forced cells as the released guide's own fill.sh prints them over the translation afabca1d015996f1… (all of the seat's roots in one cut). By AI agents, Wed Nov 11 2026. No macro, syntax, notation, axiom, sorry.
-/
import Derived.Test.YtgljkmjpmniifaaChecked
import GoSem.Claim
import GoSem.ClaimJoined
import GoSem.ClaimMapViews
import Derived.JoinedTies
import Derived.KernelRfl
namespace Go.Proofs.Ytgljkmjpmniifaa
/- THE CELL 'sum', in the pinned program and in every row, IS THE sha256 OF THE DUMP (.gsa) THAT YtgljkmjpmniifaaProg.lean LOADS. Nothing in Lean hashes anything: it is a label: what it is worth is what the hold of that sum in a sandbox is worth. -/
noncomputable def Try.pinned : Pinned := { name := "ytgljkmjpmniifaa", sum := "afabca1d015996f19694691729562ef4ff48f07bda5bbc7a08968f7fc569150f", checked := Try.checked }
namespace Rows
def none {H : Type} : Left H := { results := [], args := [] }

/-- 'laws.FnExactWalkCounts': WHATEVER THE INPUT: true; the input reads as it did. -/
def fnExactWalkCountsSpec : ChangeSpec := { name := "fnExactWalkCounts", fn := fun _ => fun
  | [d1, d2, d3] => { results := [.lit (.bool true)], args := [d1, d2, d3] }
  | _ => none }
def fnExactWalkCountsRow : OpenClaim := { program := "ytgljkmjpmniifaa", sum := "afabca1d015996f19694691729562ef4ff48f07bda5bbc7a08968f7fc569150f", func := "loop.example/ringsofsteps/laws.FnExactWalkCounts", spec := "fnExactWalkCounts", unfollowed := true, recurses := true, apart := false }
def FnExactWalkCountsSaid : Prop := fnExactWalkCountsRow.holds Try.pinned (OpenSpec.ofChange fnExactWalkCountsSpec)

/-- ITS FALSE NEIGHBOUR: 'it returns false'. Refute it at one input. -/
def fnExactWalkCountsWrong : ChangeSpec := { name := "fnExactWalkCounts", fn := fun _ => fun
  | [d1, d2, d3] => { results := [.lit (.bool false)], args := [d1, d2, d3] }
  | _ => none }
def FnExactWalkCountsWrongFalsely : Prop := fnExactWalkCountsRow.holds Try.pinned (OpenSpec.ofChange fnExactWalkCountsWrong)

/-- 'laws.FnExactWalkClosed': WHATEVER THE INPUT: true; the input reads as it did. -/
def fnExactWalkClosedSpec : ChangeSpec := { name := "fnExactWalkClosed", fn := fun _ => fun
  | [d1, d2, d3] => { results := [.lit (.bool true)], args := [d1, d2, d3] }
  | _ => none }
def fnExactWalkClosedRow : OpenClaim := { program := "ytgljkmjpmniifaa", sum := "afabca1d015996f19694691729562ef4ff48f07bda5bbc7a08968f7fc569150f", func := "loop.example/ringsofsteps/laws.FnExactWalkClosed", spec := "fnExactWalkClosed", unfollowed := true, recurses := true, apart := false }
def FnExactWalkClosedSaid : Prop := fnExactWalkClosedRow.holds Try.pinned (OpenSpec.ofChange fnExactWalkClosedSpec)

/-- ITS FALSE NEIGHBOUR: 'it returns false'. Refute it at one input. -/
def fnExactWalkClosedWrong : ChangeSpec := { name := "fnExactWalkClosed", fn := fun _ => fun
  | [d1, d2, d3] => { results := [.lit (.bool false)], args := [d1, d2, d3] }
  | _ => none }
def FnExactWalkClosedWrongFalsely : Prop := fnExactWalkClosedRow.holds Try.pinned (OpenSpec.ofChange fnExactWalkClosedWrong)

/-- 'laws.FnExactWalkSet': WHATEVER THE INPUT: true; the input reads as it did. -/
def fnExactWalkSetSpec : ChangeSpec := { name := "fnExactWalkSet", fn := fun _ => fun
  | [d1, d2, d3] => { results := [.lit (.bool true)], args := [d1, d2, d3] }
  | _ => none }
def fnExactWalkSetRow : OpenClaim := { program := "ytgljkmjpmniifaa", sum := "afabca1d015996f19694691729562ef4ff48f07bda5bbc7a08968f7fc569150f", func := "loop.example/ringsofsteps/laws.FnExactWalkSet", spec := "fnExactWalkSet", unfollowed := true, recurses := true, apart := false }
def FnExactWalkSetSaid : Prop := fnExactWalkSetRow.holds Try.pinned (OpenSpec.ofChange fnExactWalkSetSpec)

/-- ITS FALSE NEIGHBOUR: 'it returns false'. Refute it at one input. -/
def fnExactWalkSetWrong : ChangeSpec := { name := "fnExactWalkSet", fn := fun _ => fun
  | [d1, d2, d3] => { results := [.lit (.bool false)], args := [d1, d2, d3] }
  | _ => none }
def FnExactWalkSetWrongFalsely : Prop := fnExactWalkSetRow.holds Try.pinned (OpenSpec.ofChange fnExactWalkSetWrong)

/-- 'laws.FnExactWalkFull': WHATEVER THE INPUT: true; the input reads as it did. -/
def fnExactWalkFullSpec : ChangeSpec := { name := "fnExactWalkFull", fn := fun _ => fun
  | [d1, d2] => { results := [.lit (.bool true)], args := [d1, d2] }
  | _ => none }
def fnExactWalkFullRow : OpenClaim := { program := "ytgljkmjpmniifaa", sum := "afabca1d015996f19694691729562ef4ff48f07bda5bbc7a08968f7fc569150f", func := "loop.example/ringsofsteps/laws.FnExactWalkFull", spec := "fnExactWalkFull", unfollowed := true, recurses := true, apart := false }
def FnExactWalkFullSaid : Prop := fnExactWalkFullRow.holds Try.pinned (OpenSpec.ofChange fnExactWalkFullSpec)

/-- ITS FALSE NEIGHBOUR: 'it returns false'. Refute it at one input. -/
def fnExactWalkFullWrong : ChangeSpec := { name := "fnExactWalkFull", fn := fun _ => fun
  | [d1, d2] => { results := [.lit (.bool false)], args := [d1, d2] }
  | _ => none }
def FnExactWalkFullWrongFalsely : Prop := fnExactWalkFullRow.holds Try.pinned (OpenSpec.ofChange fnExactWalkFullWrong)

/-- 'laws.FnExactWalkTurns': WHATEVER THE INPUT: true; the input reads as it did. -/
def fnExactWalkTurnsSpec : ChangeSpec := { name := "fnExactWalkTurns", fn := fun _ => fun
  | [d1, d2] => { results := [.lit (.bool true)], args := [d1, d2] }
  | _ => none }
def fnExactWalkTurnsRow : OpenClaim := { program := "ytgljkmjpmniifaa", sum := "afabca1d015996f19694691729562ef4ff48f07bda5bbc7a08968f7fc569150f", func := "loop.example/ringsofsteps/laws.FnExactWalkTurns", spec := "fnExactWalkTurns", unfollowed := true, recurses := true, apart := false }
def FnExactWalkTurnsSaid : Prop := fnExactWalkTurnsRow.holds Try.pinned (OpenSpec.ofChange fnExactWalkTurnsSpec)

/-- ITS FALSE NEIGHBOUR: 'it returns false'. Refute it at one input. -/
def fnExactWalkTurnsWrong : ChangeSpec := { name := "fnExactWalkTurns", fn := fun _ => fun
  | [d1, d2] => { results := [.lit (.bool false)], args := [d1, d2] }
  | _ => none }
def FnExactWalkTurnsWrongFalsely : Prop := fnExactWalkTurnsRow.holds Try.pinned (OpenSpec.ofChange fnExactWalkTurnsWrong)

/-- 'laws.FnExactWalkTrees': WHATEVER THE INPUT: true; the input reads as it did. -/
def fnExactWalkTreesSpec : ChangeSpec := { name := "fnExactWalkTrees", fn := fun _ => fun
  | [d1, d2] => { results := [.lit (.bool true)], args := [d1, d2] }
  | _ => none }
def fnExactWalkTreesRow : OpenClaim := { program := "ytgljkmjpmniifaa", sum := "afabca1d015996f19694691729562ef4ff48f07bda5bbc7a08968f7fc569150f", func := "loop.example/ringsofsteps/laws.FnExactWalkTrees", spec := "fnExactWalkTrees", unfollowed := true, recurses := true, apart := false }
def FnExactWalkTreesSaid : Prop := fnExactWalkTreesRow.holds Try.pinned (OpenSpec.ofChange fnExactWalkTreesSpec)

/-- ITS FALSE NEIGHBOUR: 'it returns false'. Refute it at one input. -/
def fnExactWalkTreesWrong : ChangeSpec := { name := "fnExactWalkTrees", fn := fun _ => fun
  | [d1, d2] => { results := [.lit (.bool false)], args := [d1, d2] }
  | _ => none }
def FnExactWalkTreesWrongFalsely : Prop := fnExactWalkTreesRow.holds Try.pinned (OpenSpec.ofChange fnExactWalkTreesWrong)

/-- 'laws.FnExactWalkSquares': WHATEVER THE INPUT: true; the input reads as it did. -/
def fnExactWalkSquaresSpec : ChangeSpec := { name := "fnExactWalkSquares", fn := fun _ => fun
  | [d1, d2, d3] => { results := [.lit (.bool true)], args := [d1, d2, d3] }
  | _ => none }
def fnExactWalkSquaresRow : OpenClaim := { program := "ytgljkmjpmniifaa", sum := "afabca1d015996f19694691729562ef4ff48f07bda5bbc7a08968f7fc569150f", func := "loop.example/ringsofsteps/laws.FnExactWalkSquares", spec := "fnExactWalkSquares", unfollowed := true, recurses := true, apart := false }
def FnExactWalkSquaresSaid : Prop := fnExactWalkSquaresRow.holds Try.pinned (OpenSpec.ofChange fnExactWalkSquaresSpec)

/-- ITS FALSE NEIGHBOUR: 'it returns false'. Refute it at one input. -/
def fnExactWalkSquaresWrong : ChangeSpec := { name := "fnExactWalkSquares", fn := fun _ => fun
  | [d1, d2, d3] => { results := [.lit (.bool false)], args := [d1, d2, d3] }
  | _ => none }
def FnExactWalkSquaresWrongFalsely : Prop := fnExactWalkSquaresRow.holds Try.pinned (OpenSpec.ofChange fnExactWalkSquaresWrong)

/- THE SECOND FORM. 'bulk': how many values and letters a reading holds, each counted each time it is reached (what is shared counts as often as it is met; a slice's spare places count too). A statement '..UptoSaid' is the law's where the arguments, and the package variables that the reading takes, are together of bulk at most 1048576: NARROWER than '..Said'. Prove '..Said' where nothing that the law and all that it calls make is longer than what came in: it says more and counts as full. Else prove '..UptoSaid'. A law counts once. -/
mutual
def uptoBulk {H : Type} : DataW H → Nat
  | .lit (.string bytes) => bytes.length + 1
  | .lit _ => 1
  | .nil => 1
  | .ptr d => uptoBulk d + 1
  | .slice elems spare => uptoBulkAll elems + uptoBulkAll spare + 1
  | .agg parts => uptoBulkAll parts + 1
  | .iface _ d => uptoBulk d + 1
  | .map entries => uptoBulkEntries entries + 1
  | .held _ => 1
def uptoBulkAll {H : Type} : List (DataW H) → Nat
  | [] => 0
  | d :: r => uptoBulk d + uptoBulkAll r
def uptoBulkEntries {H : Type} : List (Lit × DataW H) → Nat
  | [] => 0
  | x :: r => uptoBulkEntry x + uptoBulkEntries r
def uptoBulkEntry {H : Type} : Lit × DataW H → Nat
  | (.string bytes, d) => bytes.length + uptoBulk d + 1
  | (_, d) => uptoBulk d + 1
 end
def uptoSmall : (H : Type) → List (DataW H) → Bool := fun _ ds => decide (uptoBulkAll ds ≤ 1048576)
def OpenSpec.upto (s : _root_.Go.ChangeSpec) : _root_.Go.OpenSpec := { _root_.Go.OpenSpec.ofChange s with cond := some uptoSmall }

/-- 'laws.FnExactWalkCounts', WHERE WHAT IT READS IS OF BULK AT MOST 1048576: true; the input reads as it did. -/
def fnExactWalkCountsUptoRow : OpenClaim := { program := "ytgljkmjpmniifaa", sum := "afabca1d015996f19694691729562ef4ff48f07bda5bbc7a08968f7fc569150f", func := "loop.example/ringsofsteps/laws.FnExactWalkCounts", spec := "fnExactWalkCounts", unfollowed := true, recurses := true, apart := false, narrowed := true }
def FnExactWalkCountsUptoSaid : Prop := fnExactWalkCountsUptoRow.holds Try.pinned (OpenSpec.upto fnExactWalkCountsSpec)

/-- 'laws.FnExactWalkClosed', WHERE WHAT IT READS IS OF BULK AT MOST 1048576: true; the input reads as it did. -/
def fnExactWalkClosedUptoRow : OpenClaim := { program := "ytgljkmjpmniifaa", sum := "afabca1d015996f19694691729562ef4ff48f07bda5bbc7a08968f7fc569150f", func := "loop.example/ringsofsteps/laws.FnExactWalkClosed", spec := "fnExactWalkClosed", unfollowed := true, recurses := true, apart := false, narrowed := true }
def FnExactWalkClosedUptoSaid : Prop := fnExactWalkClosedUptoRow.holds Try.pinned (OpenSpec.upto fnExactWalkClosedSpec)

/-- 'laws.FnExactWalkSet', WHERE WHAT IT READS IS OF BULK AT MOST 1048576: true; the input reads as it did. -/
def fnExactWalkSetUptoRow : OpenClaim := { program := "ytgljkmjpmniifaa", sum := "afabca1d015996f19694691729562ef4ff48f07bda5bbc7a08968f7fc569150f", func := "loop.example/ringsofsteps/laws.FnExactWalkSet", spec := "fnExactWalkSet", unfollowed := true, recurses := true, apart := false, narrowed := true }
def FnExactWalkSetUptoSaid : Prop := fnExactWalkSetUptoRow.holds Try.pinned (OpenSpec.upto fnExactWalkSetSpec)

/-- 'laws.FnExactWalkFull', WHERE WHAT IT READS IS OF BULK AT MOST 1048576: true; the input reads as it did. -/
def fnExactWalkFullUptoRow : OpenClaim := { program := "ytgljkmjpmniifaa", sum := "afabca1d015996f19694691729562ef4ff48f07bda5bbc7a08968f7fc569150f", func := "loop.example/ringsofsteps/laws.FnExactWalkFull", spec := "fnExactWalkFull", unfollowed := true, recurses := true, apart := false, narrowed := true }
def FnExactWalkFullUptoSaid : Prop := fnExactWalkFullUptoRow.holds Try.pinned (OpenSpec.upto fnExactWalkFullSpec)

/-- 'laws.FnExactWalkTurns', WHERE WHAT IT READS IS OF BULK AT MOST 1048576: true; the input reads as it did. -/
def fnExactWalkTurnsUptoRow : OpenClaim := { program := "ytgljkmjpmniifaa", sum := "afabca1d015996f19694691729562ef4ff48f07bda5bbc7a08968f7fc569150f", func := "loop.example/ringsofsteps/laws.FnExactWalkTurns", spec := "fnExactWalkTurns", unfollowed := true, recurses := true, apart := false, narrowed := true }
def FnExactWalkTurnsUptoSaid : Prop := fnExactWalkTurnsUptoRow.holds Try.pinned (OpenSpec.upto fnExactWalkTurnsSpec)

/-- 'laws.FnExactWalkTrees', WHERE WHAT IT READS IS OF BULK AT MOST 1048576: true; the input reads as it did. -/
def fnExactWalkTreesUptoRow : OpenClaim := { program := "ytgljkmjpmniifaa", sum := "afabca1d015996f19694691729562ef4ff48f07bda5bbc7a08968f7fc569150f", func := "loop.example/ringsofsteps/laws.FnExactWalkTrees", spec := "fnExactWalkTrees", unfollowed := true, recurses := true, apart := false, narrowed := true }
def FnExactWalkTreesUptoSaid : Prop := fnExactWalkTreesUptoRow.holds Try.pinned (OpenSpec.upto fnExactWalkTreesSpec)

/-- 'laws.FnExactWalkSquares', WHERE WHAT IT READS IS OF BULK AT MOST 1048576: true; the input reads as it did. -/
def fnExactWalkSquaresUptoRow : OpenClaim := { program := "ytgljkmjpmniifaa", sum := "afabca1d015996f19694691729562ef4ff48f07bda5bbc7a08968f7fc569150f", func := "loop.example/ringsofsteps/laws.FnExactWalkSquares", spec := "fnExactWalkSquares", unfollowed := true, recurses := true, apart := false, narrowed := true }
def FnExactWalkSquaresUptoSaid : Prop := fnExactWalkSquaresUptoRow.holds Try.pinned (OpenSpec.upto fnExactWalkSquaresSpec)

end Rows
end Go.Proofs.Ytgljkmjpmniifaa
