/-
  No cell of these rows narrows 'for every input' (looked for: loops, veiled, ifaces, maps, wideKeys, modest, calm, conditions, laid).
  DERIVED. THE GIVEN ROWS OF THIS SEAT. 6 by the template 'for every input the law returns true; each argument reads behind the call as it read before'; 0 by the template 'total and deterministic' (their statements: YtjgpdmjfpcdklaaTotals.lean).
  GIVEN WITH THE SEED: the statements are not yours to turn. If you find one false, say at which input.
  Laid BY PROGRAM, IN A SANDBOX (cutbox-rows.mjs): the forced cells as the released guide's own fill.sh prints them over the translation 2d37c857b559c2e8… (all of the seat's roots in one cut). By AI agents, Wed Nov 11 2026. No macro, syntax, notation, axiom, sorry.
-/
import Derived.Test.YtjgpdmjfpcdklaaChecked
import GoSem.Claim
import GoSem.ClaimJoined
import GoSem.ClaimMapViews
import Derived.JoinedTies
import Derived.KernelRfl
namespace Go.Proofs.Ytjgpdmjfpcdklaa
/- THE CELL 'sum', in the pinned program and in every row, IS THE sha256 OF THE DUMP (.gsa) THAT YtjgpdmjfpcdklaaProg.lean LOADS. Nothing in Lean hashes anything: it is a label: what it is worth is what the hold of that sum in a sandbox is worth. -/
noncomputable def Try.pinned : Pinned := { name := "ytjgpdmjfpcdklaa", sum := "2d37c857b559c2e88b136e98b881dac0865f1f9870f1d8017d5340b3825053f4", checked := Try.checked }
namespace Rows
def none {H : Type} : Left H := { results := [], args := [] }

/-- 'laws.FnHalves': WHATEVER THE INPUT: true; the input reads as it did. -/
def fnHalvesSpec : ChangeSpec := { name := "fnHalves", fn := fun _ => fun
  | [d] => { results := [.lit (.bool true)], args := [d] }
  | _ => none }
def fnHalvesRow : OpenClaim := { program := "ytjgpdmjfpcdklaa", sum := "2d37c857b559c2e88b136e98b881dac0865f1f9870f1d8017d5340b3825053f4", func := "loop.example/ringsofsteps/laws.FnHalves", spec := "fnHalves", unfollowed := true, recurses := true, apart := false }
def FnHalvesSaid : Prop := fnHalvesRow.holds Try.pinned (OpenSpec.ofChange fnHalvesSpec)

/-- ITS FALSE NEIGHBOUR: 'it returns false'. Refute it at one input. -/
def fnHalvesWrong : ChangeSpec := { name := "fnHalves", fn := fun _ => fun
  | [d] => { results := [.lit (.bool false)], args := [d] }
  | _ => none }
def FnHalvesWrongFalsely : Prop := fnHalvesRow.holds Try.pinned (OpenSpec.ofChange fnHalvesWrong)

/-- 'laws.FnWays': WHATEVER THE INPUT: true; the input reads as it did. -/
def fnWaysSpec : ChangeSpec := { name := "fnWays", fn := fun _ => fun
  | [d] => { results := [.lit (.bool true)], args := [d] }
  | _ => none }
def fnWaysRow : OpenClaim := { program := "ytjgpdmjfpcdklaa", sum := "2d37c857b559c2e88b136e98b881dac0865f1f9870f1d8017d5340b3825053f4", func := "loop.example/ringsofsteps/laws.FnWays", spec := "fnWays", unfollowed := true, recurses := true, apart := false }
def FnWaysSaid : Prop := fnWaysRow.holds Try.pinned (OpenSpec.ofChange fnWaysSpec)

/-- ITS FALSE NEIGHBOUR: 'it returns false'. Refute it at one input. -/
def fnWaysWrong : ChangeSpec := { name := "fnWays", fn := fun _ => fun
  | [d] => { results := [.lit (.bool false)], args := [d] }
  | _ => none }
def FnWaysWrongFalsely : Prop := fnWaysRow.holds Try.pinned (OpenSpec.ofChange fnWaysWrong)

/-- 'laws.FnWalkCounts': WHATEVER THE INPUT: true; the input reads as it did. -/
def fnWalkCountsSpec : ChangeSpec := { name := "fnWalkCounts", fn := fun _ => fun
  | [d] => { results := [.lit (.bool true)], args := [d] }
  | _ => none }
def fnWalkCountsRow : OpenClaim := { program := "ytjgpdmjfpcdklaa", sum := "2d37c857b559c2e88b136e98b881dac0865f1f9870f1d8017d5340b3825053f4", func := "loop.example/ringsofsteps/laws.FnWalkCounts", spec := "fnWalkCounts", unfollowed := true, recurses := true, apart := false }
def FnWalkCountsSaid : Prop := fnWalkCountsRow.holds Try.pinned (OpenSpec.ofChange fnWalkCountsSpec)

/-- ITS FALSE NEIGHBOUR: 'it returns false'. Refute it at one input. -/
def fnWalkCountsWrong : ChangeSpec := { name := "fnWalkCounts", fn := fun _ => fun
  | [d] => { results := [.lit (.bool false)], args := [d] }
  | _ => none }
def FnWalkCountsWrongFalsely : Prop := fnWalkCountsRow.holds Try.pinned (OpenSpec.ofChange fnWalkCountsWrong)

/-- 'laws.FnWalkClosed': WHATEVER THE INPUT: true; the input reads as it did. -/
def fnWalkClosedSpec : ChangeSpec := { name := "fnWalkClosed", fn := fun _ => fun
  | [d] => { results := [.lit (.bool true)], args := [d] }
  | _ => none }
def fnWalkClosedRow : OpenClaim := { program := "ytjgpdmjfpcdklaa", sum := "2d37c857b559c2e88b136e98b881dac0865f1f9870f1d8017d5340b3825053f4", func := "loop.example/ringsofsteps/laws.FnWalkClosed", spec := "fnWalkClosed", unfollowed := true, recurses := true, apart := false }
def FnWalkClosedSaid : Prop := fnWalkClosedRow.holds Try.pinned (OpenSpec.ofChange fnWalkClosedSpec)

/-- ITS FALSE NEIGHBOUR: 'it returns false'. Refute it at one input. -/
def fnWalkClosedWrong : ChangeSpec := { name := "fnWalkClosed", fn := fun _ => fun
  | [d] => { results := [.lit (.bool false)], args := [d] }
  | _ => none }
def FnWalkClosedWrongFalsely : Prop := fnWalkClosedRow.holds Try.pinned (OpenSpec.ofChange fnWalkClosedWrong)

/-- 'laws.FnWalkSet': WHATEVER THE INPUT: true; the input reads as it did. -/
def fnWalkSetSpec : ChangeSpec := { name := "fnWalkSet", fn := fun _ => fun
  | [d] => { results := [.lit (.bool true)], args := [d] }
  | _ => none }
def fnWalkSetRow : OpenClaim := { program := "ytjgpdmjfpcdklaa", sum := "2d37c857b559c2e88b136e98b881dac0865f1f9870f1d8017d5340b3825053f4", func := "loop.example/ringsofsteps/laws.FnWalkSet", spec := "fnWalkSet", unfollowed := true, recurses := true, apart := false }
def FnWalkSetSaid : Prop := fnWalkSetRow.holds Try.pinned (OpenSpec.ofChange fnWalkSetSpec)

/-- ITS FALSE NEIGHBOUR: 'it returns false'. Refute it at one input. -/
def fnWalkSetWrong : ChangeSpec := { name := "fnWalkSet", fn := fun _ => fun
  | [d] => { results := [.lit (.bool false)], args := [d] }
  | _ => none }
def FnWalkSetWrongFalsely : Prop := fnWalkSetRow.holds Try.pinned (OpenSpec.ofChange fnWalkSetWrong)

/-- 'laws.FnWalkMeet': WHATEVER THE INPUT: true; the input reads as it did. -/
def fnWalkMeetSpec : ChangeSpec := { name := "fnWalkMeet", fn := fun _ => fun
  | [d] => { results := [.lit (.bool true)], args := [d] }
  | _ => none }
def fnWalkMeetRow : OpenClaim := { program := "ytjgpdmjfpcdklaa", sum := "2d37c857b559c2e88b136e98b881dac0865f1f9870f1d8017d5340b3825053f4", func := "loop.example/ringsofsteps/laws.FnWalkMeet", spec := "fnWalkMeet", unfollowed := true, recurses := true, apart := false }
def FnWalkMeetSaid : Prop := fnWalkMeetRow.holds Try.pinned (OpenSpec.ofChange fnWalkMeetSpec)

/-- ITS FALSE NEIGHBOUR: 'it returns false'. Refute it at one input. -/
def fnWalkMeetWrong : ChangeSpec := { name := "fnWalkMeet", fn := fun _ => fun
  | [d] => { results := [.lit (.bool false)], args := [d] }
  | _ => none }
def FnWalkMeetWrongFalsely : Prop := fnWalkMeetRow.holds Try.pinned (OpenSpec.ofChange fnWalkMeetWrong)

/- THE SECOND FORM. 'bulk': how many values and letters a reading holds, each counted each time it is reached (what is shared counts as often as it is met; a slice's spare places count too). A statement '..UptoSaid' is the law's where the arguments, and the package variables that the reading takes, are together of bulk at most 1048576: NARROWER than '..Said'. Prove '..Said' where nothing that the law and all that it calls make is longer than what came in: it says more and counts as full. Else prove '..UptoSaid'. A law counts once. -/
mutual
def uptoBulk {H : Type} : DataW H → Nat
  | .lit (.string bytes) => bytes.length + 1
  | .lit _ => 1
  | .nil => 1
  | .ptr d => uptoBulk d + 1
  | .slice elems spare => uptoBulkAll elems + uptoBulkAll spare + 1
  | .agg parts => uptoBulkAll parts + 1
  | .iface _ d => uptoBulk d + 1
  | .map entries => uptoBulkEntries entries + 1
  | .held _ => 1
def uptoBulkAll {H : Type} : List (DataW H) → Nat
  | [] => 0
  | d :: r => uptoBulk d + uptoBulkAll r
def uptoBulkEntries {H : Type} : List (Lit × DataW H) → Nat
  | [] => 0
  | x :: r => uptoBulkEntry x + uptoBulkEntries r
def uptoBulkEntry {H : Type} : Lit × DataW H → Nat
  | (.string bytes, d) => bytes.length + uptoBulk d + 1
  | (_, d) => uptoBulk d + 1
 end
def uptoSmall : (H : Type) → List (DataW H) → Bool := fun _ ds => decide (uptoBulkAll ds ≤ 1048576)
def OpenSpec.upto (s : _root_.Go.ChangeSpec) : _root_.Go.OpenSpec := { _root_.Go.OpenSpec.ofChange s with cond := some uptoSmall }

/-- 'laws.FnHalves', WHERE WHAT IT READS IS OF BULK AT MOST 1048576: true; the input reads as it did. -/
def fnHalvesUptoRow : OpenClaim := { program := "ytjgpdmjfpcdklaa", sum := "2d37c857b559c2e88b136e98b881dac0865f1f9870f1d8017d5340b3825053f4", func := "loop.example/ringsofsteps/laws.FnHalves", spec := "fnHalves", unfollowed := true, recurses := true, apart := false, narrowed := true }
def FnHalvesUptoSaid : Prop := fnHalvesUptoRow.holds Try.pinned (OpenSpec.upto fnHalvesSpec)

/-- 'laws.FnWays', WHERE WHAT IT READS IS OF BULK AT MOST 1048576: true; the input reads as it did. -/
def fnWaysUptoRow : OpenClaim := { program := "ytjgpdmjfpcdklaa", sum := "2d37c857b559c2e88b136e98b881dac0865f1f9870f1d8017d5340b3825053f4", func := "loop.example/ringsofsteps/laws.FnWays", spec := "fnWays", unfollowed := true, recurses := true, apart := false, narrowed := true }
def FnWaysUptoSaid : Prop := fnWaysUptoRow.holds Try.pinned (OpenSpec.upto fnWaysSpec)

/-- 'laws.FnWalkCounts', WHERE WHAT IT READS IS OF BULK AT MOST 1048576: true; the input reads as it did. -/
def fnWalkCountsUptoRow : OpenClaim := { program := "ytjgpdmjfpcdklaa", sum := "2d37c857b559c2e88b136e98b881dac0865f1f9870f1d8017d5340b3825053f4", func := "loop.example/ringsofsteps/laws.FnWalkCounts", spec := "fnWalkCounts", unfollowed := true, recurses := true, apart := false, narrowed := true }
def FnWalkCountsUptoSaid : Prop := fnWalkCountsUptoRow.holds Try.pinned (OpenSpec.upto fnWalkCountsSpec)

/-- 'laws.FnWalkClosed', WHERE WHAT IT READS IS OF BULK AT MOST 1048576: true; the input reads as it did. -/
def fnWalkClosedUptoRow : OpenClaim := { program := "ytjgpdmjfpcdklaa", sum := "2d37c857b559c2e88b136e98b881dac0865f1f9870f1d8017d5340b3825053f4", func := "loop.example/ringsofsteps/laws.FnWalkClosed", spec := "fnWalkClosed", unfollowed := true, recurses := true, apart := false, narrowed := true }
def FnWalkClosedUptoSaid : Prop := fnWalkClosedUptoRow.holds Try.pinned (OpenSpec.upto fnWalkClosedSpec)

/-- 'laws.FnWalkSet', WHERE WHAT IT READS IS OF BULK AT MOST 1048576: true; the input reads as it did. -/
def fnWalkSetUptoRow : OpenClaim := { program := "ytjgpdmjfpcdklaa", sum := "2d37c857b559c2e88b136e98b881dac0865f1f9870f1d8017d5340b3825053f4", func := "loop.example/ringsofsteps/laws.FnWalkSet", spec := "fnWalkSet", unfollowed := true, recurses := true, apart := false, narrowed := true }
def FnWalkSetUptoSaid : Prop := fnWalkSetUptoRow.holds Try.pinned (OpenSpec.upto fnWalkSetSpec)

/-- 'laws.FnWalkMeet', WHERE WHAT IT READS IS OF BULK AT MOST 1048576: true; the input reads as it did. -/
def fnWalkMeetUptoRow : OpenClaim := { program := "ytjgpdmjfpcdklaa", sum := "2d37c857b559c2e88b136e98b881dac0865f1f9870f1d8017d5340b3825053f4", func := "loop.example/ringsofsteps/laws.FnWalkMeet", spec := "fnWalkMeet", unfollowed := true, recurses := true, apart := false, narrowed := true }
def FnWalkMeetUptoSaid : Prop := fnWalkMeetUptoRow.holds Try.pinned (OpenSpec.upto fnWalkMeetSpec)

end Rows
end Go.Proofs.Ytjgpdmjfpcdklaa
