/-
  No cell of these rows narrows 'for every input' (looked for: loops, veiled, ifaces, maps, wideKeys, modest, calm, conditions, laid).
  DERIVED. THE GIVEN ROWS OF THIS SEAT. 5 by the template 'for every input the law returns true; each argument reads behind the call as it read before'; 0 by the template 'total and deterministic' (their statements: YtfgolkbafnfblaaTotals.lean).
  GIVEN WITH THE SEED: the statements are not yours to turn. If you find one false, say at which input.
  Laid BY PROGRAM, IN A SANDBOX (cutbox-rows.mjs): the forced cells as the released guide's own fill.sh prints them over the translation 5e63445d6adff8a0… (all of the seat's roots in one cut). By AI agents, Wed Nov 11 2026. No macro, syntax, notation, axiom, sorry.
-/
import Derived.Test.YtfgolkbafnfblaaChecked
import GoSem.Claim
import GoSem.ClaimJoined
import GoSem.ClaimMapViews
import Derived.JoinedTies
import Derived.KernelRfl
namespace Go.Proofs.Ytfgolkbafnfblaa
/- THE CELL 'sum', in the pinned program and in every row, IS THE sha256 OF THE DUMP (.gsa) THAT YtfgolkbafnfblaaProg.lean LOADS. Nothing in Lean hashes anything: it is a label: what it is worth is what the hold of that sum in a sandbox is worth. -/
noncomputable def Try.pinned : Pinned := { name := "ytfgolkbafnfblaa", sum := "5e63445d6adff8a060078b80ffeb8e7de06807e23feb8a542518f6309eefd49d", checked := Try.checked }
namespace Rows
def none {H : Type} : Left H := { results := [], args := [] }

/-- 'laws.FnRound': WHATEVER THE INPUT: true; the input reads as it did. -/
def fnRoundSpec : ChangeSpec := { name := "fnRound", fn := fun _ => fun
  | [d] => { results := [.lit (.bool true)], args := [d] }
  | _ => none }
def fnRoundRow : OpenClaim := { program := "ytfgolkbafnfblaa", sum := "5e63445d6adff8a060078b80ffeb8e7de06807e23feb8a542518f6309eefd49d", func := "loop.example/ringsofsteps/laws.FnRound", spec := "fnRound", unfollowed := true, recurses := true, apart := false }
def FnRoundSaid : Prop := fnRoundRow.holds Try.pinned (OpenSpec.ofChange fnRoundSpec)

/-- ITS FALSE NEIGHBOUR: 'it returns false'. Refute it at one input. -/
def fnRoundWrong : ChangeSpec := { name := "fnRound", fn := fun _ => fun
  | [d] => { results := [.lit (.bool false)], args := [d] }
  | _ => none }
def FnRoundWrongFalsely : Prop := fnRoundRow.holds Try.pinned (OpenSpec.ofChange fnRoundWrong)

/-- 'laws.FnTwoTurned': WHATEVER THE INPUT: true; the input reads as it did. -/
def fnTwoTurnedSpec : ChangeSpec := { name := "fnTwoTurned", fn := fun _ => fun
  | [d] => { results := [.lit (.bool true)], args := [d] }
  | _ => none }
def fnTwoTurnedRow : OpenClaim := { program := "ytfgolkbafnfblaa", sum := "5e63445d6adff8a060078b80ffeb8e7de06807e23feb8a542518f6309eefd49d", func := "loop.example/ringsofsteps/laws.FnTwoTurned", spec := "fnTwoTurned", apart := false }
def FnTwoTurnedSaid : Prop := fnTwoTurnedRow.holds Try.pinned (OpenSpec.ofChange fnTwoTurnedSpec)

/-- ITS FALSE NEIGHBOUR: 'it returns false'. Refute it at one input. -/
def fnTwoTurnedWrong : ChangeSpec := { name := "fnTwoTurned", fn := fun _ => fun
  | [d] => { results := [.lit (.bool false)], args := [d] }
  | _ => none }
def FnTwoTurnedWrongFalsely : Prop := fnTwoTurnedRow.holds Try.pinned (OpenSpec.ofChange fnTwoTurnedWrong)

/-- 'laws.FnOne': WHATEVER THE INPUT: true; the input reads as it did. -/
def fnOneSpec : ChangeSpec := { name := "fnOne", fn := fun _ => fun
  | [d] => { results := [.lit (.bool true)], args := [d] }
  | _ => none }
def fnOneRow : OpenClaim := { program := "ytfgolkbafnfblaa", sum := "5e63445d6adff8a060078b80ffeb8e7de06807e23feb8a542518f6309eefd49d", func := "loop.example/ringsofsteps/laws.FnOne", spec := "fnOne", unfollowed := true, recurses := true, apart := false }
def FnOneSaid : Prop := fnOneRow.holds Try.pinned (OpenSpec.ofChange fnOneSpec)

/-- ITS FALSE NEIGHBOUR: 'it returns false'. Refute it at one input. -/
def fnOneWrong : ChangeSpec := { name := "fnOne", fn := fun _ => fun
  | [d] => { results := [.lit (.bool false)], args := [d] }
  | _ => none }
def FnOneWrongFalsely : Prop := fnOneRow.holds Try.pinned (OpenSpec.ofChange fnOneWrong)

/-- 'laws.FnRoundWord': WHATEVER THE INPUT: true; the input reads as it did. -/
def fnRoundWordSpec : ChangeSpec := { name := "fnRoundWord", fn := fun _ => fun
  | [d] => { results := [.lit (.bool true)], args := [d] }
  | _ => none }
def fnRoundWordRow : OpenClaim := { program := "ytfgolkbafnfblaa", sum := "5e63445d6adff8a060078b80ffeb8e7de06807e23feb8a542518f6309eefd49d", func := "loop.example/ringsofsteps/laws.FnRoundWord", spec := "fnRoundWord", recurses := true, apart := false }
def FnRoundWordSaid : Prop := fnRoundWordRow.holds Try.pinned (OpenSpec.ofChange fnRoundWordSpec)

/-- ITS FALSE NEIGHBOUR: 'it returns false'. Refute it at one input. -/
def fnRoundWordWrong : ChangeSpec := { name := "fnRoundWord", fn := fun _ => fun
  | [d] => { results := [.lit (.bool false)], args := [d] }
  | _ => none }
def FnRoundWordWrongFalsely : Prop := fnRoundWordRow.holds Try.pinned (OpenSpec.ofChange fnRoundWordWrong)

/-- 'laws.FnRoundBy': WHATEVER THE INPUT: true; the input reads as it did. -/
def fnRoundBySpec : ChangeSpec := { name := "fnRoundBy", fn := fun _ => fun
  | [d] => { results := [.lit (.bool true)], args := [d] }
  | _ => none }
def fnRoundByRow : OpenClaim := { program := "ytfgolkbafnfblaa", sum := "5e63445d6adff8a060078b80ffeb8e7de06807e23feb8a542518f6309eefd49d", func := "loop.example/ringsofsteps/laws.FnRoundBy", spec := "fnRoundBy", recurses := true, apart := false }
def FnRoundBySaid : Prop := fnRoundByRow.holds Try.pinned (OpenSpec.ofChange fnRoundBySpec)

/-- ITS FALSE NEIGHBOUR: 'it returns false'. Refute it at one input. -/
def fnRoundByWrong : ChangeSpec := { name := "fnRoundBy", fn := fun _ => fun
  | [d] => { results := [.lit (.bool false)], args := [d] }
  | _ => none }
def FnRoundByWrongFalsely : Prop := fnRoundByRow.holds Try.pinned (OpenSpec.ofChange fnRoundByWrong)

/- THE SECOND FORM. 'bulk': how many values and letters a reading holds, each counted each time it is reached (what is shared counts as often as it is met; a slice's spare places count too). A statement '..UptoSaid' is the law's where the arguments, and the package variables that the reading takes, are together of bulk at most 1048576: NARROWER than '..Said'. Prove '..Said' where nothing that the law and all that it calls make is longer than what came in: it says more and counts as full. Else prove '..UptoSaid'. A law counts once. -/
mutual
def uptoBulk {H : Type} : DataW H → Nat
  | .lit (.string bytes) => bytes.length + 1
  | .lit _ => 1
  | .nil => 1
  | .ptr d => uptoBulk d + 1
  | .slice elems spare => uptoBulkAll elems + uptoBulkAll spare + 1
  | .agg parts => uptoBulkAll parts + 1
  | .iface _ d => uptoBulk d + 1
  | .map entries => uptoBulkEntries entries + 1
  | .held _ => 1
def uptoBulkAll {H : Type} : List (DataW H) → Nat
  | [] => 0
  | d :: r => uptoBulk d + uptoBulkAll r
def uptoBulkEntries {H : Type} : List (Lit × DataW H) → Nat
  | [] => 0
  | x :: r => uptoBulkEntry x + uptoBulkEntries r
def uptoBulkEntry {H : Type} : Lit × DataW H → Nat
  | (.string bytes, d) => bytes.length + uptoBulk d + 1
  | (_, d) => uptoBulk d + 1
 end
def uptoSmall : (H : Type) → List (DataW H) → Bool := fun _ ds => decide (uptoBulkAll ds ≤ 1048576)
def OpenSpec.upto (s : _root_.Go.ChangeSpec) : _root_.Go.OpenSpec := { _root_.Go.OpenSpec.ofChange s with cond := some uptoSmall }

/-- 'laws.FnRound', WHERE WHAT IT READS IS OF BULK AT MOST 1048576: true; the input reads as it did. -/
def fnRoundUptoRow : OpenClaim := { program := "ytfgolkbafnfblaa", sum := "5e63445d6adff8a060078b80ffeb8e7de06807e23feb8a542518f6309eefd49d", func := "loop.example/ringsofsteps/laws.FnRound", spec := "fnRound", unfollowed := true, recurses := true, apart := false, narrowed := true }
def FnRoundUptoSaid : Prop := fnRoundUptoRow.holds Try.pinned (OpenSpec.upto fnRoundSpec)

/-- 'laws.FnTwoTurned', WHERE WHAT IT READS IS OF BULK AT MOST 1048576: true; the input reads as it did. -/
def fnTwoTurnedUptoRow : OpenClaim := { program := "ytfgolkbafnfblaa", sum := "5e63445d6adff8a060078b80ffeb8e7de06807e23feb8a542518f6309eefd49d", func := "loop.example/ringsofsteps/laws.FnTwoTurned", spec := "fnTwoTurned", apart := false, narrowed := true }
def FnTwoTurnedUptoSaid : Prop := fnTwoTurnedUptoRow.holds Try.pinned (OpenSpec.upto fnTwoTurnedSpec)

/-- 'laws.FnOne', WHERE WHAT IT READS IS OF BULK AT MOST 1048576: true; the input reads as it did. -/
def fnOneUptoRow : OpenClaim := { program := "ytfgolkbafnfblaa", sum := "5e63445d6adff8a060078b80ffeb8e7de06807e23feb8a542518f6309eefd49d", func := "loop.example/ringsofsteps/laws.FnOne", spec := "fnOne", unfollowed := true, recurses := true, apart := false, narrowed := true }
def FnOneUptoSaid : Prop := fnOneUptoRow.holds Try.pinned (OpenSpec.upto fnOneSpec)

/-- 'laws.FnRoundWord', WHERE WHAT IT READS IS OF BULK AT MOST 1048576: true; the input reads as it did. -/
def fnRoundWordUptoRow : OpenClaim := { program := "ytfgolkbafnfblaa", sum := "5e63445d6adff8a060078b80ffeb8e7de06807e23feb8a542518f6309eefd49d", func := "loop.example/ringsofsteps/laws.FnRoundWord", spec := "fnRoundWord", recurses := true, apart := false, narrowed := true }
def FnRoundWordUptoSaid : Prop := fnRoundWordUptoRow.holds Try.pinned (OpenSpec.upto fnRoundWordSpec)

/-- 'laws.FnRoundBy', WHERE WHAT IT READS IS OF BULK AT MOST 1048576: true; the input reads as it did. -/
def fnRoundByUptoRow : OpenClaim := { program := "ytfgolkbafnfblaa", sum := "5e63445d6adff8a060078b80ffeb8e7de06807e23feb8a542518f6309eefd49d", func := "loop.example/ringsofsteps/laws.FnRoundBy", spec := "fnRoundBy", recurses := true, apart := false, narrowed := true }
def FnRoundByUptoSaid : Prop := fnRoundByUptoRow.holds Try.pinned (OpenSpec.upto fnRoundBySpec)

end Rows
end Go.Proofs.Ytfgolkbafnfblaa
