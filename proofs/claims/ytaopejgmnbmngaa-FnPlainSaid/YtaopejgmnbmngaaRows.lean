/-
  No cell of these rows narrows 'for every input' (looked for: loops, veiled, ifaces, maps, wideKeys, modest, calm, conditions, laid).
  DERIVED. THE GIVEN ROWS OF THIS SEAT. 5 by the template 'for every input the law returns true; each argument reads behind the call as it read before'; 0 by the template 'total and deterministic' (their statements: YtaopejgmnbmngaaTotals.lean).
  GIVEN WITH THE SEED: the statements are not yours to turn. If you find one false, say at which input.
  Laid BY PROGRAM, IN A SANDBOX (cutbox-rows.mjs): the forced cells as the released guide's own fill.sh prints them over the translation 4dbc8e22c53747d1… (all of the seat's roots in one cut). By AI agents, Wed Nov 11 2026. No macro, syntax, notation, axiom, sorry.
-/
import Derived.Test.YtaopejgmnbmngaaChecked
import GoSem.Claim
import GoSem.ClaimJoined
import GoSem.ClaimMapViews
import Derived.JoinedTies
import Derived.KernelRfl
namespace Go.Proofs.Ytaopejgmnbmngaa
/- THE CELL 'sum', in the pinned program and in every row, IS THE sha256 OF THE DUMP (.gsa) THAT YtaopejgmnbmngaaProg.lean LOADS. Nothing in Lean hashes anything: it is a label: what it is worth is what the hold of that sum in a sandbox is worth. -/
noncomputable def Try.pinned : Pinned := { name := "ytaopejgmnbmngaa", sum := "4dbc8e22c53747d132c627d371a3d4d0fa1a14edeeef36ddd4df8f291f1b86b4", checked := Try.checked }
namespace Rows
def none {H : Type} : Left H := { results := [], args := [] }

/-- 'laws.FnZeroFirst': WHATEVER THE INPUT: true; the input reads as it did. -/
def fnZeroFirstSpec : ChangeSpec := { name := "fnZeroFirst", fn := fun _ => fun
  | [d] => { results := [.lit (.bool true)], args := [d] }
  | _ => none }
def fnZeroFirstRow : OpenClaim := { program := "ytaopejgmnbmngaa", sum := "4dbc8e22c53747d132c627d371a3d4d0fa1a14edeeef36ddd4df8f291f1b86b4", func := "loop.example/ringsofsteps/laws.FnZeroFirst", spec := "fnZeroFirst", unfollowed := true, recurses := true, apart := false }
def FnZeroFirstSaid : Prop := fnZeroFirstRow.holds Try.pinned (OpenSpec.ofChange fnZeroFirstSpec)

/-- ITS FALSE NEIGHBOUR: 'it returns false'. Refute it at one input. -/
def fnZeroFirstWrong : ChangeSpec := { name := "fnZeroFirst", fn := fun _ => fun
  | [d] => { results := [.lit (.bool false)], args := [d] }
  | _ => none }
def FnZeroFirstWrongFalsely : Prop := fnZeroFirstRow.holds Try.pinned (OpenSpec.ofChange fnZeroFirstWrong)

/-- 'laws.FnZeroOf': WHATEVER THE INPUT: true; the input reads as it did. -/
def fnZeroOfSpec : ChangeSpec := { name := "fnZeroOf", fn := fun _ => fun
  | [d] => { results := [.lit (.bool true)], args := [d] }
  | _ => none }
def fnZeroOfRow : OpenClaim := { program := "ytaopejgmnbmngaa", sum := "4dbc8e22c53747d132c627d371a3d4d0fa1a14edeeef36ddd4df8f291f1b86b4", func := "loop.example/ringsofsteps/laws.FnZeroOf", spec := "fnZeroOf", unfollowed := true, recurses := true, apart := false }
def FnZeroOfSaid : Prop := fnZeroOfRow.holds Try.pinned (OpenSpec.ofChange fnZeroOfSpec)

/-- ITS FALSE NEIGHBOUR: 'it returns false'. Refute it at one input. -/
def fnZeroOfWrong : ChangeSpec := { name := "fnZeroOf", fn := fun _ => fun
  | [d] => { results := [.lit (.bool false)], args := [d] }
  | _ => none }
def FnZeroOfWrongFalsely : Prop := fnZeroOfRow.holds Try.pinned (OpenSpec.ofChange fnZeroOfWrong)

/-- 'laws.FnTwiceLessOne': WHATEVER THE INPUT: true; the input reads as it did. -/
def fnTwiceLessOneSpec : ChangeSpec := { name := "fnTwiceLessOne", fn := fun _ => fun
  | [d] => { results := [.lit (.bool true)], args := [d] }
  | _ => none }
def fnTwiceLessOneRow : OpenClaim := { program := "ytaopejgmnbmngaa", sum := "4dbc8e22c53747d132c627d371a3d4d0fa1a14edeeef36ddd4df8f291f1b86b4", func := "loop.example/ringsofsteps/laws.FnTwiceLessOne", spec := "fnTwiceLessOne", unfollowed := true, recurses := true, apart := false }
def FnTwiceLessOneSaid : Prop := fnTwiceLessOneRow.holds Try.pinned (OpenSpec.ofChange fnTwiceLessOneSpec)

/-- ITS FALSE NEIGHBOUR: 'it returns false'. Refute it at one input. -/
def fnTwiceLessOneWrong : ChangeSpec := { name := "fnTwiceLessOne", fn := fun _ => fun
  | [d] => { results := [.lit (.bool false)], args := [d] }
  | _ => none }
def FnTwiceLessOneWrongFalsely : Prop := fnTwiceLessOneRow.holds Try.pinned (OpenSpec.ofChange fnTwiceLessOneWrong)

/-- 'laws.FnZeroParts': WHATEVER THE INPUT: true; the input reads as it did. -/
def fnZeroPartsSpec : ChangeSpec := { name := "fnZeroParts", fn := fun _ => fun
  | [d] => { results := [.lit (.bool true)], args := [d] }
  | _ => none }
def fnZeroPartsRow : OpenClaim := { program := "ytaopejgmnbmngaa", sum := "4dbc8e22c53747d132c627d371a3d4d0fa1a14edeeef36ddd4df8f291f1b86b4", func := "loop.example/ringsofsteps/laws.FnZeroParts", spec := "fnZeroParts", unfollowed := true, recurses := true, apart := false }
def FnZeroPartsSaid : Prop := fnZeroPartsRow.holds Try.pinned (OpenSpec.ofChange fnZeroPartsSpec)

/-- ITS FALSE NEIGHBOUR: 'it returns false'. Refute it at one input. -/
def fnZeroPartsWrong : ChangeSpec := { name := "fnZeroParts", fn := fun _ => fun
  | [d] => { results := [.lit (.bool false)], args := [d] }
  | _ => none }
def FnZeroPartsWrongFalsely : Prop := fnZeroPartsRow.holds Try.pinned (OpenSpec.ofChange fnZeroPartsWrong)

/-- 'laws.FnPlain': WHATEVER THE INPUT: true; the input reads as it did. -/
def fnPlainSpec : ChangeSpec := { name := "fnPlain", fn := fun _ => fun
  | [d] => { results := [.lit (.bool true)], args := [d] }
  | _ => none }
def fnPlainRow : OpenClaim := { program := "ytaopejgmnbmngaa", sum := "4dbc8e22c53747d132c627d371a3d4d0fa1a14edeeef36ddd4df8f291f1b86b4", func := "loop.example/ringsofsteps/laws.FnPlain", spec := "fnPlain", unfollowed := true, recurses := true, apart := false }
def FnPlainSaid : Prop := fnPlainRow.holds Try.pinned (OpenSpec.ofChange fnPlainSpec)

/-- ITS FALSE NEIGHBOUR: 'it returns false'. Refute it at one input. -/
def fnPlainWrong : ChangeSpec := { name := "fnPlain", fn := fun _ => fun
  | [d] => { results := [.lit (.bool false)], args := [d] }
  | _ => none }
def FnPlainWrongFalsely : Prop := fnPlainRow.holds Try.pinned (OpenSpec.ofChange fnPlainWrong)

/- THE SECOND FORM. 'bulk': how many values and letters a reading holds, each counted each time it is reached (what is shared counts as often as it is met; a slice's spare places count too). A statement '..UptoSaid' is the law's where the arguments, and the package variables that the reading takes, are together of bulk at most 1048576: NARROWER than '..Said'. Prove '..Said' where nothing that the law and all that it calls make is longer than what came in: it says more and counts as full. Else prove '..UptoSaid'. A law counts once. -/
mutual
def uptoBulk {H : Type} : DataW H → Nat
  | .lit (.string bytes) => bytes.length + 1
  | .lit _ => 1
  | .nil => 1
  | .ptr d => uptoBulk d + 1
  | .slice elems spare => uptoBulkAll elems + uptoBulkAll spare + 1
  | .agg parts => uptoBulkAll parts + 1
  | .iface _ d => uptoBulk d + 1
  | .map entries => uptoBulkEntries entries + 1
  | .held _ => 1
def uptoBulkAll {H : Type} : List (DataW H) → Nat
  | [] => 0
  | d :: r => uptoBulk d + uptoBulkAll r
def uptoBulkEntries {H : Type} : List (Lit × DataW H) → Nat
  | [] => 0
  | x :: r => uptoBulkEntry x + uptoBulkEntries r
def uptoBulkEntry {H : Type} : Lit × DataW H → Nat
  | (.string bytes, d) => bytes.length + uptoBulk d + 1
  | (_, d) => uptoBulk d + 1
 end
def uptoSmall : (H : Type) → List (DataW H) → Bool := fun _ ds => decide (uptoBulkAll ds ≤ 1048576)
def OpenSpec.upto (s : _root_.Go.ChangeSpec) : _root_.Go.OpenSpec := { _root_.Go.OpenSpec.ofChange s with cond := some uptoSmall }

/-- 'laws.FnZeroFirst', WHERE WHAT IT READS IS OF BULK AT MOST 1048576: true; the input reads as it did. -/
def fnZeroFirstUptoRow : OpenClaim := { program := "ytaopejgmnbmngaa", sum := "4dbc8e22c53747d132c627d371a3d4d0fa1a14edeeef36ddd4df8f291f1b86b4", func := "loop.example/ringsofsteps/laws.FnZeroFirst", spec := "fnZeroFirst", unfollowed := true, recurses := true, apart := false, narrowed := true }
def FnZeroFirstUptoSaid : Prop := fnZeroFirstUptoRow.holds Try.pinned (OpenSpec.upto fnZeroFirstSpec)

/-- 'laws.FnZeroOf', WHERE WHAT IT READS IS OF BULK AT MOST 1048576: true; the input reads as it did. -/
def fnZeroOfUptoRow : OpenClaim := { program := "ytaopejgmnbmngaa", sum := "4dbc8e22c53747d132c627d371a3d4d0fa1a14edeeef36ddd4df8f291f1b86b4", func := "loop.example/ringsofsteps/laws.FnZeroOf", spec := "fnZeroOf", unfollowed := true, recurses := true, apart := false, narrowed := true }
def FnZeroOfUptoSaid : Prop := fnZeroOfUptoRow.holds Try.pinned (OpenSpec.upto fnZeroOfSpec)

/-- 'laws.FnTwiceLessOne', WHERE WHAT IT READS IS OF BULK AT MOST 1048576: true; the input reads as it did. -/
def fnTwiceLessOneUptoRow : OpenClaim := { program := "ytaopejgmnbmngaa", sum := "4dbc8e22c53747d132c627d371a3d4d0fa1a14edeeef36ddd4df8f291f1b86b4", func := "loop.example/ringsofsteps/laws.FnTwiceLessOne", spec := "fnTwiceLessOne", unfollowed := true, recurses := true, apart := false, narrowed := true }
def FnTwiceLessOneUptoSaid : Prop := fnTwiceLessOneUptoRow.holds Try.pinned (OpenSpec.upto fnTwiceLessOneSpec)

/-- 'laws.FnZeroParts', WHERE WHAT IT READS IS OF BULK AT MOST 1048576: true; the input reads as it did. -/
def fnZeroPartsUptoRow : OpenClaim := { program := "ytaopejgmnbmngaa", sum := "4dbc8e22c53747d132c627d371a3d4d0fa1a14edeeef36ddd4df8f291f1b86b4", func := "loop.example/ringsofsteps/laws.FnZeroParts", spec := "fnZeroParts", unfollowed := true, recurses := true, apart := false, narrowed := true }
def FnZeroPartsUptoSaid : Prop := fnZeroPartsUptoRow.holds Try.pinned (OpenSpec.upto fnZeroPartsSpec)

/-- 'laws.FnPlain', WHERE WHAT IT READS IS OF BULK AT MOST 1048576: true; the input reads as it did. -/
def fnPlainUptoRow : OpenClaim := { program := "ytaopejgmnbmngaa", sum := "4dbc8e22c53747d132c627d371a3d4d0fa1a14edeeef36ddd4df8f291f1b86b4", func := "loop.example/ringsofsteps/laws.FnPlain", spec := "fnPlain", unfollowed := true, recurses := true, apart := false, narrowed := true }
def FnPlainUptoSaid : Prop := fnPlainUptoRow.holds Try.pinned (OpenSpec.upto fnPlainSpec)

end Rows
end Go.Proofs.Ytaopejgmnbmngaa
