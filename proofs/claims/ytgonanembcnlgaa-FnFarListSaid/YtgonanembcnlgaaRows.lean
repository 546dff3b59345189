/-
  No cell of these rows narrows 'for every input' (looked for: loops, veiled, ifaces, maps, wideKeys, modest, calm, conditions, laid).
  DERIVED. THE GIVEN ROWS OF THIS SEAT. 7 by the template 'for every input the law returns true; each argument reads behind the call as it read before'; 0 by the template 'total and deterministic' (their statements: YtgonanembcnlgaaTotals.lean).
  GIVEN WITH THE SEED: the statements are not yours to turn. If you find one false, say at which input.
  Laid BY PROGRAM, IN A SANDBOX (cutbox-rows.mjs): the forced cells as the released guide's own fill.sh prints them over the translation a67ced6b27e121a0… (all of the seat's roots in one cut). By AI agents, Wed Nov 11 2026. No macro, syntax, notation, axiom, sorry.
-/
import Derived.Test.YtgonanembcnlgaaChecked
import GoSem.Claim
import GoSem.ClaimJoined
import GoSem.ClaimMapViews
import Derived.JoinedTies
import Derived.KernelRfl
namespace Go.Proofs.Ytgonanembcnlgaa
/- THE CELL 'sum', in the pinned program and in every row, IS THE sha256 OF THE DUMP (.gsa) THAT YtgonanembcnlgaaProg.lean LOADS. Nothing in Lean hashes anything: it is a label: what it is worth is what the hold of that sum in a sandbox is worth. -/
noncomputable def Try.pinned : Pinned := { name := "ytgonanembcnlgaa", sum := "a67ced6b27e121a01501d40fa7f3fa13fc925e88345bd5b8cf0146e16c9faca6", checked := Try.checked }
namespace Rows
def none {H : Type} : Left H := { results := [], args := [] }

/-- 'laws.FnFarList': WHATEVER THE INPUT: true; the input reads as it did. -/
def fnFarListSpec : ChangeSpec := { name := "fnFarList", fn := fun _ => fun
  | [d] => { results := [.lit (.bool true)], args := [d] }
  | _ => none }
def fnFarListRow : OpenClaim := { program := "ytgonanembcnlgaa", sum := "a67ced6b27e121a01501d40fa7f3fa13fc925e88345bd5b8cf0146e16c9faca6", func := "loop.example/ringsofsteps/laws.FnFarList", spec := "fnFarList", unfollowed := true, recurses := true, apart := false }
def FnFarListSaid : Prop := fnFarListRow.holds Try.pinned (OpenSpec.ofChange fnFarListSpec)

/-- ITS FALSE NEIGHBOUR: 'it returns false'. Refute it at one input. -/
def fnFarListWrong : ChangeSpec := { name := "fnFarList", fn := fun _ => fun
  | [d] => { results := [.lit (.bool false)], args := [d] }
  | _ => none }
def FnFarListWrongFalsely : Prop := fnFarListRow.holds Try.pinned (OpenSpec.ofChange fnFarListWrong)

/-- 'laws.FnFarMost': WHATEVER THE INPUT: true; the input reads as it did. -/
def fnFarMostSpec : ChangeSpec := { name := "fnFarMost", fn := fun _ => fun
  | [d] => { results := [.lit (.bool true)], args := [d] }
  | _ => none }
def fnFarMostRow : OpenClaim := { program := "ytgonanembcnlgaa", sum := "a67ced6b27e121a01501d40fa7f3fa13fc925e88345bd5b8cf0146e16c9faca6", func := "loop.example/ringsofsteps/laws.FnFarMost", spec := "fnFarMost", unfollowed := true, recurses := true, apart := false }
def FnFarMostSaid : Prop := fnFarMostRow.holds Try.pinned (OpenSpec.ofChange fnFarMostSpec)

/-- ITS FALSE NEIGHBOUR: 'it returns false'. Refute it at one input. -/
def fnFarMostWrong : ChangeSpec := { name := "fnFarMost", fn := fun _ => fun
  | [d] => { results := [.lit (.bool false)], args := [d] }
  | _ => none }
def FnFarMostWrongFalsely : Prop := fnFarMostRow.holds Try.pinned (OpenSpec.ofChange fnFarMostWrong)

/-- 'laws.FnFarSum': WHATEVER THE INPUT: true; the input reads as it did. -/
def fnFarSumSpec : ChangeSpec := { name := "fnFarSum", fn := fun _ => fun
  | [d] => { results := [.lit (.bool true)], args := [d] }
  | _ => none }
def fnFarSumRow : OpenClaim := { program := "ytgonanembcnlgaa", sum := "a67ced6b27e121a01501d40fa7f3fa13fc925e88345bd5b8cf0146e16c9faca6", func := "loop.example/ringsofsteps/laws.FnFarSum", spec := "fnFarSum", unfollowed := true, recurses := true, apart := false }
def FnFarSumSaid : Prop := fnFarSumRow.holds Try.pinned (OpenSpec.ofChange fnFarSumSpec)

/-- ITS FALSE NEIGHBOUR: 'it returns false'. Refute it at one input. -/
def fnFarSumWrong : ChangeSpec := { name := "fnFarSum", fn := fun _ => fun
  | [d] => { results := [.lit (.bool false)], args := [d] }
  | _ => none }
def FnFarSumWrongFalsely : Prop := fnFarSumRow.holds Try.pinned (OpenSpec.ofChange fnFarSumWrong)

/-- 'laws.FnWord': WHATEVER THE INPUT: true; the input reads as it did. -/
def fnWordSpec : ChangeSpec := { name := "fnWord", fn := fun _ => fun
  | [d] => { results := [.lit (.bool true)], args := [d] }
  | _ => none }
def fnWordRow : OpenClaim := { program := "ytgonanembcnlgaa", sum := "a67ced6b27e121a01501d40fa7f3fa13fc925e88345bd5b8cf0146e16c9faca6", func := "loop.example/ringsofsteps/laws.FnWord", spec := "fnWord", unfollowed := true, recurses := true, apart := false }
def FnWordSaid : Prop := fnWordRow.holds Try.pinned (OpenSpec.ofChange fnWordSpec)

/-- ITS FALSE NEIGHBOUR: 'it returns false'. Refute it at one input. -/
def fnWordWrong : ChangeSpec := { name := "fnWord", fn := fun _ => fun
  | [d] => { results := [.lit (.bool false)], args := [d] }
  | _ => none }
def FnWordWrongFalsely : Prop := fnWordRow.holds Try.pinned (OpenSpec.ofChange fnWordWrong)

/-- 'laws.FnLayers': WHATEVER THE INPUT: true; the input reads as it did. -/
def fnLayersSpec : ChangeSpec := { name := "fnLayers", fn := fun _ => fun
  | [d] => { results := [.lit (.bool true)], args := [d] }
  | _ => none }
def fnLayersRow : OpenClaim := { program := "ytgonanembcnlgaa", sum := "a67ced6b27e121a01501d40fa7f3fa13fc925e88345bd5b8cf0146e16c9faca6", func := "loop.example/ringsofsteps/laws.FnLayers", spec := "fnLayers", unfollowed := true, recurses := true, apart := false }
def FnLayersSaid : Prop := fnLayersRow.holds Try.pinned (OpenSpec.ofChange fnLayersSpec)

/-- ITS FALSE NEIGHBOUR: 'it returns false'. Refute it at one input. -/
def fnLayersWrong : ChangeSpec := { name := "fnLayers", fn := fun _ => fun
  | [d] => { results := [.lit (.bool false)], args := [d] }
  | _ => none }
def FnLayersWrongFalsely : Prop := fnLayersRow.holds Try.pinned (OpenSpec.ofChange fnLayersWrong)

/-- 'laws.FnBest': WHATEVER THE INPUT: true; the input reads as it did. -/
def fnBestSpec : ChangeSpec := { name := "fnBest", fn := fun _ => fun
  | [d] => { results := [.lit (.bool true)], args := [d] }
  | _ => none }
def fnBestRow : OpenClaim := { program := "ytgonanembcnlgaa", sum := "a67ced6b27e121a01501d40fa7f3fa13fc925e88345bd5b8cf0146e16c9faca6", func := "loop.example/ringsofsteps/laws.FnBest", spec := "fnBest", unfollowed := true, recurses := true, apart := false }
def FnBestSaid : Prop := fnBestRow.holds Try.pinned (OpenSpec.ofChange fnBestSpec)

/-- ITS FALSE NEIGHBOUR: 'it returns false'. Refute it at one input. -/
def fnBestWrong : ChangeSpec := { name := "fnBest", fn := fun _ => fun
  | [d] => { results := [.lit (.bool false)], args := [d] }
  | _ => none }
def FnBestWrongFalsely : Prop := fnBestRow.holds Try.pinned (OpenSpec.ofChange fnBestWrong)

/-- 'laws.FnTurned': WHATEVER THE INPUT: true; the input reads as it did. -/
def fnTurnedSpec : ChangeSpec := { name := "fnTurned", fn := fun _ => fun
  | [d] => { results := [.lit (.bool true)], args := [d] }
  | _ => none }
def fnTurnedRow : OpenClaim := { program := "ytgonanembcnlgaa", sum := "a67ced6b27e121a01501d40fa7f3fa13fc925e88345bd5b8cf0146e16c9faca6", func := "loop.example/ringsofsteps/laws.FnTurned", spec := "fnTurned", unfollowed := true, recurses := true, apart := false }
def FnTurnedSaid : Prop := fnTurnedRow.holds Try.pinned (OpenSpec.ofChange fnTurnedSpec)

/-- ITS FALSE NEIGHBOUR: 'it returns false'. Refute it at one input. -/
def fnTurnedWrong : ChangeSpec := { name := "fnTurned", fn := fun _ => fun
  | [d] => { results := [.lit (.bool false)], args := [d] }
  | _ => none }
def FnTurnedWrongFalsely : Prop := fnTurnedRow.holds Try.pinned (OpenSpec.ofChange fnTurnedWrong)

/- THE SECOND FORM. 'bulk': how many values and letters a reading holds, each counted each time it is reached (what is shared counts as often as it is met; a slice's spare places count too). A statement '..UptoSaid' is the law's where the arguments, and the package variables that the reading takes, are together of bulk at most 1048576: NARROWER than '..Said'. Prove '..Said' where nothing that the law and all that it calls make is longer than what came in: it says more and counts as full. Else prove '..UptoSaid'. A law counts once. -/
mutual
def uptoBulk {H : Type} : DataW H → Nat
  | .lit (.string bytes) => bytes.length + 1
  | .lit _ => 1
  | .nil => 1
  | .ptr d => uptoBulk d + 1
  | .slice elems spare => uptoBulkAll elems + uptoBulkAll spare + 1
  | .agg parts => uptoBulkAll parts + 1
  | .iface _ d => uptoBulk d + 1
  | .map entries => uptoBulkEntries entries + 1
  | .held _ => 1
def uptoBulkAll {H : Type} : List (DataW H) → Nat
  | [] => 0
  | d :: r => uptoBulk d + uptoBulkAll r
def uptoBulkEntries {H : Type} : List (Lit × DataW H) → Nat
  | [] => 0
  | x :: r => uptoBulkEntry x + uptoBulkEntries r
def uptoBulkEntry {H : Type} : Lit × DataW H → Nat
  | (.string bytes, d) => bytes.length + uptoBulk d + 1
  | (_, d) => uptoBulk d + 1
 end
def uptoSmall : (H : Type) → List (DataW H) → Bool := fun _ ds => decide (uptoBulkAll ds ≤ 1048576)
def OpenSpec.upto (s : _root_.Go.ChangeSpec) : _root_.Go.OpenSpec := { _root_.Go.OpenSpec.ofChange s with cond := some uptoSmall }

/-- 'laws.FnFarList', WHERE WHAT IT READS IS OF BULK AT MOST 1048576: true; the input reads as it did. -/
def fnFarListUptoRow : OpenClaim := { program := "ytgonanembcnlgaa", sum := "a67ced6b27e121a01501d40fa7f3fa13fc925e88345bd5b8cf0146e16c9faca6", func := "loop.example/ringsofsteps/laws.FnFarList", spec := "fnFarList", unfollowed := true, recurses := true, apart := false, narrowed := true }
def FnFarListUptoSaid : Prop := fnFarListUptoRow.holds Try.pinned (OpenSpec.upto fnFarListSpec)

/-- 'laws.FnFarMost', WHERE WHAT IT READS IS OF BULK AT MOST 1048576: true; the input reads as it did. -/
def fnFarMostUptoRow : OpenClaim := { program := "ytgonanembcnlgaa", sum := "a67ced6b27e121a01501d40fa7f3fa13fc925e88345bd5b8cf0146e16c9faca6", func := "loop.example/ringsofsteps/laws.FnFarMost", spec := "fnFarMost", unfollowed := true, recurses := true, apart := false, narrowed := true }
def FnFarMostUptoSaid : Prop := fnFarMostUptoRow.holds Try.pinned (OpenSpec.upto fnFarMostSpec)

/-- 'laws.FnFarSum', WHERE WHAT IT READS IS OF BULK AT MOST 1048576: true; the input reads as it did. -/
def fnFarSumUptoRow : OpenClaim := { program := "ytgonanembcnlgaa", sum := "a67ced6b27e121a01501d40fa7f3fa13fc925e88345bd5b8cf0146e16c9faca6", func := "loop.example/ringsofsteps/laws.FnFarSum", spec := "fnFarSum", unfollowed := true, recurses := true, apart := false, narrowed := true }
def FnFarSumUptoSaid : Prop := fnFarSumUptoRow.holds Try.pinned (OpenSpec.upto fnFarSumSpec)

/-- 'laws.FnWord', WHERE WHAT IT READS IS OF BULK AT MOST 1048576: true; the input reads as it did. -/
def fnWordUptoRow : OpenClaim := { program := "ytgonanembcnlgaa", sum := "a67ced6b27e121a01501d40fa7f3fa13fc925e88345bd5b8cf0146e16c9faca6", func := "loop.example/ringsofsteps/laws.FnWord", spec := "fnWord", unfollowed := true, recurses := true, apart := false, narrowed := true }
def FnWordUptoSaid : Prop := fnWordUptoRow.holds Try.pinned (OpenSpec.upto fnWordSpec)

/-- 'laws.FnLayers', WHERE WHAT IT READS IS OF BULK AT MOST 1048576: true; the input reads as it did. -/
def fnLayersUptoRow : OpenClaim := { program := "ytgonanembcnlgaa", sum := "a67ced6b27e121a01501d40fa7f3fa13fc925e88345bd5b8cf0146e16c9faca6", func := "loop.example/ringsofsteps/laws.FnLayers", spec := "fnLayers", unfollowed := true, recurses := true, apart := false, narrowed := true }
def FnLayersUptoSaid : Prop := fnLayersUptoRow.holds Try.pinned (OpenSpec.upto fnLayersSpec)

/-- 'laws.FnBest', WHERE WHAT IT READS IS OF BULK AT MOST 1048576: true; the input reads as it did. -/
def fnBestUptoRow : OpenClaim := { program := "ytgonanembcnlgaa", sum := "a67ced6b27e121a01501d40fa7f3fa13fc925e88345bd5b8cf0146e16c9faca6", func := "loop.example/ringsofsteps/laws.FnBest", spec := "fnBest", unfollowed := true, recurses := true, apart := false, narrowed := true }
def FnBestUptoSaid : Prop := fnBestUptoRow.holds Try.pinned (OpenSpec.upto fnBestSpec)

/-- 'laws.FnTurned', WHERE WHAT IT READS IS OF BULK AT MOST 1048576: true; the input reads as it did. -/
def fnTurnedUptoRow : OpenClaim := { program := "ytgonanembcnlgaa", sum := "a67ced6b27e121a01501d40fa7f3fa13fc925e88345bd5b8cf0146e16c9faca6", func := "loop.example/ringsofsteps/laws.FnTurned", spec := "fnTurned", unfollowed := true, recurses := true, apart := false, narrowed := true }
def FnTurnedUptoSaid : Prop := fnTurnedUptoRow.holds Try.pinned (OpenSpec.upto fnTurnedSpec)

end Rows
end Go.Proofs.Ytgonanembcnlgaa
