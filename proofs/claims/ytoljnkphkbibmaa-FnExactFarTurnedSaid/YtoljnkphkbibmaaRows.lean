/-
  No cell of these rows narrows 'for every input' (looked for: loops, veiled, ifaces, maps, wideKeys, modest, calm, conditions, laid).
  DERIVED. THE GIVEN ROWS OF THIS SEAT. 8 by the template 'for every input the law returns true; each argument reads behind the call as it read before'; 0 by the template 'total and deterministic' (their statements: YtoljnkphkbibmaaTotals.lean).
  GIVEN WITH THE SEED: the statements are not yours to turn. If you find one false, say at which input.
  Laid BY PROGRAM, IN A SANDBOX (cutbox-rows.mjs): the forced cells as the released guide's own fill.sh prints them over the translation c4de7da60cd66311… (all of the seat's roots in one cut). By AI agents, Wed Nov 11 2026. No macro, syntax, notation, axiom, sorry.
-/
import Derived.Test.YtoljnkphkbibmaaChecked
import GoSem.Claim
import GoSem.ClaimJoined
import GoSem.ClaimMapViews
import Derived.JoinedTies
import Derived.KernelRfl
namespace Go.Proofs.Ytoljnkphkbibmaa
/- THE CELL 'sum', in the pinned program and in every row, IS THE sha256 OF THE DUMP (.gsa) THAT YtoljnkphkbibmaaProg.lean LOADS. Nothing in Lean hashes anything: it is a label: what it is worth is what the hold of that sum in a sandbox is worth. -/
noncomputable def Try.pinned : Pinned := { name := "ytoljnkphkbibmaa", sum := "c4de7da60cd663110cfcb1b183ebc766e246c27eebf56082db07d12846f9740f", checked := Try.checked }
namespace Rows
def none {H : Type} : Left H := { results := [], args := [] }

/-- 'laws.FnExactFarList': WHATEVER THE INPUT: true; the input reads as it did. -/
def fnExactFarListSpec : ChangeSpec := { name := "fnExactFarList", fn := fun _ => fun
  | [d1, d2] => { results := [.lit (.bool true)], args := [d1, d2] }
  | _ => none }
def fnExactFarListRow : OpenClaim := { program := "ytoljnkphkbibmaa", sum := "c4de7da60cd663110cfcb1b183ebc766e246c27eebf56082db07d12846f9740f", func := "loop.example/ringsofsteps/laws.FnExactFarList", spec := "fnExactFarList", unfollowed := true, recurses := true, apart := false }
def FnExactFarListSaid : Prop := fnExactFarListRow.holds Try.pinned (OpenSpec.ofChange fnExactFarListSpec)

/-- ITS FALSE NEIGHBOUR: 'it returns false'. Refute it at one input. -/
def fnExactFarListWrong : ChangeSpec := { name := "fnExactFarList", fn := fun _ => fun
  | [d1, d2] => { results := [.lit (.bool false)], args := [d1, d2] }
  | _ => none }
def FnExactFarListWrongFalsely : Prop := fnExactFarListRow.holds Try.pinned (OpenSpec.ofChange fnExactFarListWrong)

/-- 'laws.FnExactFarMost': WHATEVER THE INPUT: true; the input reads as it did. -/
def fnExactFarMostSpec : ChangeSpec := { name := "fnExactFarMost", fn := fun _ => fun
  | [d1, d2] => { results := [.lit (.bool true)], args := [d1, d2] }
  | _ => none }
def fnExactFarMostRow : OpenClaim := { program := "ytoljnkphkbibmaa", sum := "c4de7da60cd663110cfcb1b183ebc766e246c27eebf56082db07d12846f9740f", func := "loop.example/ringsofsteps/laws.FnExactFarMost", spec := "fnExactFarMost", unfollowed := true, recurses := true, apart := false }
def FnExactFarMostSaid : Prop := fnExactFarMostRow.holds Try.pinned (OpenSpec.ofChange fnExactFarMostSpec)

/-- ITS FALSE NEIGHBOUR: 'it returns false'. Refute it at one input. -/
def fnExactFarMostWrong : ChangeSpec := { name := "fnExactFarMost", fn := fun _ => fun
  | [d1, d2] => { results := [.lit (.bool false)], args := [d1, d2] }
  | _ => none }
def FnExactFarMostWrongFalsely : Prop := fnExactFarMostRow.holds Try.pinned (OpenSpec.ofChange fnExactFarMostWrong)

/-- 'laws.FnExactFarSum': WHATEVER THE INPUT: true; the input reads as it did. -/
def fnExactFarSumSpec : ChangeSpec := { name := "fnExactFarSum", fn := fun _ => fun
  | [d1, d2] => { results := [.lit (.bool true)], args := [d1, d2] }
  | _ => none }
def fnExactFarSumRow : OpenClaim := { program := "ytoljnkphkbibmaa", sum := "c4de7da60cd663110cfcb1b183ebc766e246c27eebf56082db07d12846f9740f", func := "loop.example/ringsofsteps/laws.FnExactFarSum", spec := "fnExactFarSum", unfollowed := true, recurses := true, apart := false }
def FnExactFarSumSaid : Prop := fnExactFarSumRow.holds Try.pinned (OpenSpec.ofChange fnExactFarSumSpec)

/-- ITS FALSE NEIGHBOUR: 'it returns false'. Refute it at one input. -/
def fnExactFarSumWrong : ChangeSpec := { name := "fnExactFarSum", fn := fun _ => fun
  | [d1, d2] => { results := [.lit (.bool false)], args := [d1, d2] }
  | _ => none }
def FnExactFarSumWrongFalsely : Prop := fnExactFarSumRow.holds Try.pinned (OpenSpec.ofChange fnExactFarSumWrong)

/-- 'laws.FnExactFarWays': WHATEVER THE INPUT: true; the input reads as it did. -/
def fnExactFarWaysSpec : ChangeSpec := { name := "fnExactFarWays", fn := fun _ => fun
  | [d1, d2] => { results := [.lit (.bool true)], args := [d1, d2] }
  | _ => none }
def fnExactFarWaysRow : OpenClaim := { program := "ytoljnkphkbibmaa", sum := "c4de7da60cd663110cfcb1b183ebc766e246c27eebf56082db07d12846f9740f", func := "loop.example/ringsofsteps/laws.FnExactFarWays", spec := "fnExactFarWays", unfollowed := true, recurses := true, apart := false }
def FnExactFarWaysSaid : Prop := fnExactFarWaysRow.holds Try.pinned (OpenSpec.ofChange fnExactFarWaysSpec)

/-- ITS FALSE NEIGHBOUR: 'it returns false'. Refute it at one input. -/
def fnExactFarWaysWrong : ChangeSpec := { name := "fnExactFarWays", fn := fun _ => fun
  | [d1, d2] => { results := [.lit (.bool false)], args := [d1, d2] }
  | _ => none }
def FnExactFarWaysWrongFalsely : Prop := fnExactFarWaysRow.holds Try.pinned (OpenSpec.ofChange fnExactFarWaysWrong)

/-- 'laws.FnExactFarWord': WHATEVER THE INPUT: true; the input reads as it did. -/
def fnExactFarWordSpec : ChangeSpec := { name := "fnExactFarWord", fn := fun _ => fun
  | [d1, d2, d3] => { results := [.lit (.bool true)], args := [d1, d2, d3] }
  | _ => none }
def fnExactFarWordRow : OpenClaim := { program := "ytoljnkphkbibmaa", sum := "c4de7da60cd663110cfcb1b183ebc766e246c27eebf56082db07d12846f9740f", func := "loop.example/ringsofsteps/laws.FnExactFarWord", spec := "fnExactFarWord", unfollowed := true, recurses := true, apart := false }
def FnExactFarWordSaid : Prop := fnExactFarWordRow.holds Try.pinned (OpenSpec.ofChange fnExactFarWordSpec)

/-- ITS FALSE NEIGHBOUR: 'it returns false'. Refute it at one input. -/
def fnExactFarWordWrong : ChangeSpec := { name := "fnExactFarWord", fn := fun _ => fun
  | [d1, d2, d3] => { results := [.lit (.bool false)], args := [d1, d2, d3] }
  | _ => none }
def FnExactFarWordWrongFalsely : Prop := fnExactFarWordRow.holds Try.pinned (OpenSpec.ofChange fnExactFarWordWrong)

/-- 'laws.FnExactFarLayers': WHATEVER THE INPUT: true; the input reads as it did. -/
def fnExactFarLayersSpec : ChangeSpec := { name := "fnExactFarLayers", fn := fun _ => fun
  | [d1, d2] => { results := [.lit (.bool true)], args := [d1, d2] }
  | _ => none }
def fnExactFarLayersRow : OpenClaim := { program := "ytoljnkphkbibmaa", sum := "c4de7da60cd663110cfcb1b183ebc766e246c27eebf56082db07d12846f9740f", func := "loop.example/ringsofsteps/laws.FnExactFarLayers", spec := "fnExactFarLayers", unfollowed := true, recurses := true, apart := false }
def FnExactFarLayersSaid : Prop := fnExactFarLayersRow.holds Try.pinned (OpenSpec.ofChange fnExactFarLayersSpec)

/-- ITS FALSE NEIGHBOUR: 'it returns false'. Refute it at one input. -/
def fnExactFarLayersWrong : ChangeSpec := { name := "fnExactFarLayers", fn := fun _ => fun
  | [d1, d2] => { results := [.lit (.bool false)], args := [d1, d2] }
  | _ => none }
def FnExactFarLayersWrongFalsely : Prop := fnExactFarLayersRow.holds Try.pinned (OpenSpec.ofChange fnExactFarLayersWrong)

/-- 'laws.FnExactFarBest': WHATEVER THE INPUT: true; the input reads as it did. -/
def fnExactFarBestSpec : ChangeSpec := { name := "fnExactFarBest", fn := fun _ => fun
  | [d1, d2] => { results := [.lit (.bool true)], args := [d1, d2] }
  | _ => none }
def fnExactFarBestRow : OpenClaim := { program := "ytoljnkphkbibmaa", sum := "c4de7da60cd663110cfcb1b183ebc766e246c27eebf56082db07d12846f9740f", func := "loop.example/ringsofsteps/laws.FnExactFarBest", spec := "fnExactFarBest", unfollowed := true, recurses := true, apart := false }
def FnExactFarBestSaid : Prop := fnExactFarBestRow.holds Try.pinned (OpenSpec.ofChange fnExactFarBestSpec)

/-- ITS FALSE NEIGHBOUR: 'it returns false'. Refute it at one input. -/
def fnExactFarBestWrong : ChangeSpec := { name := "fnExactFarBest", fn := fun _ => fun
  | [d1, d2] => { results := [.lit (.bool false)], args := [d1, d2] }
  | _ => none }
def FnExactFarBestWrongFalsely : Prop := fnExactFarBestRow.holds Try.pinned (OpenSpec.ofChange fnExactFarBestWrong)

/-- 'laws.FnExactFarTurned': WHATEVER THE INPUT: true; the input reads as it did. -/
def fnExactFarTurnedSpec : ChangeSpec := { name := "fnExactFarTurned", fn := fun _ => fun
  | [d1, d2, d3] => { results := [.lit (.bool true)], args := [d1, d2, d3] }
  | _ => none }
def fnExactFarTurnedRow : OpenClaim := { program := "ytoljnkphkbibmaa", sum := "c4de7da60cd663110cfcb1b183ebc766e246c27eebf56082db07d12846f9740f", func := "loop.example/ringsofsteps/laws.FnExactFarTurned", spec := "fnExactFarTurned", unfollowed := true, recurses := true, apart := false }
def FnExactFarTurnedSaid : Prop := fnExactFarTurnedRow.holds Try.pinned (OpenSpec.ofChange fnExactFarTurnedSpec)

/-- ITS FALSE NEIGHBOUR: 'it returns false'. Refute it at one input. -/
def fnExactFarTurnedWrong : ChangeSpec := { name := "fnExactFarTurned", fn := fun _ => fun
  | [d1, d2, d3] => { results := [.lit (.bool false)], args := [d1, d2, d3] }
  | _ => none }
def FnExactFarTurnedWrongFalsely : Prop := fnExactFarTurnedRow.holds Try.pinned (OpenSpec.ofChange fnExactFarTurnedWrong)

/- THE SECOND FORM. 'bulk': how many values and letters a reading holds, each counted each time it is reached (what is shared counts as often as it is met; a slice's spare places count too). A statement '..UptoSaid' is the law's where the arguments, and the package variables that the reading takes, are together of bulk at most 1048576: NARROWER than '..Said'. Prove '..Said' where nothing that the law and all that it calls make is longer than what came in: it says more and counts as full. Else prove '..UptoSaid'. A law counts once. -/
mutual
def uptoBulk {H : Type} : DataW H → Nat
  | .lit (.string bytes) => bytes.length + 1
  | .lit _ => 1
  | .nil => 1
  | .ptr d => uptoBulk d + 1
  | .slice elems spare => uptoBulkAll elems + uptoBulkAll spare + 1
  | .agg parts => uptoBulkAll parts + 1
  | .iface _ d => uptoBulk d + 1
  | .map entries => uptoBulkEntries entries + 1
  | .held _ => 1
def uptoBulkAll {H : Type} : List (DataW H) → Nat
  | [] => 0
  | d :: r => uptoBulk d + uptoBulkAll r
def uptoBulkEntries {H : Type} : List (Lit × DataW H) → Nat
  | [] => 0
  | x :: r => uptoBulkEntry x + uptoBulkEntries r
def uptoBulkEntry {H : Type} : Lit × DataW H → Nat
  | (.string bytes, d) => bytes.length + uptoBulk d + 1
  | (_, d) => uptoBulk d + 1
 end
def uptoSmall : (H : Type) → List (DataW H) → Bool := fun _ ds => decide (uptoBulkAll ds ≤ 1048576)
def OpenSpec.upto (s : _root_.Go.ChangeSpec) : _root_.Go.OpenSpec := { _root_.Go.OpenSpec.ofChange s with cond := some uptoSmall }

/-- 'laws.FnExactFarList', WHERE WHAT IT READS IS OF BULK AT MOST 1048576: true; the input reads as it did. -/
def fnExactFarListUptoRow : OpenClaim := { program := "ytoljnkphkbibmaa", sum := "c4de7da60cd663110cfcb1b183ebc766e246c27eebf56082db07d12846f9740f", func := "loop.example/ringsofsteps/laws.FnExactFarList", spec := "fnExactFarList", unfollowed := true, recurses := true, apart := false, narrowed := true }
def FnExactFarListUptoSaid : Prop := fnExactFarListUptoRow.holds Try.pinned (OpenSpec.upto fnExactFarListSpec)

/-- 'laws.FnExactFarMost', WHERE WHAT IT READS IS OF BULK AT MOST 1048576: true; the input reads as it did. -/
def fnExactFarMostUptoRow : OpenClaim := { program := "ytoljnkphkbibmaa", sum := "c4de7da60cd663110cfcb1b183ebc766e246c27eebf56082db07d12846f9740f", func := "loop.example/ringsofsteps/laws.FnExactFarMost", spec := "fnExactFarMost", unfollowed := true, recurses := true, apart := false, narrowed := true }
def FnExactFarMostUptoSaid : Prop := fnExactFarMostUptoRow.holds Try.pinned (OpenSpec.upto fnExactFarMostSpec)

/-- 'laws.FnExactFarSum', WHERE WHAT IT READS IS OF BULK AT MOST 1048576: true; the input reads as it did. -/
def fnExactFarSumUptoRow : OpenClaim := { program := "ytoljnkphkbibmaa", sum := "c4de7da60cd663110cfcb1b183ebc766e246c27eebf56082db07d12846f9740f", func := "loop.example/ringsofsteps/laws.FnExactFarSum", spec := "fnExactFarSum", unfollowed := true, recurses := true, apart := false, narrowed := true }
def FnExactFarSumUptoSaid : Prop := fnExactFarSumUptoRow.holds Try.pinned (OpenSpec.upto fnExactFarSumSpec)

/-- 'laws.FnExactFarWays', WHERE WHAT IT READS IS OF BULK AT MOST 1048576: true; the input reads as it did. -/
def fnExactFarWaysUptoRow : OpenClaim := { program := "ytoljnkphkbibmaa", sum := "c4de7da60cd663110cfcb1b183ebc766e246c27eebf56082db07d12846f9740f", func := "loop.example/ringsofsteps/laws.FnExactFarWays", spec := "fnExactFarWays", unfollowed := true, recurses := true, apart := false, narrowed := true }
def FnExactFarWaysUptoSaid : Prop := fnExactFarWaysUptoRow.holds Try.pinned (OpenSpec.upto fnExactFarWaysSpec)

/-- 'laws.FnExactFarWord', WHERE WHAT IT READS IS OF BULK AT MOST 1048576: true; the input reads as it did. -/
def fnExactFarWordUptoRow : OpenClaim := { program := "ytoljnkphkbibmaa", sum := "c4de7da60cd663110cfcb1b183ebc766e246c27eebf56082db07d12846f9740f", func := "loop.example/ringsofsteps/laws.FnExactFarWord", spec := "fnExactFarWord", unfollowed := true, recurses := true, apart := false, narrowed := true }
def FnExactFarWordUptoSaid : Prop := fnExactFarWordUptoRow.holds Try.pinned (OpenSpec.upto fnExactFarWordSpec)

/-- 'laws.FnExactFarLayers', WHERE WHAT IT READS IS OF BULK AT MOST 1048576: true; the input reads as it did. -/
def fnExactFarLayersUptoRow : OpenClaim := { program := "ytoljnkphkbibmaa", sum := "c4de7da60cd663110cfcb1b183ebc766e246c27eebf56082db07d12846f9740f", func := "loop.example/ringsofsteps/laws.FnExactFarLayers", spec := "fnExactFarLayers", unfollowed := true, recurses := true, apart := false, narrowed := true }
def FnExactFarLayersUptoSaid : Prop := fnExactFarLayersUptoRow.holds Try.pinned (OpenSpec.upto fnExactFarLayersSpec)

/-- 'laws.FnExactFarBest', WHERE WHAT IT READS IS OF BULK AT MOST 1048576: true; the input reads as it did. -/
def fnExactFarBestUptoRow : OpenClaim := { program := "ytoljnkphkbibmaa", sum := "c4de7da60cd663110cfcb1b183ebc766e246c27eebf56082db07d12846f9740f", func := "loop.example/ringsofsteps/laws.FnExactFarBest", spec := "fnExactFarBest", unfollowed := true, recurses := true, apart := false, narrowed := true }
def FnExactFarBestUptoSaid : Prop := fnExactFarBestUptoRow.holds Try.pinned (OpenSpec.upto fnExactFarBestSpec)

/-- 'laws.FnExactFarTurned', WHERE WHAT IT READS IS OF BULK AT MOST 1048576: true; the input reads as it did. -/
def fnExactFarTurnedUptoRow : OpenClaim := { program := "ytoljnkphkbibmaa", sum := "c4de7da60cd663110cfcb1b183ebc766e246c27eebf56082db07d12846f9740f", func := "loop.example/ringsofsteps/laws.FnExactFarTurned", spec := "fnExactFarTurned", unfollowed := true, recurses := true, apart := false, narrowed := true }
def FnExactFarTurnedUptoSaid : Prop := fnExactFarTurnedUptoRow.holds Try.pinned (OpenSpec.upto fnExactFarTurnedSpec)

end Rows
end Go.Proofs.Ytoljnkphkbibmaa
