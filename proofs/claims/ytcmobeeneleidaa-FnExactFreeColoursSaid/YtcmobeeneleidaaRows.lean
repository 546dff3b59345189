/-
  No cell of these rows narrows 'for every input' (looked for: loops, veiled, ifaces, maps, wideKeys, modest, calm, conditions, laid).
  DERIVED. THE GIVEN ROWS OF THIS SEAT. 8 by the template 'for every input the law returns true; each argument reads behind the call as it read before'; 0 by the template 'total and deterministic' (their statements: YtcmobeeneleidaaTotals.lean).
  GIVEN WITH THE SEED: the statements are not yours to turn. If you find one false, say at which input.
  Laid BY PROGRAM, IN A SANDBOX (cutbox-rows.mjs): the forced cells as the released guide's own fill.sh prints them over the translation 6f5b5b5b06d24788… (all of the seat's roots in one cut). By AI agents, Wed Nov 11 2026. No macro, syntax, notation, axiom, sorry.
-/
import Derived.Test.YtcmobeeneleidaaChecked
import GoSem.Claim
import GoSem.ClaimJoined
import GoSem.ClaimMapViews
import Derived.JoinedTies
import Derived.KernelRfl
namespace Go.Proofs.Ytcmobeeneleidaa
/- THE CELL 'sum', in the pinned program and in every row, IS THE sha256 OF THE DUMP (.gsa) THAT YtcmobeeneleidaaProg.lean LOADS. Nothing in Lean hashes anything: it is a label: what it is worth is what the hold of that sum in a sandbox is worth. -/
noncomputable def Try.pinned : Pinned := { name := "ytcmobeeneleidaa", sum := "6f5b5b5b06d24788fd5bf89c15d351f0427de716ebed526ae82418c4b22494b5", checked := Try.checked }
namespace Rows
def none {H : Type} : Left H := { results := [], args := [] }

/-- 'laws.FnExactFreeMost': WHATEVER THE INPUT: true; the input reads as it did. -/
def fnExactFreeMostSpec : ChangeSpec := { name := "fnExactFreeMost", fn := fun _ => fun
  | [d1, d2] => { results := [.lit (.bool true)], args := [d1, d2] }
  | _ => none }
def fnExactFreeMostRow : OpenClaim := { program := "ytcmobeeneleidaa", sum := "6f5b5b5b06d24788fd5bf89c15d351f0427de716ebed526ae82418c4b22494b5", func := "loop.example/ringsofsteps/laws.FnExactFreeMost", spec := "fnExactFreeMost", unfollowed := true, recurses := true, apart := false }
def FnExactFreeMostSaid : Prop := fnExactFreeMostRow.holds Try.pinned (OpenSpec.ofChange fnExactFreeMostSpec)

/-- ITS FALSE NEIGHBOUR: 'it returns false'. Refute it at one input. -/
def fnExactFreeMostWrong : ChangeSpec := { name := "fnExactFreeMost", fn := fun _ => fun
  | [d1, d2] => { results := [.lit (.bool false)], args := [d1, d2] }
  | _ => none }
def FnExactFreeMostWrongFalsely : Prop := fnExactFreeMostRow.holds Try.pinned (OpenSpec.ofChange fnExactFreeMostWrong)

/-- 'laws.FnExactFreeMany': WHATEVER THE INPUT: true; the input reads as it did. -/
def fnExactFreeManySpec : ChangeSpec := { name := "fnExactFreeMany", fn := fun _ => fun
  | [d1, d2] => { results := [.lit (.bool true)], args := [d1, d2] }
  | _ => none }
def fnExactFreeManyRow : OpenClaim := { program := "ytcmobeeneleidaa", sum := "6f5b5b5b06d24788fd5bf89c15d351f0427de716ebed526ae82418c4b22494b5", func := "loop.example/ringsofsteps/laws.FnExactFreeMany", spec := "fnExactFreeMany", unfollowed := true, recurses := true, apart := false }
def FnExactFreeManySaid : Prop := fnExactFreeManyRow.holds Try.pinned (OpenSpec.ofChange fnExactFreeManySpec)

/-- ITS FALSE NEIGHBOUR: 'it returns false'. Refute it at one input. -/
def fnExactFreeManyWrong : ChangeSpec := { name := "fnExactFreeMany", fn := fun _ => fun
  | [d1, d2] => { results := [.lit (.bool false)], args := [d1, d2] }
  | _ => none }
def FnExactFreeManyWrongFalsely : Prop := fnExactFreeManyRow.holds Try.pinned (OpenSpec.ofChange fnExactFreeManyWrong)

/-- 'laws.FnExactFreeFull': WHATEVER THE INPUT: true; the input reads as it did. -/
def fnExactFreeFullSpec : ChangeSpec := { name := "fnExactFreeFull", fn := fun _ => fun
  | [d1, d2] => { results := [.lit (.bool true)], args := [d1, d2] }
  | _ => none }
def fnExactFreeFullRow : OpenClaim := { program := "ytcmobeeneleidaa", sum := "6f5b5b5b06d24788fd5bf89c15d351f0427de716ebed526ae82418c4b22494b5", func := "loop.example/ringsofsteps/laws.FnExactFreeFull", spec := "fnExactFreeFull", unfollowed := true, recurses := true, apart := false }
def FnExactFreeFullSaid : Prop := fnExactFreeFullRow.holds Try.pinned (OpenSpec.ofChange fnExactFreeFullSpec)

/-- ITS FALSE NEIGHBOUR: 'it returns false'. Refute it at one input. -/
def fnExactFreeFullWrong : ChangeSpec := { name := "fnExactFreeFull", fn := fun _ => fun
  | [d1, d2] => { results := [.lit (.bool false)], args := [d1, d2] }
  | _ => none }
def FnExactFreeFullWrongFalsely : Prop := fnExactFreeFullRow.holds Try.pinned (OpenSpec.ofChange fnExactFreeFullWrong)

/-- 'laws.FnExactFreeWays': WHATEVER THE INPUT: true; the input reads as it did. -/
def fnExactFreeWaysSpec : ChangeSpec := { name := "fnExactFreeWays", fn := fun _ => fun
  | [d1, d2, d3] => { results := [.lit (.bool true)], args := [d1, d2, d3] }
  | _ => none }
def fnExactFreeWaysRow : OpenClaim := { program := "ytcmobeeneleidaa", sum := "6f5b5b5b06d24788fd5bf89c15d351f0427de716ebed526ae82418c4b22494b5", func := "loop.example/ringsofsteps/laws.FnExactFreeWays", spec := "fnExactFreeWays", unfollowed := true, recurses := true, apart := false }
def FnExactFreeWaysSaid : Prop := fnExactFreeWaysRow.holds Try.pinned (OpenSpec.ofChange fnExactFreeWaysSpec)

/-- ITS FALSE NEIGHBOUR: 'it returns false'. Refute it at one input. -/
def fnExactFreeWaysWrong : ChangeSpec := { name := "fnExactFreeWays", fn := fun _ => fun
  | [d1, d2, d3] => { results := [.lit (.bool false)], args := [d1, d2, d3] }
  | _ => none }
def FnExactFreeWaysWrongFalsely : Prop := fnExactFreeWaysRow.holds Try.pinned (OpenSpec.ofChange fnExactFreeWaysWrong)

/-- 'laws.FnExactFreeColours': WHATEVER THE INPUT: true; the input reads as it did. -/
def fnExactFreeColoursSpec : ChangeSpec := { name := "fnExactFreeColours", fn := fun _ => fun
  | [d1, d2] => { results := [.lit (.bool true)], args := [d1, d2] }
  | _ => none }
def fnExactFreeColoursRow : OpenClaim := { program := "ytcmobeeneleidaa", sum := "6f5b5b5b06d24788fd5bf89c15d351f0427de716ebed526ae82418c4b22494b5", func := "loop.example/ringsofsteps/laws.FnExactFreeColours", spec := "fnExactFreeColours", unfollowed := true, recurses := true, apart := false }
def FnExactFreeColoursSaid : Prop := fnExactFreeColoursRow.holds Try.pinned (OpenSpec.ofChange fnExactFreeColoursSpec)

/-- ITS FALSE NEIGHBOUR: 'it returns false'. Refute it at one input. -/
def fnExactFreeColoursWrong : ChangeSpec := { name := "fnExactFreeColours", fn := fun _ => fun
  | [d1, d2] => { results := [.lit (.bool false)], args := [d1, d2] }
  | _ => none }
def FnExactFreeColoursWrongFalsely : Prop := fnExactFreeColoursRow.holds Try.pinned (OpenSpec.ofChange fnExactFreeColoursWrong)

/-- 'laws.FnExactFreeWatch': WHATEVER THE INPUT: true; the input reads as it did. -/
def fnExactFreeWatchSpec : ChangeSpec := { name := "fnExactFreeWatch", fn := fun _ => fun
  | [d1, d2] => { results := [.lit (.bool true)], args := [d1, d2] }
  | _ => none }
def fnExactFreeWatchRow : OpenClaim := { program := "ytcmobeeneleidaa", sum := "6f5b5b5b06d24788fd5bf89c15d351f0427de716ebed526ae82418c4b22494b5", func := "loop.example/ringsofsteps/laws.FnExactFreeWatch", spec := "fnExactFreeWatch", unfollowed := true, recurses := true, apart := false }
def FnExactFreeWatchSaid : Prop := fnExactFreeWatchRow.holds Try.pinned (OpenSpec.ofChange fnExactFreeWatchSpec)

/-- ITS FALSE NEIGHBOUR: 'it returns false'. Refute it at one input. -/
def fnExactFreeWatchWrong : ChangeSpec := { name := "fnExactFreeWatch", fn := fun _ => fun
  | [d1, d2] => { results := [.lit (.bool false)], args := [d1, d2] }
  | _ => none }
def FnExactFreeWatchWrongFalsely : Prop := fnExactFreeWatchRow.holds Try.pinned (OpenSpec.ofChange fnExactFreeWatchWrong)

/-- 'laws.FnExactFreeNeat': WHATEVER THE INPUT: true; the input reads as it did. -/
def fnExactFreeNeatSpec : ChangeSpec := { name := "fnExactFreeNeat", fn := fun _ => fun
  | [d1, d2] => { results := [.lit (.bool true)], args := [d1, d2] }
  | _ => none }
def fnExactFreeNeatRow : OpenClaim := { program := "ytcmobeeneleidaa", sum := "6f5b5b5b06d24788fd5bf89c15d351f0427de716ebed526ae82418c4b22494b5", func := "loop.example/ringsofsteps/laws.FnExactFreeNeat", spec := "fnExactFreeNeat", unfollowed := true, recurses := true, apart := false }
def FnExactFreeNeatSaid : Prop := fnExactFreeNeatRow.holds Try.pinned (OpenSpec.ofChange fnExactFreeNeatSpec)

/-- ITS FALSE NEIGHBOUR: 'it returns false'. Refute it at one input. -/
def fnExactFreeNeatWrong : ChangeSpec := { name := "fnExactFreeNeat", fn := fun _ => fun
  | [d1, d2] => { results := [.lit (.bool false)], args := [d1, d2] }
  | _ => none }
def FnExactFreeNeatWrongFalsely : Prop := fnExactFreeNeatRow.holds Try.pinned (OpenSpec.ofChange fnExactFreeNeatWrong)

/-- 'laws.FnExactFreeSumless': WHATEVER THE INPUT: true; the input reads as it did. -/
def fnExactFreeSumlessSpec : ChangeSpec := { name := "fnExactFreeSumless", fn := fun _ => fun
  | [d] => { results := [.lit (.bool true)], args := [d] }
  | _ => none }
def fnExactFreeSumlessRow : OpenClaim := { program := "ytcmobeeneleidaa", sum := "6f5b5b5b06d24788fd5bf89c15d351f0427de716ebed526ae82418c4b22494b5", func := "loop.example/ringsofsteps/laws.FnExactFreeSumless", spec := "fnExactFreeSumless", unfollowed := true, recurses := true, apart := false }
def FnExactFreeSumlessSaid : Prop := fnExactFreeSumlessRow.holds Try.pinned (OpenSpec.ofChange fnExactFreeSumlessSpec)

/-- ITS FALSE NEIGHBOUR: 'it returns false'. Refute it at one input. -/
def fnExactFreeSumlessWrong : ChangeSpec := { name := "fnExactFreeSumless", fn := fun _ => fun
  | [d] => { results := [.lit (.bool false)], args := [d] }
  | _ => none }
def FnExactFreeSumlessWrongFalsely : Prop := fnExactFreeSumlessRow.holds Try.pinned (OpenSpec.ofChange fnExactFreeSumlessWrong)

/- THE SECOND FORM. 'bulk': how many values and letters a reading holds, each counted each time it is reached (what is shared counts as often as it is met; a slice's spare places count too). A statement '..UptoSaid' is the law's where the arguments, and the package variables that the reading takes, are together of bulk at most 1048576: NARROWER than '..Said'. Prove '..Said' where nothing that the law and all that it calls make is longer than what came in: it says more and counts as full. Else prove '..UptoSaid'. A law counts once. -/
mutual
def uptoBulk {H : Type} : DataW H → Nat
  | .lit (.string bytes) => bytes.length + 1
  | .lit _ => 1
  | .nil => 1
  | .ptr d => uptoBulk d + 1
  | .slice elems spare => uptoBulkAll elems + uptoBulkAll spare + 1
  | .agg parts => uptoBulkAll parts + 1
  | .iface _ d => uptoBulk d + 1
  | .map entries => uptoBulkEntries entries + 1
  | .held _ => 1
def uptoBulkAll {H : Type} : List (DataW H) → Nat
  | [] => 0
  | d :: r => uptoBulk d + uptoBulkAll r
def uptoBulkEntries {H : Type} : List (Lit × DataW H) → Nat
  | [] => 0
  | x :: r => uptoBulkEntry x + uptoBulkEntries r
def uptoBulkEntry {H : Type} : Lit × DataW H → Nat
  | (.string bytes, d) => bytes.length + uptoBulk d + 1
  | (_, d) => uptoBulk d + 1
 end
def uptoSmall : (H : Type) → List (DataW H) → Bool := fun _ ds => decide (uptoBulkAll ds ≤ 1048576)
def OpenSpec.upto (s : _root_.Go.ChangeSpec) : _root_.Go.OpenSpec := { _root_.Go.OpenSpec.ofChange s with cond := some uptoSmall }

/-- 'laws.FnExactFreeMost', WHERE WHAT IT READS IS OF BULK AT MOST 1048576: true; the input reads as it did. -/
def fnExactFreeMostUptoRow : OpenClaim := { program := "ytcmobeeneleidaa", sum := "6f5b5b5b06d24788fd5bf89c15d351f0427de716ebed526ae82418c4b22494b5", func := "loop.example/ringsofsteps/laws.FnExactFreeMost", spec := "fnExactFreeMost", unfollowed := true, recurses := true, apart := false, narrowed := true }
def FnExactFreeMostUptoSaid : Prop := fnExactFreeMostUptoRow.holds Try.pinned (OpenSpec.upto fnExactFreeMostSpec)

/-- 'laws.FnExactFreeMany', WHERE WHAT IT READS IS OF BULK AT MOST 1048576: true; the input reads as it did. -/
def fnExactFreeManyUptoRow : OpenClaim := { program := "ytcmobeeneleidaa", sum := "6f5b5b5b06d24788fd5bf89c15d351f0427de716ebed526ae82418c4b22494b5", func := "loop.example/ringsofsteps/laws.FnExactFreeMany", spec := "fnExactFreeMany", unfollowed := true, recurses := true, apart := false, narrowed := true }
def FnExactFreeManyUptoSaid : Prop := fnExactFreeManyUptoRow.holds Try.pinned (OpenSpec.upto fnExactFreeManySpec)

/-- 'laws.FnExactFreeFull', WHERE WHAT IT READS IS OF BULK AT MOST 1048576: true; the input reads as it did. -/
def fnExactFreeFullUptoRow : OpenClaim := { program := "ytcmobeeneleidaa", sum := "6f5b5b5b06d24788fd5bf89c15d351f0427de716ebed526ae82418c4b22494b5", func := "loop.example/ringsofsteps/laws.FnExactFreeFull", spec := "fnExactFreeFull", unfollowed := true, recurses := true, apart := false, narrowed := true }
def FnExactFreeFullUptoSaid : Prop := fnExactFreeFullUptoRow.holds Try.pinned (OpenSpec.upto fnExactFreeFullSpec)

/-- 'laws.FnExactFreeWays', WHERE WHAT IT READS IS OF BULK AT MOST 1048576: true; the input reads as it did. -/
def fnExactFreeWaysUptoRow : OpenClaim := { program := "ytcmobeeneleidaa", sum := "6f5b5b5b06d24788fd5bf89c15d351f0427de716ebed526ae82418c4b22494b5", func := "loop.example/ringsofsteps/laws.FnExactFreeWays", spec := "fnExactFreeWays", unfollowed := true, recurses := true, apart := false, narrowed := true }
def FnExactFreeWaysUptoSaid : Prop := fnExactFreeWaysUptoRow.holds Try.pinned (OpenSpec.upto fnExactFreeWaysSpec)

/-- 'laws.FnExactFreeColours', WHERE WHAT IT READS IS OF BULK AT MOST 1048576: true; the input reads as it did. -/
def fnExactFreeColoursUptoRow : OpenClaim := { program := "ytcmobeeneleidaa", sum := "6f5b5b5b06d24788fd5bf89c15d351f0427de716ebed526ae82418c4b22494b5", func := "loop.example/ringsofsteps/laws.FnExactFreeColours", spec := "fnExactFreeColours", unfollowed := true, recurses := true, apart := false, narrowed := true }
def FnExactFreeColoursUptoSaid : Prop := fnExactFreeColoursUptoRow.holds Try.pinned (OpenSpec.upto fnExactFreeColoursSpec)

/-- 'laws.FnExactFreeWatch', WHERE WHAT IT READS IS OF BULK AT MOST 1048576: true; the input reads as it did. -/
def fnExactFreeWatchUptoRow : OpenClaim := { program := "ytcmobeeneleidaa", sum := "6f5b5b5b06d24788fd5bf89c15d351f0427de716ebed526ae82418c4b22494b5", func := "loop.example/ringsofsteps/laws.FnExactFreeWatch", spec := "fnExactFreeWatch", unfollowed := true, recurses := true, apart := false, narrowed := true }
def FnExactFreeWatchUptoSaid : Prop := fnExactFreeWatchUptoRow.holds Try.pinned (OpenSpec.upto fnExactFreeWatchSpec)

/-- 'laws.FnExactFreeNeat', WHERE WHAT IT READS IS OF BULK AT MOST 1048576: true; the input reads as it did. -/
def fnExactFreeNeatUptoRow : OpenClaim := { program := "ytcmobeeneleidaa", sum := "6f5b5b5b06d24788fd5bf89c15d351f0427de716ebed526ae82418c4b22494b5", func := "loop.example/ringsofsteps/laws.FnExactFreeNeat", spec := "fnExactFreeNeat", unfollowed := true, recurses := true, apart := false, narrowed := true }
def FnExactFreeNeatUptoSaid : Prop := fnExactFreeNeatUptoRow.holds Try.pinned (OpenSpec.upto fnExactFreeNeatSpec)

/-- 'laws.FnExactFreeSumless', WHERE WHAT IT READS IS OF BULK AT MOST 1048576: true; the input reads as it did. -/
def fnExactFreeSumlessUptoRow : OpenClaim := { program := "ytcmobeeneleidaa", sum := "6f5b5b5b06d24788fd5bf89c15d351f0427de716ebed526ae82418c4b22494b5", func := "loop.example/ringsofsteps/laws.FnExactFreeSumless", spec := "fnExactFreeSumless", unfollowed := true, recurses := true, apart := false, narrowed := true }
def FnExactFreeSumlessUptoSaid : Prop := fnExactFreeSumlessUptoRow.holds Try.pinned (OpenSpec.upto fnExactFreeSumlessSpec)

end Rows
end Go.Proofs.Ytcmobeeneleidaa
