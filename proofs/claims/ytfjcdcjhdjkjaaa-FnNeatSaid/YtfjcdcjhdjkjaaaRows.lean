/-
  No cell of these rows narrows 'for every input' (looked for: loops, veiled, ifaces, maps, wideKeys, modest, calm, conditions, laid).
  DERIVED. THE GIVEN ROWS OF THIS SEAT. 8 by the template 'for every input the law returns true; each argument reads behind the call as it read before'; 0 by the template 'total and deterministic' (their statements: YtfjcdcjhdjkjaaaTotals.lean).
  GIVEN WITH THE SEED: the statements are not yours to turn. If you find one false, say at which input.
  Laid BY PROGRAM, IN A SANDBOX (cutbox-rows.mjs): the forced cells as the released guide's own fill.sh prints them over the translation f5d4ddc665cc0c53… (all of the seat's roots in one cut). By AI agents, Wed Nov 11 2026. No macro, syntax, notation, axiom, sorry.
-/
import Derived.Test.YtfjcdcjhdjkjaaaChecked
import GoSem.Claim
import GoSem.ClaimJoined
import GoSem.ClaimMapViews
import Derived.JoinedTies
import Derived.KernelRfl
namespace Go.Proofs.Ytfjcdcjhdjkjaaa
/- THE CELL 'sum', in the pinned program and in every row, IS THE sha256 OF THE DUMP (.gsa) THAT YtfjcdcjhdjkjaaaProg.lean LOADS. Nothing in Lean hashes anything: it is a label: what it is worth is what the hold of that sum in a sandbox is worth. -/
noncomputable def Try.pinned : Pinned := { name := "ytfjcdcjhdjkjaaa", sum := "f5d4ddc665cc0c5376509f5cf1fd852454b3e8222baf065de9cb718b73573354", checked := Try.checked }
namespace Rows
def none {H : Type} : Left H := { results := [], args := [] }

/-- 'laws.FnFree': WHATEVER THE INPUT: true; the input reads as it did. -/
def fnFreeSpec : ChangeSpec := { name := "fnFree", fn := fun _ => fun
  | [d] => { results := [.lit (.bool true)], args := [d] }
  | _ => none }
def fnFreeRow : OpenClaim := { program := "ytfjcdcjhdjkjaaa", sum := "f5d4ddc665cc0c5376509f5cf1fd852454b3e8222baf065de9cb718b73573354", func := "loop.example/ringsofsteps/laws.FnFree", spec := "fnFree", unfollowed := true, recurses := true, apart := false }
def FnFreeSaid : Prop := fnFreeRow.holds Try.pinned (OpenSpec.ofChange fnFreeSpec)

/-- ITS FALSE NEIGHBOUR: 'it returns false'. Refute it at one input. -/
def fnFreeWrong : ChangeSpec := { name := "fnFree", fn := fun _ => fun
  | [d] => { results := [.lit (.bool false)], args := [d] }
  | _ => none }
def FnFreeWrongFalsely : Prop := fnFreeRow.holds Try.pinned (OpenSpec.ofChange fnFreeWrong)

/-- 'laws.FnFreeMany': WHATEVER THE INPUT: true; the input reads as it did. -/
def fnFreeManySpec : ChangeSpec := { name := "fnFreeMany", fn := fun _ => fun
  | [d] => { results := [.lit (.bool true)], args := [d] }
  | _ => none }
def fnFreeManyRow : OpenClaim := { program := "ytfjcdcjhdjkjaaa", sum := "f5d4ddc665cc0c5376509f5cf1fd852454b3e8222baf065de9cb718b73573354", func := "loop.example/ringsofsteps/laws.FnFreeMany", spec := "fnFreeMany", unfollowed := true, recurses := true, apart := false }
def FnFreeManySaid : Prop := fnFreeManyRow.holds Try.pinned (OpenSpec.ofChange fnFreeManySpec)

/-- ITS FALSE NEIGHBOUR: 'it returns false'. Refute it at one input. -/
def fnFreeManyWrong : ChangeSpec := { name := "fnFreeMany", fn := fun _ => fun
  | [d] => { results := [.lit (.bool false)], args := [d] }
  | _ => none }
def FnFreeManyWrongFalsely : Prop := fnFreeManyRow.holds Try.pinned (OpenSpec.ofChange fnFreeManyWrong)

/-- 'laws.FnFullSet': WHATEVER THE INPUT: true; the input reads as it did. -/
def fnFullSetSpec : ChangeSpec := { name := "fnFullSet", fn := fun _ => fun
  | [d] => { results := [.lit (.bool true)], args := [d] }
  | _ => none }
def fnFullSetRow : OpenClaim := { program := "ytfjcdcjhdjkjaaa", sum := "f5d4ddc665cc0c5376509f5cf1fd852454b3e8222baf065de9cb718b73573354", func := "loop.example/ringsofsteps/laws.FnFullSet", spec := "fnFullSet", unfollowed := true, recurses := true, apart := false }
def FnFullSetSaid : Prop := fnFullSetRow.holds Try.pinned (OpenSpec.ofChange fnFullSetSpec)

/-- ITS FALSE NEIGHBOUR: 'it returns false'. Refute it at one input. -/
def fnFullSetWrong : ChangeSpec := { name := "fnFullSet", fn := fun _ => fun
  | [d] => { results := [.lit (.bool false)], args := [d] }
  | _ => none }
def FnFullSetWrongFalsely : Prop := fnFullSetRow.holds Try.pinned (OpenSpec.ofChange fnFullSetWrong)

/-- 'laws.FnColours': WHATEVER THE INPUT: true; the input reads as it did. -/
def fnColoursSpec : ChangeSpec := { name := "fnColours", fn := fun _ => fun
  | [d] => { results := [.lit (.bool true)], args := [d] }
  | _ => none }
def fnColoursRow : OpenClaim := { program := "ytfjcdcjhdjkjaaa", sum := "f5d4ddc665cc0c5376509f5cf1fd852454b3e8222baf065de9cb718b73573354", func := "loop.example/ringsofsteps/laws.FnColours", spec := "fnColours", unfollowed := true, recurses := true, apart := false }
def FnColoursSaid : Prop := fnColoursRow.holds Try.pinned (OpenSpec.ofChange fnColoursSpec)

/-- ITS FALSE NEIGHBOUR: 'it returns false'. Refute it at one input. -/
def fnColoursWrong : ChangeSpec := { name := "fnColours", fn := fun _ => fun
  | [d] => { results := [.lit (.bool false)], args := [d] }
  | _ => none }
def FnColoursWrongFalsely : Prop := fnColoursRow.holds Try.pinned (OpenSpec.ofChange fnColoursWrong)

/-- 'laws.FnWaysColours': WHATEVER THE INPUT: true; the input reads as it did. -/
def fnWaysColoursSpec : ChangeSpec := { name := "fnWaysColours", fn := fun _ => fun
  | [d] => { results := [.lit (.bool true)], args := [d] }
  | _ => none }
def fnWaysColoursRow : OpenClaim := { program := "ytfjcdcjhdjkjaaa", sum := "f5d4ddc665cc0c5376509f5cf1fd852454b3e8222baf065de9cb718b73573354", func := "loop.example/ringsofsteps/laws.FnWaysColours", spec := "fnWaysColours", unfollowed := true, recurses := true, apart := false }
def FnWaysColoursSaid : Prop := fnWaysColoursRow.holds Try.pinned (OpenSpec.ofChange fnWaysColoursSpec)

/-- ITS FALSE NEIGHBOUR: 'it returns false'. Refute it at one input. -/
def fnWaysColoursWrong : ChangeSpec := { name := "fnWaysColours", fn := fun _ => fun
  | [d] => { results := [.lit (.bool false)], args := [d] }
  | _ => none }
def FnWaysColoursWrongFalsely : Prop := fnWaysColoursRow.holds Try.pinned (OpenSpec.ofChange fnWaysColoursWrong)

/-- 'laws.FnWatch': WHATEVER THE INPUT: true; the input reads as it did. -/
def fnWatchSpec : ChangeSpec := { name := "fnWatch", fn := fun _ => fun
  | [d] => { results := [.lit (.bool true)], args := [d] }
  | _ => none }
def fnWatchRow : OpenClaim := { program := "ytfjcdcjhdjkjaaa", sum := "f5d4ddc665cc0c5376509f5cf1fd852454b3e8222baf065de9cb718b73573354", func := "loop.example/ringsofsteps/laws.FnWatch", spec := "fnWatch", unfollowed := true, recurses := true, apart := false }
def FnWatchSaid : Prop := fnWatchRow.holds Try.pinned (OpenSpec.ofChange fnWatchSpec)

/-- ITS FALSE NEIGHBOUR: 'it returns false'. Refute it at one input. -/
def fnWatchWrong : ChangeSpec := { name := "fnWatch", fn := fun _ => fun
  | [d] => { results := [.lit (.bool false)], args := [d] }
  | _ => none }
def FnWatchWrongFalsely : Prop := fnWatchRow.holds Try.pinned (OpenSpec.ofChange fnWatchWrong)

/-- 'laws.FnNeat': WHATEVER THE INPUT: true; the input reads as it did. -/
def fnNeatSpec : ChangeSpec := { name := "fnNeat", fn := fun _ => fun
  | [d] => { results := [.lit (.bool true)], args := [d] }
  | _ => none }
def fnNeatRow : OpenClaim := { program := "ytfjcdcjhdjkjaaa", sum := "f5d4ddc665cc0c5376509f5cf1fd852454b3e8222baf065de9cb718b73573354", func := "loop.example/ringsofsteps/laws.FnNeat", spec := "fnNeat", unfollowed := true, recurses := true, apart := false }
def FnNeatSaid : Prop := fnNeatRow.holds Try.pinned (OpenSpec.ofChange fnNeatSpec)

/-- ITS FALSE NEIGHBOUR: 'it returns false'. Refute it at one input. -/
def fnNeatWrong : ChangeSpec := { name := "fnNeat", fn := fun _ => fun
  | [d] => { results := [.lit (.bool false)], args := [d] }
  | _ => none }
def FnNeatWrongFalsely : Prop := fnNeatRow.holds Try.pinned (OpenSpec.ofChange fnNeatWrong)

/-- 'laws.FnSumless': WHATEVER THE INPUT: true; the input reads as it did. -/
def fnSumlessSpec : ChangeSpec := { name := "fnSumless", fn := fun _ => fun
  | [d] => { results := [.lit (.bool true)], args := [d] }
  | _ => none }
def fnSumlessRow : OpenClaim := { program := "ytfjcdcjhdjkjaaa", sum := "f5d4ddc665cc0c5376509f5cf1fd852454b3e8222baf065de9cb718b73573354", func := "loop.example/ringsofsteps/laws.FnSumless", spec := "fnSumless", unfollowed := true, recurses := true, apart := false }
def FnSumlessSaid : Prop := fnSumlessRow.holds Try.pinned (OpenSpec.ofChange fnSumlessSpec)

/-- ITS FALSE NEIGHBOUR: 'it returns false'. Refute it at one input. -/
def fnSumlessWrong : ChangeSpec := { name := "fnSumless", fn := fun _ => fun
  | [d] => { results := [.lit (.bool false)], args := [d] }
  | _ => none }
def FnSumlessWrongFalsely : Prop := fnSumlessRow.holds Try.pinned (OpenSpec.ofChange fnSumlessWrong)

/- THE SECOND FORM. 'bulk': how many values and letters a reading holds, each counted each time it is reached (what is shared counts as often as it is met; a slice's spare places count too). A statement '..UptoSaid' is the law's where the arguments, and the package variables that the reading takes, are together of bulk at most 1048576: NARROWER than '..Said'. Prove '..Said' where nothing that the law and all that it calls make is longer than what came in: it says more and counts as full. Else prove '..UptoSaid'. A law counts once. -/
mutual
def uptoBulk {H : Type} : DataW H → Nat
  | .lit (.string bytes) => bytes.length + 1
  | .lit _ => 1
  | .nil => 1
  | .ptr d => uptoBulk d + 1
  | .slice elems spare => uptoBulkAll elems + uptoBulkAll spare + 1
  | .agg parts => uptoBulkAll parts + 1
  | .iface _ d => uptoBulk d + 1
  | .map entries => uptoBulkEntries entries + 1
  | .held _ => 1
def uptoBulkAll {H : Type} : List (DataW H) → Nat
  | [] => 0
  | d :: r => uptoBulk d + uptoBulkAll r
def uptoBulkEntries {H : Type} : List (Lit × DataW H) → Nat
  | [] => 0
  | x :: r => uptoBulkEntry x + uptoBulkEntries r
def uptoBulkEntry {H : Type} : Lit × DataW H → Nat
  | (.string bytes, d) => bytes.length + uptoBulk d + 1
  | (_, d) => uptoBulk d + 1
 end
def uptoSmall : (H : Type) → List (DataW H) → Bool := fun _ ds => decide (uptoBulkAll ds ≤ 1048576)
def OpenSpec.upto (s : _root_.Go.ChangeSpec) : _root_.Go.OpenSpec := { _root_.Go.OpenSpec.ofChange s with cond := some uptoSmall }

/-- 'laws.FnFree', WHERE WHAT IT READS IS OF BULK AT MOST 1048576: true; the input reads as it did. -/
def fnFreeUptoRow : OpenClaim := { program := "ytfjcdcjhdjkjaaa", sum := "f5d4ddc665cc0c5376509f5cf1fd852454b3e8222baf065de9cb718b73573354", func := "loop.example/ringsofsteps/laws.FnFree", spec := "fnFree", unfollowed := true, recurses := true, apart := false, narrowed := true }
def FnFreeUptoSaid : Prop := fnFreeUptoRow.holds Try.pinned (OpenSpec.upto fnFreeSpec)

/-- 'laws.FnFreeMany', WHERE WHAT IT READS IS OF BULK AT MOST 1048576: true; the input reads as it did. -/
def fnFreeManyUptoRow : OpenClaim := { program := "ytfjcdcjhdjkjaaa", sum := "f5d4ddc665cc0c5376509f5cf1fd852454b3e8222baf065de9cb718b73573354", func := "loop.example/ringsofsteps/laws.FnFreeMany", spec := "fnFreeMany", unfollowed := true, recurses := true, apart := false, narrowed := true }
def FnFreeManyUptoSaid : Prop := fnFreeManyUptoRow.holds Try.pinned (OpenSpec.upto fnFreeManySpec)

/-- 'laws.FnFullSet', WHERE WHAT IT READS IS OF BULK AT MOST 1048576: true; the input reads as it did. -/
def fnFullSetUptoRow : OpenClaim := { program := "ytfjcdcjhdjkjaaa", sum := "f5d4ddc665cc0c5376509f5cf1fd852454b3e8222baf065de9cb718b73573354", func := "loop.example/ringsofsteps/laws.FnFullSet", spec := "fnFullSet", unfollowed := true, recurses := true, apart := false, narrowed := true }
def FnFullSetUptoSaid : Prop := fnFullSetUptoRow.holds Try.pinned (OpenSpec.upto fnFullSetSpec)

/-- 'laws.FnColours', WHERE WHAT IT READS IS OF BULK AT MOST 1048576: true; the input reads as it did. -/
def fnColoursUptoRow : OpenClaim := { program := "ytfjcdcjhdjkjaaa", sum := "f5d4ddc665cc0c5376509f5cf1fd852454b3e8222baf065de9cb718b73573354", func := "loop.example/ringsofsteps/laws.FnColours", spec := "fnColours", unfollowed := true, recurses := true, apart := false, narrowed := true }
def FnColoursUptoSaid : Prop := fnColoursUptoRow.holds Try.pinned (OpenSpec.upto fnColoursSpec)

/-- 'laws.FnWaysColours', WHERE WHAT IT READS IS OF BULK AT MOST 1048576: true; the input reads as it did. -/
def fnWaysColoursUptoRow : OpenClaim := { program := "ytfjcdcjhdjkjaaa", sum := "f5d4ddc665cc0c5376509f5cf1fd852454b3e8222baf065de9cb718b73573354", func := "loop.example/ringsofsteps/laws.FnWaysColours", spec := "fnWaysColours", unfollowed := true, recurses := true, apart := false, narrowed := true }
def FnWaysColoursUptoSaid : Prop := fnWaysColoursUptoRow.holds Try.pinned (OpenSpec.upto fnWaysColoursSpec)

/-- 'laws.FnWatch', WHERE WHAT IT READS IS OF BULK AT MOST 1048576: true; the input reads as it did. -/
def fnWatchUptoRow : OpenClaim := { program := "ytfjcdcjhdjkjaaa", sum := "f5d4ddc665cc0c5376509f5cf1fd852454b3e8222baf065de9cb718b73573354", func := "loop.example/ringsofsteps/laws.FnWatch", spec := "fnWatch", unfollowed := true, recurses := true, apart := false, narrowed := true }
def FnWatchUptoSaid : Prop := fnWatchUptoRow.holds Try.pinned (OpenSpec.upto fnWatchSpec)

/-- 'laws.FnNeat', WHERE WHAT IT READS IS OF BULK AT MOST 1048576: true; the input reads as it did. -/
def fnNeatUptoRow : OpenClaim := { program := "ytfjcdcjhdjkjaaa", sum := "f5d4ddc665cc0c5376509f5cf1fd852454b3e8222baf065de9cb718b73573354", func := "loop.example/ringsofsteps/laws.FnNeat", spec := "fnNeat", unfollowed := true, recurses := true, apart := false, narrowed := true }
def FnNeatUptoSaid : Prop := fnNeatUptoRow.holds Try.pinned (OpenSpec.upto fnNeatSpec)

/-- 'laws.FnSumless', WHERE WHAT IT READS IS OF BULK AT MOST 1048576: true; the input reads as it did. -/
def fnSumlessUptoRow : OpenClaim := { program := "ytfjcdcjhdjkjaaa", sum := "f5d4ddc665cc0c5376509f5cf1fd852454b3e8222baf065de9cb718b73573354", func := "loop.example/ringsofsteps/laws.FnSumless", spec := "fnSumless", unfollowed := true, recurses := true, apart := false, narrowed := true }
def FnSumlessUptoSaid : Prop := fnSumlessUptoRow.holds Try.pinned (OpenSpec.upto fnSumlessSpec)

end Rows
end Go.Proofs.Ytfjcdcjhdjkjaaa
