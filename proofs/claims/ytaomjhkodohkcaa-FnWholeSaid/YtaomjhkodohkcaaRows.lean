/-
  No cell of these rows narrows 'for every input' (looked for: loops, veiled, ifaces, maps, wideKeys, modest, calm, conditions, laid).
  DERIVED. THE GIVEN ROWS OF THIS SEAT. 8 by the template 'for every input the law returns true; each argument reads behind the call as it read before'; 0 by the template 'total and deterministic' (their statements: YtaomjhkodohkcaaTotals.lean).
  GIVEN WITH THE SEED: the statements are not yours to turn. If you find one false, say at which input.
  Laid BY PROGRAM, IN A SANDBOX (cutbox-rows.mjs): the forced cells as the released guide's own fill.sh prints them over the translation 91b73d50fbef1d56… (all of the seat's roots in one cut). By AI agents, Wed Nov 11 2026. No macro, syntax, notation, axiom, sorry.
-/
import Derived.Test.YtaomjhkodohkcaaChecked
import GoSem.Claim
import GoSem.ClaimJoined
import GoSem.ClaimMapViews
import Derived.JoinedTies
import Derived.KernelRfl
namespace Go.Proofs.Ytaomjhkodohkcaa
/- THE CELL 'sum', in the pinned program and in every row, IS THE sha256 OF THE DUMP (.gsa) THAT YtaomjhkodohkcaaProg.lean LOADS. Nothing in Lean hashes anything: it is a label: what it is worth is what the hold of that sum in a sandbox is worth. -/
noncomputable def Try.pinned : Pinned := { name := "ytaomjhkodohkcaa", sum := "91b73d50fbef1d5607c833959350decf080b59e067fcc35f58b79d3c21ac17d4", checked := Try.checked }
namespace Rows
def none {H : Type} : Left H := { results := [], args := [] }

/-- 'laws.FnTable': WHATEVER THE INPUT: true; the input reads as it did. -/
def fnTableSpec : ChangeSpec := { name := "fnTable", fn := fun _ => fun
  | [d] => { results := [.lit (.bool true)], args := [d] }
  | _ => none }
def fnTableRow : OpenClaim := { program := "ytaomjhkodohkcaa", sum := "91b73d50fbef1d5607c833959350decf080b59e067fcc35f58b79d3c21ac17d4", func := "loop.example/ringsofsteps/laws.FnTable", spec := "fnTable", unfollowed := true, recurses := true, apart := false }
def FnTableSaid : Prop := fnTableRow.holds Try.pinned (OpenSpec.ofChange fnTableSpec)

/-- ITS FALSE NEIGHBOUR: 'it returns false'. Refute it at one input. -/
def fnTableWrong : ChangeSpec := { name := "fnTable", fn := fun _ => fun
  | [d] => { results := [.lit (.bool false)], args := [d] }
  | _ => none }
def FnTableWrongFalsely : Prop := fnTableRow.holds Try.pinned (OpenSpec.ofChange fnTableWrong)

/-- 'laws.FnDiffEven': WHATEVER THE INPUT: true; the input reads as it did. -/
def fnDiffEvenSpec : ChangeSpec := { name := "fnDiffEven", fn := fun _ => fun
  | [d] => { results := [.lit (.bool true)], args := [d] }
  | _ => none }
def fnDiffEvenRow : OpenClaim := { program := "ytaomjhkodohkcaa", sum := "91b73d50fbef1d5607c833959350decf080b59e067fcc35f58b79d3c21ac17d4", func := "loop.example/ringsofsteps/laws.FnDiffEven", spec := "fnDiffEven", unfollowed := true, recurses := true, apart := false }
def FnDiffEvenSaid : Prop := fnDiffEvenRow.holds Try.pinned (OpenSpec.ofChange fnDiffEvenSpec)

/-- ITS FALSE NEIGHBOUR: 'it returns false'. Refute it at one input. -/
def fnDiffEvenWrong : ChangeSpec := { name := "fnDiffEven", fn := fun _ => fun
  | [d] => { results := [.lit (.bool false)], args := [d] }
  | _ => none }
def FnDiffEvenWrongFalsely : Prop := fnDiffEvenRow.holds Try.pinned (OpenSpec.ofChange fnDiffEvenWrong)

/-- 'laws.FnFind': WHATEVER THE INPUT: true; the input reads as it did. -/
def fnFindSpec : ChangeSpec := { name := "fnFind", fn := fun _ => fun
  | [d] => { results := [.lit (.bool true)], args := [d] }
  | _ => none }
def fnFindRow : OpenClaim := { program := "ytaomjhkodohkcaa", sum := "91b73d50fbef1d5607c833959350decf080b59e067fcc35f58b79d3c21ac17d4", func := "loop.example/ringsofsteps/laws.FnFind", spec := "fnFind", unfollowed := true, recurses := true, apart := false }
def FnFindSaid : Prop := fnFindRow.holds Try.pinned (OpenSpec.ofChange fnFindSpec)

/-- ITS FALSE NEIGHBOUR: 'it returns false'. Refute it at one input. -/
def fnFindWrong : ChangeSpec := { name := "fnFind", fn := fun _ => fun
  | [d] => { results := [.lit (.bool false)], args := [d] }
  | _ => none }
def FnFindWrongFalsely : Prop := fnFindRow.holds Try.pinned (OpenSpec.ofChange fnFindWrong)

/-- 'laws.FnThin': WHATEVER THE INPUT: true; the input reads as it did. -/
def fnThinSpec : ChangeSpec := { name := "fnThin", fn := fun _ => fun
  | [d] => { results := [.lit (.bool true)], args := [d] }
  | _ => none }
def fnThinRow : OpenClaim := { program := "ytaomjhkodohkcaa", sum := "91b73d50fbef1d5607c833959350decf080b59e067fcc35f58b79d3c21ac17d4", func := "loop.example/ringsofsteps/laws.FnThin", spec := "fnThin", unfollowed := true, recurses := true, apart := false }
def FnThinSaid : Prop := fnThinRow.holds Try.pinned (OpenSpec.ofChange fnThinSpec)

/-- ITS FALSE NEIGHBOUR: 'it returns false'. Refute it at one input. -/
def fnThinWrong : ChangeSpec := { name := "fnThin", fn := fun _ => fun
  | [d] => { results := [.lit (.bool false)], args := [d] }
  | _ => none }
def FnThinWrongFalsely : Prop := fnThinRow.holds Try.pinned (OpenSpec.ofChange fnThinWrong)

/-- 'laws.FnThinMost': WHATEVER THE INPUT: true; the input reads as it did. -/
def fnThinMostSpec : ChangeSpec := { name := "fnThinMost", fn := fun _ => fun
  | [d] => { results := [.lit (.bool true)], args := [d] }
  | _ => none }
def fnThinMostRow : OpenClaim := { program := "ytaomjhkodohkcaa", sum := "91b73d50fbef1d5607c833959350decf080b59e067fcc35f58b79d3c21ac17d4", func := "loop.example/ringsofsteps/laws.FnThinMost", spec := "fnThinMost", unfollowed := true, recurses := true, apart := false }
def FnThinMostSaid : Prop := fnThinMostRow.holds Try.pinned (OpenSpec.ofChange fnThinMostSpec)

/-- ITS FALSE NEIGHBOUR: 'it returns false'. Refute it at one input. -/
def fnThinMostWrong : ChangeSpec := { name := "fnThinMost", fn := fun _ => fun
  | [d] => { results := [.lit (.bool false)], args := [d] }
  | _ => none }
def FnThinMostWrongFalsely : Prop := fnThinMostRow.holds Try.pinned (OpenSpec.ofChange fnThinMostWrong)

/-- 'laws.FnWhole': WHATEVER THE INPUT: true; the input reads as it did. -/
def fnWholeSpec : ChangeSpec := { name := "fnWhole", fn := fun _ => fun
  | [d] => { results := [.lit (.bool true)], args := [d] }
  | _ => none }
def fnWholeRow : OpenClaim := { program := "ytaomjhkodohkcaa", sum := "91b73d50fbef1d5607c833959350decf080b59e067fcc35f58b79d3c21ac17d4", func := "loop.example/ringsofsteps/laws.FnWhole", spec := "fnWhole", unfollowed := true, recurses := true, apart := false }
def FnWholeSaid : Prop := fnWholeRow.holds Try.pinned (OpenSpec.ofChange fnWholeSpec)

/-- ITS FALSE NEIGHBOUR: 'it returns false'. Refute it at one input. -/
def fnWholeWrong : ChangeSpec := { name := "fnWhole", fn := fun _ => fun
  | [d] => { results := [.lit (.bool false)], args := [d] }
  | _ => none }
def FnWholeWrongFalsely : Prop := fnWholeRow.holds Try.pinned (OpenSpec.ofChange fnWholeWrong)

/-- 'laws.FnCarries': WHATEVER THE INPUT: true; the input reads as it did. -/
def fnCarriesSpec : ChangeSpec := { name := "fnCarries", fn := fun _ => fun
  | [d] => { results := [.lit (.bool true)], args := [d] }
  | _ => none }
def fnCarriesRow : OpenClaim := { program := "ytaomjhkodohkcaa", sum := "91b73d50fbef1d5607c833959350decf080b59e067fcc35f58b79d3c21ac17d4", func := "loop.example/ringsofsteps/laws.FnCarries", spec := "fnCarries", unfollowed := true, recurses := true, apart := false }
def FnCarriesSaid : Prop := fnCarriesRow.holds Try.pinned (OpenSpec.ofChange fnCarriesSpec)

/-- ITS FALSE NEIGHBOUR: 'it returns false'. Refute it at one input. -/
def fnCarriesWrong : ChangeSpec := { name := "fnCarries", fn := fun _ => fun
  | [d] => { results := [.lit (.bool false)], args := [d] }
  | _ => none }
def FnCarriesWrongFalsely : Prop := fnCarriesRow.holds Try.pinned (OpenSpec.ofChange fnCarriesWrong)

/-- 'laws.FnMultiplier': WHATEVER THE INPUT: true; the input reads as it did. -/
def fnMultiplierSpec : ChangeSpec := { name := "fnMultiplier", fn := fun _ => fun
  | [d] => { results := [.lit (.bool true)], args := [d] }
  | _ => none }
def fnMultiplierRow : OpenClaim := { program := "ytaomjhkodohkcaa", sum := "91b73d50fbef1d5607c833959350decf080b59e067fcc35f58b79d3c21ac17d4", func := "loop.example/ringsofsteps/laws.FnMultiplier", spec := "fnMultiplier", unfollowed := true, recurses := true, apart := false }
def FnMultiplierSaid : Prop := fnMultiplierRow.holds Try.pinned (OpenSpec.ofChange fnMultiplierSpec)

/-- ITS FALSE NEIGHBOUR: 'it returns false'. Refute it at one input. -/
def fnMultiplierWrong : ChangeSpec := { name := "fnMultiplier", fn := fun _ => fun
  | [d] => { results := [.lit (.bool false)], args := [d] }
  | _ => none }
def FnMultiplierWrongFalsely : Prop := fnMultiplierRow.holds Try.pinned (OpenSpec.ofChange fnMultiplierWrong)

/- THE SECOND FORM. 'bulk': how many values and letters a reading holds, each counted each time it is reached (what is shared counts as often as it is met; a slice's spare places count too). A statement '..UptoSaid' is the law's where the arguments, and the package variables that the reading takes, are together of bulk at most 1048576: NARROWER than '..Said'. Prove '..Said' where nothing that the law and all that it calls make is longer than what came in: it says more and counts as full. Else prove '..UptoSaid'. A law counts once. -/
mutual
def uptoBulk {H : Type} : DataW H → Nat
  | .lit (.string bytes) => bytes.length + 1
  | .lit _ => 1
  | .nil => 1
  | .ptr d => uptoBulk d + 1
  | .slice elems spare => uptoBulkAll elems + uptoBulkAll spare + 1
  | .agg parts => uptoBulkAll parts + 1
  | .iface _ d => uptoBulk d + 1
  | .map entries => uptoBulkEntries entries + 1
  | .held _ => 1
def uptoBulkAll {H : Type} : List (DataW H) → Nat
  | [] => 0
  | d :: r => uptoBulk d + uptoBulkAll r
def uptoBulkEntries {H : Type} : List (Lit × DataW H) → Nat
  | [] => 0
  | x :: r => uptoBulkEntry x + uptoBulkEntries r
def uptoBulkEntry {H : Type} : Lit × DataW H → Nat
  | (.string bytes, d) => bytes.length + uptoBulk d + 1
  | (_, d) => uptoBulk d + 1
 end
def uptoSmall : (H : Type) → List (DataW H) → Bool := fun _ ds => decide (uptoBulkAll ds ≤ 1048576)
def OpenSpec.upto (s : _root_.Go.ChangeSpec) : _root_.Go.OpenSpec := { _root_.Go.OpenSpec.ofChange s with cond := some uptoSmall }

/-- 'laws.FnTable', WHERE WHAT IT READS IS OF BULK AT MOST 1048576: true; the input reads as it did. -/
def fnTableUptoRow : OpenClaim := { program := "ytaomjhkodohkcaa", sum := "91b73d50fbef1d5607c833959350decf080b59e067fcc35f58b79d3c21ac17d4", func := "loop.example/ringsofsteps/laws.FnTable", spec := "fnTable", unfollowed := true, recurses := true, apart := false, narrowed := true }
def FnTableUptoSaid : Prop := fnTableUptoRow.holds Try.pinned (OpenSpec.upto fnTableSpec)

/-- 'laws.FnDiffEven', WHERE WHAT IT READS IS OF BULK AT MOST 1048576: true; the input reads as it did. -/
def fnDiffEvenUptoRow : OpenClaim := { program := "ytaomjhkodohkcaa", sum := "91b73d50fbef1d5607c833959350decf080b59e067fcc35f58b79d3c21ac17d4", func := "loop.example/ringsofsteps/laws.FnDiffEven", spec := "fnDiffEven", unfollowed := true, recurses := true, apart := false, narrowed := true }
def FnDiffEvenUptoSaid : Prop := fnDiffEvenUptoRow.holds Try.pinned (OpenSpec.upto fnDiffEvenSpec)

/-- 'laws.FnFind', WHERE WHAT IT READS IS OF BULK AT MOST 1048576: true; the input reads as it did. -/
def fnFindUptoRow : OpenClaim := { program := "ytaomjhkodohkcaa", sum := "91b73d50fbef1d5607c833959350decf080b59e067fcc35f58b79d3c21ac17d4", func := "loop.example/ringsofsteps/laws.FnFind", spec := "fnFind", unfollowed := true, recurses := true, apart := false, narrowed := true }
def FnFindUptoSaid : Prop := fnFindUptoRow.holds Try.pinned (OpenSpec.upto fnFindSpec)

/-- 'laws.FnThin', WHERE WHAT IT READS IS OF BULK AT MOST 1048576: true; the input reads as it did. -/
def fnThinUptoRow : OpenClaim := { program := "ytaomjhkodohkcaa", sum := "91b73d50fbef1d5607c833959350decf080b59e067fcc35f58b79d3c21ac17d4", func := "loop.example/ringsofsteps/laws.FnThin", spec := "fnThin", unfollowed := true, recurses := true, apart := false, narrowed := true }
def FnThinUptoSaid : Prop := fnThinUptoRow.holds Try.pinned (OpenSpec.upto fnThinSpec)

/-- 'laws.FnThinMost', WHERE WHAT IT READS IS OF BULK AT MOST 1048576: true; the input reads as it did. -/
def fnThinMostUptoRow : OpenClaim := { program := "ytaomjhkodohkcaa", sum := "91b73d50fbef1d5607c833959350decf080b59e067fcc35f58b79d3c21ac17d4", func := "loop.example/ringsofsteps/laws.FnThinMost", spec := "fnThinMost", unfollowed := true, recurses := true, apart := false, narrowed := true }
def FnThinMostUptoSaid : Prop := fnThinMostUptoRow.holds Try.pinned (OpenSpec.upto fnThinMostSpec)

/-- 'laws.FnWhole', WHERE WHAT IT READS IS OF BULK AT MOST 1048576: true; the input reads as it did. -/
def fnWholeUptoRow : OpenClaim := { program := "ytaomjhkodohkcaa", sum := "91b73d50fbef1d5607c833959350decf080b59e067fcc35f58b79d3c21ac17d4", func := "loop.example/ringsofsteps/laws.FnWhole", spec := "fnWhole", unfollowed := true, recurses := true, apart := false, narrowed := true }
def FnWholeUptoSaid : Prop := fnWholeUptoRow.holds Try.pinned (OpenSpec.upto fnWholeSpec)

/-- 'laws.FnCarries', WHERE WHAT IT READS IS OF BULK AT MOST 1048576: true; the input reads as it did. -/
def fnCarriesUptoRow : OpenClaim := { program := "ytaomjhkodohkcaa", sum := "91b73d50fbef1d5607c833959350decf080b59e067fcc35f58b79d3c21ac17d4", func := "loop.example/ringsofsteps/laws.FnCarries", spec := "fnCarries", unfollowed := true, recurses := true, apart := false, narrowed := true }
def FnCarriesUptoSaid : Prop := fnCarriesUptoRow.holds Try.pinned (OpenSpec.upto fnCarriesSpec)

/-- 'laws.FnMultiplier', WHERE WHAT IT READS IS OF BULK AT MOST 1048576: true; the input reads as it did. -/
def fnMultiplierUptoRow : OpenClaim := { program := "ytaomjhkodohkcaa", sum := "91b73d50fbef1d5607c833959350decf080b59e067fcc35f58b79d3c21ac17d4", func := "loop.example/ringsofsteps/laws.FnMultiplier", spec := "fnMultiplier", unfollowed := true, recurses := true, apart := false, narrowed := true }
def FnMultiplierUptoSaid : Prop := fnMultiplierUptoRow.holds Try.pinned (OpenSpec.upto fnMultiplierSpec)

end Rows
end Go.Proofs.Ytaomjhkodohkcaa
