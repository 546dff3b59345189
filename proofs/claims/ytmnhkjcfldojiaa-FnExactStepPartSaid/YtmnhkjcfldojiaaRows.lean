/-
  No cell of these rows narrows 'for every input' (looked for: loops, veiled, ifaces, maps, wideKeys, modest, calm, conditions, laid).
  DERIVED. THE GIVEN ROWS OF THIS SEAT. 9 by the template 'for every input the law returns true; each argument reads behind the call as it read before'; 0 by the template 'total and deterministic' (their statements: YtmnhkjcfldojiaaTotals.lean).
  GIVEN WITH THE SEED: the statements are not yours to turn. If you find one false, say at which input.
  Laid BY PROGRAM, IN A SANDBOX (cutbox-rows.mjs): the forced cells as the released guide's own fill.sh prints them over the translation f95ab12e247f2903… (all of the seat's roots in one cut). By AI agents, Wed Nov 11 2026. No macro, syntax, notation, axiom, sorry.
-/
import Derived.Test.YtmnhkjcfldojiaaChecked
import GoSem.Claim
import GoSem.ClaimJoined
import GoSem.ClaimMapViews
import Derived.JoinedTies
import Derived.KernelRfl
namespace Go.Proofs.Ytmnhkjcfldojiaa
/- THE CELL 'sum', in the pinned program and in every row, IS THE sha256 OF THE DUMP (.gsa) THAT YtmnhkjcfldojiaaProg.lean LOADS. Nothing in Lean hashes anything: it is a label: what it is worth is what the hold of that sum in a sandbox is worth. -/
noncomputable def Try.pinned : Pinned := { name := "ytmnhkjcfldojiaa", sum := "f95ab12e247f29036132896ebde918a1cabef165d737bccda59ff19f184f5515", checked := Try.checked }
namespace Rows
def none {H : Type} : Left H := { results := [], args := [] }

/-- 'laws.FnExactStepIn': WHATEVER THE INPUT: true; the input reads as it did. -/
def fnExactStepInSpec : ChangeSpec := { name := "fnExactStepIn", fn := fun _ => fun
  | [d1, d2] => { results := [.lit (.bool true)], args := [d1, d2] }
  | _ => none }
def fnExactStepInRow : OpenClaim := { program := "ytmnhkjcfldojiaa", sum := "f95ab12e247f29036132896ebde918a1cabef165d737bccda59ff19f184f5515", func := "loop.example/ringsofsteps/laws.FnExactStepIn", spec := "fnExactStepIn", apart := false }
def FnExactStepInSaid : Prop := fnExactStepInRow.holds Try.pinned (OpenSpec.ofChange fnExactStepInSpec)

/-- ITS FALSE NEIGHBOUR: 'it returns false'. Refute it at one input. -/
def fnExactStepInWrong : ChangeSpec := { name := "fnExactStepIn", fn := fun _ => fun
  | [d1, d2] => { results := [.lit (.bool false)], args := [d1, d2] }
  | _ => none }
def FnExactStepInWrongFalsely : Prop := fnExactStepInRow.holds Try.pinned (OpenSpec.ofChange fnExactStepInWrong)

/-- 'laws.FnExactStepEven': WHATEVER THE INPUT: true; the input reads as it did. -/
def fnExactStepEvenSpec : ChangeSpec := { name := "fnExactStepEven", fn := fun _ => fun
  | [d1, d2] => { results := [.lit (.bool true)], args := [d1, d2] }
  | _ => none }
def fnExactStepEvenRow : OpenClaim := { program := "ytmnhkjcfldojiaa", sum := "f95ab12e247f29036132896ebde918a1cabef165d737bccda59ff19f184f5515", func := "loop.example/ringsofsteps/laws.FnExactStepEven", spec := "fnExactStepEven", unfollowed := true, recurses := true, apart := false }
def FnExactStepEvenSaid : Prop := fnExactStepEvenRow.holds Try.pinned (OpenSpec.ofChange fnExactStepEvenSpec)

/-- ITS FALSE NEIGHBOUR: 'it returns false'. Refute it at one input. -/
def fnExactStepEvenWrong : ChangeSpec := { name := "fnExactStepEven", fn := fun _ => fun
  | [d1, d2] => { results := [.lit (.bool false)], args := [d1, d2] }
  | _ => none }
def FnExactStepEvenWrongFalsely : Prop := fnExactStepEvenRow.holds Try.pinned (OpenSpec.ofChange fnExactStepEvenWrong)

/-- 'laws.FnExactStepBoth': WHATEVER THE INPUT: true; the input reads as it did. -/
def fnExactStepBothSpec : ChangeSpec := { name := "fnExactStepBoth", fn := fun _ => fun
  | [d1, d2] => { results := [.lit (.bool true)], args := [d1, d2] }
  | _ => none }
def fnExactStepBothRow : OpenClaim := { program := "ytmnhkjcfldojiaa", sum := "f95ab12e247f29036132896ebde918a1cabef165d737bccda59ff19f184f5515", func := "loop.example/ringsofsteps/laws.FnExactStepBoth", spec := "fnExactStepBoth", unfollowed := true, recurses := true, apart := false }
def FnExactStepBothSaid : Prop := fnExactStepBothRow.holds Try.pinned (OpenSpec.ofChange fnExactStepBothSpec)

/-- ITS FALSE NEIGHBOUR: 'it returns false'. Refute it at one input. -/
def fnExactStepBothWrong : ChangeSpec := { name := "fnExactStepBoth", fn := fun _ => fun
  | [d1, d2] => { results := [.lit (.bool false)], args := [d1, d2] }
  | _ => none }
def FnExactStepBothWrongFalsely : Prop := fnExactStepBothRow.holds Try.pinned (OpenSpec.ofChange fnExactStepBothWrong)

/-- 'laws.FnExactStepOther': WHATEVER THE INPUT: true; the input reads as it did. -/
def fnExactStepOtherSpec : ChangeSpec := { name := "fnExactStepOther", fn := fun _ => fun
  | [d1, d2] => { results := [.lit (.bool true)], args := [d1, d2] }
  | _ => none }
def fnExactStepOtherRow : OpenClaim := { program := "ytmnhkjcfldojiaa", sum := "f95ab12e247f29036132896ebde918a1cabef165d737bccda59ff19f184f5515", func := "loop.example/ringsofsteps/laws.FnExactStepOther", spec := "fnExactStepOther", apart := false }
def FnExactStepOtherSaid : Prop := fnExactStepOtherRow.holds Try.pinned (OpenSpec.ofChange fnExactStepOtherSpec)

/-- ITS FALSE NEIGHBOUR: 'it returns false'. Refute it at one input. -/
def fnExactStepOtherWrong : ChangeSpec := { name := "fnExactStepOther", fn := fun _ => fun
  | [d1, d2] => { results := [.lit (.bool false)], args := [d1, d2] }
  | _ => none }
def FnExactStepOtherWrongFalsely : Prop := fnExactStepOtherRow.holds Try.pinned (OpenSpec.ofChange fnExactStepOtherWrong)

/-- 'laws.FnExactStepNext': WHATEVER THE INPUT: true; the input reads as it did. -/
def fnExactStepNextSpec : ChangeSpec := { name := "fnExactStepNext", fn := fun _ => fun
  | [d1, d2, d3] => { results := [.lit (.bool true)], args := [d1, d2, d3] }
  | _ => none }
def fnExactStepNextRow : OpenClaim := { program := "ytmnhkjcfldojiaa", sum := "f95ab12e247f29036132896ebde918a1cabef165d737bccda59ff19f184f5515", func := "loop.example/ringsofsteps/laws.FnExactStepNext", spec := "fnExactStepNext", apart := false }
def FnExactStepNextSaid : Prop := fnExactStepNextRow.holds Try.pinned (OpenSpec.ofChange fnExactStepNextSpec)

/-- ITS FALSE NEIGHBOUR: 'it returns false'. Refute it at one input. -/
def fnExactStepNextWrong : ChangeSpec := { name := "fnExactStepNext", fn := fun _ => fun
  | [d1, d2, d3] => { results := [.lit (.bool false)], args := [d1, d2, d3] }
  | _ => none }
def FnExactStepNextWrongFalsely : Prop := fnExactStepNextRow.holds Try.pinned (OpenSpec.ofChange fnExactStepNextWrong)

/-- 'laws.FnExactStepPart': WHATEVER THE INPUT: true; the input reads as it did. -/
def fnExactStepPartSpec : ChangeSpec := { name := "fnExactStepPart", fn := fun _ => fun
  | [d1, d2] => { results := [.lit (.bool true)], args := [d1, d2] }
  | _ => none }
def fnExactStepPartRow : OpenClaim := { program := "ytmnhkjcfldojiaa", sum := "f95ab12e247f29036132896ebde918a1cabef165d737bccda59ff19f184f5515", func := "loop.example/ringsofsteps/laws.FnExactStepPart", spec := "fnExactStepPart", unfollowed := true, recurses := true, apart := false }
def FnExactStepPartSaid : Prop := fnExactStepPartRow.holds Try.pinned (OpenSpec.ofChange fnExactStepPartSpec)

/-- ITS FALSE NEIGHBOUR: 'it returns false'. Refute it at one input. -/
def fnExactStepPartWrong : ChangeSpec := { name := "fnExactStepPart", fn := fun _ => fun
  | [d1, d2] => { results := [.lit (.bool false)], args := [d1, d2] }
  | _ => none }
def FnExactStepPartWrongFalsely : Prop := fnExactStepPartRow.holds Try.pinned (OpenSpec.ofChange fnExactStepPartWrong)

/-- 'laws.FnExactStepParts': WHATEVER THE INPUT: true; the input reads as it did. -/
def fnExactStepPartsSpec : ChangeSpec := { name := "fnExactStepParts", fn := fun _ => fun
  | [d1, d2] => { results := [.lit (.bool true)], args := [d1, d2] }
  | _ => none }
def fnExactStepPartsRow : OpenClaim := { program := "ytmnhkjcfldojiaa", sum := "f95ab12e247f29036132896ebde918a1cabef165d737bccda59ff19f184f5515", func := "loop.example/ringsofsteps/laws.FnExactStepParts", spec := "fnExactStepParts", unfollowed := true, recurses := true, apart := false }
def FnExactStepPartsSaid : Prop := fnExactStepPartsRow.holds Try.pinned (OpenSpec.ofChange fnExactStepPartsSpec)

/-- ITS FALSE NEIGHBOUR: 'it returns false'. Refute it at one input. -/
def fnExactStepPartsWrong : ChangeSpec := { name := "fnExactStepParts", fn := fun _ => fun
  | [d1, d2] => { results := [.lit (.bool false)], args := [d1, d2] }
  | _ => none }
def FnExactStepPartsWrongFalsely : Prop := fnExactStepPartsRow.holds Try.pinned (OpenSpec.ofChange fnExactStepPartsWrong)

/-- 'laws.FnExactStepHalves': WHATEVER THE INPUT: true; the input reads as it did. -/
def fnExactStepHalvesSpec : ChangeSpec := { name := "fnExactStepHalves", fn := fun _ => fun
  | [d1, d2] => { results := [.lit (.bool true)], args := [d1, d2] }
  | _ => none }
def fnExactStepHalvesRow : OpenClaim := { program := "ytmnhkjcfldojiaa", sum := "f95ab12e247f29036132896ebde918a1cabef165d737bccda59ff19f184f5515", func := "loop.example/ringsofsteps/laws.FnExactStepHalves", spec := "fnExactStepHalves", unfollowed := true, recurses := true, apart := false }
def FnExactStepHalvesSaid : Prop := fnExactStepHalvesRow.holds Try.pinned (OpenSpec.ofChange fnExactStepHalvesSpec)

/-- ITS FALSE NEIGHBOUR: 'it returns false'. Refute it at one input. -/
def fnExactStepHalvesWrong : ChangeSpec := { name := "fnExactStepHalves", fn := fun _ => fun
  | [d1, d2] => { results := [.lit (.bool false)], args := [d1, d2] }
  | _ => none }
def FnExactStepHalvesWrongFalsely : Prop := fnExactStepHalvesRow.holds Try.pinned (OpenSpec.ofChange fnExactStepHalvesWrong)

/-- 'laws.FnExactStepCuts': WHATEVER THE INPUT: true; the input reads as it did. -/
def fnExactStepCutsSpec : ChangeSpec := { name := "fnExactStepCuts", fn := fun _ => fun
  | [d1, d2, d3] => { results := [.lit (.bool true)], args := [d1, d2, d3] }
  | _ => none }
def fnExactStepCutsRow : OpenClaim := { program := "ytmnhkjcfldojiaa", sum := "f95ab12e247f29036132896ebde918a1cabef165d737bccda59ff19f184f5515", func := "loop.example/ringsofsteps/laws.FnExactStepCuts", spec := "fnExactStepCuts", unfollowed := true, recurses := true, apart := false }
def FnExactStepCutsSaid : Prop := fnExactStepCutsRow.holds Try.pinned (OpenSpec.ofChange fnExactStepCutsSpec)

/-- ITS FALSE NEIGHBOUR: 'it returns false'. Refute it at one input. -/
def fnExactStepCutsWrong : ChangeSpec := { name := "fnExactStepCuts", fn := fun _ => fun
  | [d1, d2, d3] => { results := [.lit (.bool false)], args := [d1, d2, d3] }
  | _ => none }
def FnExactStepCutsWrongFalsely : Prop := fnExactStepCutsRow.holds Try.pinned (OpenSpec.ofChange fnExactStepCutsWrong)

/- THE SECOND FORM. 'bulk': how many values and letters a reading holds, each counted each time it is reached (what is shared counts as often as it is met; a slice's spare places count too). A statement '..UptoSaid' is the law's where the arguments, and the package variables that the reading takes, are together of bulk at most 1048576: NARROWER than '..Said'. Prove '..Said' where nothing that the law and all that it calls make is longer than what came in: it says more and counts as full. Else prove '..UptoSaid'. A law counts once. -/
mutual
def uptoBulk {H : Type} : DataW H → Nat
  | .lit (.string bytes) => bytes.length + 1
  | .lit _ => 1
  | .nil => 1
  | .ptr d => uptoBulk d + 1
  | .slice elems spare => uptoBulkAll elems + uptoBulkAll spare + 1
  | .agg parts => uptoBulkAll parts + 1
  | .iface _ d => uptoBulk d + 1
  | .map entries => uptoBulkEntries entries + 1
  | .held _ => 1
def uptoBulkAll {H : Type} : List (DataW H) → Nat
  | [] => 0
  | d :: r => uptoBulk d + uptoBulkAll r
def uptoBulkEntries {H : Type} : List (Lit × DataW H) → Nat
  | [] => 0
  | x :: r => uptoBulkEntry x + uptoBulkEntries r
def uptoBulkEntry {H : Type} : Lit × DataW H → Nat
  | (.string bytes, d) => bytes.length + uptoBulk d + 1
  | (_, d) => uptoBulk d + 1
 end
def uptoSmall : (H : Type) → List (DataW H) → Bool := fun _ ds => decide (uptoBulkAll ds ≤ 1048576)
def OpenSpec.upto (s : _root_.Go.ChangeSpec) : _root_.Go.OpenSpec := { _root_.Go.OpenSpec.ofChange s with cond := some uptoSmall }

/-- 'laws.FnExactStepIn', WHERE WHAT IT READS IS OF BULK AT MOST 1048576: true; the input reads as it did. -/
def fnExactStepInUptoRow : OpenClaim := { program := "ytmnhkjcfldojiaa", sum := "f95ab12e247f29036132896ebde918a1cabef165d737bccda59ff19f184f5515", func := "loop.example/ringsofsteps/laws.FnExactStepIn", spec := "fnExactStepIn", apart := false, narrowed := true }
def FnExactStepInUptoSaid : Prop := fnExactStepInUptoRow.holds Try.pinned (OpenSpec.upto fnExactStepInSpec)

/-- 'laws.FnExactStepEven', WHERE WHAT IT READS IS OF BULK AT MOST 1048576: true; the input reads as it did. -/
def fnExactStepEvenUptoRow : OpenClaim := { program := "ytmnhkjcfldojiaa", sum := "f95ab12e247f29036132896ebde918a1cabef165d737bccda59ff19f184f5515", func := "loop.example/ringsofsteps/laws.FnExactStepEven", spec := "fnExactStepEven", unfollowed := true, recurses := true, apart := false, narrowed := true }
def FnExactStepEvenUptoSaid : Prop := fnExactStepEvenUptoRow.holds Try.pinned (OpenSpec.upto fnExactStepEvenSpec)

/-- 'laws.FnExactStepBoth', WHERE WHAT IT READS IS OF BULK AT MOST 1048576: true; the input reads as it did. -/
def fnExactStepBothUptoRow : OpenClaim := { program := "ytmnhkjcfldojiaa", sum := "f95ab12e247f29036132896ebde918a1cabef165d737bccda59ff19f184f5515", func := "loop.example/ringsofsteps/laws.FnExactStepBoth", spec := "fnExactStepBoth", unfollowed := true, recurses := true, apart := false, narrowed := true }
def FnExactStepBothUptoSaid : Prop := fnExactStepBothUptoRow.holds Try.pinned (OpenSpec.upto fnExactStepBothSpec)

/-- 'laws.FnExactStepOther', WHERE WHAT IT READS IS OF BULK AT MOST 1048576: true; the input reads as it did. -/
def fnExactStepOtherUptoRow : OpenClaim := { program := "ytmnhkjcfldojiaa", sum := "f95ab12e247f29036132896ebde918a1cabef165d737bccda59ff19f184f5515", func := "loop.example/ringsofsteps/laws.FnExactStepOther", spec := "fnExactStepOther", apart := false, narrowed := true }
def FnExactStepOtherUptoSaid : Prop := fnExactStepOtherUptoRow.holds Try.pinned (OpenSpec.upto fnExactStepOtherSpec)

/-- 'laws.FnExactStepNext', WHERE WHAT IT READS IS OF BULK AT MOST 1048576: true; the input reads as it did. -/
def fnExactStepNextUptoRow : OpenClaim := { program := "ytmnhkjcfldojiaa", sum := "f95ab12e247f29036132896ebde918a1cabef165d737bccda59ff19f184f5515", func := "loop.example/ringsofsteps/laws.FnExactStepNext", spec := "fnExactStepNext", apart := false, narrowed := true }
def FnExactStepNextUptoSaid : Prop := fnExactStepNextUptoRow.holds Try.pinned (OpenSpec.upto fnExactStepNextSpec)

/-- 'laws.FnExactStepPart', WHERE WHAT IT READS IS OF BULK AT MOST 1048576: true; the input reads as it did. -/
def fnExactStepPartUptoRow : OpenClaim := { program := "ytmnhkjcfldojiaa", sum := "f95ab12e247f29036132896ebde918a1cabef165d737bccda59ff19f184f5515", func := "loop.example/ringsofsteps/laws.FnExactStepPart", spec := "fnExactStepPart", unfollowed := true, recurses := true, apart := false, narrowed := true }
def FnExactStepPartUptoSaid : Prop := fnExactStepPartUptoRow.holds Try.pinned (OpenSpec.upto fnExactStepPartSpec)

/-- 'laws.FnExactStepParts', WHERE WHAT IT READS IS OF BULK AT MOST 1048576: true; the input reads as it did. -/
def fnExactStepPartsUptoRow : OpenClaim := { program := "ytmnhkjcfldojiaa", sum := "f95ab12e247f29036132896ebde918a1cabef165d737bccda59ff19f184f5515", func := "loop.example/ringsofsteps/laws.FnExactStepParts", spec := "fnExactStepParts", unfollowed := true, recurses := true, apart := false, narrowed := true }
def FnExactStepPartsUptoSaid : Prop := fnExactStepPartsUptoRow.holds Try.pinned (OpenSpec.upto fnExactStepPartsSpec)

/-- 'laws.FnExactStepHalves', WHERE WHAT IT READS IS OF BULK AT MOST 1048576: true; the input reads as it did. -/
def fnExactStepHalvesUptoRow : OpenClaim := { program := "ytmnhkjcfldojiaa", sum := "f95ab12e247f29036132896ebde918a1cabef165d737bccda59ff19f184f5515", func := "loop.example/ringsofsteps/laws.FnExactStepHalves", spec := "fnExactStepHalves", unfollowed := true, recurses := true, apart := false, narrowed := true }
def FnExactStepHalvesUptoSaid : Prop := fnExactStepHalvesUptoRow.holds Try.pinned (OpenSpec.upto fnExactStepHalvesSpec)

/-- 'laws.FnExactStepCuts', WHERE WHAT IT READS IS OF BULK AT MOST 1048576: true; the input reads as it did. -/
def fnExactStepCutsUptoRow : OpenClaim := { program := "ytmnhkjcfldojiaa", sum := "f95ab12e247f29036132896ebde918a1cabef165d737bccda59ff19f184f5515", func := "loop.example/ringsofsteps/laws.FnExactStepCuts", spec := "fnExactStepCuts", unfollowed := true, recurses := true, apart := false, narrowed := true }
def FnExactStepCutsUptoSaid : Prop := fnExactStepCutsUptoRow.holds Try.pinned (OpenSpec.upto fnExactStepCutsSpec)

end Rows
end Go.Proofs.Ytmnhkjcfldojiaa
