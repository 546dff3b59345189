/-
  No cell of these rows narrows 'for every input' (looked for: loops, veiled, ifaces, maps, wideKeys, modest, calm, conditions, laid).
  DERIVED. THE GIVEN ROWS OF THIS SEAT. 7 by the template 'for every input the law returns true; each argument reads behind the call as it read before'; 0 by the template 'total and deterministic' (their statements: YtmcbcjhoglcdoaaTotals.lean).
  GIVEN WITH THE SEED: the statements are not yours to turn. If you find one false, say at which input.
  Laid BY PROGRAM, IN A SANDBOX (cutbox-rows.mjs): the forced cells as the released guide's own fill.sh prints them over the translation f4fb70153df096f1… (all of the seat's roots in one cut). By AI agents, Wed Nov 11 2026. No macro, syntax, notation, axiom, sorry.
-/
import Derived.Test.YtmcbcjhoglcdoaaChecked
import GoSem.Claim
import GoSem.ClaimJoined
import GoSem.ClaimMapViews
import Derived.JoinedTies
import Derived.KernelRfl
namespace Go.Proofs.Ytmcbcjhoglcdoaa
/- THE CELL 'sum', in the pinned program and in every row, IS THE sha256 OF THE DUMP (.gsa) THAT YtmcbcjhoglcdoaaProg.lean LOADS. Nothing in Lean hashes anything: it is a label: what it is worth is what the hold of that sum in a sandbox is worth. -/
noncomputable def Try.pinned : Pinned := { name := "ytmcbcjhoglcdoaa", sum := "f4fb70153df096f18240572c7c29f7336c68ae4de8c71d612b8f9702318fdf8f", checked := Try.checked }
namespace Rows
def none {H : Type} : Left H := { results := [], args := [] }

/-- 'laws.FnExactZeroSum': WHATEVER THE INPUT: true; the input reads as it did. -/
def fnExactZeroSumSpec : ChangeSpec := { name := "fnExactZeroSum", fn := fun _ => fun
  | [d1, d2] => { results := [.lit (.bool true)], args := [d1, d2] }
  | _ => none }
def fnExactZeroSumRow : OpenClaim := { program := "ytmcbcjhoglcdoaa", sum := "f4fb70153df096f18240572c7c29f7336c68ae4de8c71d612b8f9702318fdf8f", func := "loop.example/ringsofsteps/laws.FnExactZeroSum", spec := "fnExactZeroSum", apart := false }
def FnExactZeroSumSaid : Prop := fnExactZeroSumRow.holds Try.pinned (OpenSpec.ofChange fnExactZeroSumSpec)

/-- ITS FALSE NEIGHBOUR: 'it returns false'. Refute it at one input. -/
def fnExactZeroSumWrong : ChangeSpec := { name := "fnExactZeroSum", fn := fun _ => fun
  | [d1, d2] => { results := [.lit (.bool false)], args := [d1, d2] }
  | _ => none }
def FnExactZeroSumWrongFalsely : Prop := fnExactZeroSumRow.holds Try.pinned (OpenSpec.ofChange fnExactZeroSumWrong)

/-- 'laws.FnExactZeroFirst': WHATEVER THE INPUT: true; the input reads as it did. -/
def fnExactZeroFirstSpec : ChangeSpec := { name := "fnExactZeroFirst", fn := fun _ => fun
  | [d1, d2] => { results := [.lit (.bool true)], args := [d1, d2] }
  | _ => none }
def fnExactZeroFirstRow : OpenClaim := { program := "ytmcbcjhoglcdoaa", sum := "f4fb70153df096f18240572c7c29f7336c68ae4de8c71d612b8f9702318fdf8f", func := "loop.example/ringsofsteps/laws.FnExactZeroFirst", spec := "fnExactZeroFirst", unfollowed := true, recurses := true, apart := false }
def FnExactZeroFirstSaid : Prop := fnExactZeroFirstRow.holds Try.pinned (OpenSpec.ofChange fnExactZeroFirstSpec)

/-- ITS FALSE NEIGHBOUR: 'it returns false'. Refute it at one input. -/
def fnExactZeroFirstWrong : ChangeSpec := { name := "fnExactZeroFirst", fn := fun _ => fun
  | [d1, d2] => { results := [.lit (.bool false)], args := [d1, d2] }
  | _ => none }
def FnExactZeroFirstWrongFalsely : Prop := fnExactZeroFirstRow.holds Try.pinned (OpenSpec.ofChange fnExactZeroFirstWrong)

/-- 'laws.FnExactZeroOf': WHATEVER THE INPUT: true; the input reads as it did. -/
def fnExactZeroOfSpec : ChangeSpec := { name := "fnExactZeroOf", fn := fun _ => fun
  | [d1, d2] => { results := [.lit (.bool true)], args := [d1, d2] }
  | _ => none }
def fnExactZeroOfRow : OpenClaim := { program := "ytmcbcjhoglcdoaa", sum := "f4fb70153df096f18240572c7c29f7336c68ae4de8c71d612b8f9702318fdf8f", func := "loop.example/ringsofsteps/laws.FnExactZeroOf", spec := "fnExactZeroOf", unfollowed := true, recurses := true, apart := false }
def FnExactZeroOfSaid : Prop := fnExactZeroOfRow.holds Try.pinned (OpenSpec.ofChange fnExactZeroOfSpec)

/-- ITS FALSE NEIGHBOUR: 'it returns false'. Refute it at one input. -/
def fnExactZeroOfWrong : ChangeSpec := { name := "fnExactZeroOf", fn := fun _ => fun
  | [d1, d2] => { results := [.lit (.bool false)], args := [d1, d2] }
  | _ => none }
def FnExactZeroOfWrongFalsely : Prop := fnExactZeroOfRow.holds Try.pinned (OpenSpec.ofChange fnExactZeroOfWrong)

/-- 'laws.FnExactZeroPlain': WHATEVER THE INPUT: true; the input reads as it did. -/
def fnExactZeroPlainSpec : ChangeSpec := { name := "fnExactZeroPlain", fn := fun _ => fun
  | [d1, d2] => { results := [.lit (.bool true)], args := [d1, d2] }
  | _ => none }
def fnExactZeroPlainRow : OpenClaim := { program := "ytmcbcjhoglcdoaa", sum := "f4fb70153df096f18240572c7c29f7336c68ae4de8c71d612b8f9702318fdf8f", func := "loop.example/ringsofsteps/laws.FnExactZeroPlain", spec := "fnExactZeroPlain", unfollowed := true, recurses := true, apart := false }
def FnExactZeroPlainSaid : Prop := fnExactZeroPlainRow.holds Try.pinned (OpenSpec.ofChange fnExactZeroPlainSpec)

/-- ITS FALSE NEIGHBOUR: 'it returns false'. Refute it at one input. -/
def fnExactZeroPlainWrong : ChangeSpec := { name := "fnExactZeroPlain", fn := fun _ => fun
  | [d1, d2] => { results := [.lit (.bool false)], args := [d1, d2] }
  | _ => none }
def FnExactZeroPlainWrongFalsely : Prop := fnExactZeroPlainRow.holds Try.pinned (OpenSpec.ofChange fnExactZeroPlainWrong)

/-- 'laws.FnExactZeroParts': WHATEVER THE INPUT: true; the input reads as it did. -/
def fnExactZeroPartsSpec : ChangeSpec := { name := "fnExactZeroParts", fn := fun _ => fun
  | [d1, d2] => { results := [.lit (.bool true)], args := [d1, d2] }
  | _ => none }
def fnExactZeroPartsRow : OpenClaim := { program := "ytmcbcjhoglcdoaa", sum := "f4fb70153df096f18240572c7c29f7336c68ae4de8c71d612b8f9702318fdf8f", func := "loop.example/ringsofsteps/laws.FnExactZeroParts", spec := "fnExactZeroParts", unfollowed := true, recurses := true, apart := false }
def FnExactZeroPartsSaid : Prop := fnExactZeroPartsRow.holds Try.pinned (OpenSpec.ofChange fnExactZeroPartsSpec)

/-- ITS FALSE NEIGHBOUR: 'it returns false'. Refute it at one input. -/
def fnExactZeroPartsWrong : ChangeSpec := { name := "fnExactZeroParts", fn := fun _ => fun
  | [d1, d2] => { results := [.lit (.bool false)], args := [d1, d2] }
  | _ => none }
def FnExactZeroPartsWrongFalsely : Prop := fnExactZeroPartsRow.holds Try.pinned (OpenSpec.ofChange fnExactZeroPartsWrong)

/-- 'laws.FnExactZeroCounts': WHATEVER THE INPUT: true; the input reads as it did. -/
def fnExactZeroCountsSpec : ChangeSpec := { name := "fnExactZeroCounts", fn := fun _ => fun
  | [d1, d2] => { results := [.lit (.bool true)], args := [d1, d2] }
  | _ => none }
def fnExactZeroCountsRow : OpenClaim := { program := "ytmcbcjhoglcdoaa", sum := "f4fb70153df096f18240572c7c29f7336c68ae4de8c71d612b8f9702318fdf8f", func := "loop.example/ringsofsteps/laws.FnExactZeroCounts", spec := "fnExactZeroCounts", unfollowed := true, recurses := true, apart := false }
def FnExactZeroCountsSaid : Prop := fnExactZeroCountsRow.holds Try.pinned (OpenSpec.ofChange fnExactZeroCountsSpec)

/-- ITS FALSE NEIGHBOUR: 'it returns false'. Refute it at one input. -/
def fnExactZeroCountsWrong : ChangeSpec := { name := "fnExactZeroCounts", fn := fun _ => fun
  | [d1, d2] => { results := [.lit (.bool false)], args := [d1, d2] }
  | _ => none }
def FnExactZeroCountsWrongFalsely : Prop := fnExactZeroCountsRow.holds Try.pinned (OpenSpec.ofChange fnExactZeroCountsWrong)

/-- 'laws.FnExactZeroLeast': WHATEVER THE INPUT: true; the input reads as it did. -/
def fnExactZeroLeastSpec : ChangeSpec := { name := "fnExactZeroLeast", fn := fun _ => fun
  | [d1, d2] => { results := [.lit (.bool true)], args := [d1, d2] }
  | _ => none }
def fnExactZeroLeastRow : OpenClaim := { program := "ytmcbcjhoglcdoaa", sum := "f4fb70153df096f18240572c7c29f7336c68ae4de8c71d612b8f9702318fdf8f", func := "loop.example/ringsofsteps/laws.FnExactZeroLeast", spec := "fnExactZeroLeast", unfollowed := true, recurses := true, apart := false }
def FnExactZeroLeastSaid : Prop := fnExactZeroLeastRow.holds Try.pinned (OpenSpec.ofChange fnExactZeroLeastSpec)

/-- ITS FALSE NEIGHBOUR: 'it returns false'. Refute it at one input. -/
def fnExactZeroLeastWrong : ChangeSpec := { name := "fnExactZeroLeast", fn := fun _ => fun
  | [d1, d2] => { results := [.lit (.bool false)], args := [d1, d2] }
  | _ => none }
def FnExactZeroLeastWrongFalsely : Prop := fnExactZeroLeastRow.holds Try.pinned (OpenSpec.ofChange fnExactZeroLeastWrong)

/- THE SECOND FORM. 'bulk': how many values and letters a reading holds, each counted each time it is reached (what is shared counts as often as it is met; a slice's spare places count too). A statement '..UptoSaid' is the law's where the arguments, and the package variables that the reading takes, are together of bulk at most 1048576: NARROWER than '..Said'. Prove '..Said' where nothing that the law and all that it calls make is longer than what came in: it says more and counts as full. Else prove '..UptoSaid'. A law counts once. -/
mutual
def uptoBulk {H : Type} : DataW H → Nat
  | .lit (.string bytes) => bytes.length + 1
  | .lit _ => 1
  | .nil => 1
  | .ptr d => uptoBulk d + 1
  | .slice elems spare => uptoBulkAll elems + uptoBulkAll spare + 1
  | .agg parts => uptoBulkAll parts + 1
  | .iface _ d => uptoBulk d + 1
  | .map entries => uptoBulkEntries entries + 1
  | .held _ => 1
def uptoBulkAll {H : Type} : List (DataW H) → Nat
  | [] => 0
  | d :: r => uptoBulk d + uptoBulkAll r
def uptoBulkEntries {H : Type} : List (Lit × DataW H) → Nat
  | [] => 0
  | x :: r => uptoBulkEntry x + uptoBulkEntries r
def uptoBulkEntry {H : Type} : Lit × DataW H → Nat
  | (.string bytes, d) => bytes.length + uptoBulk d + 1
  | (_, d) => uptoBulk d + 1
 end
def uptoSmall : (H : Type) → List (DataW H) → Bool := fun _ ds => decide (uptoBulkAll ds ≤ 1048576)
def OpenSpec.upto (s : _root_.Go.ChangeSpec) : _root_.Go.OpenSpec := { _root_.Go.OpenSpec.ofChange s with cond := some uptoSmall }

/-- 'laws.FnExactZeroSum', WHERE WHAT IT READS IS OF BULK AT MOST 1048576: true; the input reads as it did. -/
def fnExactZeroSumUptoRow : OpenClaim := { program := "ytmcbcjhoglcdoaa", sum := "f4fb70153df096f18240572c7c29f7336c68ae4de8c71d612b8f9702318fdf8f", func := "loop.example/ringsofsteps/laws.FnExactZeroSum", spec := "fnExactZeroSum", apart := false, narrowed := true }
def FnExactZeroSumUptoSaid : Prop := fnExactZeroSumUptoRow.holds Try.pinned (OpenSpec.upto fnExactZeroSumSpec)

/-- 'laws.FnExactZeroFirst', WHERE WHAT IT READS IS OF BULK AT MOST 1048576: true; the input reads as it did. -/
def fnExactZeroFirstUptoRow : OpenClaim := { program := "ytmcbcjhoglcdoaa", sum := "f4fb70153df096f18240572c7c29f7336c68ae4de8c71d612b8f9702318fdf8f", func := "loop.example/ringsofsteps/laws.FnExactZeroFirst", spec := "fnExactZeroFirst", unfollowed := true, recurses := true, apart := false, narrowed := true }
def FnExactZeroFirstUptoSaid : Prop := fnExactZeroFirstUptoRow.holds Try.pinned (OpenSpec.upto fnExactZeroFirstSpec)

/-- 'laws.FnExactZeroOf', WHERE WHAT IT READS IS OF BULK AT MOST 1048576: true; the input reads as it did. -/
def fnExactZeroOfUptoRow : OpenClaim := { program := "ytmcbcjhoglcdoaa", sum := "f4fb70153df096f18240572c7c29f7336c68ae4de8c71d612b8f9702318fdf8f", func := "loop.example/ringsofsteps/laws.FnExactZeroOf", spec := "fnExactZeroOf", unfollowed := true, recurses := true, apart := false, narrowed := true }
def FnExactZeroOfUptoSaid : Prop := fnExactZeroOfUptoRow.holds Try.pinned (OpenSpec.upto fnExactZeroOfSpec)

/-- 'laws.FnExactZeroPlain', WHERE WHAT IT READS IS OF BULK AT MOST 1048576: true; the input reads as it did. -/
def fnExactZeroPlainUptoRow : OpenClaim := { program := "ytmcbcjhoglcdoaa", sum := "f4fb70153df096f18240572c7c29f7336c68ae4de8c71d612b8f9702318fdf8f", func := "loop.example/ringsofsteps/laws.FnExactZeroPlain", spec := "fnExactZeroPlain", unfollowed := true, recurses := true, apart := false, narrowed := true }
def FnExactZeroPlainUptoSaid : Prop := fnExactZeroPlainUptoRow.holds Try.pinned (OpenSpec.upto fnExactZeroPlainSpec)

/-- 'laws.FnExactZeroParts', WHERE WHAT IT READS IS OF BULK AT MOST 1048576: true; the input reads as it did. -/
def fnExactZeroPartsUptoRow : OpenClaim := { program := "ytmcbcjhoglcdoaa", sum := "f4fb70153df096f18240572c7c29f7336c68ae4de8c71d612b8f9702318fdf8f", func := "loop.example/ringsofsteps/laws.FnExactZeroParts", spec := "fnExactZeroParts", unfollowed := true, recurses := true, apart := false, narrowed := true }
def FnExactZeroPartsUptoSaid : Prop := fnExactZeroPartsUptoRow.holds Try.pinned (OpenSpec.upto fnExactZeroPartsSpec)

/-- 'laws.FnExactZeroCounts', WHERE WHAT IT READS IS OF BULK AT MOST 1048576: true; the input reads as it did. -/
def fnExactZeroCountsUptoRow : OpenClaim := { program := "ytmcbcjhoglcdoaa", sum := "f4fb70153df096f18240572c7c29f7336c68ae4de8c71d612b8f9702318fdf8f", func := "loop.example/ringsofsteps/laws.FnExactZeroCounts", spec := "fnExactZeroCounts", unfollowed := true, recurses := true, apart := false, narrowed := true }
def FnExactZeroCountsUptoSaid : Prop := fnExactZeroCountsUptoRow.holds Try.pinned (OpenSpec.upto fnExactZeroCountsSpec)

/-- 'laws.FnExactZeroLeast', WHERE WHAT IT READS IS OF BULK AT MOST 1048576: true; the input reads as it did. -/
def fnExactZeroLeastUptoRow : OpenClaim := { program := "ytmcbcjhoglcdoaa", sum := "f4fb70153df096f18240572c7c29f7336c68ae4de8c71d612b8f9702318fdf8f", func := "loop.example/ringsofsteps/laws.FnExactZeroLeast", spec := "fnExactZeroLeast", unfollowed := true, recurses := true, apart := false, narrowed := true }
def FnExactZeroLeastUptoSaid : Prop := fnExactZeroLeastUptoRow.holds Try.pinned (OpenSpec.upto fnExactZeroLeastSpec)

end Rows
end Go.Proofs.Ytmcbcjhoglcdoaa
