/-
  No cell of these rows narrows 'for every input' (looked for: loops, veiled, ifaces, maps, wideKeys, modest, calm, conditions, laid).
  DERIVED. THE GIVEN ROWS OF THIS SEAT. 8 by the template 'for every input the law returns true; each argument reads behind the call as it read before'; 0 by the template 'total and deterministic' (their statements: YtaklmepioeoohaaTotals.lean).
  GIVEN WITH THE SEED: the statements are not yours to turn. If you find one false, say at which input.
  Laid BY PROGRAM, IN A SANDBOX (cutbox-rows.mjs): the forced cells as the released guide's own fill.sh prints them over the translation 320691fbd15e06a3… (all of the seat's roots in one cut). By AI agents, Wed Nov 11 2026. No macro, syntax, notation, axiom, sorry.
-/
import Derived.Test.YtaklmepioeoohaaChecked
import GoSem.Claim
import GoSem.ClaimJoined
import GoSem.ClaimMapViews
import Derived.JoinedTies
import Derived.KernelRfl
namespace Go.Proofs.Ytaklmepioeoohaa
/- THE CELL 'sum', in the pinned program and in every row, IS THE sha256 OF THE DUMP (.gsa) THAT YtaklmepioeoohaaProg.lean LOADS. Nothing in Lean hashes anything: it is a label: what it is worth is what the hold of that sum in a sandbox is worth. -/
noncomputable def Try.pinned : Pinned := { name := "ytaklmepioeoohaa", sum := "320691fbd15e06a377e9222d06873905b0d094e486f70d7bdb85c1a0ffe07b3e", checked := Try.checked }
namespace Rows
def none {H : Type} : Left H := { results := [], args := [] }

/-- 'laws.FnPlay': WHATEVER THE INPUT: true; the input reads as it did. -/
def fnPlaySpec : ChangeSpec := { name := "fnPlay", fn := fun _ => fun
  | [d] => { results := [.lit (.bool true)], args := [d] }
  | _ => none }
def fnPlayRow : OpenClaim := { program := "ytaklmepioeoohaa", sum := "320691fbd15e06a377e9222d06873905b0d094e486f70d7bdb85c1a0ffe07b3e", func := "loop.example/ringsofsteps/laws.FnPlay", spec := "fnPlay", unfollowed := true, recurses := true, apart := false }
def FnPlaySaid : Prop := fnPlayRow.holds Try.pinned (OpenSpec.ofChange fnPlaySpec)

/-- ITS FALSE NEIGHBOUR: 'it returns false'. Refute it at one input. -/
def fnPlayWrong : ChangeSpec := { name := "fnPlay", fn := fun _ => fun
  | [d] => { results := [.lit (.bool false)], args := [d] }
  | _ => none }
def FnPlayWrongFalsely : Prop := fnPlayRow.holds Try.pinned (OpenSpec.ofChange fnPlayWrong)

/-- 'laws.FnPlayAll': WHATEVER THE INPUT: true; the input reads as it did. -/
def fnPlayAllSpec : ChangeSpec := { name := "fnPlayAll", fn := fun _ => fun
  | [d] => { results := [.lit (.bool true)], args := [d] }
  | _ => none }
def fnPlayAllRow : OpenClaim := { program := "ytaklmepioeoohaa", sum := "320691fbd15e06a377e9222d06873905b0d094e486f70d7bdb85c1a0ffe07b3e", func := "loop.example/ringsofsteps/laws.FnPlayAll", spec := "fnPlayAll", unfollowed := true, recurses := true, apart := false }
def FnPlayAllSaid : Prop := fnPlayAllRow.holds Try.pinned (OpenSpec.ofChange fnPlayAllSpec)

/-- ITS FALSE NEIGHBOUR: 'it returns false'. Refute it at one input. -/
def fnPlayAllWrong : ChangeSpec := { name := "fnPlayAll", fn := fun _ => fun
  | [d] => { results := [.lit (.bool false)], args := [d] }
  | _ => none }
def FnPlayAllWrongFalsely : Prop := fnPlayAllRow.holds Try.pinned (OpenSpec.ofChange fnPlayAllWrong)

/-- 'laws.FnThree': WHATEVER THE INPUT: true; the input reads as it did. -/
def fnThreeSpec : ChangeSpec := { name := "fnThree", fn := fun _ => fun
  | [d] => { results := [.lit (.bool true)], args := [d] }
  | _ => none }
def fnThreeRow : OpenClaim := { program := "ytaklmepioeoohaa", sum := "320691fbd15e06a377e9222d06873905b0d094e486f70d7bdb85c1a0ffe07b3e", func := "loop.example/ringsofsteps/laws.FnThree", spec := "fnThree", unfollowed := true, recurses := true, apart := false }
def FnThreeSaid : Prop := fnThreeRow.holds Try.pinned (OpenSpec.ofChange fnThreeSpec)

/-- ITS FALSE NEIGHBOUR: 'it returns false'. Refute it at one input. -/
def fnThreeWrong : ChangeSpec := { name := "fnThree", fn := fun _ => fun
  | [d] => { results := [.lit (.bool false)], args := [d] }
  | _ => none }
def FnThreeWrongFalsely : Prop := fnThreeRow.holds Try.pinned (OpenSpec.ofChange fnThreeWrong)

/-- 'laws.FnTwice': WHATEVER THE INPUT: true; the input reads as it did. -/
def fnTwiceSpec : ChangeSpec := { name := "fnTwice", fn := fun _ => fun
  | [d] => { results := [.lit (.bool true)], args := [d] }
  | _ => none }
def fnTwiceRow : OpenClaim := { program := "ytaklmepioeoohaa", sum := "320691fbd15e06a377e9222d06873905b0d094e486f70d7bdb85c1a0ffe07b3e", func := "loop.example/ringsofsteps/laws.FnTwice", spec := "fnTwice", unfollowed := true, recurses := true, apart := false }
def FnTwiceSaid : Prop := fnTwiceRow.holds Try.pinned (OpenSpec.ofChange fnTwiceSpec)

/-- ITS FALSE NEIGHBOUR: 'it returns false'. Refute it at one input. -/
def fnTwiceWrong : ChangeSpec := { name := "fnTwice", fn := fun _ => fun
  | [d] => { results := [.lit (.bool false)], args := [d] }
  | _ => none }
def FnTwiceWrongFalsely : Prop := fnTwiceRow.holds Try.pinned (OpenSpec.ofChange fnTwiceWrong)

/-- 'laws.FnEqual': WHATEVER THE INPUT: true; the input reads as it did. -/
def fnEqualSpec : ChangeSpec := { name := "fnEqual", fn := fun _ => fun
  | [d] => { results := [.lit (.bool true)], args := [d] }
  | _ => none }
def fnEqualRow : OpenClaim := { program := "ytaklmepioeoohaa", sum := "320691fbd15e06a377e9222d06873905b0d094e486f70d7bdb85c1a0ffe07b3e", func := "loop.example/ringsofsteps/laws.FnEqual", spec := "fnEqual", unfollowed := true, recurses := true, apart := false }
def FnEqualSaid : Prop := fnEqualRow.holds Try.pinned (OpenSpec.ofChange fnEqualSpec)

/-- ITS FALSE NEIGHBOUR: 'it returns false'. Refute it at one input. -/
def fnEqualWrong : ChangeSpec := { name := "fnEqual", fn := fun _ => fun
  | [d] => { results := [.lit (.bool false)], args := [d] }
  | _ => none }
def FnEqualWrongFalsely : Prop := fnEqualRow.holds Try.pinned (OpenSpec.ofChange fnEqualWrong)

/-- 'laws.FnEqualEven': WHATEVER THE INPUT: true; the input reads as it did. -/
def fnEqualEvenSpec : ChangeSpec := { name := "fnEqualEven", fn := fun _ => fun
  | [d] => { results := [.lit (.bool true)], args := [d] }
  | _ => none }
def fnEqualEvenRow : OpenClaim := { program := "ytaklmepioeoohaa", sum := "320691fbd15e06a377e9222d06873905b0d094e486f70d7bdb85c1a0ffe07b3e", func := "loop.example/ringsofsteps/laws.FnEqualEven", spec := "fnEqualEven", unfollowed := true, recurses := true, apart := false }
def FnEqualEvenSaid : Prop := fnEqualEvenRow.holds Try.pinned (OpenSpec.ofChange fnEqualEvenSpec)

/-- ITS FALSE NEIGHBOUR: 'it returns false'. Refute it at one input. -/
def fnEqualEvenWrong : ChangeSpec := { name := "fnEqualEven", fn := fun _ => fun
  | [d] => { results := [.lit (.bool false)], args := [d] }
  | _ => none }
def FnEqualEvenWrongFalsely : Prop := fnEqualEvenRow.holds Try.pinned (OpenSpec.ofChange fnEqualEvenWrong)

/-- 'laws.FnPlayClasses': WHATEVER THE INPUT: true; the input reads as it did. -/
def fnPlayClassesSpec : ChangeSpec := { name := "fnPlayClasses", fn := fun _ => fun
  | [d] => { results := [.lit (.bool true)], args := [d] }
  | _ => none }
def fnPlayClassesRow : OpenClaim := { program := "ytaklmepioeoohaa", sum := "320691fbd15e06a377e9222d06873905b0d094e486f70d7bdb85c1a0ffe07b3e", func := "loop.example/ringsofsteps/laws.FnPlayClasses", spec := "fnPlayClasses", unfollowed := true, recurses := true, apart := false }
def FnPlayClassesSaid : Prop := fnPlayClassesRow.holds Try.pinned (OpenSpec.ofChange fnPlayClassesSpec)

/-- ITS FALSE NEIGHBOUR: 'it returns false'. Refute it at one input. -/
def fnPlayClassesWrong : ChangeSpec := { name := "fnPlayClasses", fn := fun _ => fun
  | [d] => { results := [.lit (.bool false)], args := [d] }
  | _ => none }
def FnPlayClassesWrongFalsely : Prop := fnPlayClassesRow.holds Try.pinned (OpenSpec.ofChange fnPlayClassesWrong)

/-- 'laws.FnOrder': WHATEVER THE INPUT: true; the input reads as it did. -/
def fnOrderSpec : ChangeSpec := { name := "fnOrder", fn := fun _ => fun
  | [d] => { results := [.lit (.bool true)], args := [d] }
  | _ => none }
def fnOrderRow : OpenClaim := { program := "ytaklmepioeoohaa", sum := "320691fbd15e06a377e9222d06873905b0d094e486f70d7bdb85c1a0ffe07b3e", func := "loop.example/ringsofsteps/laws.FnOrder", spec := "fnOrder", unfollowed := true, recurses := true, apart := false }
def FnOrderSaid : Prop := fnOrderRow.holds Try.pinned (OpenSpec.ofChange fnOrderSpec)

/-- ITS FALSE NEIGHBOUR: 'it returns false'. Refute it at one input. -/
def fnOrderWrong : ChangeSpec := { name := "fnOrder", fn := fun _ => fun
  | [d] => { results := [.lit (.bool false)], args := [d] }
  | _ => none }
def FnOrderWrongFalsely : Prop := fnOrderRow.holds Try.pinned (OpenSpec.ofChange fnOrderWrong)

/- THE SECOND FORM. 'bulk': how many values and letters a reading holds, each counted each time it is reached (what is shared counts as often as it is met; a slice's spare places count too). A statement '..UptoSaid' is the law's where the arguments, and the package variables that the reading takes, are together of bulk at most 1048576: NARROWER than '..Said'. Prove '..Said' where nothing that the law and all that it calls make is longer than what came in: it says more and counts as full. Else prove '..UptoSaid'. A law counts once. -/
mutual
def uptoBulk {H : Type} : DataW H → Nat
  | .lit (.string bytes) => bytes.length + 1
  | .lit _ => 1
  | .nil => 1
  | .ptr d => uptoBulk d + 1
  | .slice elems spare => uptoBulkAll elems + uptoBulkAll spare + 1
  | .agg parts => uptoBulkAll parts + 1
  | .iface _ d => uptoBulk d + 1
  | .map entries => uptoBulkEntries entries + 1
  | .held _ => 1
def uptoBulkAll {H : Type} : List (DataW H) → Nat
  | [] => 0
  | d :: r => uptoBulk d + uptoBulkAll r
def uptoBulkEntries {H : Type} : List (Lit × DataW H) → Nat
  | [] => 0
  | x :: r => uptoBulkEntry x + uptoBulkEntries r
def uptoBulkEntry {H : Type} : Lit × DataW H → Nat
  | (.string bytes, d) => bytes.length + uptoBulk d + 1
  | (_, d) => uptoBulk d + 1
 end
def uptoSmall : (H : Type) → List (DataW H) → Bool := fun _ ds => decide (uptoBulkAll ds ≤ 1048576)
def OpenSpec.upto (s : _root_.Go.ChangeSpec) : _root_.Go.OpenSpec := { _root_.Go.OpenSpec.ofChange s with cond := some uptoSmall }

/-- 'laws.FnPlay', WHERE WHAT IT READS IS OF BULK AT MOST 1048576: true; the input reads as it did. -/
def fnPlayUptoRow : OpenClaim := { program := "ytaklmepioeoohaa", sum := "320691fbd15e06a377e9222d06873905b0d094e486f70d7bdb85c1a0ffe07b3e", func := "loop.example/ringsofsteps/laws.FnPlay", spec := "fnPlay", unfollowed := true, recurses := true, apart := false, narrowed := true }
def FnPlayUptoSaid : Prop := fnPlayUptoRow.holds Try.pinned (OpenSpec.upto fnPlaySpec)

/-- 'laws.FnPlayAll', WHERE WHAT IT READS IS OF BULK AT MOST 1048576: true; the input reads as it did. -/
def fnPlayAllUptoRow : OpenClaim := { program := "ytaklmepioeoohaa", sum := "320691fbd15e06a377e9222d06873905b0d094e486f70d7bdb85c1a0ffe07b3e", func := "loop.example/ringsofsteps/laws.FnPlayAll", spec := "fnPlayAll", unfollowed := true, recurses := true, apart := false, narrowed := true }
def FnPlayAllUptoSaid : Prop := fnPlayAllUptoRow.holds Try.pinned (OpenSpec.upto fnPlayAllSpec)

/-- 'laws.FnThree', WHERE WHAT IT READS IS OF BULK AT MOST 1048576: true; the input reads as it did. -/
def fnThreeUptoRow : OpenClaim := { program := "ytaklmepioeoohaa", sum := "320691fbd15e06a377e9222d06873905b0d094e486f70d7bdb85c1a0ffe07b3e", func := "loop.example/ringsofsteps/laws.FnThree", spec := "fnThree", unfollowed := true, recurses := true, apart := false, narrowed := true }
def FnThreeUptoSaid : Prop := fnThreeUptoRow.holds Try.pinned (OpenSpec.upto fnThreeSpec)

/-- 'laws.FnTwice', WHERE WHAT IT READS IS OF BULK AT MOST 1048576: true; the input reads as it did. -/
def fnTwiceUptoRow : OpenClaim := { program := "ytaklmepioeoohaa", sum := "320691fbd15e06a377e9222d06873905b0d094e486f70d7bdb85c1a0ffe07b3e", func := "loop.example/ringsofsteps/laws.FnTwice", spec := "fnTwice", unfollowed := true, recurses := true, apart := false, narrowed := true }
def FnTwiceUptoSaid : Prop := fnTwiceUptoRow.holds Try.pinned (OpenSpec.upto fnTwiceSpec)

/-- 'laws.FnEqual', WHERE WHAT IT READS IS OF BULK AT MOST 1048576: true; the input reads as it did. -/
def fnEqualUptoRow : OpenClaim := { program := "ytaklmepioeoohaa", sum := "320691fbd15e06a377e9222d06873905b0d094e486f70d7bdb85c1a0ffe07b3e", func := "loop.example/ringsofsteps/laws.FnEqual", spec := "fnEqual", unfollowed := true, recurses := true, apart := false, narrowed := true }
def FnEqualUptoSaid : Prop := fnEqualUptoRow.holds Try.pinned (OpenSpec.upto fnEqualSpec)

/-- 'laws.FnEqualEven', WHERE WHAT IT READS IS OF BULK AT MOST 1048576: true; the input reads as it did. -/
def fnEqualEvenUptoRow : OpenClaim := { program := "ytaklmepioeoohaa", sum := "320691fbd15e06a377e9222d06873905b0d094e486f70d7bdb85c1a0ffe07b3e", func := "loop.example/ringsofsteps/laws.FnEqualEven", spec := "fnEqualEven", unfollowed := true, recurses := true, apart := false, narrowed := true }
def FnEqualEvenUptoSaid : Prop := fnEqualEvenUptoRow.holds Try.pinned (OpenSpec.upto fnEqualEvenSpec)

/-- 'laws.FnPlayClasses', WHERE WHAT IT READS IS OF BULK AT MOST 1048576: true; the input reads as it did. -/
def fnPlayClassesUptoRow : OpenClaim := { program := "ytaklmepioeoohaa", sum := "320691fbd15e06a377e9222d06873905b0d094e486f70d7bdb85c1a0ffe07b3e", func := "loop.example/ringsofsteps/laws.FnPlayClasses", spec := "fnPlayClasses", unfollowed := true, recurses := true, apart := false, narrowed := true }
def FnPlayClassesUptoSaid : Prop := fnPlayClassesUptoRow.holds Try.pinned (OpenSpec.upto fnPlayClassesSpec)

/-- 'laws.FnOrder', WHERE WHAT IT READS IS OF BULK AT MOST 1048576: true; the input reads as it did. -/
def fnOrderUptoRow : OpenClaim := { program := "ytaklmepioeoohaa", sum := "320691fbd15e06a377e9222d06873905b0d094e486f70d7bdb85c1a0ffe07b3e", func := "loop.example/ringsofsteps/laws.FnOrder", spec := "fnOrder", unfollowed := true, recurses := true, apart := false, narrowed := true }
def FnOrderUptoSaid : Prop := fnOrderUptoRow.holds Try.pinned (OpenSpec.upto fnOrderSpec)

end Rows
end Go.Proofs.Ytaklmepioeoohaa
