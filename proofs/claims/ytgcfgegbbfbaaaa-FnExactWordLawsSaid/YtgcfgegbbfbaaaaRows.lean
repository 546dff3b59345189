/-
  No cell of these rows narrows 'for every input' (looked for: loops, veiled, ifaces, maps, wideKeys, modest, calm, conditions, laid).
  DERIVED. THE GIVEN ROWS OF THIS SEAT. 6 by the template 'for every input the law returns true; each argument reads behind the call as it read before'; 0 by the template 'total and deterministic' (their statements: YtgcfgegbbfbaaaaTotals.lean).
  GIVEN WITH THE SEED: the statements are not yours to turn. If you find one false, say at which input.
  Laid BY PROGRAM, IN A SANDBOX (cutbox-rows.mjs): the forced cells as the released guide's own fill.sh prints them over the translation bf8859e4652e7211… (all of the seat's roots in one cut). By AI agents, Wed Nov 11 2026. No macro, syntax, notation, axiom, sorry.
-/
import Derived.Test.YtgcfgegbbfbaaaaChecked
import GoSem.Claim
import GoSem.ClaimJoined
import GoSem.ClaimMapViews
import Derived.JoinedTies
import Derived.KernelRfl
namespace Go.Proofs.Ytgcfgegbbfbaaaa
/- THE CELL 'sum', in the pinned program and in every row, IS THE sha256 OF THE DUMP (.gsa) THAT YtgcfgegbbfbaaaaProg.lean LOADS. Nothing in Lean hashes anything: it is a label: what it is worth is what the hold of that sum in a sandbox is worth. -/
noncomputable def Try.pinned : Pinned := { name := "ytgcfgegbbfbaaaa", sum := "bf8859e4652e7211a8b581e14ce0b870655f3f1bda876ec432576870e1a2de91", checked := Try.checked }
namespace Rows
def none {H : Type} : Left H := { results := [], args := [] }

/-- 'laws.FnExactWordEnd': WHATEVER THE INPUT: true; the input reads as it did. -/
def fnExactWordEndSpec : ChangeSpec := { name := "fnExactWordEnd", fn := fun _ => fun
  | [d1, d2, d3] => { results := [.lit (.bool true)], args := [d1, d2, d3] }
  | _ => none }
def fnExactWordEndRow : OpenClaim := { program := "ytgcfgegbbfbaaaa", sum := "bf8859e4652e7211a8b581e14ce0b870655f3f1bda876ec432576870e1a2de91", func := "loop.example/ringsofsteps/laws.FnExactWordEnd", spec := "fnExactWordEnd", inPlace := ["internal/bytealg.CountString", "internal/bytealg.IndexByteString", "internal/bytealg.IndexString"], unfollowed := true, recurses := true, named := ["internal/bytealg.MaxLen"], apart := false }
def FnExactWordEndSaid : Prop := fnExactWordEndRow.holds Try.pinned (OpenSpec.ofChange fnExactWordEndSpec)

/-- ITS FALSE NEIGHBOUR: 'it returns false'. Refute it at one input. -/
def fnExactWordEndWrong : ChangeSpec := { name := "fnExactWordEnd", fn := fun _ => fun
  | [d1, d2, d3] => { results := [.lit (.bool false)], args := [d1, d2, d3] }
  | _ => none }
def FnExactWordEndWrongFalsely : Prop := fnExactWordEndRow.holds Try.pinned (OpenSpec.ofChange fnExactWordEndWrong)

/-- 'laws.FnExactWordTidy': WHATEVER THE INPUT: true; the input reads as it did. -/
def fnExactWordTidySpec : ChangeSpec := { name := "fnExactWordTidy", fn := fun _ => fun
  | [d1, d2, d3] => { results := [.lit (.bool true)], args := [d1, d2, d3] }
  | _ => none }
def fnExactWordTidyRow : OpenClaim := { program := "ytgcfgegbbfbaaaa", sum := "bf8859e4652e7211a8b581e14ce0b870655f3f1bda876ec432576870e1a2de91", func := "loop.example/ringsofsteps/laws.FnExactWordTidy", spec := "fnExactWordTidy", inPlace := ["internal/bytealg.CountString", "internal/bytealg.IndexByteString", "internal/bytealg.IndexString", "internal/abi.NoEscape", "internal/bytealg.MakeNoZero"], unfollowed := true, recurses := true, named := ["internal/bytealg.MaxLen"], apart := false }
def FnExactWordTidySaid : Prop := fnExactWordTidyRow.holds Try.pinned (OpenSpec.ofChange fnExactWordTidySpec)

/-- ITS FALSE NEIGHBOUR: 'it returns false'. Refute it at one input. -/
def fnExactWordTidyWrong : ChangeSpec := { name := "fnExactWordTidy", fn := fun _ => fun
  | [d1, d2, d3] => { results := [.lit (.bool false)], args := [d1, d2, d3] }
  | _ => none }
def FnExactWordTidyWrongFalsely : Prop := fnExactWordTidyRow.holds Try.pinned (OpenSpec.ofChange fnExactWordTidyWrong)

/-- 'laws.FnExactWordShort': WHATEVER THE INPUT: true; the input reads as it did. -/
def fnExactWordShortSpec : ChangeSpec := { name := "fnExactWordShort", fn := fun _ => fun
  | [d1, d2, d3] => { results := [.lit (.bool true)], args := [d1, d2, d3] }
  | _ => none }
def fnExactWordShortRow : OpenClaim := { program := "ytgcfgegbbfbaaaa", sum := "bf8859e4652e7211a8b581e14ce0b870655f3f1bda876ec432576870e1a2de91", func := "loop.example/ringsofsteps/laws.FnExactWordShort", spec := "fnExactWordShort", inPlace := ["internal/abi.NoEscape", "internal/bytealg.MakeNoZero"], unfollowed := true, recurses := true, apart := false }
def FnExactWordShortSaid : Prop := fnExactWordShortRow.holds Try.pinned (OpenSpec.ofChange fnExactWordShortSpec)

/-- ITS FALSE NEIGHBOUR: 'it returns false'. Refute it at one input. -/
def fnExactWordShortWrong : ChangeSpec := { name := "fnExactWordShort", fn := fun _ => fun
  | [d1, d2, d3] => { results := [.lit (.bool false)], args := [d1, d2, d3] }
  | _ => none }
def FnExactWordShortWrongFalsely : Prop := fnExactWordShortRow.holds Try.pinned (OpenSpec.ofChange fnExactWordShortWrong)

/-- 'laws.FnExactWordSame': WHATEVER THE INPUT: true; the input reads as it did. -/
def fnExactWordSameSpec : ChangeSpec := { name := "fnExactWordSame", fn := fun _ => fun
  | [d1, d2, d3, d4] => { results := [.lit (.bool true)], args := [d1, d2, d3, d4] }
  | _ => none }
def fnExactWordSameRow : OpenClaim := { program := "ytgcfgegbbfbaaaa", sum := "bf8859e4652e7211a8b581e14ce0b870655f3f1bda876ec432576870e1a2de91", func := "loop.example/ringsofsteps/laws.FnExactWordSame", spec := "fnExactWordSame", inPlace := ["internal/bytealg.CountString", "internal/bytealg.IndexByteString", "internal/bytealg.IndexString"], unfollowed := true, recurses := true, named := ["internal/bytealg.MaxLen"], apart := false }
def FnExactWordSameSaid : Prop := fnExactWordSameRow.holds Try.pinned (OpenSpec.ofChange fnExactWordSameSpec)

/-- ITS FALSE NEIGHBOUR: 'it returns false'. Refute it at one input. -/
def fnExactWordSameWrong : ChangeSpec := { name := "fnExactWordSame", fn := fun _ => fun
  | [d1, d2, d3, d4] => { results := [.lit (.bool false)], args := [d1, d2, d3, d4] }
  | _ => none }
def FnExactWordSameWrongFalsely : Prop := fnExactWordSameRow.holds Try.pinned (OpenSpec.ofChange fnExactWordSameWrong)

/-- 'laws.FnExactWordLaws': WHATEVER THE INPUT: true; the input reads as it did. -/
def fnExactWordLawsSpec : ChangeSpec := { name := "fnExactWordLaws", fn := fun _ => fun
  | [d1, d2, d3] => { results := [.lit (.bool true)], args := [d1, d2, d3] }
  | _ => none }
def fnExactWordLawsRow : OpenClaim := { program := "ytgcfgegbbfbaaaa", sum := "bf8859e4652e7211a8b581e14ce0b870655f3f1bda876ec432576870e1a2de91", func := "loop.example/ringsofsteps/laws.FnExactWordLaws", spec := "fnExactWordLaws", inPlace := ["internal/abi.NoEscape", "internal/bytealg.MakeNoZero"], unfollowed := true, recurses := true, apart := false }
def FnExactWordLawsSaid : Prop := fnExactWordLawsRow.holds Try.pinned (OpenSpec.ofChange fnExactWordLawsSpec)

/-- ITS FALSE NEIGHBOUR: 'it returns false'. Refute it at one input. -/
def fnExactWordLawsWrong : ChangeSpec := { name := "fnExactWordLaws", fn := fun _ => fun
  | [d1, d2, d3] => { results := [.lit (.bool false)], args := [d1, d2, d3] }
  | _ => none }
def FnExactWordLawsWrongFalsely : Prop := fnExactWordLawsRow.holds Try.pinned (OpenSpec.ofChange fnExactWordLawsWrong)

/-- 'laws.FnExactWordFar': WHATEVER THE INPUT: true; the input reads as it did. -/
def fnExactWordFarSpec : ChangeSpec := { name := "fnExactWordFar", fn := fun _ => fun
  | [d1, d2] => { results := [.lit (.bool true)], args := [d1, d2] }
  | _ => none }
def fnExactWordFarRow : OpenClaim := { program := "ytgcfgegbbfbaaaa", sum := "bf8859e4652e7211a8b581e14ce0b870655f3f1bda876ec432576870e1a2de91", func := "loop.example/ringsofsteps/laws.FnExactWordFar", spec := "fnExactWordFar", inPlace := ["internal/abi.NoEscape", "internal/bytealg.MakeNoZero"], unfollowed := true, recurses := true, apart := false }
def FnExactWordFarSaid : Prop := fnExactWordFarRow.holds Try.pinned (OpenSpec.ofChange fnExactWordFarSpec)

/-- ITS FALSE NEIGHBOUR: 'it returns false'. Refute it at one input. -/
def fnExactWordFarWrong : ChangeSpec := { name := "fnExactWordFar", fn := fun _ => fun
  | [d1, d2] => { results := [.lit (.bool false)], args := [d1, d2] }
  | _ => none }
def FnExactWordFarWrongFalsely : Prop := fnExactWordFarRow.holds Try.pinned (OpenSpec.ofChange fnExactWordFarWrong)

/- THE SECOND FORM. 'bulk': how many values and letters a reading holds, each counted each time it is reached (what is shared counts as often as it is met; a slice's spare places count too). A statement '..UptoSaid' is the law's where the arguments, and the package variables that the reading takes, are together of bulk at most 1048576: NARROWER than '..Said'. Prove '..Said' where nothing that the law and all that it calls make is longer than what came in: it says more and counts as full. Else prove '..UptoSaid'. A law counts once. -/
mutual
def uptoBulk {H : Type} : DataW H → Nat
  | .lit (.string bytes) => bytes.length + 1
  | .lit _ => 1
  | .nil => 1
  | .ptr d => uptoBulk d + 1
  | .slice elems spare => uptoBulkAll elems + uptoBulkAll spare + 1
  | .agg parts => uptoBulkAll parts + 1
  | .iface _ d => uptoBulk d + 1
  | .map entries => uptoBulkEntries entries + 1
  | .held _ => 1
def uptoBulkAll {H : Type} : List (DataW H) → Nat
  | [] => 0
  | d :: r => uptoBulk d + uptoBulkAll r
def uptoBulkEntries {H : Type} : List (Lit × DataW H) → Nat
  | [] => 0
  | x :: r => uptoBulkEntry x + uptoBulkEntries r
def uptoBulkEntry {H : Type} : Lit × DataW H → Nat
  | (.string bytes, d) => bytes.length + uptoBulk d + 1
  | (_, d) => uptoBulk d + 1
 end
def uptoSmall : (H : Type) → List (DataW H) → Bool := fun _ ds => decide (uptoBulkAll ds ≤ 1048576)
def OpenSpec.upto (s : _root_.Go.ChangeSpec) : _root_.Go.OpenSpec := { _root_.Go.OpenSpec.ofChange s with cond := some uptoSmall }

/-- 'laws.FnExactWordEnd', WHERE WHAT IT READS IS OF BULK AT MOST 1048576: true; the input reads as it did. -/
def fnExactWordEndUptoRow : OpenClaim := { program := "ytgcfgegbbfbaaaa", sum := "bf8859e4652e7211a8b581e14ce0b870655f3f1bda876ec432576870e1a2de91", func := "loop.example/ringsofsteps/laws.FnExactWordEnd", spec := "fnExactWordEnd", inPlace := ["internal/bytealg.CountString", "internal/bytealg.IndexByteString", "internal/bytealg.IndexString"], unfollowed := true, recurses := true, named := ["internal/bytealg.MaxLen"], apart := false, narrowed := true }
def FnExactWordEndUptoSaid : Prop := fnExactWordEndUptoRow.holds Try.pinned (OpenSpec.upto fnExactWordEndSpec)

/-- 'laws.FnExactWordTidy', WHERE WHAT IT READS IS OF BULK AT MOST 1048576: true; the input reads as it did. -/
def fnExactWordTidyUptoRow : OpenClaim := { program := "ytgcfgegbbfbaaaa", sum := "bf8859e4652e7211a8b581e14ce0b870655f3f1bda876ec432576870e1a2de91", func := "loop.example/ringsofsteps/laws.FnExactWordTidy", spec := "fnExactWordTidy", inPlace := ["internal/bytealg.CountString", "internal/bytealg.IndexByteString", "internal/bytealg.IndexString", "internal/abi.NoEscape", "internal/bytealg.MakeNoZero"], unfollowed := true, recurses := true, named := ["internal/bytealg.MaxLen"], apart := false, narrowed := true }
def FnExactWordTidyUptoSaid : Prop := fnExactWordTidyUptoRow.holds Try.pinned (OpenSpec.upto fnExactWordTidySpec)

/-- 'laws.FnExactWordShort', WHERE WHAT IT READS IS OF BULK AT MOST 1048576: true; the input reads as it did. -/
def fnExactWordShortUptoRow : OpenClaim := { program := "ytgcfgegbbfbaaaa", sum := "bf8859e4652e7211a8b581e14ce0b870655f3f1bda876ec432576870e1a2de91", func := "loop.example/ringsofsteps/laws.FnExactWordShort", spec := "fnExactWordShort", inPlace := ["internal/abi.NoEscape", "internal/bytealg.MakeNoZero"], unfollowed := true, recurses := true, apart := false, narrowed := true }
def FnExactWordShortUptoSaid : Prop := fnExactWordShortUptoRow.holds Try.pinned (OpenSpec.upto fnExactWordShortSpec)

/-- 'laws.FnExactWordSame', WHERE WHAT IT READS IS OF BULK AT MOST 1048576: true; the input reads as it did. -/
def fnExactWordSameUptoRow : OpenClaim := { program := "ytgcfgegbbfbaaaa", sum := "bf8859e4652e7211a8b581e14ce0b870655f3f1bda876ec432576870e1a2de91", func := "loop.example/ringsofsteps/laws.FnExactWordSame", spec := "fnExactWordSame", inPlace := ["internal/bytealg.CountString", "internal/bytealg.IndexByteString", "internal/bytealg.IndexString"], unfollowed := true, recurses := true, named := ["internal/bytealg.MaxLen"], apart := false, narrowed := true }
def FnExactWordSameUptoSaid : Prop := fnExactWordSameUptoRow.holds Try.pinned (OpenSpec.upto fnExactWordSameSpec)

/-- 'laws.FnExactWordLaws', WHERE WHAT IT READS IS OF BULK AT MOST 1048576: true; the input reads as it did. -/
def fnExactWordLawsUptoRow : OpenClaim := { program := "ytgcfgegbbfbaaaa", sum := "bf8859e4652e7211a8b581e14ce0b870655f3f1bda876ec432576870e1a2de91", func := "loop.example/ringsofsteps/laws.FnExactWordLaws", spec := "fnExactWordLaws", inPlace := ["internal/abi.NoEscape", "internal/bytealg.MakeNoZero"], unfollowed := true, recurses := true, apart := false, narrowed := true }
def FnExactWordLawsUptoSaid : Prop := fnExactWordLawsUptoRow.holds Try.pinned (OpenSpec.upto fnExactWordLawsSpec)

/-- 'laws.FnExactWordFar', WHERE WHAT IT READS IS OF BULK AT MOST 1048576: true; the input reads as it did. -/
def fnExactWordFarUptoRow : OpenClaim := { program := "ytgcfgegbbfbaaaa", sum := "bf8859e4652e7211a8b581e14ce0b870655f3f1bda876ec432576870e1a2de91", func := "loop.example/ringsofsteps/laws.FnExactWordFar", spec := "fnExactWordFar", inPlace := ["internal/abi.NoEscape", "internal/bytealg.MakeNoZero"], unfollowed := true, recurses := true, apart := false, narrowed := true }
def FnExactWordFarUptoSaid : Prop := fnExactWordFarUptoRow.holds Try.pinned (OpenSpec.upto fnExactWordFarSpec)

end Rows
end Go.Proofs.Ytgcfgegbbfbaaaa
