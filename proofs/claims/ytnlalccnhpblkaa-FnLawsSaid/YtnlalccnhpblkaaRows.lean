/-
  No cell of these rows narrows 'for every input' (looked for: loops, veiled, ifaces, maps, wideKeys, modest, calm, conditions, laid).
  DERIVED. THE GIVEN ROWS OF THIS SEAT. 5 by the template 'for every input the law returns true; each argument reads behind the call as it read before'; 0 by the template 'total and deterministic' (their statements: YtnlalccnhpblkaaTotals.lean).
  GIVEN WITH THE SEED: the statements are not yours to turn. If you find one false, say at which input.
  Laid BY PROGRAM, IN A SANDBOX (cutbox-rows.mjs): the forced cells as the released guide's own fill.sh prints them over the translation 24273fd30fb7fd59… (all of the seat's roots in one cut). By AI agents, Wed Nov 11 2026. No macro, syntax, notation, axiom, sorry.
-/
import Derived.Test.YtnlalccnhpblkaaChecked
import GoSem.Claim
import GoSem.ClaimJoined
import GoSem.ClaimMapViews
import Derived.JoinedTies
import Derived.KernelRfl
namespace Go.Proofs.Ytnlalccnhpblkaa
/- THE CELL 'sum', in the pinned program and in every row, IS THE sha256 OF THE DUMP (.gsa) THAT YtnlalccnhpblkaaProg.lean LOADS. Nothing in Lean hashes anything: it is a label: what it is worth is what the hold of that sum in a sandbox is worth. -/
noncomputable def Try.pinned : Pinned := { name := "ytnlalccnhpblkaa", sum := "24273fd30fb7fd595b7aff037c06960c46b1588d0330db00310a365ea8eda453", checked := Try.checked }
namespace Rows
def none {H : Type} : Left H := { results := [], args := [] }

/-- 'laws.FnEnd': WHATEVER THE INPUT: true; the input reads as it did. -/
def fnEndSpec : ChangeSpec := { name := "fnEnd", fn := fun _ => fun
  | [d] => { results := [.lit (.bool true)], args := [d] }
  | _ => none }
def fnEndRow : OpenClaim := { program := "ytnlalccnhpblkaa", sum := "24273fd30fb7fd595b7aff037c06960c46b1588d0330db00310a365ea8eda453", func := "loop.example/ringsofsteps/laws.FnEnd", spec := "fnEnd", inPlace := ["internal/bytealg.CountString", "internal/bytealg.IndexByteString", "internal/bytealg.IndexString"], unfollowed := true, recurses := true, named := ["internal/bytealg.MaxLen"], apart := false }
def FnEndSaid : Prop := fnEndRow.holds Try.pinned (OpenSpec.ofChange fnEndSpec)

/-- ITS FALSE NEIGHBOUR: 'it returns false'. Refute it at one input. -/
def fnEndWrong : ChangeSpec := { name := "fnEnd", fn := fun _ => fun
  | [d] => { results := [.lit (.bool false)], args := [d] }
  | _ => none }
def FnEndWrongFalsely : Prop := fnEndRow.holds Try.pinned (OpenSpec.ofChange fnEndWrong)

/-- 'laws.FnTidyWord': WHATEVER THE INPUT: true; the input reads as it did. -/
def fnTidyWordSpec : ChangeSpec := { name := "fnTidyWord", fn := fun _ => fun
  | [d] => { results := [.lit (.bool true)], args := [d] }
  | _ => none }
def fnTidyWordRow : OpenClaim := { program := "ytnlalccnhpblkaa", sum := "24273fd30fb7fd595b7aff037c06960c46b1588d0330db00310a365ea8eda453", func := "loop.example/ringsofsteps/laws.FnTidyWord", spec := "fnTidyWord", inPlace := ["internal/bytealg.CountString", "internal/bytealg.IndexByteString", "internal/bytealg.IndexString", "internal/abi.NoEscape", "internal/bytealg.MakeNoZero"], unfollowed := true, recurses := true, named := ["internal/bytealg.MaxLen"], apart := false }
def FnTidyWordSaid : Prop := fnTidyWordRow.holds Try.pinned (OpenSpec.ofChange fnTidyWordSpec)

/-- ITS FALSE NEIGHBOUR: 'it returns false'. Refute it at one input. -/
def fnTidyWordWrong : ChangeSpec := { name := "fnTidyWord", fn := fun _ => fun
  | [d] => { results := [.lit (.bool false)], args := [d] }
  | _ => none }
def FnTidyWordWrongFalsely : Prop := fnTidyWordRow.holds Try.pinned (OpenSpec.ofChange fnTidyWordWrong)

/-- 'laws.FnSameWord': WHATEVER THE INPUT: true; the input reads as it did. -/
def fnSameWordSpec : ChangeSpec := { name := "fnSameWord", fn := fun _ => fun
  | [d] => { results := [.lit (.bool true)], args := [d] }
  | _ => none }
def fnSameWordRow : OpenClaim := { program := "ytnlalccnhpblkaa", sum := "24273fd30fb7fd595b7aff037c06960c46b1588d0330db00310a365ea8eda453", func := "loop.example/ringsofsteps/laws.FnSameWord", spec := "fnSameWord", inPlace := ["internal/bytealg.CountString", "internal/bytealg.IndexByteString", "internal/bytealg.IndexString"], unfollowed := true, recurses := true, named := ["internal/bytealg.MaxLen"], apart := false }
def FnSameWordSaid : Prop := fnSameWordRow.holds Try.pinned (OpenSpec.ofChange fnSameWordSpec)

/-- ITS FALSE NEIGHBOUR: 'it returns false'. Refute it at one input. -/
def fnSameWordWrong : ChangeSpec := { name := "fnSameWord", fn := fun _ => fun
  | [d] => { results := [.lit (.bool false)], args := [d] }
  | _ => none }
def FnSameWordWrongFalsely : Prop := fnSameWordRow.holds Try.pinned (OpenSpec.ofChange fnSameWordWrong)

/-- 'laws.FnLaws': WHATEVER THE INPUT: true; the input reads as it did. -/
def fnLawsSpec : ChangeSpec := { name := "fnLaws", fn := fun _ => fun
  | [d] => { results := [.lit (.bool true)], args := [d] }
  | _ => none }
def fnLawsRow : OpenClaim := { program := "ytnlalccnhpblkaa", sum := "24273fd30fb7fd595b7aff037c06960c46b1588d0330db00310a365ea8eda453", func := "loop.example/ringsofsteps/laws.FnLaws", spec := "fnLaws", inPlace := ["internal/abi.NoEscape", "internal/bytealg.MakeNoZero", "internal/bytealg.CountString", "internal/bytealg.IndexByteString", "internal/bytealg.IndexString"], unfollowed := true, recurses := true, named := ["internal/bytealg.MaxLen"], apart := false }
def FnLawsSaid : Prop := fnLawsRow.holds Try.pinned (OpenSpec.ofChange fnLawsSpec)

/-- ITS FALSE NEIGHBOUR: 'it returns false'. Refute it at one input. -/
def fnLawsWrong : ChangeSpec := { name := "fnLaws", fn := fun _ => fun
  | [d] => { results := [.lit (.bool false)], args := [d] }
  | _ => none }
def FnLawsWrongFalsely : Prop := fnLawsRow.holds Try.pinned (OpenSpec.ofChange fnLawsWrong)

/-- 'laws.FnWordFar': WHATEVER THE INPUT: true; the input reads as it did. -/
def fnWordFarSpec : ChangeSpec := { name := "fnWordFar", fn := fun _ => fun
  | [d] => { results := [.lit (.bool true)], args := [d] }
  | _ => none }
def fnWordFarRow : OpenClaim := { program := "ytnlalccnhpblkaa", sum := "24273fd30fb7fd595b7aff037c06960c46b1588d0330db00310a365ea8eda453", func := "loop.example/ringsofsteps/laws.FnWordFar", spec := "fnWordFar", inPlace := ["internal/abi.NoEscape", "internal/bytealg.MakeNoZero"], unfollowed := true, recurses := true, apart := false }
def FnWordFarSaid : Prop := fnWordFarRow.holds Try.pinned (OpenSpec.ofChange fnWordFarSpec)

/-- ITS FALSE NEIGHBOUR: 'it returns false'. Refute it at one input. -/
def fnWordFarWrong : ChangeSpec := { name := "fnWordFar", fn := fun _ => fun
  | [d] => { results := [.lit (.bool false)], args := [d] }
  | _ => none }
def FnWordFarWrongFalsely : Prop := fnWordFarRow.holds Try.pinned (OpenSpec.ofChange fnWordFarWrong)

/- THE SECOND FORM. 'bulk': how many values and letters a reading holds, each counted each time it is reached (what is shared counts as often as it is met; a slice's spare places count too). A statement '..UptoSaid' is the law's where the arguments, and the package variables that the reading takes, are together of bulk at most 1048576: NARROWER than '..Said'. Prove '..Said' where nothing that the law and all that it calls make is longer than what came in: it says more and counts as full. Else prove '..UptoSaid'. A law counts once. -/
mutual
def uptoBulk {H : Type} : DataW H → Nat
  | .lit (.string bytes) => bytes.length + 1
  | .lit _ => 1
  | .nil => 1
  | .ptr d => uptoBulk d + 1
  | .slice elems spare => uptoBulkAll elems + uptoBulkAll spare + 1
  | .agg parts => uptoBulkAll parts + 1
  | .iface _ d => uptoBulk d + 1
  | .map entries => uptoBulkEntries entries + 1
  | .held _ => 1
def uptoBulkAll {H : Type} : List (DataW H) → Nat
  | [] => 0
  | d :: r => uptoBulk d + uptoBulkAll r
def uptoBulkEntries {H : Type} : List (Lit × DataW H) → Nat
  | [] => 0
  | x :: r => uptoBulkEntry x + uptoBulkEntries r
def uptoBulkEntry {H : Type} : Lit × DataW H → Nat
  | (.string bytes, d) => bytes.length + uptoBulk d + 1
  | (_, d) => uptoBulk d + 1
 end
def uptoSmall : (H : Type) → List (DataW H) → Bool := fun _ ds => decide (uptoBulkAll ds ≤ 1048576)
def OpenSpec.upto (s : _root_.Go.ChangeSpec) : _root_.Go.OpenSpec := { _root_.Go.OpenSpec.ofChange s with cond := some uptoSmall }

/-- 'laws.FnEnd', WHERE WHAT IT READS IS OF BULK AT MOST 1048576: true; the input reads as it did. -/
def fnEndUptoRow : OpenClaim := { program := "ytnlalccnhpblkaa", sum := "24273fd30fb7fd595b7aff037c06960c46b1588d0330db00310a365ea8eda453", func := "loop.example/ringsofsteps/laws.FnEnd", spec := "fnEnd", inPlace := ["internal/bytealg.CountString", "internal/bytealg.IndexByteString", "internal/bytealg.IndexString"], unfollowed := true, recurses := true, named := ["internal/bytealg.MaxLen"], apart := false, narrowed := true }
def FnEndUptoSaid : Prop := fnEndUptoRow.holds Try.pinned (OpenSpec.upto fnEndSpec)

/-- 'laws.FnTidyWord', WHERE WHAT IT READS IS OF BULK AT MOST 1048576: true; the input reads as it did. -/
def fnTidyWordUptoRow : OpenClaim := { program := "ytnlalccnhpblkaa", sum := "24273fd30fb7fd595b7aff037c06960c46b1588d0330db00310a365ea8eda453", func := "loop.example/ringsofsteps/laws.FnTidyWord", spec := "fnTidyWord", inPlace := ["internal/bytealg.CountString", "internal/bytealg.IndexByteString", "internal/bytealg.IndexString", "internal/abi.NoEscape", "internal/bytealg.MakeNoZero"], unfollowed := true, recurses := true, named := ["internal/bytealg.MaxLen"], apart := false, narrowed := true }
def FnTidyWordUptoSaid : Prop := fnTidyWordUptoRow.holds Try.pinned (OpenSpec.upto fnTidyWordSpec)

/-- 'laws.FnSameWord', WHERE WHAT IT READS IS OF BULK AT MOST 1048576: true; the input reads as it did. -/
def fnSameWordUptoRow : OpenClaim := { program := "ytnlalccnhpblkaa", sum := "24273fd30fb7fd595b7aff037c06960c46b1588d0330db00310a365ea8eda453", func := "loop.example/ringsofsteps/laws.FnSameWord", spec := "fnSameWord", inPlace := ["internal/bytealg.CountString", "internal/bytealg.IndexByteString", "internal/bytealg.IndexString"], unfollowed := true, recurses := true, named := ["internal/bytealg.MaxLen"], apart := false, narrowed := true }
def FnSameWordUptoSaid : Prop := fnSameWordUptoRow.holds Try.pinned (OpenSpec.upto fnSameWordSpec)

/-- 'laws.FnLaws', WHERE WHAT IT READS IS OF BULK AT MOST 1048576: true; the input reads as it did. -/
def fnLawsUptoRow : OpenClaim := { program := "ytnlalccnhpblkaa", sum := "24273fd30fb7fd595b7aff037c06960c46b1588d0330db00310a365ea8eda453", func := "loop.example/ringsofsteps/laws.FnLaws", spec := "fnLaws", inPlace := ["internal/abi.NoEscape", "internal/bytealg.MakeNoZero", "internal/bytealg.CountString", "internal/bytealg.IndexByteString", "internal/bytealg.IndexString"], unfollowed := true, recurses := true, named := ["internal/bytealg.MaxLen"], apart := false, narrowed := true }
def FnLawsUptoSaid : Prop := fnLawsUptoRow.holds Try.pinned (OpenSpec.upto fnLawsSpec)

/-- 'laws.FnWordFar', WHERE WHAT IT READS IS OF BULK AT MOST 1048576: true; the input reads as it did. -/
def fnWordFarUptoRow : OpenClaim := { program := "ytnlalccnhpblkaa", sum := "24273fd30fb7fd595b7aff037c06960c46b1588d0330db00310a365ea8eda453", func := "loop.example/ringsofsteps/laws.FnWordFar", spec := "fnWordFar", inPlace := ["internal/abi.NoEscape", "internal/bytealg.MakeNoZero"], unfollowed := true, recurses := true, apart := false, narrowed := true }
def FnWordFarUptoSaid : Prop := fnWordFarUptoRow.holds Try.pinned (OpenSpec.upto fnWordFarSpec)

end Rows
end Go.Proofs.Ytnlalccnhpblkaa
