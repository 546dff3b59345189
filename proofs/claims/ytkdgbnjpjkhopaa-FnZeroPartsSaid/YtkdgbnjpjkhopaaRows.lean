/-
  No cell of these rows narrows 'for every input' (looked for: loops, veiled, ifaces, maps, wideKeys, modest, calm, conditions, laid).
  DERIVED. THE GIVEN ROWS OF THIS SEAT. 4 by the template 'for every input the law returns true; each argument reads behind the call as it read before'; 0 by the template 'total and deterministic' (their statements: YtkdgbnjpjkhopaaTotals.lean).
  GIVEN WITH THE SEED: the statements are not yours to turn. If you find one false, say at which input.
  Laid BY PROGRAM, IN A SANDBOX (cutbox-rows.mjs): the forced cells as the released guide's own fill.sh prints them over the translation 82e3846aa0c2fa5e… (all of the seat's roots in one cut). By AI agents, Wed Nov 11 2026. No macro, syntax, notation, axiom, sorry.
-/
import Derived.Test.YtkdgbnjpjkhopaaChecked
import GoSem.Claim
import GoSem.ClaimJoined
import GoSem.ClaimMapViews
import Derived.JoinedTies
import Derived.KernelRfl
namespace Go.Proofs.Ytkdgbnjpjkhopaa
/- THE CELL 'sum', in the pinned program and in every row, IS THE sha256 OF THE DUMP (.gsa) THAT YtkdgbnjpjkhopaaProg.lean LOADS. Nothing in Lean hashes anything: it is a label: what it is worth is what the hold of that sum in a sandbox is worth. -/
noncomputable def Try.pinned : Pinned := { name := "ytkdgbnjpjkhopaa", sum := "82e3846aa0c2fa5e911aa97de494c05a30083241f8f8601b21726baf294a2ad5", checked := Try.checked }
namespace Rows
def none {H : Type} : Left H := { results := [], args := [] }

/-- 'laws.FnZeroLeast': WHATEVER THE INPUT: true; the input reads as it did. -/
def fnZeroLeastSpec : ChangeSpec := { name := "fnZeroLeast", fn := fun _ => fun
  | [d] => { results := [.lit (.bool true)], args := [d] }
  | _ => none }
def fnZeroLeastRow : OpenClaim := { program := "ytkdgbnjpjkhopaa", sum := "82e3846aa0c2fa5e911aa97de494c05a30083241f8f8601b21726baf294a2ad5", func := "loop.example/ringsofsteps/laws.FnZeroLeast", spec := "fnZeroLeast", unfollowed := true, recurses := true, apart := false }
def FnZeroLeastSaid : Prop := fnZeroLeastRow.holds Try.pinned (OpenSpec.ofChange fnZeroLeastSpec)

/-- ITS FALSE NEIGHBOUR: 'it returns false'. Refute it at one input. -/
def fnZeroLeastWrong : ChangeSpec := { name := "fnZeroLeast", fn := fun _ => fun
  | [d] => { results := [.lit (.bool false)], args := [d] }
  | _ => none }
def FnZeroLeastWrongFalsely : Prop := fnZeroLeastRow.holds Try.pinned (OpenSpec.ofChange fnZeroLeastWrong)

/-- 'laws.FnZeroParts': WHATEVER THE INPUT: true; the input reads as it did. -/
def fnZeroPartsSpec : ChangeSpec := { name := "fnZeroParts", fn := fun _ => fun
  | [d] => { results := [.lit (.bool true)], args := [d] }
  | _ => none }
def fnZeroPartsRow : OpenClaim := { program := "ytkdgbnjpjkhopaa", sum := "82e3846aa0c2fa5e911aa97de494c05a30083241f8f8601b21726baf294a2ad5", func := "loop.example/ringsofsteps/laws.FnZeroParts", spec := "fnZeroParts", unfollowed := true, recurses := true, apart := false }
def FnZeroPartsSaid : Prop := fnZeroPartsRow.holds Try.pinned (OpenSpec.ofChange fnZeroPartsSpec)

/-- ITS FALSE NEIGHBOUR: 'it returns false'. Refute it at one input. -/
def fnZeroPartsWrong : ChangeSpec := { name := "fnZeroParts", fn := fun _ => fun
  | [d] => { results := [.lit (.bool false)], args := [d] }
  | _ => none }
def FnZeroPartsWrongFalsely : Prop := fnZeroPartsRow.holds Try.pinned (OpenSpec.ofChange fnZeroPartsWrong)

/-- 'laws.FnExactZeroLeast': WHATEVER THE INPUT: true; the input reads as it did. -/
def fnExactZeroLeastSpec : ChangeSpec := { name := "fnExactZeroLeast", fn := fun _ => fun
  | [d1, d2] => { results := [.lit (.bool true)], args := [d1, d2] }
  | _ => none }
def fnExactZeroLeastRow : OpenClaim := { program := "ytkdgbnjpjkhopaa", sum := "82e3846aa0c2fa5e911aa97de494c05a30083241f8f8601b21726baf294a2ad5", func := "loop.example/ringsofsteps/laws.FnExactZeroLeast", spec := "fnExactZeroLeast", unfollowed := true, recurses := true, apart := false }
def FnExactZeroLeastSaid : Prop := fnExactZeroLeastRow.holds Try.pinned (OpenSpec.ofChange fnExactZeroLeastSpec)

/-- ITS FALSE NEIGHBOUR: 'it returns false'. Refute it at one input. -/
def fnExactZeroLeastWrong : ChangeSpec := { name := "fnExactZeroLeast", fn := fun _ => fun
  | [d1, d2] => { results := [.lit (.bool false)], args := [d1, d2] }
  | _ => none }
def FnExactZeroLeastWrongFalsely : Prop := fnExactZeroLeastRow.holds Try.pinned (OpenSpec.ofChange fnExactZeroLeastWrong)

/-- 'laws.FnExactZeroParts': WHATEVER THE INPUT: true; the input reads as it did. -/
def fnExactZeroPartsSpec : ChangeSpec := { name := "fnExactZeroParts", fn := fun _ => fun
  | [d1, d2] => { results := [.lit (.bool true)], args := [d1, d2] }
  | _ => none }
def fnExactZeroPartsRow : OpenClaim := { program := "ytkdgbnjpjkhopaa", sum := "82e3846aa0c2fa5e911aa97de494c05a30083241f8f8601b21726baf294a2ad5", func := "loop.example/ringsofsteps/laws.FnExactZeroParts", spec := "fnExactZeroParts", unfollowed := true, recurses := true, apart := false }
def FnExactZeroPartsSaid : Prop := fnExactZeroPartsRow.holds Try.pinned (OpenSpec.ofChange fnExactZeroPartsSpec)

/-- ITS FALSE NEIGHBOUR: 'it returns false'. Refute it at one input. -/
def fnExactZeroPartsWrong : ChangeSpec := { name := "fnExactZeroParts", fn := fun _ => fun
  | [d1, d2] => { results := [.lit (.bool false)], args := [d1, d2] }
  | _ => none }
def FnExactZeroPartsWrongFalsely : Prop := fnExactZeroPartsRow.holds Try.pinned (OpenSpec.ofChange fnExactZeroPartsWrong)

/- THE SECOND FORM. 'bulk': how many values and letters a reading holds, each counted each time it is reached (what is shared counts as often as it is met; a slice's spare places count too). A statement '..UptoSaid' is the law's where the arguments, and the package variables that the reading takes, are together of bulk at most 1048576: NARROWER than '..Said'. Prove '..Said' where nothing that the law and all that it calls make is longer than what came in: it says more and counts as full. Else prove '..UptoSaid'. A law counts once. -/
mutual
def uptoBulk {H : Type} : DataW H → Nat
  | .lit (.string bytes) => bytes.length + 1
  | .lit _ => 1
  | .nil => 1
  | .ptr d => uptoBulk d + 1
  | .slice elems spare => uptoBulkAll elems + uptoBulkAll spare + 1
  | .agg parts => uptoBulkAll parts + 1
  | .iface _ d => uptoBulk d + 1
  | .map entries => uptoBulkEntries entries + 1
  | .held _ => 1
def uptoBulkAll {H : Type} : List (DataW H) → Nat
  | [] => 0
  | d :: r => uptoBulk d + uptoBulkAll r
def uptoBulkEntries {H : Type} : List (Lit × DataW H) → Nat
  | [] => 0
  | x :: r => uptoBulkEntry x + uptoBulkEntries r
def uptoBulkEntry {H : Type} : Lit × DataW H → Nat
  | (.string bytes, d) => bytes.length + uptoBulk d + 1
  | (_, d) => uptoBulk d + 1
 end
def uptoSmall : (H : Type) → List (DataW H) → Bool := fun _ ds => decide (uptoBulkAll ds ≤ 1048576)
def OpenSpec.upto (s : _root_.Go.ChangeSpec) : _root_.Go.OpenSpec := { _root_.Go.OpenSpec.ofChange s with cond := some uptoSmall }

/-- 'laws.FnZeroLeast', WHERE WHAT IT READS IS OF BULK AT MOST 1048576: true; the input reads as it did. -/
def fnZeroLeastUptoRow : OpenClaim := { program := "ytkdgbnjpjkhopaa", sum := "82e3846aa0c2fa5e911aa97de494c05a30083241f8f8601b21726baf294a2ad5", func := "loop.example/ringsofsteps/laws.FnZeroLeast", spec := "fnZeroLeast", unfollowed := true, recurses := true, apart := false, narrowed := true }
def FnZeroLeastUptoSaid : Prop := fnZeroLeastUptoRow.holds Try.pinned (OpenSpec.upto fnZeroLeastSpec)

/-- 'laws.FnZeroParts', WHERE WHAT IT READS IS OF BULK AT MOST 1048576: true; the input reads as it did. -/
def fnZeroPartsUptoRow : OpenClaim := { program := "ytkdgbnjpjkhopaa", sum := "82e3846aa0c2fa5e911aa97de494c05a30083241f8f8601b21726baf294a2ad5", func := "loop.example/ringsofsteps/laws.FnZeroParts", spec := "fnZeroParts", unfollowed := true, recurses := true, apart := false, narrowed := true }
def FnZeroPartsUptoSaid : Prop := fnZeroPartsUptoRow.holds Try.pinned (OpenSpec.upto fnZeroPartsSpec)

/-- 'laws.FnExactZeroLeast', WHERE WHAT IT READS IS OF BULK AT MOST 1048576: true; the input reads as it did. -/
def fnExactZeroLeastUptoRow : OpenClaim := { program := "ytkdgbnjpjkhopaa", sum := "82e3846aa0c2fa5e911aa97de494c05a30083241f8f8601b21726baf294a2ad5", func := "loop.example/ringsofsteps/laws.FnExactZeroLeast", spec := "fnExactZeroLeast", unfollowed := true, recurses := true, apart := false, narrowed := true }
def FnExactZeroLeastUptoSaid : Prop := fnExactZeroLeastUptoRow.holds Try.pinned (OpenSpec.upto fnExactZeroLeastSpec)

/-- 'laws.FnExactZeroParts', WHERE WHAT IT READS IS OF BULK AT MOST 1048576: true; the input reads as it did. -/
def fnExactZeroPartsUptoRow : OpenClaim := { program := "ytkdgbnjpjkhopaa", sum := "82e3846aa0c2fa5e911aa97de494c05a30083241f8f8601b21726baf294a2ad5", func := "loop.example/ringsofsteps/laws.FnExactZeroParts", spec := "fnExactZeroParts", unfollowed := true, recurses := true, apart := false, narrowed := true }
def FnExactZeroPartsUptoSaid : Prop := fnExactZeroPartsUptoRow.holds Try.pinned (OpenSpec.upto fnExactZeroPartsSpec)

end Rows
end Go.Proofs.Ytkdgbnjpjkhopaa
