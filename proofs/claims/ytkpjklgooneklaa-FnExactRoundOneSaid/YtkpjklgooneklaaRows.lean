/-
  No cell of these rows narrows 'for every input' (looked for: loops, veiled, ifaces, maps, wideKeys, modest, calm, conditions, laid).
  DERIVED. THE GIVEN ROWS OF THIS SEAT. 5 by the template 'for every input the law returns true; each argument reads behind the call as it read before'; 0 by the template 'total and deterministic' (their statements: YtkpjklgooneklaaTotals.lean).
  GIVEN WITH THE SEED: the statements are not yours to turn. If you find one false, say at which input.
  Laid BY PROGRAM, IN A SANDBOX (cutbox-rows.mjs): the forced cells as the released guide's own fill.sh prints them over the translation e9b22dab6fa4e324… (all of the seat's roots in one cut). By AI agents, Wed Nov 11 2026. No macro, syntax, notation, axiom, sorry.
-/
import Derived.Test.YtkpjklgooneklaaChecked
import GoSem.Claim
import GoSem.ClaimJoined
import GoSem.ClaimMapViews
import Derived.JoinedTies
import Derived.KernelRfl
namespace Go.Proofs.Ytkpjklgooneklaa
/- THE CELL 'sum', in the pinned program and in every row, IS THE sha256 OF THE DUMP (.gsa) THAT YtkpjklgooneklaaProg.lean LOADS. Nothing in Lean hashes anything: it is a label: what it is worth is what the hold of that sum in a sandbox is worth. -/
noncomputable def Try.pinned : Pinned := { name := "ytkpjklgooneklaa", sum := "e9b22dab6fa4e3245312b2f9a5a91766aee183506bf5c2724288d9546cc50de4", checked := Try.checked }
namespace Rows
def none {H : Type} : Left H := { results := [], args := [] }

/-- 'laws.FnExactRoundIs': WHATEVER THE INPUT: true; the input reads as it did. -/
def fnExactRoundIsSpec : ChangeSpec := { name := "fnExactRoundIs", fn := fun _ => fun
  | [d1, d2, d3] => { results := [.lit (.bool true)], args := [d1, d2, d3] }
  | _ => none }
def fnExactRoundIsRow : OpenClaim := { program := "ytkpjklgooneklaa", sum := "e9b22dab6fa4e3245312b2f9a5a91766aee183506bf5c2724288d9546cc50de4", func := "loop.example/ringsofsteps/laws.FnExactRoundIs", spec := "fnExactRoundIs", apart := false }
def FnExactRoundIsSaid : Prop := fnExactRoundIsRow.holds Try.pinned (OpenSpec.ofChange fnExactRoundIsSpec)

/-- ITS FALSE NEIGHBOUR: 'it returns false'. Refute it at one input. -/
def fnExactRoundIsWrong : ChangeSpec := { name := "fnExactRoundIs", fn := fun _ => fun
  | [d1, d2, d3] => { results := [.lit (.bool false)], args := [d1, d2, d3] }
  | _ => none }
def FnExactRoundIsWrongFalsely : Prop := fnExactRoundIsRow.holds Try.pinned (OpenSpec.ofChange fnExactRoundIsWrong)

/-- 'laws.FnExactRoundTwo': WHATEVER THE INPUT: true; the input reads as it did. -/
def fnExactRoundTwoSpec : ChangeSpec := { name := "fnExactRoundTwo", fn := fun _ => fun
  | [d1, d2, d3] => { results := [.lit (.bool true)], args := [d1, d2, d3] }
  | _ => none }
def fnExactRoundTwoRow : OpenClaim := { program := "ytkpjklgooneklaa", sum := "e9b22dab6fa4e3245312b2f9a5a91766aee183506bf5c2724288d9546cc50de4", func := "loop.example/ringsofsteps/laws.FnExactRoundTwo", spec := "fnExactRoundTwo", apart := false }
def FnExactRoundTwoSaid : Prop := fnExactRoundTwoRow.holds Try.pinned (OpenSpec.ofChange fnExactRoundTwoSpec)

/-- ITS FALSE NEIGHBOUR: 'it returns false'. Refute it at one input. -/
def fnExactRoundTwoWrong : ChangeSpec := { name := "fnExactRoundTwo", fn := fun _ => fun
  | [d1, d2, d3] => { results := [.lit (.bool false)], args := [d1, d2, d3] }
  | _ => none }
def FnExactRoundTwoWrongFalsely : Prop := fnExactRoundTwoRow.holds Try.pinned (OpenSpec.ofChange fnExactRoundTwoWrong)

/-- 'laws.FnExactRoundOne': WHATEVER THE INPUT: true; the input reads as it did. -/
def fnExactRoundOneSpec : ChangeSpec := { name := "fnExactRoundOne", fn := fun _ => fun
  | [d1, d2] => { results := [.lit (.bool true)], args := [d1, d2] }
  | _ => none }
def fnExactRoundOneRow : OpenClaim := { program := "ytkpjklgooneklaa", sum := "e9b22dab6fa4e3245312b2f9a5a91766aee183506bf5c2724288d9546cc50de4", func := "loop.example/ringsofsteps/laws.FnExactRoundOne", spec := "fnExactRoundOne", apart := false }
def FnExactRoundOneSaid : Prop := fnExactRoundOneRow.holds Try.pinned (OpenSpec.ofChange fnExactRoundOneSpec)

/-- ITS FALSE NEIGHBOUR: 'it returns false'. Refute it at one input. -/
def fnExactRoundOneWrong : ChangeSpec := { name := "fnExactRoundOne", fn := fun _ => fun
  | [d1, d2] => { results := [.lit (.bool false)], args := [d1, d2] }
  | _ => none }
def FnExactRoundOneWrongFalsely : Prop := fnExactRoundOneRow.holds Try.pinned (OpenSpec.ofChange fnExactRoundOneWrong)

/-- 'laws.FnExactRoundWord': WHATEVER THE INPUT: true; the input reads as it did. -/
def fnExactRoundWordSpec : ChangeSpec := { name := "fnExactRoundWord", fn := fun _ => fun
  | [d1, d2] => { results := [.lit (.bool true)], args := [d1, d2] }
  | _ => none }
def fnExactRoundWordRow : OpenClaim := { program := "ytkpjklgooneklaa", sum := "e9b22dab6fa4e3245312b2f9a5a91766aee183506bf5c2724288d9546cc50de4", func := "loop.example/ringsofsteps/laws.FnExactRoundWord", spec := "fnExactRoundWord", apart := false }
def FnExactRoundWordSaid : Prop := fnExactRoundWordRow.holds Try.pinned (OpenSpec.ofChange fnExactRoundWordSpec)

/-- ITS FALSE NEIGHBOUR: 'it returns false'. Refute it at one input. -/
def fnExactRoundWordWrong : ChangeSpec := { name := "fnExactRoundWord", fn := fun _ => fun
  | [d1, d2] => { results := [.lit (.bool false)], args := [d1, d2] }
  | _ => none }
def FnExactRoundWordWrongFalsely : Prop := fnExactRoundWordRow.holds Try.pinned (OpenSpec.ofChange fnExactRoundWordWrong)

/-- 'laws.FnExactRoundBy': WHATEVER THE INPUT: true; the input reads as it did. -/
def fnExactRoundBySpec : ChangeSpec := { name := "fnExactRoundBy", fn := fun _ => fun
  | [d1, d2] => { results := [.lit (.bool true)], args := [d1, d2] }
  | _ => none }
def fnExactRoundByRow : OpenClaim := { program := "ytkpjklgooneklaa", sum := "e9b22dab6fa4e3245312b2f9a5a91766aee183506bf5c2724288d9546cc50de4", func := "loop.example/ringsofsteps/laws.FnExactRoundBy", spec := "fnExactRoundBy", apart := false }
def FnExactRoundBySaid : Prop := fnExactRoundByRow.holds Try.pinned (OpenSpec.ofChange fnExactRoundBySpec)

/-- ITS FALSE NEIGHBOUR: 'it returns false'. Refute it at one input. -/
def fnExactRoundByWrong : ChangeSpec := { name := "fnExactRoundBy", fn := fun _ => fun
  | [d1, d2] => { results := [.lit (.bool false)], args := [d1, d2] }
  | _ => none }
def FnExactRoundByWrongFalsely : Prop := fnExactRoundByRow.holds Try.pinned (OpenSpec.ofChange fnExactRoundByWrong)

/- THE SECOND FORM. 'bulk': how many values and letters a reading holds, each counted each time it is reached (what is shared counts as often as it is met; a slice's spare places count too). A statement '..UptoSaid' is the law's where the arguments, and the package variables that the reading takes, are together of bulk at most 1048576: NARROWER than '..Said'. Prove '..Said' where nothing that the law and all that it calls make is longer than what came in: it says more and counts as full. Else prove '..UptoSaid'. A law counts once. -/
mutual
def uptoBulk {H : Type} : DataW H → Nat
  | .lit (.string bytes) => bytes.length + 1
  | .lit _ => 1
  | .nil => 1
  | .ptr d => uptoBulk d + 1
  | .slice elems spare => uptoBulkAll elems + uptoBulkAll spare + 1
  | .agg parts => uptoBulkAll parts + 1
  | .iface _ d => uptoBulk d + 1
  | .map entries => uptoBulkEntries entries + 1
  | .held _ => 1
def uptoBulkAll {H : Type} : List (DataW H) → Nat
  | [] => 0
  | d :: r => uptoBulk d + uptoBulkAll r
def uptoBulkEntries {H : Type} : List (Lit × DataW H) → Nat
  | [] => 0
  | x :: r => uptoBulkEntry x + uptoBulkEntries r
def uptoBulkEntry {H : Type} : Lit × DataW H → Nat
  | (.string bytes, d) => bytes.length + uptoBulk d + 1
  | (_, d) => uptoBulk d + 1
 end
def uptoSmall : (H : Type) → List (DataW H) → Bool := fun _ ds => decide (uptoBulkAll ds ≤ 1048576)
def OpenSpec.upto (s : _root_.Go.ChangeSpec) : _root_.Go.OpenSpec := { _root_.Go.OpenSpec.ofChange s with cond := some uptoSmall }

/-- 'laws.FnExactRoundIs', WHERE WHAT IT READS IS OF BULK AT MOST 1048576: true; the input reads as it did. -/
def fnExactRoundIsUptoRow : OpenClaim := { program := "ytkpjklgooneklaa", sum := "e9b22dab6fa4e3245312b2f9a5a91766aee183506bf5c2724288d9546cc50de4", func := "loop.example/ringsofsteps/laws.FnExactRoundIs", spec := "fnExactRoundIs", apart := false, narrowed := true }
def FnExactRoundIsUptoSaid : Prop := fnExactRoundIsUptoRow.holds Try.pinned (OpenSpec.upto fnExactRoundIsSpec)

/-- 'laws.FnExactRoundTwo', WHERE WHAT IT READS IS OF BULK AT MOST 1048576: true; the input reads as it did. -/
def fnExactRoundTwoUptoRow : OpenClaim := { program := "ytkpjklgooneklaa", sum := "e9b22dab6fa4e3245312b2f9a5a91766aee183506bf5c2724288d9546cc50de4", func := "loop.example/ringsofsteps/laws.FnExactRoundTwo", spec := "fnExactRoundTwo", apart := false, narrowed := true }
def FnExactRoundTwoUptoSaid : Prop := fnExactRoundTwoUptoRow.holds Try.pinned (OpenSpec.upto fnExactRoundTwoSpec)

/-- 'laws.FnExactRoundOne', WHERE WHAT IT READS IS OF BULK AT MOST 1048576: true; the input reads as it did. -/
def fnExactRoundOneUptoRow : OpenClaim := { program := "ytkpjklgooneklaa", sum := "e9b22dab6fa4e3245312b2f9a5a91766aee183506bf5c2724288d9546cc50de4", func := "loop.example/ringsofsteps/laws.FnExactRoundOne", spec := "fnExactRoundOne", apart := false, narrowed := true }
def FnExactRoundOneUptoSaid : Prop := fnExactRoundOneUptoRow.holds Try.pinned (OpenSpec.upto fnExactRoundOneSpec)

/-- 'laws.FnExactRoundWord', WHERE WHAT IT READS IS OF BULK AT MOST 1048576: true; the input reads as it did. -/
def fnExactRoundWordUptoRow : OpenClaim := { program := "ytkpjklgooneklaa", sum := "e9b22dab6fa4e3245312b2f9a5a91766aee183506bf5c2724288d9546cc50de4", func := "loop.example/ringsofsteps/laws.FnExactRoundWord", spec := "fnExactRoundWord", apart := false, narrowed := true }
def FnExactRoundWordUptoSaid : Prop := fnExactRoundWordUptoRow.holds Try.pinned (OpenSpec.upto fnExactRoundWordSpec)

/-- 'laws.FnExactRoundBy', WHERE WHAT IT READS IS OF BULK AT MOST 1048576: true; the input reads as it did. -/
def fnExactRoundByUptoRow : OpenClaim := { program := "ytkpjklgooneklaa", sum := "e9b22dab6fa4e3245312b2f9a5a91766aee183506bf5c2724288d9546cc50de4", func := "loop.example/ringsofsteps/laws.FnExactRoundBy", spec := "fnExactRoundBy", apart := false, narrowed := true }
def FnExactRoundByUptoSaid : Prop := fnExactRoundByUptoRow.holds Try.pinned (OpenSpec.upto fnExactRoundBySpec)

end Rows
end Go.Proofs.Ytkpjklgooneklaa
