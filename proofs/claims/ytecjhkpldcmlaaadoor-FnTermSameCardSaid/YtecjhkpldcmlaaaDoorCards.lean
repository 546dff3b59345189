/-
  DERIVED. GIVEN WITH THE SEED: THE CARDS: each row of YtecjhkpldcmlaaaDoorRows.lean that lists a variable, with what it lists TIED to the program's text (the seventh form; the later family's looks); each row that meets fmt, with fmt's text TOLD by the authors' own Lean function (tested against real Go, not proved from fmt's source: count such statements apart). THE CARD IS WHAT COUNTS. Prove the row's statement (the work); the ties are given (YtecjhkpldcmlaaaDoorTie.lean); close each card by the builder's one call (the guide's Derived/Test/ToyasCard.lean, 'card_holds'). Laid BY PROGRAM, IN A SANDBOX (cutbox-door.mjs). By AI agents, Wed Nov 11 2026. No macro, syntax, notation, axiom, sorry.
-/
import Derived.Test.YtecjhkpldcmlaaaDoorRows
import GoSem.ClaimSeven
namespace Go.Proofs.YtecjhkpldcmlaaaDoor
namespace Rows

/-- THE TIED CARD OF 'laws.FnTerm'. -/
def fnTermCard : Claim7 := { stood := { row := fnTermRow, standIns := [], harness := (true, "f633561172f7700d76fdb2160acef6dd3201c10d22b4e411bea4331b825efa2a"), looks := true }, kinds := [], alts := [], laidByText := true, laidKinds := [.handle], laidTests := true, laidLooks := .later }
def FnTermCardSaid : Prop := Claim7.holds Tryd.pinned (.plain (OpenSpec.ofChange fnTermSpec)) fnTermCard

/-- THE TIED CARD OF 'laws.FnTermSet'. -/
def fnTermSetCard : Claim7 := { stood := { row := fnTermSetRow, standIns := [], harness := (true, "f633561172f7700d76fdb2160acef6dd3201c10d22b4e411bea4331b825efa2a"), looks := true }, kinds := [], alts := [], laidByText := true, laidKinds := [.handle], laidTests := true, laidLooks := .later }
def FnTermSetCardSaid : Prop := Claim7.holds Tryd.pinned (.plain (OpenSpec.ofChange fnTermSetSpec)) fnTermSetCard

/-- THE TIED CARD OF 'laws.FnTermSums'. -/
def fnTermSumsCard : Claim7 := { stood := { row := fnTermSumsRow, standIns := [], harness := (true, "f633561172f7700d76fdb2160acef6dd3201c10d22b4e411bea4331b825efa2a"), looks := true }, kinds := [], alts := [], laidByText := true, laidKinds := [.handle], laidTests := true, laidLooks := .later }
def FnTermSumsCardSaid : Prop := Claim7.holds Tryd.pinned (.plain (OpenSpec.ofChange fnTermSumsSpec)) fnTermSumsCard

/-- THE TIED CARD OF 'laws.FnHas'. -/
def fnHasCard : Claim7 := { stood := { row := fnHasRow, standIns := [], harness := (true, "f633561172f7700d76fdb2160acef6dd3201c10d22b4e411bea4331b825efa2a"), looks := true }, kinds := [], alts := [], laidByText := true, laidKinds := [.handle], laidTests := true, laidLooks := .later }
def FnHasCardSaid : Prop := Claim7.holds Tryd.pinned (.plain (OpenSpec.ofChange fnHasSpec)) fnHasCard

/-- THE TIED CARD OF 'laws.FnHasAll'. -/
def fnHasAllCard : Claim7 := { stood := { row := fnHasAllRow, standIns := [], harness := (true, "f633561172f7700d76fdb2160acef6dd3201c10d22b4e411bea4331b825efa2a"), looks := true }, kinds := [], alts := [], laidByText := true, laidKinds := [.handle], laidTests := true, laidLooks := .later }
def FnHasAllCardSaid : Prop := Claim7.holds Tryd.pinned (.plain (OpenSpec.ofChange fnHasAllSpec)) fnHasAllCard

/-- THE TIED CARD OF 'laws.FnTidy'. -/
def fnTidyCard : Claim7 := { stood := { row := fnTidyRow, standIns := [], harness := (true, "f633561172f7700d76fdb2160acef6dd3201c10d22b4e411bea4331b825efa2a"), looks := true }, kinds := [], alts := [], laidByText := true, laidKinds := [.handle], laidTests := true, laidLooks := .later }
def FnTidyCardSaid : Prop := Claim7.holds Tryd.pinned (.plain (OpenSpec.ofChange fnTidySpec)) fnTidyCard

/-- THE TIED CARD OF 'laws.FnTermOf'. -/
def fnTermOfCard : Claim7 := { stood := { row := fnTermOfRow, standIns := [], harness := (true, "f633561172f7700d76fdb2160acef6dd3201c10d22b4e411bea4331b825efa2a"), looks := true }, kinds := [], alts := [], laidByText := true, laidKinds := [.data, .data, .handle], laidTests := true, laidLooks := .later }
def FnTermOfCardSaid : Prop := Claim7.holds Tryd.pinned (.plain (OpenSpec.ofChange fnTermOfSpec)) fnTermOfCard

/-- THE TIED CARD OF 'laws.FnTermSame'. -/
def fnTermSameCard : Claim7 := { stood := { row := fnTermSameRow, standIns := [], harness := (true, "f633561172f7700d76fdb2160acef6dd3201c10d22b4e411bea4331b825efa2a"), looks := true }, kinds := [], alts := [], laidByText := true, laidKinds := [.handle], laidTests := true, laidLooks := .later }
def FnTermSameCardSaid : Prop := Claim7.holds Tryd.pinned (.plain (OpenSpec.ofChange fnTermSameSpec)) fnTermSameCard

/-- THE TIED CARD OF 'laws.FnTermTurned'. -/
def fnTermTurnedCard : Claim7 := { stood := { row := fnTermTurnedRow, standIns := [], harness := (true, "f633561172f7700d76fdb2160acef6dd3201c10d22b4e411bea4331b825efa2a"), looks := true }, kinds := [], alts := [], laidByText := true, laidKinds := [.handle], laidTests := true, laidLooks := .later }
def FnTermTurnedCardSaid : Prop := Claim7.holds Tryd.pinned (.plain (OpenSpec.ofChange fnTermTurnedSpec)) fnTermTurnedCard

/-- THE SECOND FORM's CARD OF 'laws.FnTerm'. -/
def fnTermUptoCard : Claim7 := { stood := { row := fnTermUptoRow, standIns := [], harness := (true, "f633561172f7700d76fdb2160acef6dd3201c10d22b4e411bea4331b825efa2a"), looks := true }, kinds := [], alts := [], laidByText := true, laidKinds := [.handle], laidTests := true, laidLooks := .later }
def FnTermUptoCardSaid : Prop := Claim7.holds Tryd.pinned (.plain (OpenSpec.upto fnTermSpec)) fnTermUptoCard

/-- THE SECOND FORM's CARD OF 'laws.FnTermSet'. -/
def fnTermSetUptoCard : Claim7 := { stood := { row := fnTermSetUptoRow, standIns := [], harness := (true, "f633561172f7700d76fdb2160acef6dd3201c10d22b4e411bea4331b825efa2a"), looks := true }, kinds := [], alts := [], laidByText := true, laidKinds := [.handle], laidTests := true, laidLooks := .later }
def FnTermSetUptoCardSaid : Prop := Claim7.holds Tryd.pinned (.plain (OpenSpec.upto fnTermSetSpec)) fnTermSetUptoCard

/-- THE SECOND FORM's CARD OF 'laws.FnTermSums'. -/
def fnTermSumsUptoCard : Claim7 := { stood := { row := fnTermSumsUptoRow, standIns := [], harness := (true, "f633561172f7700d76fdb2160acef6dd3201c10d22b4e411bea4331b825efa2a"), looks := true }, kinds := [], alts := [], laidByText := true, laidKinds := [.handle], laidTests := true, laidLooks := .later }
def FnTermSumsUptoCardSaid : Prop := Claim7.holds Tryd.pinned (.plain (OpenSpec.upto fnTermSumsSpec)) fnTermSumsUptoCard

/-- THE SECOND FORM's CARD OF 'laws.FnHas'. -/
def fnHasUptoCard : Claim7 := { stood := { row := fnHasUptoRow, standIns := [], harness := (true, "f633561172f7700d76fdb2160acef6dd3201c10d22b4e411bea4331b825efa2a"), looks := true }, kinds := [], alts := [], laidByText := true, laidKinds := [.handle], laidTests := true, laidLooks := .later }
def FnHasUptoCardSaid : Prop := Claim7.holds Tryd.pinned (.plain (OpenSpec.upto fnHasSpec)) fnHasUptoCard

/-- THE SECOND FORM's CARD OF 'laws.FnHasAll'. -/
def fnHasAllUptoCard : Claim7 := { stood := { row := fnHasAllUptoRow, standIns := [], harness := (true, "f633561172f7700d76fdb2160acef6dd3201c10d22b4e411bea4331b825efa2a"), looks := true }, kinds := [], alts := [], laidByText := true, laidKinds := [.handle], laidTests := true, laidLooks := .later }
def FnHasAllUptoCardSaid : Prop := Claim7.holds Tryd.pinned (.plain (OpenSpec.upto fnHasAllSpec)) fnHasAllUptoCard

/-- THE SECOND FORM's CARD OF 'laws.FnTidy'. -/
def fnTidyUptoCard : Claim7 := { stood := { row := fnTidyUptoRow, standIns := [], harness := (true, "f633561172f7700d76fdb2160acef6dd3201c10d22b4e411bea4331b825efa2a"), looks := true }, kinds := [], alts := [], laidByText := true, laidKinds := [.handle], laidTests := true, laidLooks := .later }
def FnTidyUptoCardSaid : Prop := Claim7.holds Tryd.pinned (.plain (OpenSpec.upto fnTidySpec)) fnTidyUptoCard

/-- THE SECOND FORM's CARD OF 'laws.FnTermOf'. -/
def fnTermOfUptoCard : Claim7 := { stood := { row := fnTermOfUptoRow, standIns := [], harness := (true, "f633561172f7700d76fdb2160acef6dd3201c10d22b4e411bea4331b825efa2a"), looks := true }, kinds := [], alts := [], laidByText := true, laidKinds := [.data, .data, .handle], laidTests := true, laidLooks := .later }
def FnTermOfUptoCardSaid : Prop := Claim7.holds Tryd.pinned (.plain (OpenSpec.upto fnTermOfSpec)) fnTermOfUptoCard

/-- THE SECOND FORM's CARD OF 'laws.FnTermSame'. -/
def fnTermSameUptoCard : Claim7 := { stood := { row := fnTermSameUptoRow, standIns := [], harness := (true, "f633561172f7700d76fdb2160acef6dd3201c10d22b4e411bea4331b825efa2a"), looks := true }, kinds := [], alts := [], laidByText := true, laidKinds := [.handle], laidTests := true, laidLooks := .later }
def FnTermSameUptoCardSaid : Prop := Claim7.holds Tryd.pinned (.plain (OpenSpec.upto fnTermSameSpec)) fnTermSameUptoCard

/-- THE SECOND FORM's CARD OF 'laws.FnTermTurned'. -/
def fnTermTurnedUptoCard : Claim7 := { stood := { row := fnTermTurnedUptoRow, standIns := [], harness := (true, "f633561172f7700d76fdb2160acef6dd3201c10d22b4e411bea4331b825efa2a"), looks := true }, kinds := [], alts := [], laidByText := true, laidKinds := [.handle], laidTests := true, laidLooks := .later }
def FnTermTurnedUptoCardSaid : Prop := Claim7.holds Tryd.pinned (.plain (OpenSpec.upto fnTermTurnedSpec)) fnTermTurnedUptoCard
end Rows
end Go.Proofs.YtecjhkpldcmlaaaDoor
