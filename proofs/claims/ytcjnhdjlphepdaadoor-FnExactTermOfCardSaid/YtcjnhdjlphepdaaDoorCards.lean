/-
  DERIVED. GIVEN WITH THE SEED: THE CARDS: each row of YtcjnhdjlphepdaaDoorRows.lean that lists a variable, with what it lists TIED to the program's text (the seventh form; the later family's looks); each row that meets fmt, with fmt's text TOLD by the authors' own Lean function (tested against real Go, not proved from fmt's source: count such statements apart). THE CARD IS WHAT COUNTS. Prove the row's statement (the work); the ties are given (YtcjnhdjlphepdaaDoorTie.lean); close each card by the builder's one call (the guide's Derived/Test/ToyasCard.lean, 'card_holds'). Laid BY PROGRAM, IN A SANDBOX (cutbox-door.mjs). By AI agents, Wed Nov 11 2026. No macro, syntax, notation, axiom, sorry.
-/
import Derived.Test.YtcjnhdjlphepdaaDoorRows
import GoSem.ClaimSeven
namespace Go.Proofs.YtcjnhdjlphepdaaDoor
namespace Rows

/-- THE TIED CARD OF 'laws.FnExactTermIn'. -/
def fnExactTermInCard : Claim7 := { stood := { row := fnExactTermInRow, standIns := [], harness := (true, "800296932d47c251a1c25c4b5d8e45fbec189cdd09768e34b5980dd2610e615a"), looks := true }, kinds := [], alts := [], laidByText := true, laidKinds := [.handle], laidTests := true, laidLooks := .later }
def FnExactTermInCardSaid : Prop := Claim7.holds Tryd.pinned (.plain (OpenSpec.ofChange fnExactTermInSpec)) fnExactTermInCard

/-- THE TIED CARD OF 'laws.FnExactTermSet'. -/
def fnExactTermSetCard : Claim7 := { stood := { row := fnExactTermSetRow, standIns := [], harness := (true, "800296932d47c251a1c25c4b5d8e45fbec189cdd09768e34b5980dd2610e615a"), looks := true }, kinds := [], alts := [], laidByText := true, laidKinds := [.handle], laidTests := true, laidLooks := .later }
def FnExactTermSetCardSaid : Prop := Claim7.holds Tryd.pinned (.plain (OpenSpec.ofChange fnExactTermSetSpec)) fnExactTermSetCard

/-- THE TIED CARD OF 'laws.FnExactTermHas'. -/
def fnExactTermHasCard : Claim7 := { stood := { row := fnExactTermHasRow, standIns := [], harness := (true, "800296932d47c251a1c25c4b5d8e45fbec189cdd09768e34b5980dd2610e615a"), looks := true }, kinds := [], alts := [], laidByText := true, laidKinds := [.handle], laidTests := true, laidLooks := .later }
def FnExactTermHasCardSaid : Prop := Claim7.holds Tryd.pinned (.plain (OpenSpec.ofChange fnExactTermHasSpec)) fnExactTermHasCard

/-- THE TIED CARD OF 'laws.FnExactTermTidy'. -/
def fnExactTermTidyCard : Claim7 := { stood := { row := fnExactTermTidyRow, standIns := [], harness := (true, "800296932d47c251a1c25c4b5d8e45fbec189cdd09768e34b5980dd2610e615a"), looks := true }, kinds := [], alts := [], laidByText := true, laidKinds := [.handle], laidTests := true, laidLooks := .later }
def FnExactTermTidyCardSaid : Prop := Claim7.holds Tryd.pinned (.plain (OpenSpec.ofChange fnExactTermTidySpec)) fnExactTermTidyCard

/-- THE TIED CARD OF 'laws.FnExactTermOf'. -/
def fnExactTermOfCard : Claim7 := { stood := { row := fnExactTermOfRow, standIns := [], harness := (true, "800296932d47c251a1c25c4b5d8e45fbec189cdd09768e34b5980dd2610e615a"), looks := true }, kinds := [], alts := [], laidByText := true, laidKinds := [.data, .data], laidTests := true, laidLooks := .later }
def FnExactTermOfCardSaid : Prop := Claim7.holds Tryd.pinned (.plain (OpenSpec.ofChange fnExactTermOfSpec)) fnExactTermOfCard

/-- THE TIED CARD OF 'laws.FnExactTermSame'. -/
def fnExactTermSameCard : Claim7 := { stood := { row := fnExactTermSameRow, standIns := [], harness := (true, "800296932d47c251a1c25c4b5d8e45fbec189cdd09768e34b5980dd2610e615a"), looks := true }, kinds := [], alts := [], laidByText := true, laidKinds := [.handle], laidTests := true, laidLooks := .later }
def FnExactTermSameCardSaid : Prop := Claim7.holds Tryd.pinned (.plain (OpenSpec.ofChange fnExactTermSameSpec)) fnExactTermSameCard

/-- THE TIED CARD OF 'laws.FnExactTermTurned'. -/
def fnExactTermTurnedCard : Claim7 := { stood := { row := fnExactTermTurnedRow, standIns := [], harness := (true, "800296932d47c251a1c25c4b5d8e45fbec189cdd09768e34b5980dd2610e615a"), looks := true }, kinds := [], alts := [], laidByText := true, laidKinds := [.handle], laidTests := true, laidLooks := .later }
def FnExactTermTurnedCardSaid : Prop := Claim7.holds Tryd.pinned (.plain (OpenSpec.ofChange fnExactTermTurnedSpec)) fnExactTermTurnedCard

/-- THE SECOND FORM's CARD OF 'laws.FnExactTermIn'. -/
def fnExactTermInUptoCard : Claim7 := { stood := { row := fnExactTermInUptoRow, standIns := [], harness := (true, "800296932d47c251a1c25c4b5d8e45fbec189cdd09768e34b5980dd2610e615a"), looks := true }, kinds := [], alts := [], laidByText := true, laidKinds := [.handle], laidTests := true, laidLooks := .later }
def FnExactTermInUptoCardSaid : Prop := Claim7.holds Tryd.pinned (.plain (OpenSpec.upto fnExactTermInSpec)) fnExactTermInUptoCard

/-- THE SECOND FORM's CARD OF 'laws.FnExactTermSet'. -/
def fnExactTermSetUptoCard : Claim7 := { stood := { row := fnExactTermSetUptoRow, standIns := [], harness := (true, "800296932d47c251a1c25c4b5d8e45fbec189cdd09768e34b5980dd2610e615a"), looks := true }, kinds := [], alts := [], laidByText := true, laidKinds := [.handle], laidTests := true, laidLooks := .later }
def FnExactTermSetUptoCardSaid : Prop := Claim7.holds Tryd.pinned (.plain (OpenSpec.upto fnExactTermSetSpec)) fnExactTermSetUptoCard

/-- THE SECOND FORM's CARD OF 'laws.FnExactTermHas'. -/
def fnExactTermHasUptoCard : Claim7 := { stood := { row := fnExactTermHasUptoRow, standIns := [], harness := (true, "800296932d47c251a1c25c4b5d8e45fbec189cdd09768e34b5980dd2610e615a"), looks := true }, kinds := [], alts := [], laidByText := true, laidKinds := [.handle], laidTests := true, laidLooks := .later }
def FnExactTermHasUptoCardSaid : Prop := Claim7.holds Tryd.pinned (.plain (OpenSpec.upto fnExactTermHasSpec)) fnExactTermHasUptoCard

/-- THE SECOND FORM's CARD OF 'laws.FnExactTermTidy'. -/
def fnExactTermTidyUptoCard : Claim7 := { stood := { row := fnExactTermTidyUptoRow, standIns := [], harness := (true, "800296932d47c251a1c25c4b5d8e45fbec189cdd09768e34b5980dd2610e615a"), looks := true }, kinds := [], alts := [], laidByText := true, laidKinds := [.handle], laidTests := true, laidLooks := .later }
def FnExactTermTidyUptoCardSaid : Prop := Claim7.holds Tryd.pinned (.plain (OpenSpec.upto fnExactTermTidySpec)) fnExactTermTidyUptoCard

/-- THE SECOND FORM's CARD OF 'laws.FnExactTermOf'. -/
def fnExactTermOfUptoCard : Claim7 := { stood := { row := fnExactTermOfUptoRow, standIns := [], harness := (true, "800296932d47c251a1c25c4b5d8e45fbec189cdd09768e34b5980dd2610e615a"), looks := true }, kinds := [], alts := [], laidByText := true, laidKinds := [.data, .data], laidTests := true, laidLooks := .later }
def FnExactTermOfUptoCardSaid : Prop := Claim7.holds Tryd.pinned (.plain (OpenSpec.upto fnExactTermOfSpec)) fnExactTermOfUptoCard

/-- THE SECOND FORM's CARD OF 'laws.FnExactTermSame'. -/
def fnExactTermSameUptoCard : Claim7 := { stood := { row := fnExactTermSameUptoRow, standIns := [], harness := (true, "800296932d47c251a1c25c4b5d8e45fbec189cdd09768e34b5980dd2610e615a"), looks := true }, kinds := [], alts := [], laidByText := true, laidKinds := [.handle], laidTests := true, laidLooks := .later }
def FnExactTermSameUptoCardSaid : Prop := Claim7.holds Tryd.pinned (.plain (OpenSpec.upto fnExactTermSameSpec)) fnExactTermSameUptoCard

/-- THE SECOND FORM's CARD OF 'laws.FnExactTermTurned'. -/
def fnExactTermTurnedUptoCard : Claim7 := { stood := { row := fnExactTermTurnedUptoRow, standIns := [], harness := (true, "800296932d47c251a1c25c4b5d8e45fbec189cdd09768e34b5980dd2610e615a"), looks := true }, kinds := [], alts := [], laidByText := true, laidKinds := [.handle], laidTests := true, laidLooks := .later }
def FnExactTermTurnedUptoCardSaid : Prop := Claim7.holds Tryd.pinned (.plain (OpenSpec.upto fnExactTermTurnedSpec)) fnExactTermTurnedUptoCard
end Rows
end Go.Proofs.YtcjnhdjlphepdaaDoor
