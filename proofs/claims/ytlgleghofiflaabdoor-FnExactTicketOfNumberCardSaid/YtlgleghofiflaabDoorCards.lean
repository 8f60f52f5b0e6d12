/-
  DERIVED. GIVEN WITH THE SEED: THE CARDS: each row of YtlgleghofiflaabDoorRows.lean that lists a variable, with what it lists TIED to the program's text (the seventh form; the later family's looks); each row that meets fmt, with fmt's text TOLD by the authors' own Lean function (tested against real Go, not proved from fmt's source: count such statements apart). THE CARD IS WHAT COUNTS. Prove the row's statement (the work); the ties are given (YtlgleghofiflaabDoorTie.lean); close each card by the builder's one call (the guide's Derived/Test/ToyasCard.lean, 'card_holds'). Laid BY PROGRAM, IN A SANDBOX (cutbox-door.mjs). By AI agents, Wed Nov 11 2026. No macro, syntax, notation, axiom, sorry.
-/
import Derived.Test.YtlgleghofiflaabDoorRows
import GoSem.ClaimSeven
namespace Go.Proofs.YtlgleghofiflaabDoor
namespace Rows

/-- THE TIED CARD OF 'laws.FnExactFirstTicketFor'. -/
def fnExactFirstTicketForCard : Claim7 := { stood := { row := fnExactFirstTicketForRow, standIns := [], harness := (true, "51313b55a3b13bc6c73850ea0091ab82677d9fc496571c20fa14c81fc84af53a"), looks := false }, kinds := [], alts := [], laidByText := true, laidKinds := [.data, .data, .data], laidTests := true, laidLooks := .later }
def FnExactFirstTicketForCardSaid : Prop := Claim7.holds Tryd.pinned (.plain (OpenSpec.ofChange fnExactFirstTicketForSpec)) fnExactFirstTicketForCard

/-- THE TIED CARD OF 'laws.FnExactTicketOfNumber'. -/
def fnExactTicketOfNumberCard : Claim7 := { stood := { row := fnExactTicketOfNumberRow, standIns := [], harness := (true, "51313b55a3b13bc6c73850ea0091ab82677d9fc496571c20fa14c81fc84af53a"), looks := false }, kinds := [], alts := [], laidByText := true, laidKinds := [.data, .data, .data], laidTests := true, laidLooks := .later }
def FnExactTicketOfNumberCardSaid : Prop := Claim7.holds Tryd.pinned (.plain (OpenSpec.ofChange fnExactTicketOfNumberSpec)) fnExactTicketOfNumberCard

/-- THE SECOND FORM's CARD OF 'laws.FnExactFirstTicketFor'. -/
def fnExactFirstTicketForUptoCard : Claim7 := { stood := { row := fnExactFirstTicketForUptoRow, standIns := [], harness := (true, "51313b55a3b13bc6c73850ea0091ab82677d9fc496571c20fa14c81fc84af53a"), looks := false }, kinds := [], alts := [], laidByText := true, laidKinds := [.data, .data, .data], laidTests := true, laidLooks := .later }
def FnExactFirstTicketForUptoCardSaid : Prop := Claim7.holds Tryd.pinned (.plain (OpenSpec.upto fnExactFirstTicketForSpec)) fnExactFirstTicketForUptoCard

/-- THE SECOND FORM's CARD OF 'laws.FnExactTicketOfNumber'. -/
def fnExactTicketOfNumberUptoCard : Claim7 := { stood := { row := fnExactTicketOfNumberUptoRow, standIns := [], harness := (true, "51313b55a3b13bc6c73850ea0091ab82677d9fc496571c20fa14c81fc84af53a"), looks := false }, kinds := [], alts := [], laidByText := true, laidKinds := [.data, .data, .data], laidTests := true, laidLooks := .later }
def FnExactTicketOfNumberUptoCardSaid : Prop := Claim7.holds Tryd.pinned (.plain (OpenSpec.upto fnExactTicketOfNumberSpec)) fnExactTicketOfNumberUptoCard
end Rows
end Go.Proofs.YtlgleghofiflaabDoor
