/-
  DERIVED. GIVEN WITH THE SEED: THE CARDS: each row of YtpmkdpkegmbleaaDoorRows.lean that lists a variable, with what it lists TIED to the program's text (the seventh form; the later family's looks); each row that meets fmt, with fmt's text TOLD by the authors' own Lean function (tested against real Go, not proved from fmt's source: count such statements apart). THE CARD IS WHAT COUNTS. Prove the row's statement (the work); the ties are given (YtpmkdpkegmbleaaDoorTie.lean); close each card by the builder's one call (the guide's Derived/Test/ToyasCard.lean, 'card_holds'). Laid BY PROGRAM, IN A SANDBOX (cutbox-door.mjs). By AI agents, Wed Nov 11 2026. No macro, syntax, notation, axiom, sorry.
-/
import Derived.Test.YtpmkdpkegmbleaaDoorRows
import GoSem.ClaimSeven
namespace Go.Proofs.YtpmkdpkegmbleaaDoor
namespace Rows

/-- THE TIED CARD OF 'laws.FnExactFirstTicketFor'. -/
def fnExactFirstTicketForCard : Claim7 := { stood := { row := fnExactFirstTicketForRow, standIns := [], harness := (true, "c3daf85ac25e470d0434d1b0277118e7f2b52566f81d205b5297ac2b284544ba"), looks := false }, kinds := [], alts := [], laidByText := true, laidKinds := [.data, .data, .data], laidTests := true, laidLooks := .later }
def FnExactFirstTicketForCardSaid : Prop := Claim7.holds Tryd.pinned (.plain (OpenSpec.ofChange fnExactFirstTicketForSpec)) fnExactFirstTicketForCard

/-- THE SECOND FORM's CARD OF 'laws.FnExactFirstTicketFor'. -/
def fnExactFirstTicketForUptoCard : Claim7 := { stood := { row := fnExactFirstTicketForUptoRow, standIns := [], harness := (true, "c3daf85ac25e470d0434d1b0277118e7f2b52566f81d205b5297ac2b284544ba"), looks := false }, kinds := [], alts := [], laidByText := true, laidKinds := [.data, .data, .data], laidTests := true, laidLooks := .later }
def FnExactFirstTicketForUptoCardSaid : Prop := Claim7.holds Tryd.pinned (.plain (OpenSpec.upto fnExactFirstTicketForSpec)) fnExactFirstTicketForUptoCard
end Rows
end Go.Proofs.YtpmkdpkegmbleaaDoor
