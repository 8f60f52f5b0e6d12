/-
  DERIVED. GIVEN WITH THE SEED: THE CARDS: each row of YtkeedoieadlbdabDoorRows.lean that lists a variable, with what it lists TIED to the program's text (the seventh form; the later family's looks); each row that meets fmt, with fmt's text TOLD by the authors' own Lean function (tested against real Go, not proved from fmt's source: count such statements apart). THE CARD IS WHAT COUNTS. Prove the row's statement (the work); the ties are given (YtkeedoieadlbdabDoorTie.lean); close each card by the builder's one call (the guide's Derived/Test/ToyasCard.lean, 'card_holds'). Laid BY PROGRAM, IN A SANDBOX (cutbox-door.mjs). By AI agents, Wed Nov 11 2026. No macro, syntax, notation, axiom, sorry.
-/
import Derived.Test.YtkeedoieadlbdabDoorRows
import GoSem.ClaimSeven
namespace Go.Proofs.YtkeedoieadlbdabDoor
namespace Rows

/-- THE TIED CARD OF 'laws.FnExactParseScheme'. -/
def fnExactParseSchemeCard : Claim7 := { stood := { row := fnExactParseSchemeRow, standIns := [], harness := (true, "209f7341491cdc751999172e49db4ef0bc10cc236d017d7c6f614ecd74049e6f"), looks := false }, kinds := [], alts := [], laidByText := true, laidKinds := [.data, .pinned], laidTests := true, laidLooks := .later }
def FnExactParseSchemeCardSaid : Prop := Claim7.holds Tryd.pinned (.plain (OpenSpec.ofChange fnExactParseSchemeSpec)) fnExactParseSchemeCard

/-- THE SECOND FORM's CARD OF 'laws.FnExactParseScheme'. -/
def fnExactParseSchemeUptoCard : Claim7 := { stood := { row := fnExactParseSchemeUptoRow, standIns := [], harness := (true, "209f7341491cdc751999172e49db4ef0bc10cc236d017d7c6f614ecd74049e6f"), looks := false }, kinds := [], alts := [], laidByText := true, laidKinds := [.data, .pinned], laidTests := true, laidLooks := .later }
def FnExactParseSchemeUptoCardSaid : Prop := Claim7.holds Tryd.pinned (.plain (OpenSpec.upto fnExactParseSchemeSpec)) fnExactParseSchemeUptoCard
end Rows
end Go.Proofs.YtkeedoieadlbdabDoor
