/-
  DERIVED. GIVEN WITH THE SEED: THE CARDS: each row of YtlkeemnnncnibaaDoorRows.lean that lists a variable, with what it lists TIED to the program's text (the seventh form; the later family's looks); each row that meets fmt, with fmt's text TOLD by the authors' own Lean function (tested against real Go, not proved from fmt's source: count such statements apart). THE CARD IS WHAT COUNTS. Prove the row's statement (the work); the ties are given (YtlkeemnnncnibaaDoorTie.lean); close each card by the builder's one call (the guide's Derived/Test/ToyasCard.lean, 'card_holds'). Laid BY PROGRAM, IN A SANDBOX (cutbox-door.mjs). By AI agents, Wed Nov 11 2026. No macro, syntax, notation, axiom, sorry.
-/
import Derived.Test.YtlkeemnnncnibaaDoorRows
import GoSem.ClaimSeven
namespace Go.Proofs.YtlkeemnnncnibaaDoor
namespace Rows

/-- THE TIED CARD OF 'laws.FnExactAddMiles'. -/
def fnExactAddMilesCard : Claim7 := { stood := { row := fnExactAddMilesRow, standIns := [], harness := (true, "591a6f1e9cceae1e78305c81cad32133c2f00f959e5ed0dd23bbe9e6c8774ec1"), looks := false }, kinds := [], alts := [], laidByText := true, laidKinds := [.data, .data, .data], laidTests := true, laidLooks := .later }
def FnExactAddMilesCardSaid : Prop := Claim7.holds Tryd.pinned (.plain (OpenSpec.ofChange fnExactAddMilesSpec)) fnExactAddMilesCard

/-- THE TIED CARD OF 'laws.FnExactKindsOfReading'. -/
def fnExactKindsOfReadingCard : Claim7 := { stood := { row := fnExactKindsOfReadingRow, standIns := [], harness := (true, "591a6f1e9cceae1e78305c81cad32133c2f00f959e5ed0dd23bbe9e6c8774ec1"), looks := false }, kinds := [], alts := [], laidByText := true, laidKinds := [.data, .pinned], laidTests := true, laidLooks := .later }
def FnExactKindsOfReadingCardSaid : Prop := Claim7.holds Tryd.pinned (.plain (OpenSpec.ofChange fnExactKindsOfReadingSpec)) fnExactKindsOfReadingCard

/-- THE SECOND FORM's CARD OF 'laws.FnExactAddMiles'. -/
def fnExactAddMilesUptoCard : Claim7 := { stood := { row := fnExactAddMilesUptoRow, standIns := [], harness := (true, "591a6f1e9cceae1e78305c81cad32133c2f00f959e5ed0dd23bbe9e6c8774ec1"), looks := false }, kinds := [], alts := [], laidByText := true, laidKinds := [.data, .data, .data], laidTests := true, laidLooks := .later }
def FnExactAddMilesUptoCardSaid : Prop := Claim7.holds Tryd.pinned (.plain (OpenSpec.upto fnExactAddMilesSpec)) fnExactAddMilesUptoCard

/-- THE SECOND FORM's CARD OF 'laws.FnExactKindsOfReading'. -/
def fnExactKindsOfReadingUptoCard : Claim7 := { stood := { row := fnExactKindsOfReadingUptoRow, standIns := [], harness := (true, "591a6f1e9cceae1e78305c81cad32133c2f00f959e5ed0dd23bbe9e6c8774ec1"), looks := false }, kinds := [], alts := [], laidByText := true, laidKinds := [.data, .pinned], laidTests := true, laidLooks := .later }
def FnExactKindsOfReadingUptoCardSaid : Prop := Claim7.holds Tryd.pinned (.plain (OpenSpec.upto fnExactKindsOfReadingSpec)) fnExactKindsOfReadingUptoCard
end Rows
end Go.Proofs.YtlkeemnnncnibaaDoor
