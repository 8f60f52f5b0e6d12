/-
  DERIVED. GIVEN WITH THE SEED: THE CARDS: each row of YtdgdjgefjhkpbabDoorRows.lean that lists a variable, with what it lists TIED to the program's text (the seventh form; the later family's looks); each row that meets fmt, with fmt's text TOLD by the authors' own Lean function (tested against real Go, not proved from fmt's source: count such statements apart). THE CARD IS WHAT COUNTS. Prove the row's statement (the work); the ties are given (YtdgdjgefjhkpbabDoorTie.lean); close each card by the builder's one call (the guide's Derived/Test/ToyasCard.lean, 'card_holds'). Laid BY PROGRAM, IN A SANDBOX (cutbox-door.mjs). By AI agents, Wed Nov 11 2026. No macro, syntax, notation, axiom, sorry.
-/
import Derived.Test.YtdgdjgefjhkpbabDoorRows
import GoSem.ClaimSeven
namespace Go.Proofs.YtdgdjgefjhkpbabDoor
namespace Rows

/-- THE TIED CARD OF 'laws.FnExactCountOfSum'. -/
def fnExactCountOfSumCard : Claim7 := { stood := { row := fnExactCountOfSumRow, standIns := [], harness := (true, "2fd348c03bfa63bad7d41d8937ad8294ba19688d8056df8eb2f720b0a1c2d63f"), looks := false }, kinds := [], alts := [], laidByText := true, laidKinds := [.data, .data, .data], laidTests := true, laidLooks := .later }
def FnExactCountOfSumCardSaid : Prop := Claim7.holds Tryd.pinned (.plain (OpenSpec.ofChange fnExactCountOfSumSpec)) fnExactCountOfSumCard

/-- THE TIED CARD OF 'laws.FnExactNumberOfSum'. -/
def fnExactNumberOfSumCard : Claim7 := { stood := { row := fnExactNumberOfSumRow, standIns := [], harness := (true, "2fd348c03bfa63bad7d41d8937ad8294ba19688d8056df8eb2f720b0a1c2d63f"), looks := false }, kinds := [], alts := [], laidByText := true, laidKinds := [.data, .data, .data], laidTests := true, laidLooks := .later }
def FnExactNumberOfSumCardSaid : Prop := Claim7.holds Tryd.pinned (.plain (OpenSpec.ofChange fnExactNumberOfSumSpec)) fnExactNumberOfSumCard

/-- THE TIED CARD OF 'laws.FnExactNextOfSum'. -/
def fnExactNextOfSumCard : Claim7 := { stood := { row := fnExactNextOfSumRow, standIns := [], harness := (true, "2fd348c03bfa63bad7d41d8937ad8294ba19688d8056df8eb2f720b0a1c2d63f"), looks := false }, kinds := [], alts := [], laidByText := true, laidKinds := [.data, .data, .data], laidTests := true, laidLooks := .later }
def FnExactNextOfSumCardSaid : Prop := Claim7.holds Tryd.pinned (.plain (OpenSpec.ofChange fnExactNextOfSumSpec)) fnExactNextOfSumCard

/-- THE TIED CARD OF 'laws.FnExactCountWithout'. -/
def fnExactCountWithoutCard : Claim7 := { stood := { row := fnExactCountWithoutRow, standIns := [], harness := (true, "2fd348c03bfa63bad7d41d8937ad8294ba19688d8056df8eb2f720b0a1c2d63f"), looks := false }, kinds := [], alts := [], laidByText := true, laidKinds := [.data, .data, .data], laidTests := true, laidLooks := .later }
def FnExactCountWithoutCardSaid : Prop := Claim7.holds Tryd.pinned (.plain (OpenSpec.ofChange fnExactCountWithoutSpec)) fnExactCountWithoutCard

/-- THE TIED CARD OF 'laws.FnExactCounterShows'. -/
def fnExactCounterShowsCard : Claim7 := { stood := { row := fnExactCounterShowsRow, standIns := [], harness := (true, "2fd348c03bfa63bad7d41d8937ad8294ba19688d8056df8eb2f720b0a1c2d63f"), looks := false }, kinds := [], alts := [], laidByText := true, laidKinds := [.data, .data, .data], laidTests := true, laidLooks := .later }
def FnExactCounterShowsCardSaid : Prop := Claim7.holds Tryd.pinned (.plain (OpenSpec.ofChange fnExactCounterShowsSpec)) fnExactCounterShowsCard

/-- THE TIED CARD OF 'laws.FnExactCountOfCounter'. -/
def fnExactCountOfCounterCard : Claim7 := { stood := { row := fnExactCountOfCounterRow, standIns := [], harness := (true, "2fd348c03bfa63bad7d41d8937ad8294ba19688d8056df8eb2f720b0a1c2d63f"), looks := false }, kinds := [], alts := [], laidByText := true, laidKinds := [.data, .data, .data], laidTests := true, laidLooks := .later }
def FnExactCountOfCounterCardSaid : Prop := Claim7.holds Tryd.pinned (.plain (OpenSpec.ofChange fnExactCountOfCounterSpec)) fnExactCountOfCounterCard

/-- THE SECOND FORM's CARD OF 'laws.FnExactCountOfSum'. -/
def fnExactCountOfSumUptoCard : Claim7 := { stood := { row := fnExactCountOfSumUptoRow, standIns := [], harness := (true, "2fd348c03bfa63bad7d41d8937ad8294ba19688d8056df8eb2f720b0a1c2d63f"), looks := false }, kinds := [], alts := [], laidByText := true, laidKinds := [.data, .data, .data], laidTests := true, laidLooks := .later }
def FnExactCountOfSumUptoCardSaid : Prop := Claim7.holds Tryd.pinned (.plain (OpenSpec.upto fnExactCountOfSumSpec)) fnExactCountOfSumUptoCard

/-- THE SECOND FORM's CARD OF 'laws.FnExactNumberOfSum'. -/
def fnExactNumberOfSumUptoCard : Claim7 := { stood := { row := fnExactNumberOfSumUptoRow, standIns := [], harness := (true, "2fd348c03bfa63bad7d41d8937ad8294ba19688d8056df8eb2f720b0a1c2d63f"), looks := false }, kinds := [], alts := [], laidByText := true, laidKinds := [.data, .data, .data], laidTests := true, laidLooks := .later }
def FnExactNumberOfSumUptoCardSaid : Prop := Claim7.holds Tryd.pinned (.plain (OpenSpec.upto fnExactNumberOfSumSpec)) fnExactNumberOfSumUptoCard

/-- THE SECOND FORM's CARD OF 'laws.FnExactNextOfSum'. -/
def fnExactNextOfSumUptoCard : Claim7 := { stood := { row := fnExactNextOfSumUptoRow, standIns := [], harness := (true, "2fd348c03bfa63bad7d41d8937ad8294ba19688d8056df8eb2f720b0a1c2d63f"), looks := false }, kinds := [], alts := [], laidByText := true, laidKinds := [.data, .data, .data], laidTests := true, laidLooks := .later }
def FnExactNextOfSumUptoCardSaid : Prop := Claim7.holds Tryd.pinned (.plain (OpenSpec.upto fnExactNextOfSumSpec)) fnExactNextOfSumUptoCard

/-- THE SECOND FORM's CARD OF 'laws.FnExactCountWithout'. -/
def fnExactCountWithoutUptoCard : Claim7 := { stood := { row := fnExactCountWithoutUptoRow, standIns := [], harness := (true, "2fd348c03bfa63bad7d41d8937ad8294ba19688d8056df8eb2f720b0a1c2d63f"), looks := false }, kinds := [], alts := [], laidByText := true, laidKinds := [.data, .data, .data], laidTests := true, laidLooks := .later }
def FnExactCountWithoutUptoCardSaid : Prop := Claim7.holds Tryd.pinned (.plain (OpenSpec.upto fnExactCountWithoutSpec)) fnExactCountWithoutUptoCard

/-- THE SECOND FORM's CARD OF 'laws.FnExactCounterShows'. -/
def fnExactCounterShowsUptoCard : Claim7 := { stood := { row := fnExactCounterShowsUptoRow, standIns := [], harness := (true, "2fd348c03bfa63bad7d41d8937ad8294ba19688d8056df8eb2f720b0a1c2d63f"), looks := false }, kinds := [], alts := [], laidByText := true, laidKinds := [.data, .data, .data], laidTests := true, laidLooks := .later }
def FnExactCounterShowsUptoCardSaid : Prop := Claim7.holds Tryd.pinned (.plain (OpenSpec.upto fnExactCounterShowsSpec)) fnExactCounterShowsUptoCard

/-- THE SECOND FORM's CARD OF 'laws.FnExactCountOfCounter'. -/
def fnExactCountOfCounterUptoCard : Claim7 := { stood := { row := fnExactCountOfCounterUptoRow, standIns := [], harness := (true, "2fd348c03bfa63bad7d41d8937ad8294ba19688d8056df8eb2f720b0a1c2d63f"), looks := false }, kinds := [], alts := [], laidByText := true, laidKinds := [.data, .data, .data], laidTests := true, laidLooks := .later }
def FnExactCountOfCounterUptoCardSaid : Prop := Claim7.holds Tryd.pinned (.plain (OpenSpec.upto fnExactCountOfCounterSpec)) fnExactCountOfCounterUptoCard
end Rows
end Go.Proofs.YtdgdjgefjhkpbabDoor
