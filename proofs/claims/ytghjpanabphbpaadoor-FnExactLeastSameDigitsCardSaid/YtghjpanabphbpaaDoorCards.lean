/-
  DERIVED. GIVEN WITH THE SEED: THE CARDS: each row of YtghjpanabphbpaaDoorRows.lean that lists a variable, with what it lists TIED to the program's text (the seventh form; the later family's looks); each row that meets fmt, with fmt's text TOLD by the authors' own Lean function (tested against real Go, not proved from fmt's source: count such statements apart). THE CARD IS WHAT COUNTS. Prove the row's statement (the work); the ties are given (YtghjpanabphbpaaDoorTie.lean); close each card by the builder's one call (the guide's Derived/Test/ToyasCard.lean, 'card_holds'). Laid BY PROGRAM, IN A SANDBOX (cutbox-door.mjs). By AI agents, Wed Nov 11 2026. No macro, syntax, notation, axiom, sorry.
-/
import Derived.Test.YtghjpanabphbpaaDoorRows
import GoSem.ClaimSeven
namespace Go.Proofs.YtghjpanabphbpaaDoor
namespace Rows

/-- THE TIED CARD OF 'laws.FnExactLeastWithSum'. -/
def fnExactLeastWithSumCard : Claim7 := { stood := { row := fnExactLeastWithSumRow, standIns := [], harness := (true, "496745e95cd1a67a34309387a6ff37ff4e80a2d624b1b5a6b173a34281086a2e"), looks := false }, kinds := [], alts := [], laidByText := true, laidKinds := [.data, .data, .data], laidTests := true, laidLooks := .later }
def FnExactLeastWithSumCardSaid : Prop := Claim7.holds Tryd.pinned (.plain (OpenSpec.ofChange fnExactLeastWithSumSpec)) fnExactLeastWithSumCard

/-- THE TIED CARD OF 'laws.FnExactLeastOfDigits'. -/
def fnExactLeastOfDigitsCard : Claim7 := { stood := { row := fnExactLeastOfDigitsRow, standIns := [], harness := (true, "496745e95cd1a67a34309387a6ff37ff4e80a2d624b1b5a6b173a34281086a2e"), looks := false }, kinds := [], alts := [], laidByText := true, laidKinds := [.data, .data, .data], laidTests := true, laidLooks := .later }
def FnExactLeastOfDigitsCardSaid : Prop := Claim7.holds Tryd.pinned (.plain (OpenSpec.ofChange fnExactLeastOfDigitsSpec)) fnExactLeastOfDigitsCard

/-- THE TIED CARD OF 'laws.FnExactGreatestOfDigits'. -/
def fnExactGreatestOfDigitsCard : Claim7 := { stood := { row := fnExactGreatestOfDigitsRow, standIns := [], harness := (true, "496745e95cd1a67a34309387a6ff37ff4e80a2d624b1b5a6b173a34281086a2e"), looks := false }, kinds := [], alts := [], laidByText := true, laidKinds := [.data, .data, .data], laidTests := true, laidLooks := .later }
def FnExactGreatestOfDigitsCardSaid : Prop := Claim7.holds Tryd.pinned (.plain (OpenSpec.ofChange fnExactGreatestOfDigitsSpec)) fnExactGreatestOfDigitsCard

/-- THE TIED CARD OF 'laws.FnExactNextWithSum'. -/
def fnExactNextWithSumCard : Claim7 := { stood := { row := fnExactNextWithSumRow, standIns := [], harness := (true, "496745e95cd1a67a34309387a6ff37ff4e80a2d624b1b5a6b173a34281086a2e"), looks := false }, kinds := [], alts := [], laidByText := true, laidKinds := [.data, .data, .data], laidTests := true, laidLooks := .later }
def FnExactNextWithSumCardSaid : Prop := Claim7.holds Tryd.pinned (.plain (OpenSpec.ofChange fnExactNextWithSumSpec)) fnExactNextWithSumCard

/-- THE TIED CARD OF 'laws.FnExactLastWithSum'. -/
def fnExactLastWithSumCard : Claim7 := { stood := { row := fnExactLastWithSumRow, standIns := [], harness := (true, "496745e95cd1a67a34309387a6ff37ff4e80a2d624b1b5a6b173a34281086a2e"), looks := false }, kinds := [], alts := [], laidByText := true, laidKinds := [.data, .data, .data], laidTests := true, laidLooks := .later }
def FnExactLastWithSumCardSaid : Prop := Claim7.holds Tryd.pinned (.plain (OpenSpec.ofChange fnExactLastWithSumSpec)) fnExactLastWithSumCard

/-- THE TIED CARD OF 'laws.FnExactNextSameDigits'. -/
def fnExactNextSameDigitsCard : Claim7 := { stood := { row := fnExactNextSameDigitsRow, standIns := [], harness := (true, "496745e95cd1a67a34309387a6ff37ff4e80a2d624b1b5a6b173a34281086a2e"), looks := false }, kinds := [], alts := [], laidByText := true, laidKinds := [.data, .data, .data], laidTests := true, laidLooks := .later }
def FnExactNextSameDigitsCardSaid : Prop := Claim7.holds Tryd.pinned (.plain (OpenSpec.ofChange fnExactNextSameDigitsSpec)) fnExactNextSameDigitsCard

/-- THE TIED CARD OF 'laws.FnExactLastSameDigits'. -/
def fnExactLastSameDigitsCard : Claim7 := { stood := { row := fnExactLastSameDigitsRow, standIns := [], harness := (true, "496745e95cd1a67a34309387a6ff37ff4e80a2d624b1b5a6b173a34281086a2e"), looks := false }, kinds := [], alts := [], laidByText := true, laidKinds := [.data, .data, .data], laidTests := true, laidLooks := .later }
def FnExactLastSameDigitsCardSaid : Prop := Claim7.holds Tryd.pinned (.plain (OpenSpec.ofChange fnExactLastSameDigitsSpec)) fnExactLastSameDigitsCard

/-- THE TIED CARD OF 'laws.FnExactLeastSameDigits'. -/
def fnExactLeastSameDigitsCard : Claim7 := { stood := { row := fnExactLeastSameDigitsRow, standIns := [], harness := (true, "496745e95cd1a67a34309387a6ff37ff4e80a2d624b1b5a6b173a34281086a2e"), looks := false }, kinds := [], alts := [], laidByText := true, laidKinds := [.data, .data, .data], laidTests := true, laidLooks := .later }
def FnExactLeastSameDigitsCardSaid : Prop := Claim7.holds Tryd.pinned (.plain (OpenSpec.ofChange fnExactLeastSameDigitsSpec)) fnExactLeastSameDigitsCard

/-- THE TIED CARD OF 'laws.FnExactGreatestSameDigits'. -/
def fnExactGreatestSameDigitsCard : Claim7 := { stood := { row := fnExactGreatestSameDigitsRow, standIns := [], harness := (true, "496745e95cd1a67a34309387a6ff37ff4e80a2d624b1b5a6b173a34281086a2e"), looks := false }, kinds := [], alts := [], laidByText := true, laidKinds := [.data, .data, .data], laidTests := true, laidLooks := .later }
def FnExactGreatestSameDigitsCardSaid : Prop := Claim7.holds Tryd.pinned (.plain (OpenSpec.ofChange fnExactGreatestSameDigitsSpec)) fnExactGreatestSameDigitsCard

/-- THE TIED CARD OF 'laws.FnExactLeastWithProduct'. -/
def fnExactLeastWithProductCard : Claim7 := { stood := { row := fnExactLeastWithProductRow, standIns := [], harness := (true, "496745e95cd1a67a34309387a6ff37ff4e80a2d624b1b5a6b173a34281086a2e"), looks := false }, kinds := [], alts := [], laidByText := true, laidKinds := [.data, .data, .data], laidTests := true, laidLooks := .later }
def FnExactLeastWithProductCardSaid : Prop := Claim7.holds Tryd.pinned (.plain (OpenSpec.ofChange fnExactLeastWithProductSpec)) fnExactLeastWithProductCard

/-- THE TIED CARD OF 'laws.FnExactProductOfDigits'. -/
def fnExactProductOfDigitsCard : Claim7 := { stood := { row := fnExactProductOfDigitsRow, standIns := [], harness := (true, "496745e95cd1a67a34309387a6ff37ff4e80a2d624b1b5a6b173a34281086a2e"), looks := false }, kinds := [], alts := [], laidByText := true, laidKinds := [.data, .data, .data], laidTests := true, laidLooks := .later }
def FnExactProductOfDigitsCardSaid : Prop := Claim7.holds Tryd.pinned (.plain (OpenSpec.ofChange fnExactProductOfDigitsSpec)) fnExactProductOfDigitsCard

/-- THE SECOND FORM's CARD OF 'laws.FnExactLeastWithSum'. -/
def fnExactLeastWithSumUptoCard : Claim7 := { stood := { row := fnExactLeastWithSumUptoRow, standIns := [], harness := (true, "496745e95cd1a67a34309387a6ff37ff4e80a2d624b1b5a6b173a34281086a2e"), looks := false }, kinds := [], alts := [], laidByText := true, laidKinds := [.data, .data, .data], laidTests := true, laidLooks := .later }
def FnExactLeastWithSumUptoCardSaid : Prop := Claim7.holds Tryd.pinned (.plain (OpenSpec.upto fnExactLeastWithSumSpec)) fnExactLeastWithSumUptoCard

/-- THE SECOND FORM's CARD OF 'laws.FnExactLeastOfDigits'. -/
def fnExactLeastOfDigitsUptoCard : Claim7 := { stood := { row := fnExactLeastOfDigitsUptoRow, standIns := [], harness := (true, "496745e95cd1a67a34309387a6ff37ff4e80a2d624b1b5a6b173a34281086a2e"), looks := false }, kinds := [], alts := [], laidByText := true, laidKinds := [.data, .data, .data], laidTests := true, laidLooks := .later }
def FnExactLeastOfDigitsUptoCardSaid : Prop := Claim7.holds Tryd.pinned (.plain (OpenSpec.upto fnExactLeastOfDigitsSpec)) fnExactLeastOfDigitsUptoCard

/-- THE SECOND FORM's CARD OF 'laws.FnExactGreatestOfDigits'. -/
def fnExactGreatestOfDigitsUptoCard : Claim7 := { stood := { row := fnExactGreatestOfDigitsUptoRow, standIns := [], harness := (true, "496745e95cd1a67a34309387a6ff37ff4e80a2d624b1b5a6b173a34281086a2e"), looks := false }, kinds := [], alts := [], laidByText := true, laidKinds := [.data, .data, .data], laidTests := true, laidLooks := .later }
def FnExactGreatestOfDigitsUptoCardSaid : Prop := Claim7.holds Tryd.pinned (.plain (OpenSpec.upto fnExactGreatestOfDigitsSpec)) fnExactGreatestOfDigitsUptoCard

/-- THE SECOND FORM's CARD OF 'laws.FnExactNextWithSum'. -/
def fnExactNextWithSumUptoCard : Claim7 := { stood := { row := fnExactNextWithSumUptoRow, standIns := [], harness := (true, "496745e95cd1a67a34309387a6ff37ff4e80a2d624b1b5a6b173a34281086a2e"), looks := false }, kinds := [], alts := [], laidByText := true, laidKinds := [.data, .data, .data], laidTests := true, laidLooks := .later }
def FnExactNextWithSumUptoCardSaid : Prop := Claim7.holds Tryd.pinned (.plain (OpenSpec.upto fnExactNextWithSumSpec)) fnExactNextWithSumUptoCard

/-- THE SECOND FORM's CARD OF 'laws.FnExactLastWithSum'. -/
def fnExactLastWithSumUptoCard : Claim7 := { stood := { row := fnExactLastWithSumUptoRow, standIns := [], harness := (true, "496745e95cd1a67a34309387a6ff37ff4e80a2d624b1b5a6b173a34281086a2e"), looks := false }, kinds := [], alts := [], laidByText := true, laidKinds := [.data, .data, .data], laidTests := true, laidLooks := .later }
def FnExactLastWithSumUptoCardSaid : Prop := Claim7.holds Tryd.pinned (.plain (OpenSpec.upto fnExactLastWithSumSpec)) fnExactLastWithSumUptoCard

/-- THE SECOND FORM's CARD OF 'laws.FnExactNextSameDigits'. -/
def fnExactNextSameDigitsUptoCard : Claim7 := { stood := { row := fnExactNextSameDigitsUptoRow, standIns := [], harness := (true, "496745e95cd1a67a34309387a6ff37ff4e80a2d624b1b5a6b173a34281086a2e"), looks := false }, kinds := [], alts := [], laidByText := true, laidKinds := [.data, .data, .data], laidTests := true, laidLooks := .later }
def FnExactNextSameDigitsUptoCardSaid : Prop := Claim7.holds Tryd.pinned (.plain (OpenSpec.upto fnExactNextSameDigitsSpec)) fnExactNextSameDigitsUptoCard

/-- THE SECOND FORM's CARD OF 'laws.FnExactLastSameDigits'. -/
def fnExactLastSameDigitsUptoCard : Claim7 := { stood := { row := fnExactLastSameDigitsUptoRow, standIns := [], harness := (true, "496745e95cd1a67a34309387a6ff37ff4e80a2d624b1b5a6b173a34281086a2e"), looks := false }, kinds := [], alts := [], laidByText := true, laidKinds := [.data, .data, .data], laidTests := true, laidLooks := .later }
def FnExactLastSameDigitsUptoCardSaid : Prop := Claim7.holds Tryd.pinned (.plain (OpenSpec.upto fnExactLastSameDigitsSpec)) fnExactLastSameDigitsUptoCard

/-- THE SECOND FORM's CARD OF 'laws.FnExactLeastSameDigits'. -/
def fnExactLeastSameDigitsUptoCard : Claim7 := { stood := { row := fnExactLeastSameDigitsUptoRow, standIns := [], harness := (true, "496745e95cd1a67a34309387a6ff37ff4e80a2d624b1b5a6b173a34281086a2e"), looks := false }, kinds := [], alts := [], laidByText := true, laidKinds := [.data, .data, .data], laidTests := true, laidLooks := .later }
def FnExactLeastSameDigitsUptoCardSaid : Prop := Claim7.holds Tryd.pinned (.plain (OpenSpec.upto fnExactLeastSameDigitsSpec)) fnExactLeastSameDigitsUptoCard

/-- THE SECOND FORM's CARD OF 'laws.FnExactGreatestSameDigits'. -/
def fnExactGreatestSameDigitsUptoCard : Claim7 := { stood := { row := fnExactGreatestSameDigitsUptoRow, standIns := [], harness := (true, "496745e95cd1a67a34309387a6ff37ff4e80a2d624b1b5a6b173a34281086a2e"), looks := false }, kinds := [], alts := [], laidByText := true, laidKinds := [.data, .data, .data], laidTests := true, laidLooks := .later }
def FnExactGreatestSameDigitsUptoCardSaid : Prop := Claim7.holds Tryd.pinned (.plain (OpenSpec.upto fnExactGreatestSameDigitsSpec)) fnExactGreatestSameDigitsUptoCard

/-- THE SECOND FORM's CARD OF 'laws.FnExactLeastWithProduct'. -/
def fnExactLeastWithProductUptoCard : Claim7 := { stood := { row := fnExactLeastWithProductUptoRow, standIns := [], harness := (true, "496745e95cd1a67a34309387a6ff37ff4e80a2d624b1b5a6b173a34281086a2e"), looks := false }, kinds := [], alts := [], laidByText := true, laidKinds := [.data, .data, .data], laidTests := true, laidLooks := .later }
def FnExactLeastWithProductUptoCardSaid : Prop := Claim7.holds Tryd.pinned (.plain (OpenSpec.upto fnExactLeastWithProductSpec)) fnExactLeastWithProductUptoCard

/-- THE SECOND FORM's CARD OF 'laws.FnExactProductOfDigits'. -/
def fnExactProductOfDigitsUptoCard : Claim7 := { stood := { row := fnExactProductOfDigitsUptoRow, standIns := [], harness := (true, "496745e95cd1a67a34309387a6ff37ff4e80a2d624b1b5a6b173a34281086a2e"), looks := false }, kinds := [], alts := [], laidByText := true, laidKinds := [.data, .data, .data], laidTests := true, laidLooks := .later }
def FnExactProductOfDigitsUptoCardSaid : Prop := Claim7.holds Tryd.pinned (.plain (OpenSpec.upto fnExactProductOfDigitsSpec)) fnExactProductOfDigitsUptoCard
end Rows
end Go.Proofs.YtghjpanabphbpaaDoor
