/-
  DERIVED. GIVEN WITH THE SEED: THE CARDS: each row of YtdgdjgefjhkpbaaDoorRows.lean that lists a variable, with what it lists TIED to the program's text (the seventh form; the later family's looks); each row that meets fmt, with fmt's text TOLD by the authors' own Lean function (tested against real Go, not proved from fmt's source: count such statements apart). THE CARD IS WHAT COUNTS. Prove the row's statement (the work); the ties are given (YtdgdjgefjhkpbaaDoorTie.lean); close each card by the builder's one call (the guide's Derived/Test/ToyasCard.lean, 'card_holds'). Laid BY PROGRAM, IN A SANDBOX (cutbox-door.mjs). By AI agents, Wed Nov 11 2026. No macro, syntax, notation, axiom, sorry.
-/
import Derived.Test.YtdgdjgefjhkpbaaDoorRows
import GoSem.ClaimSeven
namespace Go.Proofs.YtdgdjgefjhkpbaaDoor
namespace Rows

/-- THE TIED CARD OF 'laws.FnExactDigitAtPlace'. -/
def fnExactDigitAtPlaceCard : Claim7 := { stood := { row := fnExactDigitAtPlaceRow, standIns := [], harness := (true, "16ca3b1c927b5afd0460e43db85a29d43a1cffc1e88be3b2f1d8b986ecf8c44b"), looks := false }, kinds := [], alts := [], laidByText := true, laidKinds := [.data, .data, .data], laidTests := true, laidLooks := .later }
def FnExactDigitAtPlaceCardSaid : Prop := Claim7.holds Tryd.pinned (.plain (OpenSpec.ofChange fnExactDigitAtPlaceSpec)) fnExactDigitAtPlaceCard

/-- THE TIED CARD OF 'laws.FnExactDigitSum'. -/
def fnExactDigitSumCard : Claim7 := { stood := { row := fnExactDigitSumRow, standIns := [], harness := (true, "16ca3b1c927b5afd0460e43db85a29d43a1cffc1e88be3b2f1d8b986ecf8c44b"), looks := false }, kinds := [], alts := [], laidByText := true, laidKinds := [.data, .data, .data], laidTests := true, laidLooks := .later }
def FnExactDigitSumCardSaid : Prop := Claim7.holds Tryd.pinned (.plain (OpenSpec.ofChange fnExactDigitSumSpec)) fnExactDigitSumCard

/-- THE TIED CARD OF 'laws.FnExactDigitRoot'. -/
def fnExactDigitRootCard : Claim7 := { stood := { row := fnExactDigitRootRow, standIns := [], harness := (true, "16ca3b1c927b5afd0460e43db85a29d43a1cffc1e88be3b2f1d8b986ecf8c44b"), looks := false }, kinds := [], alts := [], laidByText := true, laidKinds := [.data, .data, .data], laidTests := true, laidLooks := .later }
def FnExactDigitRootCardSaid : Prop := Claim7.holds Tryd.pinned (.plain (OpenSpec.ofChange fnExactDigitRootSpec)) fnExactDigitRootCard

/-- THE TIED CARD OF 'laws.FnExactDigitProduct'. -/
def fnExactDigitProductCard : Claim7 := { stood := { row := fnExactDigitProductRow, standIns := [], harness := (true, "16ca3b1c927b5afd0460e43db85a29d43a1cffc1e88be3b2f1d8b986ecf8c44b"), looks := false }, kinds := [], alts := [], laidByText := true, laidKinds := [.data, .data, .data], laidTests := true, laidLooks := .later }
def FnExactDigitProductCardSaid : Prop := Claim7.holds Tryd.pinned (.plain (OpenSpec.ofChange fnExactDigitProductSpec)) fnExactDigitProductCard

/-- THE TIED CARD OF 'laws.FnExactProductEnd'. -/
def fnExactProductEndCard : Claim7 := { stood := { row := fnExactProductEndRow, standIns := [], harness := (true, "16ca3b1c927b5afd0460e43db85a29d43a1cffc1e88be3b2f1d8b986ecf8c44b"), looks := false }, kinds := [], alts := [], laidByText := true, laidKinds := [.data, .data, .data], laidTests := true, laidLooks := .later }
def FnExactProductEndCardSaid : Prop := Claim7.holds Tryd.pinned (.plain (OpenSpec.ofChange fnExactProductEndSpec)) fnExactProductEndCard

/-- THE SECOND FORM's CARD OF 'laws.FnExactDigitAtPlace'. -/
def fnExactDigitAtPlaceUptoCard : Claim7 := { stood := { row := fnExactDigitAtPlaceUptoRow, standIns := [], harness := (true, "16ca3b1c927b5afd0460e43db85a29d43a1cffc1e88be3b2f1d8b986ecf8c44b"), looks := false }, kinds := [], alts := [], laidByText := true, laidKinds := [.data, .data, .data], laidTests := true, laidLooks := .later }
def FnExactDigitAtPlaceUptoCardSaid : Prop := Claim7.holds Tryd.pinned (.plain (OpenSpec.upto fnExactDigitAtPlaceSpec)) fnExactDigitAtPlaceUptoCard

/-- THE SECOND FORM's CARD OF 'laws.FnExactDigitSum'. -/
def fnExactDigitSumUptoCard : Claim7 := { stood := { row := fnExactDigitSumUptoRow, standIns := [], harness := (true, "16ca3b1c927b5afd0460e43db85a29d43a1cffc1e88be3b2f1d8b986ecf8c44b"), looks := false }, kinds := [], alts := [], laidByText := true, laidKinds := [.data, .data, .data], laidTests := true, laidLooks := .later }
def FnExactDigitSumUptoCardSaid : Prop := Claim7.holds Tryd.pinned (.plain (OpenSpec.upto fnExactDigitSumSpec)) fnExactDigitSumUptoCard

/-- THE SECOND FORM's CARD OF 'laws.FnExactDigitRoot'. -/
def fnExactDigitRootUptoCard : Claim7 := { stood := { row := fnExactDigitRootUptoRow, standIns := [], harness := (true, "16ca3b1c927b5afd0460e43db85a29d43a1cffc1e88be3b2f1d8b986ecf8c44b"), looks := false }, kinds := [], alts := [], laidByText := true, laidKinds := [.data, .data, .data], laidTests := true, laidLooks := .later }
def FnExactDigitRootUptoCardSaid : Prop := Claim7.holds Tryd.pinned (.plain (OpenSpec.upto fnExactDigitRootSpec)) fnExactDigitRootUptoCard

/-- THE SECOND FORM's CARD OF 'laws.FnExactDigitProduct'. -/
def fnExactDigitProductUptoCard : Claim7 := { stood := { row := fnExactDigitProductUptoRow, standIns := [], harness := (true, "16ca3b1c927b5afd0460e43db85a29d43a1cffc1e88be3b2f1d8b986ecf8c44b"), looks := false }, kinds := [], alts := [], laidByText := true, laidKinds := [.data, .data, .data], laidTests := true, laidLooks := .later }
def FnExactDigitProductUptoCardSaid : Prop := Claim7.holds Tryd.pinned (.plain (OpenSpec.upto fnExactDigitProductSpec)) fnExactDigitProductUptoCard

/-- THE SECOND FORM's CARD OF 'laws.FnExactProductEnd'. -/
def fnExactProductEndUptoCard : Claim7 := { stood := { row := fnExactProductEndUptoRow, standIns := [], harness := (true, "16ca3b1c927b5afd0460e43db85a29d43a1cffc1e88be3b2f1d8b986ecf8c44b"), looks := false }, kinds := [], alts := [], laidByText := true, laidKinds := [.data, .data, .data], laidTests := true, laidLooks := .later }
def FnExactProductEndUptoCardSaid : Prop := Claim7.holds Tryd.pinned (.plain (OpenSpec.upto fnExactProductEndSpec)) fnExactProductEndUptoCard
end Rows
end Go.Proofs.YtdgdjgefjhkpbaaDoor
