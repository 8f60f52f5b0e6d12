/-
  DERIVED. GIVEN WITH THE SEED: THE CARDS: each row of YtleifibbdjplbaaDoorRows.lean that lists a variable, with what it lists TIED to the program's text (the seventh form; the later family's looks); each row that meets fmt, with fmt's text TOLD by the authors' own Lean function (tested against real Go, not proved from fmt's source: count such statements apart). THE CARD IS WHAT COUNTS. Prove the row's statement (the work); the ties are given (YtleifibbdjplbaaDoorTie.lean); close each card by the builder's one call (the guide's Derived/Test/ToyasCard.lean, 'card_holds'). Laid BY PROGRAM, IN A SANDBOX (cutbox-door.mjs). By AI agents, Wed Nov 11 2026. No macro, syntax, notation, axiom, sorry.
-/
import Derived.Test.YtleifibbdjplbaaDoorRows
import GoSem.ClaimSeven
namespace Go.Proofs.YtleifibbdjplbaaDoor
namespace Rows

/-- THE TIED CARD OF 'laws.FnExactCheckDigit'. -/
def fnExactCheckDigitCard : Claim7 := { stood := { row := fnExactCheckDigitRow, standIns := [], harness := (true, "18bae4b73bf42b68d7bcb31e287e48bffc3adc1dee45a13d1e1e89add39bc8b3"), looks := false }, kinds := [], alts := [], laidByText := true, laidKinds := [.data, .data, .data], laidTests := true, laidLooks := .later }
def FnExactCheckDigitCardSaid : Prop := Claim7.holds Tryd.pinned (.plain (OpenSpec.ofChange fnExactCheckDigitSpec)) fnExactCheckDigitCard

/-- THE TIED CARD OF 'laws.FnExactFirstSound'. -/
def fnExactFirstSoundCard : Claim7 := { stood := { row := fnExactFirstSoundRow, standIns := [], harness := (true, "18bae4b73bf42b68d7bcb31e287e48bffc3adc1dee45a13d1e1e89add39bc8b3"), looks := false }, kinds := [], alts := [], laidByText := true, laidKinds := [.data, .data, .data], laidTests := true, laidLooks := .later }
def FnExactFirstSoundCardSaid : Prop := Claim7.holds Tryd.pinned (.plain (OpenSpec.ofChange fnExactFirstSoundSpec)) fnExactFirstSoundCard

/-- THE TIED CARD OF 'laws.FnExactTellsSingle'. -/
def fnExactTellsSingleCard : Claim7 := { stood := { row := fnExactTellsSingleRow, standIns := [], harness := (true, "18bae4b73bf42b68d7bcb31e287e48bffc3adc1dee45a13d1e1e89add39bc8b3"), looks := false }, kinds := [], alts := [], laidByText := true, laidKinds := [.data, .data, .data], laidTests := true, laidLooks := .later }
def FnExactTellsSingleCardSaid : Prop := Claim7.holds Tryd.pinned (.plain (OpenSpec.ofChange fnExactTellsSingleSpec)) fnExactTellsSingleCard

/-- THE TIED CARD OF 'laws.FnExactUntoldSingles'. -/
def fnExactUntoldSinglesCard : Claim7 := { stood := { row := fnExactUntoldSinglesRow, standIns := [], harness := (true, "18bae4b73bf42b68d7bcb31e287e48bffc3adc1dee45a13d1e1e89add39bc8b3"), looks := false }, kinds := [], alts := [], laidByText := true, laidKinds := [.data, .data, .data], laidTests := true, laidLooks := .later }
def FnExactUntoldSinglesCardSaid : Prop := Claim7.holds Tryd.pinned (.plain (OpenSpec.ofChange fnExactUntoldSinglesSpec)) fnExactUntoldSinglesCard

/-- THE TIED CARD OF 'laws.FnExactFillUnread'. -/
def fnExactFillUnreadCard : Claim7 := { stood := { row := fnExactFillUnreadRow, standIns := [], harness := (true, "18bae4b73bf42b68d7bcb31e287e48bffc3adc1dee45a13d1e1e89add39bc8b3"), looks := false }, kinds := [], alts := [], laidByText := true, laidKinds := [.data, .data, .data], laidTests := true, laidLooks := .later }
def FnExactFillUnreadCardSaid : Prop := Claim7.holds Tryd.pinned (.plain (OpenSpec.ofChange fnExactFillUnreadSpec)) fnExactFillUnreadCard

/-- THE TIED CARD OF 'laws.FnExactNearSound'. -/
def fnExactNearSoundCard : Claim7 := { stood := { row := fnExactNearSoundRow, standIns := [], harness := (true, "18bae4b73bf42b68d7bcb31e287e48bffc3adc1dee45a13d1e1e89add39bc8b3"), looks := false }, kinds := [], alts := [], laidByText := true, laidKinds := [.data, .data, .data], laidTests := true, laidLooks := .later }
def FnExactNearSoundCardSaid : Prop := Claim7.holds Tryd.pinned (.plain (OpenSpec.ofChange fnExactNearSoundSpec)) fnExactNearSoundCard

/-- THE SECOND FORM's CARD OF 'laws.FnExactCheckDigit'. -/
def fnExactCheckDigitUptoCard : Claim7 := { stood := { row := fnExactCheckDigitUptoRow, standIns := [], harness := (true, "18bae4b73bf42b68d7bcb31e287e48bffc3adc1dee45a13d1e1e89add39bc8b3"), looks := false }, kinds := [], alts := [], laidByText := true, laidKinds := [.data, .data, .data], laidTests := true, laidLooks := .later }
def FnExactCheckDigitUptoCardSaid : Prop := Claim7.holds Tryd.pinned (.plain (OpenSpec.upto fnExactCheckDigitSpec)) fnExactCheckDigitUptoCard

/-- THE SECOND FORM's CARD OF 'laws.FnExactFirstSound'. -/
def fnExactFirstSoundUptoCard : Claim7 := { stood := { row := fnExactFirstSoundUptoRow, standIns := [], harness := (true, "18bae4b73bf42b68d7bcb31e287e48bffc3adc1dee45a13d1e1e89add39bc8b3"), looks := false }, kinds := [], alts := [], laidByText := true, laidKinds := [.data, .data, .data], laidTests := true, laidLooks := .later }
def FnExactFirstSoundUptoCardSaid : Prop := Claim7.holds Tryd.pinned (.plain (OpenSpec.upto fnExactFirstSoundSpec)) fnExactFirstSoundUptoCard

/-- THE SECOND FORM's CARD OF 'laws.FnExactTellsSingle'. -/
def fnExactTellsSingleUptoCard : Claim7 := { stood := { row := fnExactTellsSingleUptoRow, standIns := [], harness := (true, "18bae4b73bf42b68d7bcb31e287e48bffc3adc1dee45a13d1e1e89add39bc8b3"), looks := false }, kinds := [], alts := [], laidByText := true, laidKinds := [.data, .data, .data], laidTests := true, laidLooks := .later }
def FnExactTellsSingleUptoCardSaid : Prop := Claim7.holds Tryd.pinned (.plain (OpenSpec.upto fnExactTellsSingleSpec)) fnExactTellsSingleUptoCard

/-- THE SECOND FORM's CARD OF 'laws.FnExactUntoldSingles'. -/
def fnExactUntoldSinglesUptoCard : Claim7 := { stood := { row := fnExactUntoldSinglesUptoRow, standIns := [], harness := (true, "18bae4b73bf42b68d7bcb31e287e48bffc3adc1dee45a13d1e1e89add39bc8b3"), looks := false }, kinds := [], alts := [], laidByText := true, laidKinds := [.data, .data, .data], laidTests := true, laidLooks := .later }
def FnExactUntoldSinglesUptoCardSaid : Prop := Claim7.holds Tryd.pinned (.plain (OpenSpec.upto fnExactUntoldSinglesSpec)) fnExactUntoldSinglesUptoCard

/-- THE SECOND FORM's CARD OF 'laws.FnExactFillUnread'. -/
def fnExactFillUnreadUptoCard : Claim7 := { stood := { row := fnExactFillUnreadUptoRow, standIns := [], harness := (true, "18bae4b73bf42b68d7bcb31e287e48bffc3adc1dee45a13d1e1e89add39bc8b3"), looks := false }, kinds := [], alts := [], laidByText := true, laidKinds := [.data, .data, .data], laidTests := true, laidLooks := .later }
def FnExactFillUnreadUptoCardSaid : Prop := Claim7.holds Tryd.pinned (.plain (OpenSpec.upto fnExactFillUnreadSpec)) fnExactFillUnreadUptoCard

/-- THE SECOND FORM's CARD OF 'laws.FnExactNearSound'. -/
def fnExactNearSoundUptoCard : Claim7 := { stood := { row := fnExactNearSoundUptoRow, standIns := [], harness := (true, "18bae4b73bf42b68d7bcb31e287e48bffc3adc1dee45a13d1e1e89add39bc8b3"), looks := false }, kinds := [], alts := [], laidByText := true, laidKinds := [.data, .data, .data], laidTests := true, laidLooks := .later }
def FnExactNearSoundUptoCardSaid : Prop := Claim7.holds Tryd.pinned (.plain (OpenSpec.upto fnExactNearSoundSpec)) fnExactNearSoundUptoCard
end Rows
end Go.Proofs.YtleifibbdjplbaaDoor
