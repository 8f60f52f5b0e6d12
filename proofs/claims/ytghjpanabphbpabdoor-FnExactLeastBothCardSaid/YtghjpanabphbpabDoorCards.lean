/-
  DERIVED. GIVEN WITH THE SEED: THE CARDS: each row of YtghjpanabphbpabDoorRows.lean that lists a variable, with what it lists TIED to the program's text (the seventh form; the later family's looks); each row that meets fmt, with fmt's text TOLD by the authors' own Lean function (tested against real Go, not proved from fmt's source: count such statements apart). THE CARD IS WHAT COUNTS. Prove the row's statement (the work); the ties are given (YtghjpanabphbpabDoorTie.lean); close each card by the builder's one call (the guide's Derived/Test/ToyasCard.lean, 'card_holds'). Laid BY PROGRAM, IN A SANDBOX (cutbox-door.mjs). By AI agents, Wed Nov 11 2026. No macro, syntax, notation, axiom, sorry.
-/
import Derived.Test.YtghjpanabphbpabDoorRows
import GoSem.ClaimSeven
namespace Go.Proofs.YtghjpanabphbpabDoor
namespace Rows

/-- THE TIED CARD OF 'laws.FnExactProductSteps'. -/
def fnExactProductStepsCard : Claim7 := { stood := { row := fnExactProductStepsRow, standIns := [], harness := (true, "8529ebabd9fe1cb817f2e668ced96ce4e299688a3d8e27ff673a8027f7181366"), looks := false }, kinds := [], alts := [], laidByText := true, laidKinds := [.data, .data, .data], laidTests := true, laidLooks := .later }
def FnExactProductStepsCardSaid : Prop := Claim7.holds Tryd.pinned (.plain (OpenSpec.ofChange fnExactProductStepsSpec)) fnExactProductStepsCard

/-- THE TIED CARD OF 'laws.FnExactLeastBoth'. -/
def fnExactLeastBothCard : Claim7 := { stood := { row := fnExactLeastBothRow, standIns := [], harness := (true, "8529ebabd9fe1cb817f2e668ced96ce4e299688a3d8e27ff673a8027f7181366"), looks := false }, kinds := [], alts := [], laidByText := true, laidKinds := [.data, .data, .data], laidTests := true, laidLooks := .later }
def FnExactLeastBothCardSaid : Prop := Claim7.holds Tryd.pinned (.plain (OpenSpec.ofChange fnExactLeastBothSpec)) fnExactLeastBothCard

/-- THE TIED CARD OF 'laws.FnExactSumDivides'. -/
def fnExactSumDividesCard : Claim7 := { stood := { row := fnExactSumDividesRow, standIns := [], harness := (true, "8529ebabd9fe1cb817f2e668ced96ce4e299688a3d8e27ff673a8027f7181366"), looks := false }, kinds := [], alts := [], laidByText := true, laidKinds := [.data, .data, .data], laidTests := true, laidLooks := .later }
def FnExactSumDividesCardSaid : Prop := Claim7.holds Tryd.pinned (.plain (OpenSpec.ofChange fnExactSumDividesSpec)) fnExactSumDividesCard

/-- THE TIED CARD OF 'laws.FnExactNextOfSum'. -/
def fnExactNextOfSumCard : Claim7 := { stood := { row := fnExactNextOfSumRow, standIns := [], harness := (true, "8529ebabd9fe1cb817f2e668ced96ce4e299688a3d8e27ff673a8027f7181366"), looks := false }, kinds := [], alts := [], laidByText := true, laidKinds := [.data, .data, .data], laidTests := true, laidLooks := .later }
def FnExactNextOfSumCardSaid : Prop := Claim7.holds Tryd.pinned (.plain (OpenSpec.ofChange fnExactNextOfSumSpec)) fnExactNextOfSumCard

/-- THE SECOND FORM's CARD OF 'laws.FnExactProductSteps'. -/
def fnExactProductStepsUptoCard : Claim7 := { stood := { row := fnExactProductStepsUptoRow, standIns := [], harness := (true, "8529ebabd9fe1cb817f2e668ced96ce4e299688a3d8e27ff673a8027f7181366"), looks := false }, kinds := [], alts := [], laidByText := true, laidKinds := [.data, .data, .data], laidTests := true, laidLooks := .later }
def FnExactProductStepsUptoCardSaid : Prop := Claim7.holds Tryd.pinned (.plain (OpenSpec.upto fnExactProductStepsSpec)) fnExactProductStepsUptoCard

/-- THE SECOND FORM's CARD OF 'laws.FnExactLeastBoth'. -/
def fnExactLeastBothUptoCard : Claim7 := { stood := { row := fnExactLeastBothUptoRow, standIns := [], harness := (true, "8529ebabd9fe1cb817f2e668ced96ce4e299688a3d8e27ff673a8027f7181366"), looks := false }, kinds := [], alts := [], laidByText := true, laidKinds := [.data, .data, .data], laidTests := true, laidLooks := .later }
def FnExactLeastBothUptoCardSaid : Prop := Claim7.holds Tryd.pinned (.plain (OpenSpec.upto fnExactLeastBothSpec)) fnExactLeastBothUptoCard

/-- THE SECOND FORM's CARD OF 'laws.FnExactSumDivides'. -/
def fnExactSumDividesUptoCard : Claim7 := { stood := { row := fnExactSumDividesUptoRow, standIns := [], harness := (true, "8529ebabd9fe1cb817f2e668ced96ce4e299688a3d8e27ff673a8027f7181366"), looks := false }, kinds := [], alts := [], laidByText := true, laidKinds := [.data, .data, .data], laidTests := true, laidLooks := .later }
def FnExactSumDividesUptoCardSaid : Prop := Claim7.holds Tryd.pinned (.plain (OpenSpec.upto fnExactSumDividesSpec)) fnExactSumDividesUptoCard

/-- THE SECOND FORM's CARD OF 'laws.FnExactNextOfSum'. -/
def fnExactNextOfSumUptoCard : Claim7 := { stood := { row := fnExactNextOfSumUptoRow, standIns := [], harness := (true, "8529ebabd9fe1cb817f2e668ced96ce4e299688a3d8e27ff673a8027f7181366"), looks := false }, kinds := [], alts := [], laidByText := true, laidKinds := [.data, .data, .data], laidTests := true, laidLooks := .later }
def FnExactNextOfSumUptoCardSaid : Prop := Claim7.holds Tryd.pinned (.plain (OpenSpec.upto fnExactNextOfSumSpec)) fnExactNextOfSumUptoCard
end Rows
end Go.Proofs.YtghjpanabphbpabDoor
