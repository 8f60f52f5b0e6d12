/-
  DERIVED. GIVEN WITH THE SEED: THE CARDS: each row of YtaomcimmhlpflaaDoorRows.lean that lists a variable, with what it lists TIED to the program's text (the seventh form; the later family's looks); each row that meets fmt, with fmt's text TOLD by the authors' own Lean function (tested against real Go, not proved from fmt's source: count such statements apart). THE CARD IS WHAT COUNTS. Prove the row's statement (the work); the ties are given (YtaomcimmhlpflaaDoorTie.lean); close each card by the builder's one call (the guide's Derived/Test/ToyasCard.lean, 'card_holds'). Laid BY PROGRAM, IN A SANDBOX (cutbox-door.mjs). By AI agents, Wed Nov 11 2026. No macro, syntax, notation, axiom, sorry.
-/
import Derived.Test.YtaomcimmhlpflaaDoorRows
import GoSem.ClaimSeven
namespace Go.Proofs.YtaomcimmhlpflaaDoor
namespace Rows

/-- THE TIED CARD OF 'laws.FnExactBarSign'. -/
def fnExactBarSignCard : Claim7 := { stood := { row := fnExactBarSignRow, standIns := [], harness := (true, "7d999502bc139c1419e97d927eb4d7a8d223536485aa510d166a2bd232487518"), looks := false }, kinds := [], alts := [], laidByText := true, laidKinds := [.data, .pinned], laidTests := true, laidLooks := .later }
def FnExactBarSignCardSaid : Prop := Claim7.holds Tryd.pinned (.plain (OpenSpec.ofChange fnExactBarSignSpec)) fnExactBarSignCard

/-- THE TIED CARD OF 'laws.FnExactCountPlates'. -/
def fnExactCountPlatesCard : Claim7 := { stood := { row := fnExactCountPlatesRow, standIns := [], harness := (true, "7d999502bc139c1419e97d927eb4d7a8d223536485aa510d166a2bd232487518"), looks := false }, kinds := [], alts := [], laidByText := true, laidKinds := [.data, .pinned], laidTests := true, laidLooks := .later }
def FnExactCountPlatesCardSaid : Prop := Claim7.holds Tryd.pinned (.plain (OpenSpec.ofChange fnExactCountPlatesSpec)) fnExactCountPlatesCard

/-- THE TIED CARD OF 'laws.FnExactFirstPlate'. -/
def fnExactFirstPlateCard : Claim7 := { stood := { row := fnExactFirstPlateRow, standIns := [], harness := (true, "7d999502bc139c1419e97d927eb4d7a8d223536485aa510d166a2bd232487518"), looks := false }, kinds := [], alts := [], laidByText := true, laidKinds := [.data, .pinned], laidTests := true, laidLooks := .later }
def FnExactFirstPlateCardSaid : Prop := Claim7.holds Tryd.pinned (.plain (OpenSpec.ofChange fnExactFirstPlateSpec)) fnExactFirstPlateCard

/-- THE TIED CARD OF 'laws.FnExactRankOfPlate'. -/
def fnExactRankOfPlateCard : Claim7 := { stood := { row := fnExactRankOfPlateRow, standIns := [], harness := (true, "7d999502bc139c1419e97d927eb4d7a8d223536485aa510d166a2bd232487518"), looks := false }, kinds := [], alts := [], laidByText := true, laidKinds := [.data, .pinned], laidTests := true, laidLooks := .later }
def FnExactRankOfPlateCardSaid : Prop := Claim7.holds Tryd.pinned (.plain (OpenSpec.ofChange fnExactRankOfPlateSpec)) fnExactRankOfPlateCard

/-- THE TIED CARD OF 'laws.FnExactPlateOfRank'. -/
def fnExactPlateOfRankCard : Claim7 := { stood := { row := fnExactPlateOfRankRow, standIns := [], harness := (true, "7d999502bc139c1419e97d927eb4d7a8d223536485aa510d166a2bd232487518"), looks := false }, kinds := [], alts := [], laidByText := true, laidKinds := [.data, .pinned], laidTests := true, laidLooks := .later }
def FnExactPlateOfRankCardSaid : Prop := Claim7.holds Tryd.pinned (.plain (OpenSpec.ofChange fnExactPlateOfRankSpec)) fnExactPlateOfRankCard

/-- THE TIED CARD OF 'laws.FnExactPlatesBetween'. -/
def fnExactPlatesBetweenCard : Claim7 := { stood := { row := fnExactPlatesBetweenRow, standIns := [], harness := (true, "7d999502bc139c1419e97d927eb4d7a8d223536485aa510d166a2bd232487518"), looks := false }, kinds := [], alts := [], laidByText := true, laidKinds := [.data, .pinned], laidTests := true, laidLooks := .later }
def FnExactPlatesBetweenCardSaid : Prop := Claim7.holds Tryd.pinned (.plain (OpenSpec.ofChange fnExactPlatesBetweenSpec)) fnExactPlatesBetweenCard

/-- THE TIED CARD OF 'laws.FnExactCountBeginning'. -/
def fnExactCountBeginningCard : Claim7 := { stood := { row := fnExactCountBeginningRow, standIns := [], harness := (true, "7d999502bc139c1419e97d927eb4d7a8d223536485aa510d166a2bd232487518"), looks := false }, kinds := [], alts := [], laidByText := true, laidKinds := [.data, .pinned], laidTests := true, laidLooks := .later }
def FnExactCountBeginningCardSaid : Prop := Claim7.holds Tryd.pinned (.plain (OpenSpec.ofChange fnExactCountBeginningSpec)) fnExactCountBeginningCard

/-- THE TIED CARD OF 'laws.FnExactCountSpoiled'. -/
def fnExactCountSpoiledCard : Claim7 := { stood := { row := fnExactCountSpoiledRow, standIns := [], harness := (true, "7d999502bc139c1419e97d927eb4d7a8d223536485aa510d166a2bd232487518"), looks := false }, kinds := [], alts := [], laidByText := true, laidKinds := [.data, .pinned], laidTests := true, laidLooks := .later }
def FnExactCountSpoiledCardSaid : Prop := Claim7.holds Tryd.pinned (.plain (OpenSpec.ofChange fnExactCountSpoiledSpec)) fnExactCountSpoiledCard

/-- THE SECOND FORM's CARD OF 'laws.FnExactBarSign'. -/
def fnExactBarSignUptoCard : Claim7 := { stood := { row := fnExactBarSignUptoRow, standIns := [], harness := (true, "7d999502bc139c1419e97d927eb4d7a8d223536485aa510d166a2bd232487518"), looks := false }, kinds := [], alts := [], laidByText := true, laidKinds := [.data, .pinned], laidTests := true, laidLooks := .later }
def FnExactBarSignUptoCardSaid : Prop := Claim7.holds Tryd.pinned (.plain (OpenSpec.upto fnExactBarSignSpec)) fnExactBarSignUptoCard

/-- THE SECOND FORM's CARD OF 'laws.FnExactCountPlates'. -/
def fnExactCountPlatesUptoCard : Claim7 := { stood := { row := fnExactCountPlatesUptoRow, standIns := [], harness := (true, "7d999502bc139c1419e97d927eb4d7a8d223536485aa510d166a2bd232487518"), looks := false }, kinds := [], alts := [], laidByText := true, laidKinds := [.data, .pinned], laidTests := true, laidLooks := .later }
def FnExactCountPlatesUptoCardSaid : Prop := Claim7.holds Tryd.pinned (.plain (OpenSpec.upto fnExactCountPlatesSpec)) fnExactCountPlatesUptoCard

/-- THE SECOND FORM's CARD OF 'laws.FnExactFirstPlate'. -/
def fnExactFirstPlateUptoCard : Claim7 := { stood := { row := fnExactFirstPlateUptoRow, standIns := [], harness := (true, "7d999502bc139c1419e97d927eb4d7a8d223536485aa510d166a2bd232487518"), looks := false }, kinds := [], alts := [], laidByText := true, laidKinds := [.data, .pinned], laidTests := true, laidLooks := .later }
def FnExactFirstPlateUptoCardSaid : Prop := Claim7.holds Tryd.pinned (.plain (OpenSpec.upto fnExactFirstPlateSpec)) fnExactFirstPlateUptoCard

/-- THE SECOND FORM's CARD OF 'laws.FnExactRankOfPlate'. -/
def fnExactRankOfPlateUptoCard : Claim7 := { stood := { row := fnExactRankOfPlateUptoRow, standIns := [], harness := (true, "7d999502bc139c1419e97d927eb4d7a8d223536485aa510d166a2bd232487518"), looks := false }, kinds := [], alts := [], laidByText := true, laidKinds := [.data, .pinned], laidTests := true, laidLooks := .later }
def FnExactRankOfPlateUptoCardSaid : Prop := Claim7.holds Tryd.pinned (.plain (OpenSpec.upto fnExactRankOfPlateSpec)) fnExactRankOfPlateUptoCard

/-- THE SECOND FORM's CARD OF 'laws.FnExactPlateOfRank'. -/
def fnExactPlateOfRankUptoCard : Claim7 := { stood := { row := fnExactPlateOfRankUptoRow, standIns := [], harness := (true, "7d999502bc139c1419e97d927eb4d7a8d223536485aa510d166a2bd232487518"), looks := false }, kinds := [], alts := [], laidByText := true, laidKinds := [.data, .pinned], laidTests := true, laidLooks := .later }
def FnExactPlateOfRankUptoCardSaid : Prop := Claim7.holds Tryd.pinned (.plain (OpenSpec.upto fnExactPlateOfRankSpec)) fnExactPlateOfRankUptoCard

/-- THE SECOND FORM's CARD OF 'laws.FnExactPlatesBetween'. -/
def fnExactPlatesBetweenUptoCard : Claim7 := { stood := { row := fnExactPlatesBetweenUptoRow, standIns := [], harness := (true, "7d999502bc139c1419e97d927eb4d7a8d223536485aa510d166a2bd232487518"), looks := false }, kinds := [], alts := [], laidByText := true, laidKinds := [.data, .pinned], laidTests := true, laidLooks := .later }
def FnExactPlatesBetweenUptoCardSaid : Prop := Claim7.holds Tryd.pinned (.plain (OpenSpec.upto fnExactPlatesBetweenSpec)) fnExactPlatesBetweenUptoCard

/-- THE SECOND FORM's CARD OF 'laws.FnExactCountBeginning'. -/
def fnExactCountBeginningUptoCard : Claim7 := { stood := { row := fnExactCountBeginningUptoRow, standIns := [], harness := (true, "7d999502bc139c1419e97d927eb4d7a8d223536485aa510d166a2bd232487518"), looks := false }, kinds := [], alts := [], laidByText := true, laidKinds := [.data, .pinned], laidTests := true, laidLooks := .later }
def FnExactCountBeginningUptoCardSaid : Prop := Claim7.holds Tryd.pinned (.plain (OpenSpec.upto fnExactCountBeginningSpec)) fnExactCountBeginningUptoCard

/-- THE SECOND FORM's CARD OF 'laws.FnExactCountSpoiled'. -/
def fnExactCountSpoiledUptoCard : Claim7 := { stood := { row := fnExactCountSpoiledUptoRow, standIns := [], harness := (true, "7d999502bc139c1419e97d927eb4d7a8d223536485aa510d166a2bd232487518"), looks := false }, kinds := [], alts := [], laidByText := true, laidKinds := [.data, .pinned], laidTests := true, laidLooks := .later }
def FnExactCountSpoiledUptoCardSaid : Prop := Claim7.holds Tryd.pinned (.plain (OpenSpec.upto fnExactCountSpoiledSpec)) fnExactCountSpoiledUptoCard
end Rows
end Go.Proofs.YtaomcimmhlpflaaDoor
