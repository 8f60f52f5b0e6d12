/-
  DERIVED. GIVEN WITH THE SEED: THE CARDS: each row of YtdjcgddcgjbboaaDoorRows.lean that lists a variable, with what it lists TIED to the program's text (the seventh form; the later family's looks); each row that meets fmt, with fmt's text TOLD by the authors' own Lean function (tested against real Go, not proved from fmt's source: count such statements apart). THE CARD IS WHAT COUNTS. Prove the row's statement (the work); the ties are given (YtdjcgddcgjbboaaDoorTie.lean); close each card by the builder's one call (the guide's Derived/Test/ToyasCard.lean, 'card_holds'). Laid BY PROGRAM, IN A SANDBOX (cutbox-door.mjs). By AI agents, Wed Nov 11 2026. No macro, syntax, notation, axiom, sorry.
-/
import Derived.Test.YtdjcgddcgjbboaaDoorRows
import GoSem.ClaimSeven
namespace Go.Proofs.YtdjcgddcgjbboaaDoor
namespace Rows

/-- THE TIED CARD OF 'laws.FnExactUntoldSingles'. -/
def fnExactUntoldSinglesCard : Claim7 := { stood := { row := fnExactUntoldSinglesRow, standIns := [], harness := (true, "1b32ccc36c9018358a264a9f7531f49f90a3df448ef04eb3db2cd420d8da315b"), looks := true }, kinds := [], alts := [], laidByText := true, laidKinds := [.data, .data, .data], laidTests := true, laidLooks := .later }
def FnExactUntoldSinglesCardSaid : Prop := Claim7.holds Tryd.pinned (.plain (OpenSpec.ofChange fnExactUntoldSinglesSpec)) fnExactUntoldSinglesCard

/-- THE TIED CARD OF 'laws.FnExactNearSound'. -/
def fnExactNearSoundCard : Claim7 := { stood := { row := fnExactNearSoundRow, standIns := [], harness := (true, "1b32ccc36c9018358a264a9f7531f49f90a3df448ef04eb3db2cd420d8da315b"), looks := true }, kinds := [], alts := [], laidByText := true, laidKinds := [.data, .data, .data], laidTests := true, laidLooks := .later }
def FnExactNearSoundCardSaid : Prop := Claim7.holds Tryd.pinned (.plain (OpenSpec.ofChange fnExactNearSoundSpec)) fnExactNearSoundCard

/-- THE TIED CARD OF 'laws.FnExactBestWeights'. -/
def fnExactBestWeightsCard : Claim7 := { stood := { row := fnExactBestWeightsRow, standIns := [], harness := (true, "1b32ccc36c9018358a264a9f7531f49f90a3df448ef04eb3db2cd420d8da315b"), looks := true }, kinds := [], alts := [], laidByText := true, laidKinds := [.data, .data, .data], laidTests := true, laidLooks := .later }
def FnExactBestWeightsCardSaid : Prop := Claim7.holds Tryd.pinned (.plain (OpenSpec.ofChange fnExactBestWeightsSpec)) fnExactBestWeightsCard

/-- THE TIED CARD OF 'laws.FnExactCheckText'. -/
def fnExactCheckTextCard : Claim7 := { stood := { row := fnExactCheckTextRow, standIns := [], harness := (true, "1b32ccc36c9018358a264a9f7531f49f90a3df448ef04eb3db2cd420d8da315b"), looks := true }, kinds := [], alts := [], laidByText := true, laidKinds := [.data, .data, .data], laidTests := true, laidLooks := .later }
def FnExactCheckTextCardSaid : Prop := Claim7.holds Tryd.pinned (.plain (OpenSpec.ofChange fnExactCheckTextSpec)) fnExactCheckTextCard

/-- THE TIED CARD OF 'laws.FnExactParseCheck'. -/
def fnExactParseCheckCard : Claim7 := { stood := { row := fnExactParseCheckRow, standIns := [], harness := (true, "1b32ccc36c9018358a264a9f7531f49f90a3df448ef04eb3db2cd420d8da315b"), looks := true }, kinds := [], alts := [], laidByText := true, laidKinds := [.data, .data, .data, .data, .sentinel, .sentinel, .pinned], laidTests := true, laidLooks := .later }
def FnExactParseCheckCardSaid : Prop := Claim7.holds Tryd.pinned (.plain (OpenSpec.ofChange fnExactParseCheckSpec)) fnExactParseCheckCard

/-- THE SECOND FORM's CARD OF 'laws.FnExactUntoldSingles'. -/
def fnExactUntoldSinglesUptoCard : Claim7 := { stood := { row := fnExactUntoldSinglesUptoRow, standIns := [], harness := (true, "1b32ccc36c9018358a264a9f7531f49f90a3df448ef04eb3db2cd420d8da315b"), looks := true }, kinds := [], alts := [], laidByText := true, laidKinds := [.data, .data, .data], laidTests := true, laidLooks := .later }
def FnExactUntoldSinglesUptoCardSaid : Prop := Claim7.holds Tryd.pinned (.plain (OpenSpec.upto fnExactUntoldSinglesSpec)) fnExactUntoldSinglesUptoCard

/-- THE SECOND FORM's CARD OF 'laws.FnExactNearSound'. -/
def fnExactNearSoundUptoCard : Claim7 := { stood := { row := fnExactNearSoundUptoRow, standIns := [], harness := (true, "1b32ccc36c9018358a264a9f7531f49f90a3df448ef04eb3db2cd420d8da315b"), looks := true }, kinds := [], alts := [], laidByText := true, laidKinds := [.data, .data, .data], laidTests := true, laidLooks := .later }
def FnExactNearSoundUptoCardSaid : Prop := Claim7.holds Tryd.pinned (.plain (OpenSpec.upto fnExactNearSoundSpec)) fnExactNearSoundUptoCard

/-- THE SECOND FORM's CARD OF 'laws.FnExactBestWeights'. -/
def fnExactBestWeightsUptoCard : Claim7 := { stood := { row := fnExactBestWeightsUptoRow, standIns := [], harness := (true, "1b32ccc36c9018358a264a9f7531f49f90a3df448ef04eb3db2cd420d8da315b"), looks := true }, kinds := [], alts := [], laidByText := true, laidKinds := [.data, .data, .data], laidTests := true, laidLooks := .later }
def FnExactBestWeightsUptoCardSaid : Prop := Claim7.holds Tryd.pinned (.plain (OpenSpec.upto fnExactBestWeightsSpec)) fnExactBestWeightsUptoCard

/-- THE SECOND FORM's CARD OF 'laws.FnExactCheckText'. -/
def fnExactCheckTextUptoCard : Claim7 := { stood := { row := fnExactCheckTextUptoRow, standIns := [], harness := (true, "1b32ccc36c9018358a264a9f7531f49f90a3df448ef04eb3db2cd420d8da315b"), looks := true }, kinds := [], alts := [], laidByText := true, laidKinds := [.data, .data, .data], laidTests := true, laidLooks := .later }
def FnExactCheckTextUptoCardSaid : Prop := Claim7.holds Tryd.pinned (.plain (OpenSpec.upto fnExactCheckTextSpec)) fnExactCheckTextUptoCard

/-- THE SECOND FORM's CARD OF 'laws.FnExactParseCheck'. -/
def fnExactParseCheckUptoCard : Claim7 := { stood := { row := fnExactParseCheckUptoRow, standIns := [], harness := (true, "1b32ccc36c9018358a264a9f7531f49f90a3df448ef04eb3db2cd420d8da315b"), looks := true }, kinds := [], alts := [], laidByText := true, laidKinds := [.data, .data, .data, .data, .sentinel, .sentinel, .pinned], laidTests := true, laidLooks := .later }
def FnExactParseCheckUptoCardSaid : Prop := Claim7.holds Tryd.pinned (.plain (OpenSpec.upto fnExactParseCheckSpec)) fnExactParseCheckUptoCard
end Rows
end Go.Proofs.YtdjcgddcgjbboaaDoor
