/-
  DERIVED. GIVEN WITH THE SEED: THE CARDS: each row of YtapeohnjjmokkaaDoorRows.lean that lists a variable, with what it lists TIED to the program's text (the seventh form; the later family's looks); each row that meets fmt, with fmt's text TOLD by the authors' own Lean function (tested against real Go, not proved from fmt's source: count such statements apart). THE CARD IS WHAT COUNTS. Prove the row's statement (the work); the ties are given (YtapeohnjjmokkaaDoorTie.lean); close each card by the builder's one call (the guide's Derived/Test/ToyasCard.lean, 'card_holds'). Laid BY PROGRAM, IN A SANDBOX (cutbox-door.mjs). By AI agents, Wed Nov 11 2026. No macro, syntax, notation, axiom, sorry.
-/
import Derived.Test.YtapeohnjjmokkaaDoorRows
import GoSem.ClaimSeven
namespace Go.Proofs.YtapeohnjjmokkaaDoor
namespace Rows

/-- THE TIED CARD OF 'laws.FnExactFirstLuckyOf'. -/
def fnExactFirstLuckyOfCard : Claim7 := { stood := { row := fnExactFirstLuckyOfRow, standIns := [], harness := (true, "608192fcffb829150dd0f3c574d88e62abfe57b99468b72756bebce7c8d5791a"), looks := false }, kinds := [], alts := [], laidByText := true, laidKinds := [.data, .data, .data], laidTests := true, laidLooks := .later }
def FnExactFirstLuckyOfCardSaid : Prop := Claim7.holds Tryd.pinned (.plain (OpenSpec.ofChange fnExactFirstLuckyOfSpec)) fnExactFirstLuckyOfCard

/-- THE SECOND FORM's CARD OF 'laws.FnExactFirstLuckyOf'. -/
def fnExactFirstLuckyOfUptoCard : Claim7 := { stood := { row := fnExactFirstLuckyOfUptoRow, standIns := [], harness := (true, "608192fcffb829150dd0f3c574d88e62abfe57b99468b72756bebce7c8d5791a"), looks := false }, kinds := [], alts := [], laidByText := true, laidKinds := [.data, .data, .data], laidTests := true, laidLooks := .later }
def FnExactFirstLuckyOfUptoCardSaid : Prop := Claim7.holds Tryd.pinned (.plain (OpenSpec.upto fnExactFirstLuckyOfSpec)) fnExactFirstLuckyOfUptoCard
end Rows
end Go.Proofs.YtapeohnjjmokkaaDoor
