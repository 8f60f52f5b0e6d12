/-
  The law's own helpers over schemes: their size, copies, comparison.
-/
import Derived.Test.YtkeedoieadlbdabDoorPlLeaf
namespace Go.Proofs.YtkeedoieadlbdabDoor
open Go.RowKit

end Go.Proofs.YtkeedoieadlbdabDoor
