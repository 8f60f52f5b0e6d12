/-
  append of one number to a slice of the call's own.
-/
import Derived.Test.YtkeedoieadlbdabDoorSlice
import Derived.Maps.AppendAt
namespace Go.Proofs.YtkeedoieadlbdabDoor
open Go.RowKit

theorem Ints.alloc {B : Nat} {xs : List Int} {v : Value} {w : World} (h : Ints B xs v w) (o : Obj) : Ints B xs v (w.alloc o) := h.below ((Below.refl _ _).alloc (Nat.le_refl _) o)
end Go.Proofs.YtkeedoieadlbdabDoor
