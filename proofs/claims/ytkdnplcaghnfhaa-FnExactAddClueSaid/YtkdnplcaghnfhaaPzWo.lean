/-
  Clues without one: model and program.
-/
import Derived.Test.YtkdnplcaghnfhaaPzCut
namespace Go.Proofs.Ytkdnplcaghnfhaa
open Go.RowKit Go.Deep
set_option maxRecDepth 100000

theorem take_cut (cs : List Cl) (k : Nat) : (cs.drop 0).take (k - 0) = cs.take k := by simp
theorem drop_cut (cs : List Cl) (k : Nat) : (cs.drop k).take (cs.length - k) = cs.drop k := List.take_of_length_le (by simp)
end Go.Proofs.Ytkdnplcaghnfhaa
