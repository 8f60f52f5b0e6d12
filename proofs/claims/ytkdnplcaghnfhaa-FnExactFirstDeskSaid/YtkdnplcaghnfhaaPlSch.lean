/-
  The law's own helpers over schemes: their size, copies, comparison.
-/
import Derived.Test.YtkdnplcaghnfhaaPlLeaf
namespace Go.Proofs.Ytkdnplcaghnfhaa
open Go.RowKit

end Go.Proofs.Ytkdnplcaghnfhaa
