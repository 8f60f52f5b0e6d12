/-
  Readings: which kind a letter tells; ranks, and the reading of a rank.
-/
import Derived.Test.YtlkeemnnncnibabMiIm5
import Derived.Test.YtlkeemnnncnibabMiKd
namespace Go.Proofs.Ytlkeemnnncnibab
open Go.RowKit

end Go.Proofs.Ytlkeemnnncnibab
