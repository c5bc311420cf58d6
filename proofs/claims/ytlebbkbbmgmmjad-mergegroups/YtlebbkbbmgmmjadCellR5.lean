/-
  The closures of the laws of cells, and the comparison that calls them.
-/
import Derived.Test.YtlebbkbbmgmmjadAsksMath
namespace Go.Proofs.Ytlebbkbbmgmmjad
open Go.RowKit




end Go.Proofs.Ytlebbkbbmgmmjad
