/-
  The closures of the laws of cells, and the comparison that calls them.
-/
import Derived.Test.YtlebbkbbmgmmjacAsksMath
namespace Go.Proofs.Ytlebbkbbmgmmjac
open Go.RowKit




end Go.Proofs.Ytlebbkbbmgmmjac
