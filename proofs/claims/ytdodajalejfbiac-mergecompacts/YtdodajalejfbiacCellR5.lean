/-
  The closures of the laws of cells, and the comparison that calls them.
-/
import Derived.Test.YtdodajalejfbiacAsksMath
namespace Go.Proofs.Ytdodajalejfbiac
open Go.RowKit




end Go.Proofs.Ytdodajalejfbiac
