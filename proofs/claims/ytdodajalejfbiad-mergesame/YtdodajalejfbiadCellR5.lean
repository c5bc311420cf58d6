/-
  The closures of the laws of cells, and the comparison that calls them.
-/
import Derived.Test.YtdodajalejfbiadAsksMath
namespace Go.Proofs.Ytdodajalejfbiad
open Go.RowKit




end Go.Proofs.Ytdodajalejfbiad
