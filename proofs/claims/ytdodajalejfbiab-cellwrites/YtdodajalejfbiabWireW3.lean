/-
  The walks over package wire's readers of lists.
-/
import Derived.Test.YtdodajalejfbiabWireW2
namespace Go.Proofs.Ytdodajalejfbiab
open Go.RowKit


end Go.Proofs.Ytdodajalejfbiab
