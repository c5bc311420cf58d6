/-
  The closures of the laws of cells, and the comparison that calls them.
-/
import Derived.Test.YtdddhgelmcmppadAsksMath
namespace Go.Proofs.Ytdddhgelmcmppad
open Go.RowKit




end Go.Proofs.Ytdddhgelmcmppad
