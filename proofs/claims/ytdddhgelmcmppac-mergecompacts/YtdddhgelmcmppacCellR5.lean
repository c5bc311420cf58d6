/-
  The closures of the laws of cells, and the comparison that calls them.
-/
import Derived.Test.YtdddhgelmcmppacAsksMath
namespace Go.Proofs.Ytdddhgelmcmppac
open Go.RowKit




end Go.Proofs.Ytdddhgelmcmppac
