/-
  The walks over package wire's readers of lists.
-/
import Derived.Test.YtdddhgelmcmppabWireW2
namespace Go.Proofs.Ytdddhgelmcmppab
open Go.RowKit


end Go.Proofs.Ytdddhgelmcmppab
