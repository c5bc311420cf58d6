/-
  The walks over package wire's readers of lists.
-/
import Derived.Test.YtdiflcodpnjljabWireW2
namespace Go.Proofs.Ytdiflcodpnjljab
open Go.RowKit


end Go.Proofs.Ytdiflcodpnjljab
