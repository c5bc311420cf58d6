/-
  The walks over package wire's readers of lists.
-/
import Derived.Test.YtkhdphhnhlmdjabWireW2
namespace Go.Proofs.Ytkhdphhnhlmdjab
open Go.RowKit


end Go.Proofs.Ytkhdphhnhlmdjab
