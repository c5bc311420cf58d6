/-
  The walks over package wire's readers of lists.
-/
import Derived.Test.YtoelolomojnidabWireW2
namespace Go.Proofs.Ytoelolomojnidab
open Go.RowKit


end Go.Proofs.Ytoelolomojnidab
