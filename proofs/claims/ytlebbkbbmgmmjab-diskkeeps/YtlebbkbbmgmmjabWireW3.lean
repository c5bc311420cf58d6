/-
  The walks over package wire's readers of lists.
-/
import Derived.Test.YtlebbkbbmgmmjabWireW2
namespace Go.Proofs.Ytlebbkbbmgmmjab
open Go.RowKit


end Go.Proofs.Ytlebbkbbmgmmjab
