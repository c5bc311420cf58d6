/-
  The law WireFrames: its parts.
-/
import Derived.Test.YtlebbkbbmgmmjabFramesUn
import Derived.Test.YtlebbkbbmgmmjabLawTexts
namespace Go.Proofs.Ytlebbkbbmgmmjab
open Go.RowKit

theorem OwnB.take_get {w : World} {base : Nat} {us : List Value} {bb : List (List UInt8)} (h : OwnB w base us bb) : us.length = bb.length := h.length




end Go.Proofs.Ytlebbkbbmgmmjab
