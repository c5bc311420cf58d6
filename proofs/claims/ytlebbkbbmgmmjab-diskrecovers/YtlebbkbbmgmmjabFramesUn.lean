/-
  The walk over the document's reading of frames.
-/
import Derived.Test.YtlebbkbbmgmmjabFramesRef
import Derived.Test.YtlebbkbbmgmmjabRefT
namespace Go.Proofs.Ytlebbkbbmgmmjab
open Go.RowKit

theorem owns_none {w w' : World} {base : Nat} {e : TypeId} {size : Nat} {v : Value} {n : Nat} {xs : List Value} (h : w.ownsRow base e size v n xs) (hg : w.grownBy w' none) : w'.ownsRow base e size v n xs := by
  refine h.kept hg ?_
  cases hv : v.ownBlock with
  | none => exact .inl rfl
  | some k => right; simp

theorem OwnB.drewN {w : World} {base : Nat} {us : List Value} {bb : List (List UInt8)} (h : OwnB w base us bb) (n : Nat) : OwnB (w.drewN n) base us bb := OwnB.keep (w := w) (w' := w.drewN n) (fun _ _ _ h => h) h
theorem OwnB.drew {w : World} {base : Nat} {us : List Value} {bb : List (List UInt8)} (h : OwnB w base us bb) : OwnB w.drew base us bb := OwnB.keep (w := w) (w' := w.drew) (fun _ _ _ h => h) h


end Go.Proofs.Ytlebbkbbmgmmjab
