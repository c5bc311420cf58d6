/-
  The law WireFrames: its walk.
-/
import Derived.Test.YtlebbkbbmgmmjabLawFrames1
namespace Go.Proofs.Ytlebbkbbmgmmjab
open Go.RowKit

theorem flatF_length : ∀ (l : List (List UInt8)), (flatF l).length = lsum l + 6 * l.length
  | [] => rfl
  | b :: l => by
    rw [flatF_cons, List.length_append, framed_length, flatF_length l]
    simp only [lsum, List.length_cons]
    omega

theorem openR_big {bs : List UInt8} (h : 60000 < bs.length) : openR bs = ([], 0, 8) := by rw [openR, if_pos h]
theorem openR_un {bs : List UInt8} (h : ¬ 60000 < bs.length) : openR bs = if 1000 < (unGo (bs.length + 1) bs [] 0).1.length then ([], 0, 2) else ((unGo (bs.length + 1) bs [] 0).1, ((unGo (bs.length + 1) bs [] 0).2 : Int), 0) := by
  rw [openR, if_neg h]
  exact open_un _ _ _ _ (Nat.le_refl _) (by simp)

theorem RdBN.below {w w' : World} {B : Nat} {v : Value} {bb : List (List UInt8)} (h : RdBN w B v bb) (hb : Below w.heap.size w w') : RdBN w' B v bb := by
  obtain ⟨vs, h1, hn, h2, h3⟩ := h
  exact ⟨vs, h1.below hb, hn, h2, fun i u b hu hb' => ⟨(h3 i u b hu hb').1.below hb, (h3 i u b hu hb').2⟩⟩


end Go.Proofs.Ytlebbkbbmgmmjab
