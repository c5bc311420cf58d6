/-
  The walks over cell.merged and cell.Sort.
-/
import Derived.Test.YtlebbkbbmgmmjadCellS3
namespace Go.Proofs.Ytlebbkbbmgmmjad
open Go.RowKit

theorem RdL.part {w : World} {ao : Option Addr} {n cap h : Nat} {ls : List (List Cl)} (hr : RdL w (.slice ao n cap) ls) (hh : h ≤ n) :
    RdL w (Go.sliced ao 0 h cap 1) (ls.take h) ∧ RdL w (Go.sliced ao h n cap 1) (ls.drop h) := by
  obtain ⟨vs, h1, h2, h3, h4⟩ := hr
  refine ⟨⟨vs.take h, h1.upto hh, by simp [h2], fun u hu => h3 u (List.mem_of_mem_take hu), fun i u l hu hl => ?_⟩, ⟨vs.drop h, h1.from hh, by simp [h2], fun u hu => h3 u (List.mem_of_mem_drop hu), fun i u l hu hl => ?_⟩⟩
  · rw [List.getElem?_take] at hu hl
    split at hu
    · rename_i hi
      rw [if_pos hi] at hl
      exact h4 i u l hu hl
    · cases hu
  · rw [List.getElem?_drop] at hu hl
    exact h4 _ u l hu hl

theorem RdL.below {w w' : World} {v : Value} {ls : List (List Cl)} (h : RdL w v ls) (hb : Below w.heap.size w w') : RdL w' v ls := by
  obtain ⟨vs, h1, h2, h3, h4⟩ := h
  exact ⟨vs, h1.below hb, h2, h3, fun i u l hu hl => (h4 i u l hu hl).below hb⟩

theorem RdL.shape {w : World} {v : Value} {ls : List (List Cl)} (h : RdL w v ls) : ∃ ao cap, v = .slice ao ls.length cap ∧ ls.length ≤ cap ∧ cap ≤ maxLen := by
  obtain ⟨vs, h1, h2, h3, h4⟩ := h
  obtain ⟨ao, cap, hv, h5, h6⟩ := h1.shape
  rw [h2] at hv h5
  exact ⟨ao, cap, hv, h5, h6⟩


/-- The faults that Sort tells. -/
def sortF (cs : List Cl) : Int × Int := faultR (fun i => codeC (cs.getD i zeroC)) cs.length


end Go.Proofs.Ytlebbkbbmgmmjad
