/-
  The walks over what cell.Sort calls: copies, two lists made one.
-/
import Derived.Test.YtlebbkbbmgmmjacCellW6
import Derived.Test.YtlebbkbbmgmmjacSortMath
namespace Go.Proofs.Ytlebbkbbmgmmjac
open Go.RowKit



theorem RdC.from {w : World} {ao : Option Addr} {n cap lo : Nat} {cs : List Cl} (h : RdC w (.slice ao n cap) cs) (h1 : lo ≤ n) : RdC w (Go.sliced ao lo n cap 5) (cs.drop lo) := by
  obtain ⟨ao', cap', hv, h2, h3, h4, h5⟩ := h
  simp only [Value.slice.injEq] at hv
  obtain ⟨rfl, rfl, rfl⟩ := hv
  refine ⟨_, cap - lo, by rw [List.length_drop]; rfl, by rw [List.length_drop]; omega, by omega, ?_, ?_⟩
  · intro hn
    split at hn
    · omega
    · rw [Option.map_eq_none_iff] at hn
      have := h4 hn
      omega
  · intro a ha j u hu
    split at ha
    · rename_i hz
      have hj := (List.getElem?_eq_some_iff.1 hu).1
      rw [cc_length, List.length_drop] at hj
      omega
    · obtain ⟨a0, e0, rfl⟩ := Option.map_eq_some_iff.1 ha
      rw [← cc_drop, List.getElem?_drop] at hu
      have hl := (List.getElem?_eq_some_iff.1 hu).1
      have h0 := h5 a0 e0 0 (cc cs)[0] (by simp)
      obtain ⟨b, o, rfl⟩ := add_spot h0
      have := h5 _ e0 (lo * 5 + j) u hu
      simp only [Addr.add_lit] at this ⊢
      rw [Nat.add_assoc]
      exact this

end Go.Proofs.Ytlebbkbbmgmmjac
