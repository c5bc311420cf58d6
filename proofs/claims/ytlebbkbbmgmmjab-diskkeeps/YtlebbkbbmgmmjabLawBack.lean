/-
  The law WireBack: its walk.
-/
import Derived.Test.YtlebbkbbmgmmjabWireMath2
import Derived.Test.YtlebbkbbmgmmjabRefW1
import Derived.Deep.DeepCutAuto
namespace Go.Proofs.Ytlebbkbbmgmmjab
open Go.RowKit

theorem Rd.lit (w : World) (cs : Array Value) (e : TypeId) (h : cs.size ≤ 1000) : Rd (w.alloc (.cells cs e)) (.slice (some ⟨w.heap.size, 0, none⟩) cs.size cs.size) cs.toList :=
  Rd.ofOwns (World.ownsRow_lit (base := 0) (size := 1) w cs cs.size (Nat.zero_le _) (by simp [maxLen]; omega) (by simp))


/-- The variable f of the law: a block of its own. -/
def Fv (w : World) (F : Nat) : Prop := ∃ x y, w.heap[F]? = some (.cells #[x, y] 29 (0, 0))
theorem Fv.facts {w : World} {F : Nat} (h : Fv w F) : ∃ x y, w.cell? ⟨F, 0, none⟩ = some x ∧ w.cell? ⟨F, 1, none⟩ = some y ∧ w.frozen? ⟨F, 0, none⟩ = false ∧ w.frozen? ⟨F, 1, none⟩ = false ∧ F < w.heap.size := by
  obtain ⟨x, y, h⟩ := h
  refine ⟨x, y, ?_, ?_, frozen_of_row _ _ _ _ _ h, frozen_of_row _ _ _ _ _ h, (Array.getElem?_eq_some_iff.1 h).1⟩
  · rw [cell_of_row _ _ _ _ _ _ h]; rfl
  · rw [cell_of_row _ _ _ _ _ _ h]; rfl

theorem Fv.below {w w' : World} {F : Nat} (h : Fv w F) (hb : Below w.heap.size w w') : Fv w' F := by
  obtain ⟨x, y, h⟩ := h
  exact ⟨x, y, by rw [hb.block _ (Array.getElem?_eq_some_iff.1 h).1]; exact h⟩

theorem Fv.set {w : World} {F : Nat} (h : Fv w F) (u v : Value) : Fv ((w.setCell ⟨F, 0, none⟩ u).setCell ⟨F, 1, none⟩ v) F := by
  obtain ⟨x, y, h⟩ := h
  refine ⟨u, v, ?_⟩
  rw [heap_setCell_same _ F 1 #[u, y] _ v]
  · rfl
  · rw [heap_setCell_same _ F 0 _ _ u h]
    rfl

theorem Fv.new (w : World) (x y : Value) : Fv (w.alloc (.cells #[x, y] 29)) w.heap.size := ⟨x, y, heap_alloc_new _ _⟩


end Go.Proofs.Ytlebbkbbmgmmjab
