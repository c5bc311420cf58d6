/-
  The walk over cell.Get.
-/
import Derived.Test.YtlebbkbbmgmmjadCellW4
namespace Go.Proofs.Ytlebbkbbmgmmjad
open Go.RowKit

theorem firstG_zero (f : Nat → Int) : ∀ (m i : Nat), (firstG f m i).1 = 0 → firstG f m i = (0, 0)
  | 0, _, _ => rfl
  | m + 1, i, h => by
    by_cases h0 : f i = 0
    · simp only [firstG, h0, ne_eq, not_true_eq_false, if_false] at h ⊢
      exact firstG_zero f m (i + 1) h
    · simp [firstG, h0] at h

theorem faultR_zero {f : Nat → Int} {n : Nat} (h : (faultR f n).1 = 0) : faultR f n = (0, 0) := by
  unfold faultR at h ⊢
  split at h
  · simp at h
  · rename_i hn
    rw [if_neg hn]
    exact firstG_zero f _ _ h

theorem checkC_zero {cs : List Cl} (h : (checkC cs).1 = 0) : checkC cs = (0, 0) := faultR_zero h

theorem firstG_fine {f : Nat → Int} : ∀ {m i : Nat}, (firstG f m i).1 = 0 → ∀ j, i ≤ j → j < i + m → f j = 0
  | 0, _, _, j, h1, h2 => by omega
  | m + 1, i, h, j, h1, h2 => by
    by_cases h0 : f i = 0
    · simp only [firstG, h0, ne_eq, not_true_eq_false, if_false] at h
      by_cases hj : j = i
      · rw [hj]; exact h0
      · exact firstG_fine h j (by omega) (by omega)
    · simp [firstG, h0] at h

theorem faultR_fine {f : Nat → Int} {n : Nat} (h : (faultR f n).1 = 0) : n ≤ 1000 ∧ ∀ j, j < n → f j = 0 := by
  unfold faultR at h
  split at h
  · simp at h
  · exact ⟨by omega, fun j hj => firstG_fine h j (by omega) (by omega)⟩

/-- What Get finds, behind one that hides. -/
def getGo (t : Int) (row col : ByteArray) : Cl → List Cl → ByteArray × Bool
  | _, [] => (⟨#[]⟩, false)
  | nw, c :: r => if seenB t nw c && (c.row.toList == row.toList) && (c.col.toList == col.toList) then (c.val, true) else getGo t row col (nextN t nw c) r

/-- What Get answers. -/
def getC (cs : List Cl) (row col : ByteArray) (t : Int) : ByteArray × Bool × (Int × Int) :=
  if (checkC cs).1 ≠ 0 then (⟨#[]⟩, false, checkC cs) else if isNumB t = false then (⟨#[]⟩, false, (3, -1)) else ((getGo t row col zeroC cs).1, (getGo t row col zeroC cs).2, (0, 0))

theorem getC_bad {cs : List Cl} {row col : ByteArray} {t : Int} (h : (checkC cs).1 ≠ 0) : getC cs row col t = (⟨#[]⟩, false, checkC cs) := by rw [getC, if_pos h]
theorem getC_range {cs : List Cl} {row col : ByteArray} {t : Int} (h : (checkC cs).1 = 0) (h2 : isNumB t = false) : getC cs row col t = (⟨#[]⟩, false, (3, -1)) := by rw [getC, if_neg (by omega), if_pos h2]
theorem getC_ok {cs : List Cl} {row col : ByteArray} {t : Int} (h : (checkC cs).1 = 0) (h2 : isNumB t = true) : getC cs row col t = ((getGo t row col zeroC cs).1, (getGo t row col zeroC cs).2, (0, 0)) := by rw [getC, if_neg (by omega), if_neg (by rw [h2]; decide)]

theorem getGo_hit {t : Int} {row col : ByteArray} {nw c : Cl} {r : List Cl} (h1 : seenB t nw c = true) (h2 : (c.row.toList == row.toList) = true) (h3 : (c.col.toList == col.toList) = true) : getGo t row col nw (c :: r) = (c.val, true) := by
  simp only [getGo, h1, h2, h3, Bool.and_self, if_true]

theorem getGo_miss {t : Int} {row col : ByteArray} {nw c : Cl} {r : List Cl} (h : (seenB t nw c && (c.row.toList == row.toList) && (c.col.toList == col.toList)) = false) : getGo t row col nw (c :: r) = getGo t row col (nextN t nw c) r := by
  simp only [getGo, h, Bool.false_eq_true, if_false]

theorem drop_consC {cs : List Cl} {k : Nat} (h : k < cs.length) : cs.drop k = cs[k] :: cs.drop (k + 1) := List.drop_eq_getElem_cons h


end Go.Proofs.Ytlebbkbbmgmmjad
