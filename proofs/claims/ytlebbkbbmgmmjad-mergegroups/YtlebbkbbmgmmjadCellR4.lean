/-
  The walks over the document's answers of cells: scans.
-/
import Derived.Test.YtlebbkbbmgmmjadCellR3
import Derived.Test.YtlebbkbbmgmmjadScansMath
namespace Go.Proofs.Ytlebbkbbmgmmjad
open Go.RowKit

/-- What is wrong with an ask. -/
def askF (t m : Int) : Int × Int := if isNumB t = false then (3, -1) else if m < 0 ∨ 1000 < m then (3, -2) else (0, 0)


/-- Does the document's scan take this cell? -/
def takeB (cs : List Cl) (a b : ByteArray) (t : Int) (c : Cl) : Bool := askB a b c.row && ((seenR cs (rc c) t).2 && eqC (seenR cs (rc c) t).1 c)
/-- What the document scans. -/
def scannedR (cs : List Cl) (a b : ByteArray) (t m : Int) : List Cl := (cs.filter (takeB cs a b t)).take m.toNat

theorem filter_snoc {p : Cl → Bool} {cs : List Cl} {k : Nat} {c : Cl} (hc : cs[k]? = some c) : (cs.take (k + 1)).filter p = (cs.take k).filter p ++ if p c then [c] else [] := by
  rw [List.take_add_one, hc, List.filter_append]
  simp [List.filter_cons]

theorem scanned_end {cs : List Cl} {p : Cl → Bool} {k : Nat} {m : Int} (h : k = cs.length ∨ m ≤ ((cs.take k).filter p).length) (h2 : (((cs.take k).filter p).length : Int) ≤ m) : (cs.filter p).take m.toNat = (cs.take k).filter p := by
  have e : cs.filter p = (cs.take k).filter p ++ (cs.drop k).filter p := by rw [← List.filter_append, List.take_append_drop]
  rcases h with h | h
  · subst h
    rw [List.take_length] at h2 ⊢
    rw [List.take_of_length_le (by omega)]
  · rw [e, List.take_append, List.take_of_length_le (by omega), show m.toNat - ((cs.take k).filter p).length = 0 by omega, List.take_zero, List.append_nil]

theorem eqC_cases (d c : Cl) : eqC d c = true ∧ d = c ∨ eqC d c = false ∧ ((d.row.toList == c.row.toList) = false ∨ (d.row.toList == c.row.toList) = true ∧ (d.col.toList == c.col.toList) = false ∨ (d.row.toList == c.row.toList) = true ∧ (d.col.toList == c.col.toList) = true ∧ (d.time == c.time) = false ∨ (d.row.toList == c.row.toList) = true ∧ (d.col.toList == c.col.toList) = true ∧ (d.time == c.time) = true ∧ (d.gone == c.gone) = false ∨ (d.row.toList == c.row.toList) = true ∧ (d.col.toList == c.col.toList) = true ∧ (d.time == c.time) = true ∧ (d.gone == c.gone) = true ∧ (d.val.toList == c.val.toList) = false) := by
  cases h : eqC d c
  · right
    refine ⟨rfl, ?_⟩
    unfold eqC at h
    revert h
    cases (d.row.toList == c.row.toList) <;> cases (d.col.toList == c.col.toList) <;> cases h3 : (d.time == c.time) <;> cases (d.gone == c.gone) <;> cases (d.val.toList == c.val.toList) <;> simp_all
  · exact .inl ⟨rfl, eqC_iff.1 h⟩


end Go.Proofs.Ytlebbkbbmgmmjad
