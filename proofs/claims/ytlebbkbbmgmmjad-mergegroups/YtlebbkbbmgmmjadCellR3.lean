/-
  The walks over the document's answers of cells: what is seen.
-/
import Derived.Test.YtlebbkbbmgmmjadCellR2
namespace Go.Proofs.Ytlebbkbbmgmmjad
open Go.RowKit

/-- A place at a time. -/
def hitB (k : Ky) (t : Int) (c : Cl) : Bool := isAt k c && decide (c.time ≤ t)
/-- The cell that the document sees. -/
def seenR (cs : List Cl) (k : Ky) (t : Int) : Cl × Bool :=
  match cs.find? (hitB k t) with
  | none => (zeroC, false)
  | some c => if c.gone then (zeroC, false) else (c, true)

theorem find_snoc {p : Cl → Bool} {cs : List Cl} {k : Nat} {c : Cl} (hc : cs[k]? = some c) (h : (cs.take k).find? p = none) (hp : p c = false) : (cs.take (k + 1)).find? p = none := by
  rw [List.take_add_one, hc, List.find?_append, h]
  simp [hp]

theorem find_now {p : Cl → Bool} {cs : List Cl} {k : Nat} {c : Cl} (hc : cs[k]? = some c) (h : (cs.take k).find? p = none) (hp : p c = true) : cs.find? p = some c := by
  obtain ⟨hk, e⟩ := List.getElem?_eq_some_iff.1 hc
  have : cs = cs.take k ++ c :: cs.drop (k + 1) := by rw [← e, ← List.drop_eq_getElem_cons hk, List.take_append_drop]
  rw [this, List.find?_append, h]
  simp [hp]

theorem hitB_later {cs : List Cl} (hp : cs.Pairwise Lt) {j k : Nat} {c d : Cl} (hj : cs[j]? = some d) (hk : cs[k]? = some c) (hjk : j < k) (hrc : rc c = rc d) : decide (d.time < c.time) = false := by
  obtain ⟨h1, e1⟩ := List.getElem?_eq_some_iff.1 hj
  obtain ⟨h2, e2⟩ := List.getElem?_eq_some_iff.1 hk
  have := List.pairwise_iff_getElem.1 hp j k h1 h2 hjk
  rw [e1, e2] at this
  rcases this with h | ⟨_, h⟩
  · exact absurd hrc.symm (kl_ne h)
  · simp; omega

theorem hit_cases (row col : ByteArray) (t : Int) (c : Cl) : hitB (row.toList, col.toList) t c = false ∧ (c.row.toList == row.toList) = false ∨ hitB (row.toList, col.toList) t c = false ∧ (c.row.toList == row.toList) = true ∧ (c.col.toList == col.toList) = false ∨ hitB (row.toList, col.toList) t c = false ∧ (c.row.toList == row.toList) = true ∧ (c.col.toList == col.toList) = true ∧ decide (c.time ≤ t) = false ∨ hitB (row.toList, col.toList) t c = true ∧ (c.row.toList == row.toList) = true ∧ (c.col.toList == col.toList) = true ∧ decide (c.time ≤ t) = true := by
  unfold hitB isAt
  cases (c.row.toList == row.toList) <;> cases (c.col.toList == col.toList) <;> cases decide (c.time ≤ t) <;> simp

theorem hitB_rc {k : Ky} {t : Int} {c : Cl} (h : hitB k t c = true) : rc c = k := by
  unfold hitB at h
  rw [Bool.and_eq_true] at h
  exact isAt_iff.1 h.1

theorem RdC.hereC {w : World} {ao : Option Addr} {n cap : Nat} {cs : List Cl} (h : RdC w (.slice ao n cap) cs) {i : Nat} {c : Cl} (hi : cs[i]? = some c) :
    ∃ b off, ao = some ⟨b, off, none⟩ ∧ b < w.heap.size ∧ At w b (off + i * 5) c := by
  obtain ⟨ao', cap', hv, _, _, hat⟩ := h.at
  simp only [Value.slice.injEq] at hv
  obtain ⟨rfl, _, _⟩ := hv
  obtain ⟨hl, e⟩ := List.getElem?_eq_some_iff.1 hi
  obtain ⟨b, off, ha, hb, hc⟩ := hat i hl
  exact ⟨b, off, ha, hb, e ▸ hc i hl⟩


end Go.Proofs.Ytlebbkbbmgmmjad
