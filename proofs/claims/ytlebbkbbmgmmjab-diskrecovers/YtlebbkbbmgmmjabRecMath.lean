/-
  The mathematics of the law DiskRecovers.
-/
import Derived.Test.YtlebbkbbmgmmjabKeepsMath
namespace Go.Proofs.Ytlebbkbbmgmmjab
open Go.RowKit

theorem flatF_mono (l : List (List UInt8)) (a b : Nat) (h : a ≤ b) : (flatF (l.take a)).length ≤ (flatF (l.take b)).length := by
  have e : l.take a = (l.take b).take a := by rw [List.take_take, Nat.min_eq_left h]
  rw [e]
  conv => rhs; rw [flatF_split (l.take b) a]
  rw [List.length_append]
  omega

theorem flatF_next (l : List (List UInt8)) (k : Nat) (h : k < l.length) : (flatF (l.take (k + 1))).length = (flatF (l.take k)).length + l[k].length + 6 := by
  rw [flatF_snoc l k h, List.length_append, framed_length]
  omega

/-- How many frames are whole in the first t bytes. -/
theorem whole_k : ∀ (l : List (List UInt8)) (t : Nat), ∃ k, k ≤ l.length ∧ (flatF (l.take k)).length ≤ t ∧ ∀ h : k < l.length, t < (flatF (l.take k)).length + l[k].length + 6
  | [], t => ⟨0, by simp, by simp [flatF], fun h => by simp at h⟩
  | b :: l, t => by
    by_cases hb : t < b.length + 6
    · exact ⟨0, by simp, by simp [flatF], fun h => by simp [flatF]; omega⟩
    · obtain ⟨k, h1, h2, h3⟩ := whole_k l (t - (b.length + 6))
      refine ⟨k + 1, by simp; omega, ?_, fun h => ?_⟩
      · rw [List.take_succ_cons, flatF_cons, List.length_append, framed_length]; omega
      · rw [List.take_succ_cons, flatF_cons, List.length_append, framed_length]
        have := h3 (by simpa using h)
        simp only [List.getElem_cons_succ]
        omega

theorem whole_ge {l : List (List UInt8)} {t k s : Nat} (hk : k ≤ l.length) (hs : s ≤ l.length) (hend : ∀ h : k < l.length, t < (flatF (l.take k)).length + l[k].length + 6) (hst : (flatF (l.take s)).length ≤ t) : s ≤ k := by
  rcases Nat.lt_or_ge k s with h | h
  · have h1 := flatF_next l k (by omega)
    have h2 := flatF_mono l (k + 1) s (by omega)
    have h3 := hend (by omega)
    omega
  · exact h

theorem checkR_full {bs : List UInt8} (h : bs.length ≤ 60000) : checkR bs (bs.length : Int) = 0 := checkR_ok (by omega) (by omega) (by omega)

theorem frameAt_nil : frameAt [] = none := frameAt_short (by simp)

/-- Recover of what a Crash left. -/
theorem recover_cut (l : List (List UInt8)) (t k : Nat) (hl : l.length ≤ 1000) (hs : (flatF l).length ≤ 60000) (ht : t ≤ (flatF l).length) (hk : k ≤ l.length) (hn : (flatF (l.take k)).length ≤ t)
    (hend : ∀ h : k < l.length, t < (flatF (l.take k)).length + l[k].length + 6) :
    recoverR ((flatF l).take t) (t : Int) = (flatF (l.take k), ((flatF (l.take k)).length : Int), l.take k, 0) := by
  have hto := torn_cut l t k hl hs ht hk hn hend
  have hlen : ((flatF l).take t).length = t := by rw [List.length_take]; omega
  have hc : checkR ((flatF l).take t) (t : Int) = 0 := by
    have := checkR_full (bs := (flatF l).take t) (by omega)
    rwa [hlen] at this
  rw [recoverR_ok hc (by rw [hto]), hto]
  simp only [Int.toNat_natCast, Prod.mk.injEq, and_true]
  rw [List.take_take, Nat.min_eq_left hn]
  conv => lhs; rw [flatF_split l k]
  rw [List.take_left]

/-- Recover of whole frames. -/
theorem recover_whole (l : List (List UInt8)) (hl : l.length ≤ 1000) (hs : (flatF l).length ≤ 60000) :
    recoverR (flatF l) ((flatF l).length : Int) = (flatF l, ((flatF l).length : Int), l, 0) := by
  have h := recover_cut l (flatF l).length l.length hl hs (Nat.le_refl _) (Nat.le_refl _) (by rw [List.take_length]; exact Nat.le_refl _) (fun h => by omega)
  rwa [List.take_length, List.take_length] at h

/-- How many bytes are kept ahead of frame j. -/
def keptAt (l : List (List UInt8)) (s j : Nat) : Nat := if s < j then (flatF (l.take s)).length else 0
theorem keptAt_le (l : List (List UInt8)) (s j : Nat) : keptAt l s j ≤ (flatF (l.take j)).length := by
  unfold keptAt
  split
  · exact flatF_mono l s j (by omega)
  · omega

end Go.Proofs.Ytlebbkbbmgmmjab
