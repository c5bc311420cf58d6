/-
  What each function of package disk comes to, as the law DiskDoes asks.
-/
import Derived.Test.YtlebbkbbmgmmjaaDoesRef3
namespace Go.Proofs.Ytlebbkbbmgmmjaa
open Go.RowKit

theorem app_c {bs ys b1 : List UInt8} {k k1 c1 chk : Int} (h : appendR bs k ys = (b1, k1, c1)) (hc : checkR bs k = chk) :
    (chk ≠ 0 → c1 = chk) ∧ (chk = 0 → 60000 < bs.length + ys.length → c1 = 9) ∧ (chk = 0 → ¬ 60000 < bs.length + ys.length → c1 = 0) ∧ (c1 ≠ 0 → b1 = [] ∧ k1 = 0) ∧ (c1 = 0 → chk = 0 ∧ b1 = bs ++ ys ∧ k1 = k ∧ bs.length + ys.length ≤ 60000) := by
  by_cases h0 : checkR bs k = 0
  · by_cases h2 : 60000 < bs.length + ys.length
    · rw [appendR_much h0 h2] at h
      simp only [Prod.mk.injEq] at h
      obtain ⟨rfl, rfl, rfl⟩ := h
      rw [h0] at hc
      subst hc
      refine ⟨by simp, by simp, fun _ h => absurd h2 h, by simp, by simp⟩
    · rw [appendR_ok h0 h2] at h
      simp only [Prod.mk.injEq] at h
      obtain ⟨rfl, rfl, rfl⟩ := h
      rw [h0] at hc
      subst hc
      refine ⟨by simp, fun _ h => absurd h h2, by simp, by simp, fun _ => ⟨rfl, rfl, rfl, by omega⟩⟩
  · rw [appendR_bad h0] at h
    simp only [Prod.mk.injEq] at h
    obtain ⟨rfl, rfl, rfl⟩ := h
    subst hc
    exact ⟨fun _ => rfl, fun h => absurd h h0, fun h => absurd h h0, fun _ => ⟨rfl, rfl⟩, fun h => absurd h h0⟩

theorem sync_c {bs b2 : List UInt8} {k k2 c2 a2 chk : Int} (h : trimR bs k bs.length = (b2, k2, c2, a2)) (hc : checkR bs k = chk) :
    c2 = chk ∧ a2 = 0 ∧ (chk ≠ 0 → b2 = [] ∧ k2 = 0) ∧ (chk = 0 → b2 = bs ∧ k2 = (bs.length : Int)) := by
  by_cases h0 : checkR bs k = 0
  · rw [trimR_all h0] at h
    simp only [Prod.mk.injEq] at h
    obtain ⟨rfl, rfl, rfl, rfl⟩ := h
    rw [h0] at hc
    exact ⟨hc, rfl, fun h => absurd hc.symm h, fun _ => ⟨rfl, rfl⟩⟩
  · rw [trimR_bad h0] at h
    simp only [Prod.mk.injEq] at h
    obtain ⟨rfl, rfl, rfl, rfl⟩ := h
    exact ⟨hc, rfl, fun _ => ⟨rfl, rfl⟩, fun h => absurd (hc.trans h) h0⟩

theorem trim_c {bs b4 : List UInt8} {k n k4 c4 a4 chk : Int} (h : trimR bs k n = (b4, k4, c4, a4)) (hc : checkR bs k = chk) :
    (chk ≠ 0 → c4 = chk ∧ a4 = 0) ∧ (chk = 0 → n < 0 ∨ (bs.length : Int) < n → c4 = 3 ∧ a4 = -1) ∧ (chk = 0 → ¬ (n < 0 ∨ (bs.length : Int) < n) → c4 = 0 ∧ a4 = 0) ∧ (c4 ≠ 0 → b4 = [] ∧ k4 = 0) ∧ (c4 = 0 → chk = 0 ∧ ¬ (n < 0 ∨ (bs.length : Int) < n) ∧ b4 = bs.take n.toNat ∧ k4 = n) := by
  by_cases h0 : checkR bs k = 0
  · rw [h0] at hc
    by_cases h2 : n < 0 ∨ (bs.length : Int) < n
    · rw [trimR_out h0 h2] at h
      simp only [Prod.mk.injEq] at h
      obtain ⟨rfl, rfl, rfl, rfl⟩ := h
      exact ⟨fun h => absurd hc.symm h, fun _ _ => ⟨rfl, rfl⟩, fun _ h => absurd h2 h, fun _ => ⟨rfl, rfl⟩, fun h => by cases h⟩
    · rw [trimR, if_neg (by omega), if_neg h2] at h
      simp only [Prod.mk.injEq] at h
      obtain ⟨rfl, rfl, rfl, rfl⟩ := h
      exact ⟨fun h => absurd hc.symm h, fun _ h => absurd h h2, fun _ _ => ⟨rfl, rfl⟩, fun h => absurd rfl h, fun _ => ⟨hc.symm, h2, rfl, rfl⟩⟩
  · rw [trimR_bad h0] at h
    simp only [Prod.mk.injEq] at h
    obtain ⟨rfl, rfl, rfl, rfl⟩ := h
    subst hc
    exact ⟨fun _ => ⟨rfl, rfl⟩, fun h => absurd h h0, fun h => absurd h h0, fun _ => ⟨rfl, rfl⟩, fun h => absurd h h0⟩

theorem crash_c {bs b3 : List UInt8} {k n k3 c3 a3 chk : Int} (h : crashR bs k n = (b3, k3, c3, a3)) (hc : checkR bs k = chk) :
    (chk ≠ 0 → c3 = chk ∧ a3 = 0) ∧ (chk = 0 → n < 0 ∨ (bs.length : Int) - k < n → c3 = 3 ∧ a3 = -1) ∧ (chk = 0 → ¬ (n < 0 ∨ (bs.length : Int) - k < n) → c3 = 0 ∧ a3 = 0) ∧ (c3 ≠ 0 → b3 = [] ∧ k3 = 0) ∧ (c3 = 0 → chk = 0 ∧ ¬ (n < 0 ∨ (bs.length : Int) - k < n) ∧ b3 = bs.take (k + n).toNat ∧ k3 = k + n) := by
  by_cases h0 : checkR bs k = 0
  · rw [h0] at hc
    by_cases h2 : n < 0 ∨ (bs.length : Int) - k < n
    · rw [crashR_out h0 h2] at h
      simp only [Prod.mk.injEq] at h
      obtain ⟨rfl, rfl, rfl, rfl⟩ := h
      exact ⟨fun h => absurd hc.symm h, fun _ _ => ⟨rfl, rfl⟩, fun _ h => absurd h2 h, fun _ => ⟨rfl, rfl⟩, fun h => by cases h⟩
    · rw [crashR, if_neg (by omega), if_neg h2] at h
      simp only [Prod.mk.injEq] at h
      obtain ⟨rfl, rfl, rfl, rfl⟩ := h
      exact ⟨fun h => absurd hc.symm h, fun _ h => absurd h h2, fun _ _ => ⟨rfl, rfl⟩, fun h => absurd rfl h, fun _ => ⟨hc.symm, h2, rfl, rfl⟩⟩
  · rw [crashR_bad h0] at h
    simp only [Prod.mk.injEq] at h
    obtain ⟨rfl, rfl, rfl, rfl⟩ := h
    subst hc
    exact ⟨fun _ => ⟨rfl, rfl⟩, fun h => absurd h h0, fun h => absurd h h0, fun _ => ⟨rfl, rfl⟩, fun h => absurd h h0⟩

theorem rec_c {bs b5 : List UInt8} {l5 : List (List UInt8)} {k k5 c5 chk : Int} (h : recoverR bs k = (b5, k5, l5, c5)) (hc : checkR bs k = chk) :
    (chk ≠ 0 → c5 = chk ∧ l5 = []) ∧ (chk = 0 → 1000 < (unGo (bs.length + 1) bs [] 0).1.length → c5 = 2 ∧ l5 = []) ∧ (chk = 0 → ¬ 1000 < (unGo (bs.length + 1) bs [] 0).1.length → c5 = 0 ∧ l5 = (unGo (bs.length + 1) bs [] 0).1) ∧
    (c5 ≠ 0 → b5 = [] ∧ k5 = 0) ∧ (c5 = 0 → chk = 0 ∧ (unGo (bs.length + 1) bs [] 0).2 ≤ bs.length ∧ b5 = bs.take (unGo (bs.length + 1) bs [] 0).2 ∧ k5 = ((unGo (bs.length + 1) bs [] 0).2 : Int)) := by
  by_cases h0 : checkR bs k = 0
  · have hz := checkR_zero h0
    have hun := openR_un (bs := bs) (by omega)
    rw [h0] at hc
    by_cases h2 : 1000 < (unGo (bs.length + 1) bs [] 0).1.length
    · rw [if_pos h2] at hun
      rw [recoverR_out h0 (by rw [hun]; decide), hun] at h
      simp only [Prod.mk.injEq] at h
      obtain ⟨rfl, rfl, rfl, rfl⟩ := h
      exact ⟨fun h => absurd hc.symm h, fun _ _ => ⟨rfl, rfl⟩, fun _ h => absurd h2 h, fun _ => ⟨rfl, rfl⟩, fun h => by cases h⟩
    · rw [if_neg h2] at hun
      have hle := openR_le (bs := bs) (by rw [hun])
      rw [recoverR_ok h0 (by rw [hun]), hun] at h
      rw [hun] at hle
      simp only [Prod.mk.injEq, Int.toNat_natCast] at h hle
      obtain ⟨rfl, rfl, rfl, rfl⟩ := h
      exact ⟨fun h => absurd hc.symm h, fun _ h => absurd h h2, fun _ _ => ⟨rfl, rfl⟩, fun h => absurd rfl h, fun _ => ⟨hc.symm, by omega, rfl, rfl⟩⟩
  · rw [recoverR_bad h0] at h
    simp only [Prod.mk.injEq] at h
    obtain ⟨rfl, rfl, rfl, rfl⟩ := h
    subst hc
    exact ⟨fun _ => ⟨rfl, rfl⟩, fun h => absurd h h0, fun h => absurd h h0, fun _ => ⟨rfl, rfl⟩, fun h => absurd h h0⟩

end Go.Proofs.Ytlebbkbbmgmmjaa
