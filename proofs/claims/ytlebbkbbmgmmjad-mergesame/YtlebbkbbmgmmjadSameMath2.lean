/-
  Plain maths of the law MergeSame.
-/
import Derived.Test.YtlebbkbbmgmmjadSameMath
import Derived.Test.YtlebbkbbmgmmjadMergeW13
namespace Go.Proofs.Ytlebbkbbmgmmjad
open Go.RowKit

theorem Fin'.join {ls : List (List Cl)} (h : ∀ l ∈ ls, (checkC l).1 = 0) : Fin' (joinR ls) :=
  ⟨joinR_pw fun l hl => fine_pw (h l hl), joinR_code h⟩

theorem Fin'.check {L : List Cl} (h : Fin' L) (hl : L.length ≤ 1000) : checkC L = (0, 0) := checkC_ok hl h.code h.pw

theorem scan_vis {a b : ByteArray} {t m : Int} {L M : List Cl} (h : vis t L = vis t M) : scanGo a b t m zeroC L [] = scanGo a b t m zeroC M [] := by
  rw [scanGo_eq, scanGo_eq]
  have : visGo t zeroC L = visGo t zeroC M := h
  rw [this]

/-- What MergeSame says. -/
theorem sames {ls : List (List Cl)} {t0 : Int} {wh : Bool} (h : (cmpR ls t0 wh).2.1 = 0) :
    ∃ C, cmpR ls t0 wh = (C, (0, 0)) ∧ cmpR [C] t0 wh = (C, (0, 0)) ∧ (∀ a b t m, t0 ≤ t → mscR [C] a b t m = mscR ls a b t m ∧ (mscR ls a b t m).2 = askFV t m) ∧
      (∀ os a b t m, wh = false → t0 ≤ t → (lfR os).1 = 0 → ls.length + os.length ≤ 19 → (askFV t m).1 = 0 → mscR ([C] ++ os) a b t m = mscR (ls ++ os) a b t m ∧ (mscR (ls ++ os) a b t m).2 = (0, 0)) := by
  have hj : (jnR ls).2.1 = 0 := by
    by_cases h1 : (jnR ls).2.1 = 0
    · exact h1
    · rw [cmpR_bad h1] at h; exact h
  obtain ⟨hl, hlen, hjn⟩ := jnR_zero hj
  have hn : isNumB t0 = true := by
    cases hn : isNumB t0
    · rw [cmpR_range hj hn] at h; simp at h
    · rfl
  obtain ⟨_, hl20, hf⟩ := lfR_zero hl
  have fJ := Fin'.join hf
  have fC := fJ.ofComp t0 wh
  have hCl : (compGo t0 wh zeroC (joinR ls)).length ≤ 1000 := Nat.le_trans (compGo_sub t0 wh _ zeroC).length_le hlen
  have ckC := fC.check hCl
  have hlC : lfR [compGo t0 wh zeroC (joinR ls)] = (0, 0) := lfR_ok (by simp) (by intro l hl; simp at hl; rw [hl, ckC])
  have hjC : jnR [compGo t0 wh zeroC (joinR ls)] = (compGo t0 wh zeroC (joinR ls), (0, 0)) := by
    have e : joinR [compGo t0 wh zeroC (joinR ls)] = compGo t0 wh zeroC (joinR ls) := by simp [joinR, mrg]
    rw [jnR_ok (by rw [hlC]) (by rw [e]; exact hCl), e]
  refine ⟨compGo t0 wh zeroC (joinR ls), by rw [cmpR_ok hj hn, hjn], by rw [cmpR_ok (by rw [hjC]) hn, hjC]; simp only; rw [comp_comp fJ], fun a b t m ht => ?_, fun os a b t m hw ht hos hcnt hask => ?_⟩
  · by_cases ha : (askFV t m).1 = 0
    · obtain ⟨ha0, _⟩ := askFV_zero ha
      rw [mscR_ok (by rw [hlC]) ha, mscR_ok hl ha]
      refine ⟨?_, ha0.symm⟩
      have e : joinR [compGo t0 wh zeroC (joinR ls)] = compGo t0 wh zeroC (joinR ls) := by simp [joinR, mrg]
      rw [e, scan_vis (comp_vis fJ wh ht)]
    · rw [mscR_ask (by rw [hlC]) ha, mscR_ask hl ha]
      exact ⟨rfl, rfl⟩
  · subst hw
    obtain ⟨_, _, hfo⟩ := lfR_zero hos
    have fO := Fin'.join hfo
    have pl : ∀ l ∈ ls, l.Pairwise Lt := fun l hl => fine_pw (hf l hl)
    have po : ∀ l ∈ os, l.Pairwise Lt := fun l hl => fine_pw (hfo l hl)
    have l1 : lfR (ls ++ os) = (0, 0) := lfR_ok (by simp; omega) (by
      intro l hl
      rcases List.mem_append.1 hl with k | k
      · exact hf l k
      · exact hfo l k)
    have l2 : lfR ([compGo t0 false zeroC (joinR ls)] ++ os) = (0, 0) := lfR_ok (by simp; omega) (by
      intro l hl
      rcases List.mem_append.1 hl with k | k
      · simp at k; rw [k, ckC]
      · exact hfo l k)
    have j1 : joinR (ls ++ os) = mrg (joinR os) (joinR ls) := joinR_append pl po
    have j2 : joinR ([compGo t0 false zeroC (joinR ls)] ++ os) = mrg (joinR os) (compGo t0 false zeroC (joinR ls)) := rfl
    rw [mscR_ok (by rw [l2]) hask, mscR_ok (by rw [l1]) hask]
    refine ⟨?_, rfl⟩
    rw [j1, j2, scan_vis (comp_older fO fJ ht)]

end Go.Proofs.Ytlebbkbbmgmmjad
