/-
  Plain maths of the law CellAsks: what the document sees is what is seen.
-/
import Derived.Test.YtlebbkbbmgmmjadCellR4
namespace Go.Proofs.Ytlebbkbbmgmmjad
open Go.RowKit

def unGone : Option Cl → Option Cl
  | none => none
  | some c => if c.gone then none else some c

theorem visGo_find_none (t : Int) (k : Ky) {cs : List Cl} {nw : Cl} (hp : cs.Pairwise Lt) (hn : ∀ c ∈ cs, kl (rc nw) (rc c) ∨ rc nw = rc c) (hk : k = rc nw) : (visGo t nw cs).find? (isAt k) = none := by
  rw [List.find?_eq_none]
  intro d hd h
  have h1 := (visGo_pw t cs nw hp hn).1 d hd
  rw [isAt_iff] at h
  exact kl_ne h1 (by rw [h, hk])

theorem visGo_find (t : Int) (k : Ky) : ∀ (cs : List Cl) (nw : Cl), cs.Pairwise Lt → (∀ c ∈ cs, kl (rc nw) (rc c) ∨ rc nw = rc c) → k ≠ rc nw →
    (visGo t nw cs).find? (isAt k) = unGone (cs.find? (hitB k t))
  | [], _, _, _, _ => rfl
  | c :: r, nw, hp, hn, hk => by
    obtain ⟨hp1, hp2⟩ := List.pairwise_cons.1 hp
    cases hh : hid t nw c
    · have hx : ¬ (t < c.time ∨ rc c = rc nw) := fun h => by rw [hid_iff.2 h] at hh; cases hh
      have hnx : nextN t nw c = c := by simp [nextN, hh]
      have hge : ∀ d ∈ r, kl (rc c) (rc d) ∨ rc c = rc d := fun d hd => Lt_le (hp1 d hd)
      unfold visGo
      rw [hnx]
      by_cases e : k = rc c
      · have hhit : hitB k t c = true := by
          unfold hitB
          rw [isAt_iff.2 e.symm, Bool.true_and, decide_eq_true_eq]
          omega
        rw [List.find?_cons_of_pos hhit]
        cases hg : c.gone
        · rw [if_pos (by simp [seenB, hh, hg]), List.find?_cons_of_pos (isAt_iff.2 e.symm)]
          simp [unGone, hg]
        · rw [if_neg (by simp [seenB, hg]), visGo_find_none t k hp2 hge e]
          simp [unGone, hg]
      · have hat : isAt k c = false := by
          cases h : isAt k c
          · rfl
          · exact absurd (isAt_iff.1 h).symm e
        have hhit : hitB k t c = false := by unfold hitB; rw [hat]; rfl
        rw [List.find?_cons_of_neg (by rw [hhit]; decide), ← visGo_find t k r c hp2 hge e]
        split
        · rw [List.find?_cons_of_neg (by rw [hat]; decide)]
        · rfl
    · have hnx : nextN t nw c = nw := by simp [nextN, hh]
      have hs : seenB t nw c = false := by simp [seenB, hh]
      have hhit : hitB k t c = false := by
        cases h : hitB k t c
        · rfl
        · have h1 := hitB_rc h
          unfold hitB at h
          rw [Bool.and_eq_true, decide_eq_true_eq] at h
          rcases hid_iff.1 hh with h2 | h2
          · omega
          · exact absurd (h1.symm.trans h2) hk
      unfold visGo
      rw [hnx, hs, if_neg (by decide), visGo_find t k r nw hp2 (fun d hd => hn d (by simp [hd])) hk, List.find?_cons_of_neg (by rw [hhit]; decide)]

theorem vis_find {cs : List Cl} (t : Int) (k : Ky) (h : (checkC cs).1 = 0) : (vis t cs).find? (isAt k) = unGone (cs.find? (hitB k t)) := by
  have hz : ∀ c ∈ cs, kl (rc zeroC) (rc c) := fun c hc => kl_zero (fine_code h hc)
  by_cases e : k = rc zeroC
  · unfold vis
    rw [visGo_find_none t k (fine_pw h) (fun c hc => .inl (hz c hc)) e]
    have : cs.find? (hitB k t) = none := by
      rw [List.find?_eq_none]
      intro c hc hh
      exact kl_ne (hz c hc) (by rw [hitB_rc hh, e])
    rw [this]
    rfl
  · exact visGo_find t k cs zeroC (fine_pw h) (fun c hc => .inl (hz c hc)) e

theorem seenR_vis {cs : List Cl} (t : Int) (k : Ky) (h : (checkC cs).1 = 0) : seenR cs k t = match (vis t cs).find? (isAt k) with
    | none => (zeroC, false)
    | some c => (c, true) := by
  rw [vis_find t k h]
  unfold seenR
  cases cs.find? (hitB k t) with
  | none => rfl
  | some c => cases hg : c.gone <;> simp [unGone, hg]

theorem get_seen {cs : List Cl} {row col : ByteArray} {t : Int} (h1 : (checkC cs).1 = 0) (h2 : isNumB t = true) : getC cs row col t = ((seenR cs (row.toList, col.toList) t).1.val, (seenR cs (row.toList, col.toList) t).2, (0, 0)) := by
  rw [getC_fine h1 h2, seenR_vis t _ h1]
  cases (vis t cs).find? (isAt (row.toList, col.toList)) <;> rfl

theorem scanned_vis {cs : List Cl} (a b : ByteArray) (t : Int) (h : (checkC cs).1 = 0) : cs.filter (takeB cs a b t) = (vis t cs).filter fun c => askB a b c.row := by
  have hv := vis_pw t h
  refine pw_ext Lt_irrefl (fun _ _ _ => Lt_trans) ((fine_pw h).filter _) (((fine_pw h).sublist (vis_sub t cs)).filter _) fun c => ?_
  rw [List.mem_filter, List.mem_filter]
  unfold takeB
  rw [seenR_vis t _ h]
  constructor
  · rintro ⟨hc, ht⟩
    rw [Bool.and_eq_true, Bool.and_eq_true] at ht
    obtain ⟨h1, h2, h3⟩ := ht
    cases hf : (vis t cs).find? (isAt (rc c)) with
    | none => rw [hf] at h2; cases h2
    | some d =>
      rw [hf] at h3
      have e := eqC_iff.1 h3
      simp only at e
      subst e
      exact ⟨List.mem_of_find?_eq_some hf, h1⟩
  · rintro ⟨hc, ha⟩
    refine ⟨(vis_sub t cs).subset hc, ?_⟩
    rw [find_pw hv hc, ha]
    simp [eqC_iff.2 rfl]

theorem scan_scanned {cs : List Cl} {a b : ByteArray} {t m : Int} (h : (scanC cs a b t m).2.1 = 0) : (scanC cs a b t m).1 = scannedR cs a b t m := by
  obtain ⟨h1, _, _, _, h5⟩ := scanC_fine h
  rw [h5, scannedR, scanned_vis a b t h1]

/-- The faults of Scan: those of the cells, then those of the ask. -/
theorem scan_fault {cs : List Cl} {a b : ByteArray} {t m : Int} : (scanC cs a b t m).2 = if (checkC cs).1 = 0 then askF t m else checkC cs := by
  unfold scanC askF
  by_cases h1 : (checkC cs).1 = 0
  · rw [if_neg (by omega), if_pos h1]
    by_cases h2 : isNumB t = false
    · rw [if_pos h2, if_pos h2]
    · rw [if_neg h2, if_neg h2]
      split <;> rfl
  · rw [if_pos h1, if_neg h1]

theorem scan_bad {cs : List Cl} {a b : ByteArray} {t m : Int} (h : (scanC cs a b t m).2.1 ≠ 0) : (scanC cs a b t m).1 = [] := by
  unfold scanC at h ⊢
  by_cases h1 : (checkC cs).1 = 0
  · rw [if_neg (by omega)] at h ⊢
    by_cases h2 : isNumB t = false
    · rw [if_pos h2]
    · rw [if_neg h2] at h ⊢
      by_cases h3 : m < 0 ∨ 1000 < m
      · rw [if_pos h3]
      · rw [if_neg h3] at h; simp at h
  · rw [if_pos h1]

end Go.Proofs.Ytlebbkbbmgmmjad
