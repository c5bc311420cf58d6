/-
  Plain maths of lists joined in groups.
-/
import Derived.Test.YtlebbkbbmgmmjadMergeW12
namespace Go.Proofs.Ytlebbkbbmgmmjad
open Go.RowKit

theorem firstG_ok {f : Nat → Int} : ∀ {m i : Nat}, (∀ j, i ≤ j → j < i + m → f j = 0) → firstG f m i = (0, 0)
  | 0, _, _ => rfl
  | m + 1, i, h => by
    have h0 := h i (by omega) (by omega)
    simp only [firstG, h0, ne_eq, not_true_eq_false, if_false]
    exact firstG_ok fun j h1 h2 => h j (by omega) (by omega)

/-- Cells that Check passes. -/
theorem checkC_ok {l : List Cl} (h1 : l.length ≤ 1000) (h2 : ∀ c ∈ l, codeC c = 0) (h3 : l.Pairwise Lt) : checkC l = (0, 0) := by
  unfold checkC faultR
  rw [if_neg (by omega)]
  refine firstG_ok fun j _ hj => ?_
  have hjl : j < l.length := by omega
  have hg := List.getElem?_eq_getElem hjl
  cases j with
  | zero => exact codeAt_first hg (h2 _ (List.mem_of_getElem? hg))
  | succ j =>
    have hd : l[j]? = some (l[j]'(by omega)) := List.getElem?_eq_getElem (by omega)
    rw [codeAt_later hg hd (h2 _ (List.mem_of_getElem? hg))]
    have hlt : Lt l[j] l[j + 1] := List.pairwise_iff_getElem.1 h3 j (j + 1) (by omega) hjl (by omega)
    have := ordC_neg.2 hlt
    rw [if_neg (by omega)]

theorem lfR_ok {ls : List (List Cl)} (h1 : ls.length ≤ 20) (h2 : ∀ l ∈ ls, (checkC l).1 = 0) : lfR ls = (0, 0) := by
  unfold lfR
  rw [if_neg (by omega)]
  refine firstG_ok fun j _ hj => ?_
  have hg := List.getElem?_eq_getElem (show j < ls.length by omega)
  rw [lcode_at hg]
  exact h2 _ (List.mem_of_getElem? hg)

theorem mrg_assoc {x y z : List Cl} (hx : x.Pairwise Lt) (hy : y.Pairwise Lt) (hz : z.Pairwise Lt) : mrg (mrg x y) z = mrg x (mrg y z) := by
  refine pw_ext Lt_irrefl (fun _ _ _ => Lt_trans) (mrg_pw _ _ (mrg_pw _ _ hx hy) hz) (mrg_pw _ _ hx (mrg_pw _ _ hy hz)) fun c => ?_
  rw [mrg_mem _ _ (mrg_pw _ _ hx hy) hz, mrg_mem _ _ hx hy, mrg_mem _ _ hx (mrg_pw _ _ hy hz), mrg_mem _ _ hy hz]
  have key : (∀ d ∈ mrg y z, ¬ Sm c d) ↔ (∀ d ∈ y, ¬ Sm c d) ∧ ∀ d ∈ z, ¬ Sm c d := by
    constructor
    · intro h
      have hz' : ∀ d ∈ z, ¬ Sm c d := fun d hd => h d ((mrg_mem _ _ hy hz d).2 (.inl hd))
      refine ⟨fun d hd hs => ?_, hz'⟩
      refine h d ((mrg_mem _ _ hy hz d).2 (.inr ⟨hd, fun e he hde => hz' e he (hs.trans hde)⟩)) hs
    · rintro ⟨h1, h2⟩ d hd
      rcases (mrg_mem _ _ hy hz d).1 hd with h | ⟨h, _⟩
      · exact h2 d h
      · exact h1 d h
  rw [key]
  constructor
  · rintro (h | ⟨h | ⟨h, h2⟩, h3⟩)
    · exact .inl (.inl h)
    · exact .inl (.inr ⟨h, h3⟩)
    · exact .inr ⟨h, h2, h3⟩
  · rintro ((h | ⟨h, h2⟩) | ⟨h, h2, h3⟩)
    · exact .inl h
    · exact .inr ⟨.inl h, h2⟩
    · exact .inr ⟨.inr ⟨h, h2⟩, h3⟩

theorem joinR_append : ∀ {a b : List (List Cl)}, (∀ l ∈ a, l.Pairwise Lt) → (∀ l ∈ b, l.Pairwise Lt) → joinR (a ++ b) = mrg (joinR b) (joinR a)
  | [], b, _, _ => by simp [joinR, mrg_nil_right]
  | l :: a, b, ha, hb => by
    have ha' := fun m hm => ha m (List.mem_cons_of_mem l hm)
    show mrg (joinR (a ++ b)) l = mrg (joinR b) (mrg (joinR a) l)
    rw [joinR_append ha' hb, mrg_assoc (joinR_pw hb) (joinR_pw ha') (ha l (by simp))]

theorem mrg_ge2 : ∀ (a b : List Cl), a.length ≤ (mrg a b).length ∧ b.length ≤ (mrg a b).length
  | [], b => by simp [mrg]
  | x :: a, [] => by simp [mrg]
  | x :: a, y :: b => by
    have i1 := mrg_ge2 a (y :: b)
    have i2 := mrg_ge2 a b
    have i3 := mrg_ge2 (x :: a) b
    rw [mrg]
    split
    · simp at i1 ⊢; omega
    · split
      · simp at i2 ⊢; omega
      · simp at i3 ⊢; omega
  termination_by a b => a.length + b.length

theorem mrg_self {a : List Cl} (h : a.Pairwise Lt) : mrg a a = a := by
  refine pw_ext Lt_irrefl (fun _ _ _ => Lt_trans) (mrg_pw _ _ h h) h fun c => ?_
  rw [mrg_mem _ _ h h]
  constructor
  · rintro (h | ⟨h, _⟩) <;> exact h
  · exact .inl

theorem joinR_code {ls : List (List Cl)} (h : ∀ l ∈ ls, (checkC l).1 = 0) : ∀ c ∈ joinR ls, codeC c = 0 := by
  intro c hc
  obtain ⟨i, l, h1, h2, _⟩ := (joinR_mem (fun l hl => fine_pw (h l hl))).1 hc
  exact fine_code (h l (List.mem_of_getElem? h1)) h2

theorem joinR_two (a b : List Cl) : joinR [a, b] = mrg b a := by simp [joinR, mrg]

/-- The groups of lists that can be joined. -/
theorem groups {ls : List (List Cl)} {k : Nat} (h : (jnR ls).2.1 = 0) :
    jnR ls = (joinR ls, (0, 0)) ∧ jnR (ls.take k) = (joinR (ls.take k), (0, 0)) ∧ jnR (ls.drop k) = (joinR (ls.drop k), (0, 0)) ∧ jnR [joinR (ls.take k), joinR (ls.drop k)] = (joinR ls, (0, 0)) ∧ jnR [joinR ls, joinR ls] = (joinR ls, (0, 0)) ∧ checkC (joinR ls) = (0, 0) := by
  have hl : (lfR ls).1 = 0 := by
    by_cases h1 : (lfR ls).1 = 0
    · exact h1
    · rw [jnR_bad h1] at h; exact h
  have hlen : (joinR ls).length ≤ 1000 := by
    by_cases h2 : (joinR ls).length ≤ 1000
    · exact h2
    · rw [jnR_much hl (by omega)] at h; simp at h
  obtain ⟨_, hl20, hf⟩ := lfR_zero hl
  have hft : ∀ l ∈ ls.take k, (checkC l).1 = 0 := fun l hl => hf l (List.mem_of_mem_take hl)
  have hfd : ∀ l ∈ ls.drop k, (checkC l).1 = 0 := fun l hl => hf l (List.mem_of_mem_drop hl)
  have pt := fun l hl => fine_pw (hft l hl)
  have pd := fun l hl => fine_pw (hfd l hl)
  have hj : joinR ls = mrg (joinR (ls.drop k)) (joinR (ls.take k)) := by rw [← joinR_append pt pd, List.take_append_drop]
  obtain ⟨g1, g2⟩ := mrg_ge2 (joinR (ls.drop k)) (joinR (ls.take k))
  rw [← hj] at g1 g2
  have ckt := checkC_ok (by omega) (joinR_code hft) (joinR_pw pt)
  have ckd := checkC_ok (by omega) (joinR_code hfd) (joinR_pw pd)
  have ck := checkC_ok hlen (joinR_code hf) (joinR_pw fun l hl => fine_pw (hf l hl))
  refine ⟨jnR_ok hl hlen, jnR_ok (by rw [lfR_ok (by rw [List.length_take]; omega) hft]) (by omega), jnR_ok (by rw [lfR_ok (by rw [List.length_drop]; omega) hfd]) (by omega), ?_, ?_, ck⟩
  · have e : joinR [joinR (ls.take k), joinR (ls.drop k)] = joinR ls := by rw [joinR_two, hj]
    rw [jnR_ok (by rw [lfR_ok (by simp) (by intro l hl; simp at hl; rcases hl with rfl | rfl; rw [ckt]; rw [ckd])]) (by rw [e]; exact hlen), e]
  · have e : joinR [joinR ls, joinR ls] = joinR ls := by rw [joinR_two, mrg_self (joinR_pw fun l hl => fine_pw (hf l hl))]
    rw [jnR_ok (by rw [lfR_ok (by simp) (by intro l hl; simp at hl; rw [hl, ck])]) (by rw [e]; exact hlen), e]

end Go.Proofs.Ytlebbkbbmgmmjad
