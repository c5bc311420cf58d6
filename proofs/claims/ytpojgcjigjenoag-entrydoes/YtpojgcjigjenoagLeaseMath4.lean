/-
  Plain maths of leases: moments, and whether clocks go on as they must between them. Nothing of a program stands here.
-/
import Derived.Test.YtpojgcjigjenoagLeaseMath3
namespace Go.Proofs.Ytpojgcjigjenoag
open Go.RowKit
set_option linter.unusedVariables false

/-- Does one of the clocks go on by less than d? -/
def slowB (a b : List Int) (d : Int) : Bool := (a.zip b).any fun p => decide (p.2 - p.1 < d)

/-- Moments that stand in their order. -/
def MonoM (M : List (Int × List Int)) : Prop := ∀ (i k : Nat) mi mk, i ≤ k → M[i]? = some mi → M[k]? = some mk → mi.1 ≤ mk.1 ∧ mi.2.length = mk.2.length ∧ ∀ (c : Nat) x y, mi.2[c]? = some x → mk.2[c]? = some y → x ≤ y

/-- Up to the j-th moment all clocks go on as they must. -/
def FairUp (M : List (Int × List Int)) (span : Int) (j : Nat) : Prop := ∀ (i k : Nat) mi mk, i ≤ k → k < j → M[i]? = some mi → M[k]? = some mk → span ≤ mk.1 - mi.1 → slowB mi.2 mk.2 (trustD span) = false

/-- Two moments between which a clock is too slow. -/
def badB (M : List (Int × List Int)) (span : Int) (i k : Nat) : Bool :=
  match M[i]?, M[k]? with
  | some mi, some mk => decide (span ≤ mk.1 - mi.1) && slowB mi.2 mk.2 (trustD span)
  | _, _ => false

/-- Do all clocks go on as they must? -/
def fairB (M : List (Int × List Int)) (span : Int) : Bool := (List.range M.length).all fun k => (List.range (k + 1)).all fun i => !badB M span i k

theorem badB_eq {M : List (Int × List Int)} {span : Int} {i k : Nat} {mi mk : Int × List Int} (hi : M[i]? = some mi) (hk : M[k]? = some mk) : badB M span i k = (decide (span ≤ mk.1 - mi.1) && slowB mi.2 mk.2 (trustD span)) := by
  simp only [badB, hi, hk]

theorem fairB_true {M : List (Int × List Int)} {span : Int} (h : FairUp M span M.length) : fairB M span = true := by
  unfold fairB
  rw [List.all_eq_true]
  intro k hk
  rw [List.all_eq_true]
  intro i hi
  rw [List.mem_range] at hk hi
  have e1 : M[i]? = some M[i] := List.getElem?_eq_getElem (by omega)
  have e2 : M[k]? = some M[k] := List.getElem?_eq_getElem hk
  rw [badB_eq e1 e2]
  by_cases hs : span ≤ M[k].1 - M[i].1
  · rw [h i k _ _ (by omega) hk e1 e2 hs, Bool.and_false]
    rfl
  · rw [decide_eq_false hs, Bool.false_and]
    rfl

theorem fairB_up {M : List (Int × List Int)} {span : Int} (h : fairB M span = true) : FairUp M span M.length := by
  unfold fairB at h
  intro i k mi mk hik hkl hi hk hs
  have h1 := List.all_eq_true.1 (List.all_eq_true.1 h k (List.mem_range.2 hkl)) i (List.mem_range.2 (by omega))
  rw [badB_eq hi hk, decide_eq_true hs, Bool.true_and] at h1
  simpa using h1

theorem fairB_false {M : List (Int × List Int)} {span : Int} {i k : Nat} {mi mk : Int × List Int} (hik : i ≤ k) (hi : M[i]? = some mi) (hk : M[k]? = some mk) (hs : span ≤ mk.1 - mi.1) (hb : slowB mi.2 mk.2 (trustD span) = true) : fairB M span = false := by
  cases h : fairB M span
  · rfl
  · have := fairB_up h i k mi mk hik (List.getElem?_eq_some_iff.1 hk).1 hi hk hs
    rw [hb] at this
    cases this

theorem slowB_true {a b : List Int} {d : Int} {c : Nat} {x y : Int} (hx : a[c]? = some x) (hy : b[c]? = some y) (h : y - x < d) : slowB a b d = true := by
  unfold slowB
  rw [List.any_eq_true]
  refine ⟨(x, y), ?_, by simpa using h⟩
  refine List.mem_of_getElem? (i := c) ?_
  simp [List.getElem?_zip_eq_some, hx, hy]

theorem slowB_false {a b : List Int} {d : Int} (h : ∀ (c : Nat) x y, a[c]? = some x → b[c]? = some y → d ≤ y - x) : slowB a b d = false := by
  unfold slowB
  rw [List.any_eq_false]
  intro p hp
  obtain ⟨c, hc⟩ := List.mem_iff_getElem?.1 hp
  rw [List.getElem?_zip_eq_some] at hc
  have := h c _ _ hc.1 hc.2
  simp
  omega

theorem slowB_not {a b : List Int} {d : Int} (h : slowB a b d = false) {c : Nat} {x y : Int} (hx : a[c]? = some x) (hy : b[c]? = some y) : d ≤ y - x := by
  rcases Int.lt_or_le (y - x) d with q | q
  · rw [slowB_true hx hy q] at h
    cases h
  · exact q

/-- Of all moments that are a span ahead, the last one has the least between. -/
theorem fair_step {M : List (Int × List Int)} {span : Int} (hm : MonoM M) {a j : Nat} {m ma : Int × List Int} (haj : a ≤ j) (hj : M[j]? = some m) (ha : M[a]? = some ma) (hna : m.1 - ma.1 < span) (hup : FairUp M span j)
    (hlast : ∀ mp, 0 < a → M[a - 1]? = some mp → slowB mp.2 m.2 (trustD span) = false) : FairUp M span (j + 1) := by
  intro i k mi mk hik hkj hi hk hs
  by_cases hkj' : k < j
  · exact hup i k mi mk hik hkj' hi hk hs
  obtain rfl : k = j := by omega
  rw [hj] at hk
  cases hk
  have hia : i < a := by
    rcases Nat.lt_or_ge i a with h | h
    · exact h
    · have := (hm a i ma mi h ha hi).1
      omega
  have hl := (List.getElem?_eq_some_iff.1 ha).1
  obtain ⟨mp, hmp⟩ : ∃ mp, M[a - 1]? = some mp := ⟨_, List.getElem?_eq_getElem (by omega)⟩
  have hns := hlast mp (by omega) hmp
  have hmm := hm i (a - 1) mi mp (by omega) hi hmp
  refine slowB_false fun c x y hx hy => ?_
  have hcl : c < mp.2.length := by
    have := (List.getElem?_eq_some_iff.1 hx).1
    omega
  obtain ⟨u, hu⟩ : ∃ u, mp.2[c]? = some u := ⟨_, List.getElem?_eq_getElem hcl⟩
  have h1 := hmm.2.2 c x u hx hu
  have h2 := slowB_not hns hu hy
  omega

/-- The moments of a play, in their order. -/
def momO (span : Int) (n : Nat) (ds : List Dd) (k : Nat) : List (Int × List Int) := (List.range (k + 1)).map fun i => ((runC span n ds i).now, (runC span n ds i).clocks)

theorem momO_get {span : Int} {n : Nat} {ds : List Dd} {k i : Nat} (h : i ≤ k) : (momO span n ds k)[i]? = some ((runC span n ds i).now, (runC span n ds i).clocks) := by
  simp [momO, List.getElem?_range (show i < k + 1 by omega)]

theorem momO_length {span : Int} {n : Nat} {ds : List Dd} {k : Nat} : (momO span n ds k).length = k + 1 := by simp [momO]

theorem momO_succ {span : Int} {n : Nat} {ds : List Dd} {k : Nat} : momO span n ds (k + 1) = momO span n ds k ++ [((runC span n ds (k + 1)).now, (runC span n ds (k + 1)).clocks)] := by
  simp [momO, List.range_succ]

/-- A deed lets no clock go back. -/
theorem doC_mono {c : Ct} {span : Int} {d : Dd} (hm : mayC c d = 0) : c.now ≤ (doC c span d).now ∧ c.clocks.length = (doC c span d).clocks.length ∧ ∀ (k : Nat) x y, c.clocks[k]? = some x → (doC c span d).clocks[k]? = some y → x ≤ y := by
  have same : ∀ (k : Nat) (x y : Int), c.clocks[k]? = some x → c.clocks[k]? = some y → x ≤ y := by
    intro k x y hx hy
    rw [hx] at hy
    cases hy
    exact Int.le_refl _
  have hk : d.kind < 2 → 0 ≤ d.n := by
    intro h1
    unfold mayC at hm
    split at hm
    · cases hm
    split at hm
    · cases hm
    split at hm
    · cases hm
    omega
  unfold doC
  by_cases d0 : d.kind = 0
  · simp only [if_pos d0]; exact ⟨by have := hk (by omega); omega, trivial, same⟩
  simp only [if_neg d0]
  by_cases d1 : d.kind = 1
  · simp only [if_pos d1]
    refine ⟨Int.le_refl _, by simp [lset], fun k x y hx hy => ?_⟩
    unfold lset at hy
    rw [List.getElem?_set] at hy
    split at hy
    · rename_i hq
      split at hy
      · simp only [Option.some.injEq] at hy
        have : lget c.clocks d.who 0 = x := by unfold lget; rw [List.getD_eq_getElem?_getD, hq, hx]; rfl
        have := hk (by omega)
        omega
      · cases hy
    · exact same k x y hx hy
  simp only [if_neg d1]
  by_cases d2 : d.kind = 2
  · simp only [if_pos d2]; exact ⟨Int.le_refl _, trivial, same⟩
  simp only [if_neg d2]
  by_cases d3 : d.kind = 3
  · simp only [if_pos d3]; split <;> exact ⟨Int.le_refl _, rfl, same⟩
  simp only [if_neg d3]
  by_cases d4 : d.kind = 4
  · simp only [if_pos d4]; split <;> exact ⟨Int.le_refl _, rfl, same⟩
  simp only [if_neg d4]
  by_cases d5 : d.kind = 5
  · simp only [if_pos d5]; exact ⟨Int.le_refl _, trivial, same⟩
  simp only [if_neg d5]
  by_cases d6 : d.kind = 6
  · simp only [if_pos d6]; exact ⟨Int.le_refl _, trivial, same⟩
  simp only [if_neg d6]
  by_cases d7 : d.kind = 7
  · simp only [if_pos d7]; exact ⟨Int.le_refl _, trivial, same⟩
  simp only [if_neg d7]
  exact ⟨Int.le_refl _, trivial, same⟩

theorem run_mono {span : Int} {n : Nat} {ds : List Dd} (hv : okC span n ds) (i : Nat) : ∀ k, i ≤ k → k ≤ ds.length → (runC span n ds i).now ≤ (runC span n ds k).now ∧ (runC span n ds i).clocks.length = (runC span n ds k).clocks.length ∧ ∀ (c : Nat) x y, (runC span n ds i).clocks[c]? = some x → (runC span n ds k).clocks[c]? = some y → x ≤ y := by
  intro k
  induction k with
  | zero =>
    intro h _
    obtain rfl : i = 0 := by omega
    exact ⟨Int.le_refl _, rfl, fun c x y hx hy => by rw [hx] at hy; cases hy; exact Int.le_refl _⟩
  | succ k ih =>
    intro h hl
    by_cases hik : i = k + 1
    · subst hik
      exact ⟨Int.le_refl _, rfl, fun c x y hx hy => by rw [hx] at hy; cases hy; exact Int.le_refl _⟩
    · obtain ⟨a1, a2, a3⟩ := ih (by omega) (by omega)
      obtain ⟨d, hd⟩ : ∃ d, ds[k]? = some d := ⟨_, List.getElem?_eq_getElem (by omega)⟩
      obtain ⟨b1, b2, b3⟩ := doC_mono (span := span) (hv k d hd)
      rw [← runC_succ hd] at b1 b2 b3
      refine ⟨by omega, by omega, fun c x y hx hy => ?_⟩
      have hc : c < (runC span n ds k).clocks.length := by
        have := (List.getElem?_eq_some_iff.1 hx).1
        omega
      obtain ⟨u, hu⟩ : ∃ u, (runC span n ds k).clocks[c]? = some u := ⟨_, List.getElem?_eq_getElem hc⟩
      have := a3 c x u hx hu
      have := b3 c u y hu hy
      omega

theorem momO_mono {span : Int} {n : Nat} {ds : List Dd} (hv : okC span n ds) : MonoM (momO span n ds ds.length) := by
  intro i k mi mk hik hi hk
  have hkl := (List.getElem?_eq_some_iff.1 hk).1
  rw [momO_length] at hkl
  rw [momO_get (by omega)] at hi hk
  cases hi
  cases hk
  exact run_mono hv i k hik (by omega)

theorem run_clen {span : Int} {n : Nat} {ds : List Dd} (hv : okC span n ds) {k : Nat} (hk : k ≤ ds.length) : (runC span n ds k).clocks.length = n := by
  have := (run_mono hv 0 k (by omega) hk).2.1
  rw [← this]
  simp [runC, court0]

/-- Fair deeds, in both words. -/
theorem fair_of {span : Int} {n : Nat} {ds : List Dd} (hv : okC span n ds) (h : fairB (momO span n ds ds.length) span = true) : fairP span n ds ds.length := by
  have hu := fairB_up h
  rw [momO_length] at hu
  intro j i hji hi hs k hk
  have := hu j i _ _ hji (by omega) (momO_get (by omega)) (momO_get hi) (by simp only; omega)
  have hl1 := run_clen hv (k := j) (by omega)
  have hl2 := run_clen hv (k := i) hi
  obtain ⟨x, hx⟩ : ∃ x, (runC span n ds j).clocks[k]? = some x := ⟨_, List.getElem?_eq_getElem (by omega)⟩
  obtain ⟨y, hy⟩ : ∃ y, (runC span n ds i).clocks[k]? = some y := ⟨_, List.getElem?_eq_getElem (by omega)⟩
  have h2 := slowB_not this hx hy
  unfold lget
  rw [List.getD_eq_getElem?_getD, List.getD_eq_getElem?_getD, Int.toNat_natCast, hx, hy]
  simp only [Option.getD_some]
  omega

end Go.Proofs.Ytpojgcjigjenoag
