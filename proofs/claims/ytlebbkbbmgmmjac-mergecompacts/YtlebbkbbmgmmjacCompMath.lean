/-
  Plain maths of the law MergeCompacts: the document's list is Compact's.
-/
import Derived.Test.YtlebbkbbmgmmjacSameMath
namespace Go.Proofs.Ytlebbkbbmgmmjac
open Go.RowKit

/-- Does one of y's place count at a time ahead of x? -/
def sameP (t : Int) (x y : Cl) : Bool := (y.row.toList == x.row.toList) && (y.col.toList == x.col.toList) && decide (y.time ≤ t)
def oldB (t : Int) (x : Cl) (l : List Cl) : Bool := l.any (sameP t x)
/-- Does x stay, behind l? -/
def keepB (t : Int) (wh : Bool) (l : List Cl) (x : Cl) : Bool := !(decide (x.time ≤ t) && (oldB t x l || (x.gone && wh)))
/-- What stays of the first k. -/
def docUp (t : Int) (wh : Bool) (J : List Cl) : Nat → List Cl
  | 0 => []
  | k + 1 => match J[k]? with
    | some x => if keepB t wh (J.take k) x then docUp t wh J k ++ [x] else docUp t wh J k
    | none => docUp t wh J k

theorem sameP_iff {t : Int} {x y : Cl} : sameP t x y = true ↔ rc y = rc x ∧ y.time ≤ t := by
  unfold sameP rc
  simp only [Bool.and_eq_true, beq_iff_eq, decide_eq_true_eq, Prod.mk.injEq]

theorem docUp_hit {t : Int} {wh : Bool} {J : List Cl} {k : Nat} {x : Cl} (h : J[k]? = some x) (hk : keepB t wh (J.take k) x = true) : docUp t wh J (k + 1) = docUp t wh J k ++ [x] := by
  simp only [docUp, h, hk, if_true]

theorem docUp_miss {t : Int} {wh : Bool} {J : List Cl} {k : Nat} {x : Cl} (h : J[k]? = some x) (hk : keepB t wh (J.take k) x = false) : docUp t wh J (k + 1) = docUp t wh J k := by
  simp only [docUp, h, hk, Bool.false_eq_true, if_false]

theorem docUp_sub (t : Int) (wh : Bool) (J : List Cl) : ∀ k, k ≤ J.length → (docUp t wh J k).Sublist (J.take k)
  | 0, _ => by simp [docUp]
  | k + 1, hk => by
    have hg : J[k]? = some (J[k]'(by omega)) := List.getElem?_eq_getElem (by omega)
    have ih := docUp_sub t wh J k (by omega)
    rw [List.take_add_one, hg]
    cases h : keepB t wh (J.take k) (J[k]'(by omega))
    · rw [docUp_miss hg h]
      exact ih.trans (List.sublist_append_left _ _)
    · rw [docUp_hit hg h]
      exact ih.append (List.Sublist.refl _)

theorem docUp_mem (t : Int) (wh : Bool) (J : List Cl) (x : Cl) : ∀ k, k ≤ J.length → (x ∈ docUp t wh J k ↔ ∃ i, i < k ∧ J[i]? = some x ∧ keepB t wh (J.take i) x = true)
  | 0, _ => by simp [docUp]
  | k + 1, hk => by
    have hg : J[k]? = some (J[k]'(by omega)) := List.getElem?_eq_getElem (by omega)
    have ih := docUp_mem t wh J x k (by omega)
    cases h : keepB t wh (J.take k) (J[k]'(by omega))
    · rw [docUp_miss hg h, ih]
      constructor
      · rintro ⟨i, h1, h2⟩
        exact ⟨i, by omega, h2⟩
      · rintro ⟨i, h1, h2, h3⟩
        by_cases e : i = k
        · subst e
          rw [hg] at h2
          cases h2
          rw [h] at h3
          cases h3
        · exact ⟨i, by omega, h2, h3⟩
    · rw [docUp_hit hg h, List.mem_append, ih]
      constructor
      · rintro (⟨i, h1, h2⟩ | h1)
        · exact ⟨i, by omega, h2⟩
        · simp at h1
          subst h1
          exact ⟨k, by omega, hg, h⟩
      · rintro ⟨i, h1, h2, h3⟩
        by_cases e : i = k
        · subst e
          rw [hg] at h2
          cases h2
          exact .inr (by simp)
        · exact .inl ⟨i, by omega, h2, h3⟩

theorem old_iff {J : List Cl} (hp : J.Pairwise Lt) {t : Int} {i : Nat} {x : Cl} (hx : J[i]? = some x) (hxt : x.time ≤ t) : oldB t x (J.take i) = false ↔ Nwt t J x := by
  have hi := (List.getElem?_eq_some_iff.1 hx).1
  have hxe := (List.getElem?_eq_some_iff.1 hx).2
  have hpg := List.pairwise_iff_getElem.1 hp
  constructor
  · intro h
    refine ⟨List.mem_of_getElem? hx, hxt, fun y hy he hyt => ?_⟩
    obtain ⟨j, hj, rfl⟩ := List.getElem_of_mem hy
    by_cases hji : j < i
    · exfalso
      unfold oldB at h
      rw [List.any_eq_false] at h
      refine h J[j] ?_ (sameP_iff.2 ⟨he, hyt⟩)
      rw [List.mem_take_iff_getElem]
      exact ⟨j, by omega, rfl⟩
    · by_cases hij : i = j
      · subst hij
        rw [hxe]
        exact Int.le_refl _
      · have hlt := hpg i j hi hj (by omega)
        rw [hxe] at hlt
        rcases hlt with k | k
        · exact absurd he.symm (kl_ne k)
        · omega
  · rintro ⟨_, _, h3⟩
    unfold oldB
    rw [List.any_eq_false]
    intro y hy hs
    obtain ⟨he, hyt⟩ := sameP_iff.1 hs
    rw [List.mem_take_iff_getElem] at hy
    obtain ⟨j, hj, rfl⟩ := hy
    have hlt := hpg j i (by omega) hi (by omega)
    rw [hxe] at hlt
    rcases hlt with k | k
    · exact kl_ne k he
    · have := h3 _ (List.getElem_mem (by omega)) he hyt
      omega

/-- The document's list is Compact's. -/
theorem docUp_comp {J : List Cl} (h : Fin' J) (t : Int) (wh : Bool) : docUp t wh J J.length = compGo t wh zeroC J := by
  have hs := docUp_sub t wh J J.length (Nat.le_refl _)
  rw [List.take_length] at hs
  refine pw_ext Lt_irrefl (fun _ _ _ => Lt_trans) (h.pw.sublist hs) (h.ofComp t wh).pw fun x => ?_
  rw [docUp_mem t wh J x J.length (Nat.le_refl _), h.comp]
  constructor
  · rintro ⟨i, h1, h2, h3⟩
    by_cases hx : t < x.time
    · exact .inl ⟨List.mem_of_getElem? h2, hx⟩
    · have hxt : x.time ≤ t := by omega
      unfold keepB at h3
      simp only [hxt, decide_true, Bool.true_and, Bool.not_eq_true', Bool.or_eq_false_iff] at h3
      exact .inr ⟨(old_iff h.pw h2 hxt).1 h3.1, by rw [Bool.and_comm]; exact h3.2⟩
  · rintro (⟨h1, h2⟩ | ⟨h1, h2⟩)
    · obtain ⟨i, hi, e⟩ := List.getElem_of_mem h1
      refine ⟨i, hi, by rw [List.getElem?_eq_getElem hi, e], ?_⟩
      unfold keepB
      have : ¬ x.time ≤ t := by omega
      simp [this]
    · obtain ⟨i, hi, e⟩ := List.getElem_of_mem h1.1
      have hg : J[i]? = some x := by rw [List.getElem?_eq_getElem hi, e]
      refine ⟨i, hi, hg, ?_⟩
      have ho := (old_iff h.pw hg h1.2.1).2 h1
      unfold keepB
      rw [ho, Bool.false_or, Bool.and_comm x.gone, h2, Bool.and_false]
      rfl

end Go.Proofs.Ytlebbkbbmgmmjac
