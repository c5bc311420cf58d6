/-
  Deeds that have no fault: each step has none, and so have the first ones of them. Nothing of a program stands here but the names of C11.
-/
import Derived.Test.YtfmoniabpinceafLeaseC11
namespace Go.Proofs.Ytfmoniabpinceaf
open Go.RowKit
set_option linter.unusedVariables false

theorem badAt_take {span : Int} : ∀ (ds : List Dd) (c : Ct) (k i : Nat), (badAt span c ds k).1 = 0 → badAt span c (ds.take i) k = (0, 0)
  | [], c, k, i, _ => by simp [badAt]
  | d :: r, c, k, 0, _ => by simp [badAt]
  | d :: r, c, k, i + 1, h => by
    rw [badAt] at h
    by_cases hs : stepC c span d ≠ 0
    · rw [if_pos hs] at h; exact absurd h hs
    · rw [if_neg hs] at h
      rw [List.take_succ_cons, badAt, if_neg hs]
      exact badAt_take r _ _ i h

theorem badAt_all {span : Int} {c : Ct} {ds : List Dd} {k : Nat} (h : (badAt span c ds k).1 = 0) : badAt span c ds k = (0, 0) := by
  have := badAt_take ds c k ds.length h
  rwa [List.take_length] at this

theorem run_go {span : Int} {n : Nat} {ds : List Dd} (h : (badAt span (court0 n) ds 0).1 = 0) : ∀ k, k ≤ ds.length → (badAt span (runC span n ds k) (ds.drop k) k).1 = 0
  | 0, _ => by simpa [runC] using h
  | k + 1, hk => by
    have ih := run_go h k (by omega)
    obtain ⟨d, hd⟩ : ∃ d, ds[k]? = some d := ⟨_, List.getElem?_eq_getElem (by omega)⟩
    rw [drop_consD hd, badAt] at ih
    by_cases hs : stepC (runC span n ds k) span d ≠ 0
    · rw [if_pos hs] at ih; exact absurd ih hs
    · rw [if_neg hs] at ih
      rw [runC_get hd]
      exact ih

theorem step_zero {span : Int} {n : Nat} {ds : List Dd} (h : (badAt span (court0 n) ds 0).1 = 0) {k : Nat} {d : Dd} (hd : ds[k]? = some d) : stepC (runC span n ds k) span d = 0 := by
  have hk := (List.getElem?_eq_some_iff.1 hd).1
  have ih := run_go h k (by omega)
  rw [drop_consD hd, badAt] at ih
  by_cases hs : stepC (runC span n ds k) span d ≠ 0
  · rw [if_pos hs] at ih; exact absurd ih hs
  · exact Decidable.not_not.1 hs

theorem ok_of {span : Int} {n : Nat} {ds : List Dd} (h : (badAt span (court0 n) ds 0).1 = 0) : okC span n ds := fun _ _ hd => (stepC_zero (step_zero h hd)).1

theorem wf_of {span : Int} {n : Nat} {ds : List Dd} (h : (badAt span (court0 n) ds 0).1 = 0) (hsp : 4 ≤ span ∧ span ≤ 1000000) (hn : n ≤ 8) : ∀ k, k ≤ ds.length → WfC (runC span n ds k) span n
  | 0, _ => WfC.begin hsp hn
  | k + 1, hk => by
    obtain ⟨d, hd⟩ : ∃ d, ds[k]? = some d := ⟨_, List.getElem?_eq_getElem (by omega)⟩
    rw [runC_get hd]
    exact (wf_of h hsp hn k (by omega)).step (step_zero h hd)

theorem runC_take {span : Int} {n : Nat} {ds : List Dd} {i : Nat} : ∀ j, j ≤ i → runC span n (ds.take i) j = runC span n ds j
  | 0, _ => rfl
  | j + 1, hj => by
    have e : (ds.take i)[j]? = ds[j]? := by rw [List.getElem?_take, if_pos (by omega)]
    rw [runC, runC, e, runC_take j (by omega)]

/-- What comes of deeds that have no fault, and of the first ones of them. -/
theorem play_ok {span clients : Int} {ds : List Dd} (h : (playR span clients ds).1 = 0) : ∃ n : Nat, clients = n ∧ 1 ≤ n ∧ n ≤ 8 ∧ (4 ≤ span ∧ span ≤ 1000000) ∧ ds.length ≤ 2000 ∧ (badAt span (court0 n) ds 0).1 = 0 ∧
    ∀ i, i ≤ ds.length → playR span clients (ds.take i) = (0, 0) ∧ playC span clients (ds.take i) = runC span n ds i := by
  have h' := h
  unfold playR at h
  by_cases hp : (playF span clients ds.length).1 ≠ 0
  · rw [if_pos hp] at h; exact absurd h hp
  rw [if_neg hp] at h
  obtain ⟨h0, hsp, hcl, hnd⟩ := playF_ok (Decidable.not_not.1 hp)
  obtain ⟨n, rfl⟩ : ∃ n : Nat, clients = n := ⟨clients.toNat, by omega⟩
  rw [Int.toNat_natCast] at h
  refine ⟨n, rfl, by omega, by omega, hsp, by omega, h, fun i hi => ?_⟩
  have hl : (ds.take i).length = i := by rw [List.length_take]; omega
  have hpf : playF span n (ds.take i).length = (0, 0) := by
    rw [hl]
    unfold playF at h0 ⊢
    have e0 : ¬ (spanF span).1 ≠ 0 := by
      intro q
      rw [if_pos q] at h0
      rw [h0] at q
      exact q rfl
    rw [if_neg e0, if_neg (by omega), if_neg (by omega)]
  have hR : playR span n (ds.take i) = (0, 0) := by
    unfold playR
    rw [hpf, if_neg (by simp), Int.toNat_natCast]
    exact badAt_take ds _ _ i h
  refine ⟨hR, ?_⟩
  unfold playC
  rw [hR, if_pos rfl, hl, Int.toNat_natCast, runC_take i (Nat.le_refl _)]

end Go.Proofs.Ytfmoniabpinceaf
