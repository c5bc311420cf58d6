/-
  Plain maths of leases: whole plays: no two trust in one epoch, epochs never fall, and where deeds are fair never two trust at one time. Nothing of a program stands here.
-/
import Derived.Test.YtpojgcjigjenoagLeaseMath2
namespace Go.Proofs.Ytpojgcjigjenoag
open Go.RowKit
set_option linter.unusedVariables false

/-- The court behind the first i deeds. -/
def runC (span : Int) (n : Nat) (ds : List Dd) : Nat → Ct
  | 0 => court0 n
  | i + 1 => match ds[i]? with
    | some d => doC (runC span n ds i) span d
    | none => runC span n ds i

theorem runC_succ {span : Int} {n : Nat} {ds : List Dd} {i : Nat} {d : Dd} (h : ds[i]? = some d) : runC span n ds (i + 1) = doC (runC span n ds i) span d := by rw [runC, h]

/-- The moments: the granter's clock and the clients', up to the i-th court. -/
def momC (span : Int) (n : Nat) (ds : List Dd) : Nat → List (Int × List Int)
  | 0 => [(0, List.replicate n 0)]
  | i + 1 => ((runC span n ds (i + 1)).now, (runC span n ds (i + 1)).clocks) :: momC span n ds i

theorem momC_mem {span : Int} {n : Nat} {ds : List Dd} : ∀ {i : Nat} {m : Int × List Int}, m ∈ momC span n ds i → ∃ j, j ≤ i ∧ m = ((runC span n ds j).now, (runC span n ds j).clocks)
  | 0, m, h => ⟨0, Nat.le_refl _, by simpa [momC, runC, court0] using h⟩
  | i + 1, m, h => by
    rcases List.mem_cons.1 h with h | h
    · exact ⟨i + 1, Nat.le_refl _, h⟩
    · obtain ⟨j, hj, e⟩ := momC_mem h
      exact ⟨j, by omega, e⟩

/-- Deeds that may all be done. -/
def okC (span : Int) (n : Nat) (ds : List Dd) : Prop := ∀ i d, ds[i]? = some d → mayC (runC span n ds i) d = 0

/-- Does client k trust in a court? -/
def trustsC (c : Ct) (k : Nat) : Prop := lget c.clocks k 0 < (lget c.trusts k ⟨0, 0⟩).til

/-- Clocks never go back, and are none below 0. -/
theorem clocks_pos {c : Ct} {span : Int} {d : Dd} (h : ∀ x ∈ c.clocks, 0 ≤ x) (hm : mayC c d = 0) : ∀ x ∈ (doC c span d).clocks, 0 ≤ x := by
  have hk : d.kind = 1 → 0 ≤ d.n := by
    intro h1
    unfold mayC at hm
    split at hm
    · cases hm
    split at hm
    · cases hm
    split at hm
    · cases hm
    omega
  unfold doC
  by_cases d0 : d.kind = 0
  · simp only [if_pos d0]; exact h
  simp only [if_neg d0]
  by_cases d1 : d.kind = 1
  · simp only [if_pos d1]
    intro x hx
    rcases List.mem_or_eq_of_mem_set hx with hx | hx
    · exact h x hx
    · have := hk d1
      rw [hx]
      unfold lget
      rw [List.getD_eq_getElem?_getD]
      cases hq : c.clocks[d.who.toNat]? with
      | none => simp; omega
      | some y =>
        have := h y (List.mem_of_getElem? hq)
        simp
        omega
  simp only [if_neg d1]
  by_cases d2 : d.kind = 2
  · simp only [if_pos d2]; exact h
  simp only [if_neg d2]
  by_cases d3 : d.kind = 3
  · simp only [if_pos d3]; split <;> exact h
  simp only [if_neg d3]
  by_cases d4 : d.kind = 4
  · simp only [if_pos d4]; split <;> exact h
  simp only [if_neg d4]
  by_cases d5 : d.kind = 5
  · simp only [if_pos d5]; exact h
  simp only [if_neg d5]
  by_cases d6 : d.kind = 6
  · simp only [if_pos d6]; exact h
  simp only [if_neg d6]
  by_cases d7 : d.kind = 7
  · simp only [if_pos d7]; exact h
  simp only [if_neg d7]
  exact h

theorem run_ok {span : Int} {n : Nat} {ds : List Dd} (hv : okC span n ds) : ∀ i, i ≤ ds.length → ∃ H, InvC H (momC span n ds i) (runC span n ds i) span n ∧ (∀ x ∈ (runC span n ds i).clocks, 0 ≤ x) ∧
    ∀ j, j ≤ i → (runC span n ds j).lease.ep ≤ (runC span n ds i).lease.ep ∧ ∀ k, k < n → trustsC (runC span n ds j) k →
      1 ≤ (lget (runC span n ds j).trusts k ⟨0, 0⟩).ep ∧ (lget (runC span n ds j).trusts k ⟨0, 0⟩).ep ≤ (runC span n ds j).lease.ep ∧ H (lget (runC span n ds j).trusts k ⟨0, 0⟩).ep = k ∧
      ((∀ m ∈ momC span n ds j, m.1 + span ≤ (runC span n ds j).now → lget m.2 k 0 + trustD span ≤ lget (runC span n ds j).clocks k 0) → (lget (runC span n ds j).trusts k ⟨0, 0⟩).ep = (runC span n ds j).lease.ep)
  | 0, _ => by
    have hI := InvC.begin span n
    have hc : ∀ x ∈ (court0 n).clocks, 0 ≤ x := by
      intro x hx
      have := (List.mem_replicate.1 hx).2
      omega
    refine ⟨_, hI, hc, fun j hj => ?_⟩
    obtain rfl : j = 0 := by omega
    exact ⟨Int.le_refl _, fun k hk ht => hI.trusting hc hk ht⟩
  | i + 1, hi => by
    obtain ⟨H, hI, hc, hall⟩ := run_ok hv i (by omega)
    obtain ⟨d, hd⟩ : ∃ d, ds[i]? = some d := ⟨_, List.getElem?_eq_getElem (by omega)⟩
    have hm := hv i d hd
    obtain ⟨H', hH, hle, hI'⟩ := hI.step (span := span) hm
    have hc' := clocks_pos (span := span) hc hm
    rw [← runC_succ hd] at hle hI' hc'
    refine ⟨H', hI', hc', fun j hj => ?_⟩
    by_cases hji : j = i + 1
    · subst hji
      exact ⟨Int.le_refl _, fun k hk ht => hI'.trusting hc' hk ht⟩
    · obtain ⟨h1, h2⟩ := hall j (by omega)
      refine ⟨by omega, fun k hk ht => ?_⟩
      obtain ⟨a1, a2, a3, a4⟩ := h2 k hk ht
      exact ⟨a1, a2, by rw [hH _ (by omega)]; exact a3, a4⟩

/-- Deeds are fair: between two moments between which the granter's clock goes on by span, each client's goes on as far as it must. -/
def fairP (span : Int) (n : Nat) (ds : List Dd) (e : Nat) : Prop :=
  ∀ j i, j ≤ i → i ≤ e → (runC span n ds j).now + span ≤ (runC span n ds i).now → ∀ k : Nat, k < n → lget (runC span n ds j).clocks k 0 + trustD span ≤ lget (runC span n ds i).clocks k 0

/-- NEVER TWO TRUST AT ONE TIME, where deeds are fair. -/
theorem apart {span : Int} {n : Nat} {ds : List Dd} (hv : okC span n ds) (hf : fairP span n ds ds.length) {i : Nat} (hi : i ≤ ds.length) {k k' : Nat} (hk : k < n) (hk' : k' < n) (ht : trustsC (runC span n ds i) k) (ht' : trustsC (runC span n ds i) k') : k = k' := by
  obtain ⟨H, _, _, hall⟩ := run_ok hv i hi
  obtain ⟨_, h2⟩ := hall i (Nat.le_refl _)
  have fair : ∀ k, k < n → ∀ m ∈ momC span n ds i, m.1 + span ≤ (runC span n ds i).now → lget m.2 k 0 + trustD span ≤ lget (runC span n ds i).clocks k 0 := by
    intro k hk m hm hsp
    obtain ⟨j, hj, rfl⟩ := momC_mem hm
    exact hf j i hj hi hsp k hk
  obtain ⟨_, _, a3, a4⟩ := h2 k hk ht
  obtain ⟨_, _, b3, b4⟩ := h2 k' hk' ht'
  have e1 := a4 (fair k hk)
  have e2 := b4 (fair k' hk')
  rw [e1] at a3
  rw [e2, a3] at b3
  omega

end Go.Proofs.Ytpojgcjigjenoag
