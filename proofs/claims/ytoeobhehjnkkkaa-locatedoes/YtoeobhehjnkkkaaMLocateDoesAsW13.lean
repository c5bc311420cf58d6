/-
  Texts joined: AsW13.
-/
import Derived.Test.YtoeobhehjnkkkaaMLocateDoesAsW12
/-
  The walks over do, copied and Do of package assign: what an order does. (Under way.)
-/
namespace Go.Proofs.Ytoeobhehjnkkkaa
open Go.RowKit Go.Maps
set_option linter.unusedVariables false

/-- What a board must be that its methods' walks go through. -/
structure OkB (b : Bd) : Prop where
  hl : b.hs.length ≤ 20
  ep : ∀ x ∈ b.hs, 0 ≤ x.ep ∧ x.ep ≤ 1000000000
  sl : b.sl.length ≤ 200
  tu : 0 ≤ b.tu ∧ b.tu ≤ 1000000000
  nx : 1 ≤ b.nx ∧ b.nx ≤ 1000000000

theorem OkB.of {b : Bd} (h : (chkB b).1 = 0) : OkB b := by
  obtain ⟨h1, h2, h3, h4, h5⟩ := chkB_ok h
  have hl : b.hs.length ≤ 20 := by
    unfold chkH at h1
    by_cases q : 20 < b.hs.length
    · rw [if_pos q] at h1; cases h1
    · omega
  refine ⟨hl, fun x hx => ?_, (chkP_fine.1 h4).1 |> fun q => by simpa [parts] using q, ?_, ?_⟩
  · unfold chkH at h1
    rw [if_neg (by omega)] at h1
    obtain ⟨j, hj⟩ := List.getElem?_of_mem hx
    have hjl := (List.getElem?_eq_some_iff.1 hj).1
    have hz := chkHGo_zero h1 j hjl
    rw [Nat.zero_add] at hz
    unfold codeH at hz
    have hgd : b.hs.getD j zeroHo = x := by rw [List.getD_eq_getElem?_getD, hj]; rfl
    simp only [hgd] at hz
    by_cases q : oneB x.id = false ∨ oneB x.ep = false
    · rw [if_pos q] at hz; cases hz
    · have : oneB x.ep = true := by
        cases e : oneB x.ep
        · exact absurd (.inr e) q
        · rfl
      have := oneB_iff.1 this
      omega
  · unfold numB at h2
    simp only [decide_eq_true_eq] at h2
    exact h2
  · exact oneB_iff.1 h3

end Go.Proofs.Ytoeobhehjnkkkaa
