/-
  The walks over package lease's small functions.
-/
import Derived.Test.YtpojgcjigjenoagRows
import Derived.Test.YtpojgcjigjenoagLeaseMath4
import Derived.Test.YtpojgcjigjenoagGenD
namespace Go.Proofs.Ytpojgcjigjenoag
open Go.RowKit
set_option linter.unusedVariables false

/-- A lease as a value. -/
def lsV (l : Ls) : Value := .agg #[.int .i64 l.hold, .int .i64 l.ep, .int .i64 l.til]

theorem numL_true {n : Int} (h0 : 0 ≤ n) (h1 : n ≤ 1000000000) : numL n = true := decide_eq_true ⟨h0, h1⟩
theorem numL_iff {n : Int} : numL n = true ↔ 0 ≤ n ∧ n ≤ 1000000000 := by unfold numL; exact decide_eq_true_iff

set_option maxRecDepth 100000 in
set_option maxHeartbeats 400000 in
theorem lIsNum_any (n : Int) (w : World) : Calls Try.prog 43 #[.int .i64 n] w fun e w' => e = .returned (.bool (numL n)) ∧ w' = w := by
  by_cases h1 : 0 ≤ n
  · have hd : decide (0 ≤ n) = true := by simpa using h1
    go_enter Try.func43, Try.ntmps43
    go_wp2_with fail
    go_ret
    exact ⟨by simp [numL, h1], rfl⟩
  · have hd : decide (0 ≤ n) = false := by simpa using h1
    go_enter Try.func43, Try.ntmps43
    go_wp2_with fail
    go_ret
    exact ⟨by simp [numL]; omega, rfl⟩

set_option maxRecDepth 100000 in
set_option maxHeartbeats 400000 in
theorem lNum_any (n : Int) (w : World) : Calls Try.prog 54 #[.int .i64 n] w fun e w' => e = .returned (.bool (numL n)) ∧ w' = w := by
  by_cases h1 : 0 ≤ n
  · have hd : decide (0 ≤ n) = true := by simpa using h1
    go_enter Try.func54, Try.ntmps54
    go_wp2_with fail
    go_ret
    exact ⟨by simp [numL, h1], rfl⟩
  · have hd : decide (0 ≤ n) = false := by simpa using h1
    go_enter Try.func54, Try.ntmps54
    go_wp2_with fail
    go_ret
    exact ⟨by simp [numL]; omega, rfl⟩

set_option maxRecDepth 100000 in
theorem lF_any (c a : Int) (w : World) : Calls Try.prog 28 #[.int .i64 c, .int .i64 a] w fun e w' => e = .returned (flt (c, a)) ∧ Below w.heap.size w w' := by
  go_enter Try.func28, Try.ntmps28
  go_wp2_with fail
  exact bodyPost_ret (v := flt (c, a)) (by simp [results, Try.results28, go_sem, flt]) rfl ⟨rfl, by go_grown⟩



/-- Is a lease held? -/
def heldB (l : Ls) (now : Int) : Bool := decide (l.hold ≠ 0 ∧ now < l.til)



end Go.Proofs.Ytpojgcjigjenoag
