/-
  The walks over package lease's small functions.
-/
import Derived.Test.YtfmoniabpinceafRows
import Derived.Test.YtfmoniabpinceafLeaseMath4
import Derived.Test.YtfmoniabpinceafGenD
namespace Go.Proofs.Ytfmoniabpinceaf
open Go.RowKit
set_option linter.unusedVariables false

/-- A lease as a value. -/
def lsV (l : Ls) : Value := .agg #[.int .i64 l.hold, .int .i64 l.ep, .int .i64 l.til]

theorem numL_true {n : Int} (h0 : 0 ≤ n) (h1 : n ≤ 1000000000) : numL n = true := decide_eq_true ⟨h0, h1⟩
theorem numL_iff {n : Int} : numL n = true ↔ 0 ≤ n ∧ n ≤ 1000000000 := by unfold numL; exact decide_eq_true_iff

set_option maxRecDepth 100000 in
set_option maxHeartbeats 400000 in
theorem lIsNum_any (n : Int) (w : World) : Calls Try.prog 42 #[.int .i64 n] w fun e w' => e = .returned (.bool (numL n)) ∧ w' = w := by
  by_cases h1 : 0 ≤ n
  · have hd : decide (0 ≤ n) = true := by simpa using h1
    go_enter Try.func42, Try.ntmps42
    go_wp2_with fail
    go_ret
    exact ⟨by simp [numL, h1], rfl⟩
  · have hd : decide (0 ≤ n) = false := by simpa using h1
    go_enter Try.func42, Try.ntmps42
    go_wp2_with fail
    go_ret
    exact ⟨by simp [numL]; omega, rfl⟩

set_option maxRecDepth 100000 in
set_option maxHeartbeats 400000 in
theorem lNum_any (n : Int) (w : World) : Calls Try.prog 25 #[.int .i64 n] w fun e w' => e = .returned (.bool (numL n)) ∧ w' = w := by
  by_cases h1 : 0 ≤ n
  · have hd : decide (0 ≤ n) = true := by simpa using h1
    go_enter Try.func25, Try.ntmps25
    go_wp2_with fail
    go_ret
    exact ⟨by simp [numL, h1], rfl⟩
  · have hd : decide (0 ≤ n) = false := by simpa using h1
    go_enter Try.func25, Try.ntmps25
    go_wp2_with fail
    go_ret
    exact ⟨by simp [numL]; omega, rfl⟩

set_option maxRecDepth 100000 in
theorem lF_any (c a : Int) (w : World) : Calls Try.prog 26 #[.int .i64 c, .int .i64 a] w fun e w' => e = .returned (flt (c, a)) ∧ Below w.heap.size w w' := by
  go_enter Try.func26, Try.ntmps26
  go_wp2_with fail
  exact bodyPost_ret (v := flt (c, a)) (by simp [results, Try.results26, go_sem, flt]) rfl ⟨rfl, by go_grown⟩

set_option maxRecDepth 100000 in
set_option maxHeartbeats 1000000 in
theorem lCheck_any (l : Ls) (w : World) : Calls Try.prog 20 #[lsV l] w fun e w' => e = .returned (flt (lchkF l)) ∧ Below w.heap.size w w' := by
  obtain ⟨hold, ep, til⟩ := l
  unfold lsV
  cases h1 : numL hold <;> cases h2 : numL ep <;> cases h3 : numL til
  all_goals
    have HE : Hid (lchkF ⟨hold, ep, til⟩ = if numL hold = true ∧ numL ep = true ∧ numL til = true then (0, 0) else (3, 0)) := hide rfl
    rw [h1, h2, h3] at HE
    go_enter Try.func20, Try.ntmps20
    go_wp2_with (go_at_call 42; refine (lIsNum_any _ _).mono ?_; rintro e w' ⟨rfl, rfl⟩; first | rw [h1] | rw [h2] | rw [h3])
    first
      | exact bodyPost_ret (v := flt (3, 0)) (by simp [results, Try.results20, go_sem, flt]) rfl ⟨by rw [HE.out]; rfl, by go_grown⟩
      | exact bodyPost_ret (v := flt (0, 0)) (by simp [results, Try.results20, go_sem, flt]) rfl ⟨by rw [HE.out]; rfl, by go_grown⟩

set_option maxRecDepth 100000 in
set_option maxHeartbeats 1000000 in
theorem spanFault_any (span : Int) (w : World) : Calls Try.prog 46 #[.int .i64 span] w fun e w' => e = .returned (flt (spanF span)) ∧ Below w.heap.size w w' := by
  by_cases h1 : span < 4
  · have HE : Hid (spanF span = (3, -3)) := hide (by unfold spanF; rw [if_neg (by omega)])
    go_enter Try.func46, Try.ntmps46
    go_wp2_with fail
    exact bodyPost_ret (v := flt (3, -3)) (by simp [results, Try.results46, go_sem, flt]) rfl ⟨by rw [HE.out], by go_grown⟩
  · by_cases h2 : 1000000 < span
    · have HE : Hid (spanF span = (3, -3)) := hide (by unfold spanF; rw [if_neg (by omega)])
      go_enter Try.func46, Try.ntmps46
      go_wp2_with fail
      exact bodyPost_ret (v := flt (3, -3)) (by simp [results, Try.results46, go_sem, flt]) rfl ⟨by rw [HE.out], by go_grown⟩
    · have HE : Hid (spanF span = (0, 0)) := hide (by unfold spanF; rw [if_pos (by omega)])
      go_enter Try.func46, Try.ntmps46
      go_wp2_with fail
      exact bodyPost_ret (v := flt (0, 0)) (by simp [results, Try.results46, go_sem, flt]) rfl ⟨by rw [HE.out], by go_grown⟩

/-- Is a lease held? -/
def heldB (l : Ls) (now : Int) : Bool := decide (l.hold ≠ 0 ∧ now < l.til)

set_option maxRecDepth 100000 in
set_option maxHeartbeats 1000000 in
theorem isHeld_any (l : Ls) (now : Int) (w : World) : Calls Try.prog 44 #[lsV l, .int .i64 now] w fun e w' => e = .returned (.bool (heldB l now)) ∧ Below w.heap.size w w' := by
  obtain ⟨hold, ep, til⟩ := l
  unfold lsV
  by_cases h1 : hold = 0
  · subst h1
    go_enter Try.func44, Try.ntmps44
    go_wp2_with fail
    go_ret
    exact ⟨by simp [heldB], by go_grown⟩
  · have h2 : (hold == 0) = false := beq_eq_false_iff_ne.2 h1
    have h3 : (hold != 0) = true := by simp [h1]
    go_enter Try.func44, Try.ntmps44
    go_wp2_with fail
    go_ret
    exact ⟨by simp [heldB, h1], by go_grown⟩

set_option maxRecDepth 100000 in
set_option maxHeartbeats 400000 in
theorem trusted_any (span : Int) (w : World) (h0 : 0 ≤ span) (h1 : span ≤ 1000000) : Calls Try.prog 47 #[.int .i64 span] w fun e w' => e = .returned (.int .i64 (trustD span)) ∧ w' = w := by
  have hq : IntKind.i64.wrap (span.tdiv 4) = span / 4 := by rw [IntKind.wrap_i64, Int.tdiv_eq_ediv_of_nonneg h0]; omega
  have hq2 : IntKind.i64.wrap (span - span / 4) = trustD span := by rw [IntKind.wrap_i64]; unfold trustD; omega
  go_enter Try.func47, Try.ntmps47
  go_wp2_with fail
  go_ret
  exact ⟨by first | rfl | (simp [hq, hq2]), rfl⟩

end Go.Proofs.Ytfmoniabpinceaf
