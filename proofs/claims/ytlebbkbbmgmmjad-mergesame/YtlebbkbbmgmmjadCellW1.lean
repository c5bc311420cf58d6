/-
  The walks over package cell's small functions.
-/
import Derived.Test.YtlebbkbbmgmmjadRows
import Derived.Test.YtlebbkbbmgmmjadCellBase
namespace Go.Proofs.Ytlebbkbbmgmmjad
open Go.RowKit

/-- A number that may be a time. -/
def isNumB (n : Int) : Bool := decide (0 ≤ n ∧ n ≤ 1000000000)

set_option maxRecDepth 100000 in
set_option maxHeartbeats 400000 in
theorem isNum_any (n : Int) (w : World) : Calls Try.prog 54 #[.int .i64 n] w fun e w' => e = .returned (.bool (isNumB n)) ∧ w' = w := by
  by_cases h1 : 0 ≤ n
  · have hd : decide (0 ≤ n) = true := by simpa using h1
    go_enter Try.func54, Try.ntmps54
    go_wp2_with fail
    go_ret
    exact ⟨by simp [isNumB, h1], rfl⟩
  · have hd : decide (0 ≤ n) = false := by simpa using h1
    go_enter Try.func54, Try.ntmps54
    go_wp2_with fail
    go_ret
    exact ⟨by simp [isNumB]; omega, rfl⟩

/-- What cmp.Compare tells of texts. -/
def cmpS (a b : ByteArray) : Int := if Op.bytesLess a.toList b.toList then -1 else if a.toList = b.toList then 0 else 1
def cmpI (a b : Int) : Int := if a < b then -1 else if a = b then 0 else 1

set_option maxRecDepth 100000 in
set_option maxHeartbeats 400000 in
theorem isNaNS_any (a : ByteArray) (w : World) : Calls Try.prog 117 #[.string a] w fun e w' => e = .returned (.bool false) ∧ w' = w := by
  have h : (a.toList == a.toList) = true := by simp
  go_enter Try.func117, Try.ntmps117
  go_wp2_with fail
  go_ret
  exact ⟨by simp, rfl⟩

set_option maxRecDepth 100000 in
set_option maxHeartbeats 400000 in
theorem isNaNI_any (a : Int) (w : World) : Calls Try.prog 118 #[.int .i64 a] w fun e w' => e = .returned (.bool false) ∧ w' = w := by
  go_enter Try.func118, Try.ntmps118
  go_wp2_with fail
  go_ret
  exact ⟨by simp, rfl⟩

set_option maxRecDepth 100000 in
set_option maxHeartbeats 400000 in
theorem cmpS_any (a b : ByteArray) (w : World) : Calls Try.prog 97 #[.string a, .string b] w fun e w' => e = .returned (.int .i64 (cmpS a b)) ∧ w' = w := by
  cases h1 : Op.bytesLess a.toList b.toList <;> cases h2 : (a.toList == b.toList)
  all_goals
    go_enter Try.func97, Try.ntmps97
    go_wp2_with (first | (go_at_call 117; refine (isNaNS_any _ _).mono ?_; rintro e w' ⟨rfl, rfl⟩))
    go_ret
    refine ⟨?_, rfl⟩
    first
    | (rw [cmpS, if_pos h1]; rfl)
    | (rw [cmpS, if_neg (by rw [h1]; decide)]; simp only [beq_iff_eq, beq_eq_false_iff_ne] at h2; simp [h2])

set_option maxRecDepth 100000 in
set_option maxHeartbeats 400000 in
theorem cmpI_any (a b : Int) (w : World) : Calls Try.prog 98 #[.int .i64 a, .int .i64 b] w fun e w' => e = .returned (.int .i64 (cmpI a b)) ∧ w' = w := by
  by_cases h1 : a < b
  · go_enter Try.func98, Try.ntmps98
    go_wp2_with (first | (go_at_call 118; refine (isNaNI_any _ _).mono ?_; rintro e w' ⟨rfl, rfl⟩))
    go_ret
    simp [cmpI, h1]
  · by_cases h2 : b < a
    · go_enter Try.func98, Try.ntmps98
      go_wp2_with (first | (go_at_call 118; refine (isNaNI_any _ _).mono ?_; rintro e w' ⟨rfl, rfl⟩))
      go_ret
      simp [cmpI, h1, show ¬ a = b by omega]
    · go_enter Try.func98, Try.ntmps98
      go_wp2_with (first | (go_at_call 118; refine (isNaNI_any _ _).mono ?_; rintro e w' ⟨rfl, rfl⟩))
      go_ret
      simp [cmpI, show a = b by omega]

/-- Below 0: a stands ahead of b. -/
def ordC (a b : Cl) : Int := if cmpS a.row b.row ≠ 0 then cmpS a.row b.row else if cmpS a.col b.col ≠ 0 then cmpS a.col b.col else cmpI b.time a.time

set_option maxRecDepth 100000 in
set_option maxHeartbeats 400000 in
theorem order_any (a b : Cl) (w : World) : Calls Try.prog 63 #[cA a, cA b] w fun e w' => e = .returned (.int .i64 (ordC a b)) ∧ Below w.heap.size w w' := by
  unfold cA
  cases h1 : (cmpS a.row b.row != 0) <;> cases h2 : (cmpS a.col b.col != 0)
  all_goals
    go_enter Try.func63, Try.ntmps63
    go_wp2_with (first | (go_at_call 97; refine (cmpS_any _ _ _).mono ?_; rintro e w' ⟨rfl, rfl⟩) | (go_at_call 98; refine (cmpI_any _ _ _).mono ?_; rintro e w' ⟨rfl, rfl⟩))
    go_ret
    refine ⟨?_, by go_grown⟩
    have h3 := h1
    have h4 := h2
    simp only [bne_iff_ne, bne_eq_false_iff_eq] at h3 h4
    simp [ordC, h3, h4]

/-- What is wrong with a cell. -/
def codeC (c : Cl) : Int :=
  if c.row.toList.isEmpty = true ∨ 40 < (c.row.size : Int) ∨ 40 < (c.col.size : Int) ∨ 200 < (c.val.size : Int) then 8
  else if isNumB c.time = false then 3
  else if c.gone = true ∧ c.val.toList.isEmpty = false then 5 else 0

set_option maxRecDepth 100000 in
set_option maxHeartbeats 400000 in
theorem ownCode_any (c : Cl) (w : World) : Calls Try.prog 62 #[cA c] w fun e w' => e = .returned (.int .i64 (codeC c)) ∧ Below w.heap.size w w' := by
  unfold cA
  have hall : c.row.toList.isEmpty = true ∨ (c.row.toList.isEmpty = false ∧ 40 < (c.row.size : Int)) ∨ (c.row.toList.isEmpty = false ∧ (c.row.size : Int) ≤ 40 ∧ 40 < (c.col.size : Int)) ∨ (c.row.toList.isEmpty = false ∧ (c.row.size : Int) ≤ 40 ∧ (c.col.size : Int) ≤ 40 ∧ 200 < (c.val.size : Int)) ∨ (c.row.toList.isEmpty = false ∧ (c.row.size : Int) ≤ 40 ∧ (c.col.size : Int) ≤ 40 ∧ (c.val.size : Int) ≤ 200) := by
    cases c.row.toList.isEmpty
    · simp only [Bool.false_eq_true, false_or, true_and]
      omega
    · exact .inl rfl
  rcases hall with h0 | ⟨h0, h1⟩ | ⟨h0, h1, h2⟩ | ⟨h0, h1, h2, h3⟩ | ⟨h0, h1, h2, h3⟩
  iterate 4
    · have HE := hide (show codeC c = 8 by unfold codeC; rw [if_pos (by simp only [h0]; simp; try omega)])
      go_enter Try.func62, Try.ntmps62
      go_wp2_with fail
      go_ret
      exact ⟨by rw [HE.out]; rfl, by go_grown⟩
  · have hn : ¬ (c.row.toList.isEmpty = true ∨ 40 < (c.row.size : Int) ∨ 40 < (c.col.size : Int) ∨ 200 < (c.val.size : Int)) := by simp only [h0]; simp; omega
    cases h4 : isNumB c.time
    · have HE := hide (show codeC c = 3 by unfold codeC; rw [if_neg hn, if_pos h4])
      clear hn
      go_enter Try.func62, Try.ntmps62
      go_wp2_with (go_at_call 54; refine (isNum_any _ _).mono ?_; rintro e w' ⟨rfl, rfl⟩; rw [h4])
      go_ret
      exact ⟨by rw [HE.out]; rfl, by go_grown⟩
    · cases h5 : c.gone <;> cases h6 : c.val.toList.isEmpty
      all_goals
        have HE := hide (show codeC c = _ by unfold codeC; rw [if_neg hn, if_neg (by rw [h4]; decide), h5, h6])
        clear hn
        go_enter Try.func62, Try.ntmps62
        go_wp2_with (go_at_call 54; refine (isNum_any _ _).mono ?_; rintro e w' ⟨rfl, rfl⟩; rw [h4])
        go_ret
        exact ⟨by rw [HE.out]; rfl, by go_grown⟩

end Go.Proofs.Ytlebbkbbmgmmjad
