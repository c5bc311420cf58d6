/-
  The walks over the document's small comparisons.
-/
import Derived.Test.YtlebbkbbmgmmjabWireW1
namespace Go.Proofs.Ytlebbkbbmgmmjab
open Go.RowKit

set_option maxRecDepth 100000 in
set_option maxHeartbeats 400000 in
theorem Same_any (u v : Value) (xs ys : List UInt8) (w : World) (h1 : Rd w u (bc xs)) (h2 : Rd w v (bc ys)) :
    Calls Try.prog 14 #[u, v] w fun e w' => e = .returned (.bool (xs == ys)) ∧ w' = w := by
  have c1 := run_string_of_rd (P := Try.prog) Try.underlying25 Try.underlying5 Try.underlying9 h1
  have c2 := run_string_of_rd (P := Try.prog) Try.underlying25 Try.underlying5 Try.underlying9 h2
  go_enter Try.func14, Try.ntmps14
  go_wp2_with fail
  go_ret
  exact ⟨rfl, rfl⟩

theorem take_ext {α : Type} {xs ys : List α} {k : Nat} (h : xs.take k = ys.take k) (hx : k < xs.length) (hy : k < ys.length) (e : xs[k] = ys[k]) : xs.take (k + 1) = ys.take (k + 1) := by
  rw [List.take_succ_eq_append_getElem hx, List.take_succ_eq_append_getElem hy, h, e]

theorem beq_of_take {α : Type} [BEq α] [LawfulBEq α] {xs ys : List α} {k : Nat} (h : xs.take k = ys.take k) (hx : xs.length ≤ k) (hy : ys.length ≤ k) : (xs == ys) = true := by
  rw [List.take_of_length_le hx, List.take_of_length_le hy] at h
  exact beq_iff_eq.2 h

theorem beq_no_len {α : Type} [BEq α] [LawfulBEq α] {xs ys : List α} (h : xs.length ≠ ys.length) : (xs == ys) = false :=
  beq_eq_false_iff_ne.2 (fun e => h (by rw [e]))

theorem beq_no_at {α : Type} [BEq α] [LawfulBEq α] {xs ys : List α} {k : Nat} (hx : k < xs.length) (hy : k < ys.length) (h : xs[k] ≠ ys[k]) : (xs == ys) = false :=
  beq_eq_false_iff_ne.2 (fun e => h (by subst e; rfl))



end Go.Proofs.Ytlebbkbbmgmmjab
