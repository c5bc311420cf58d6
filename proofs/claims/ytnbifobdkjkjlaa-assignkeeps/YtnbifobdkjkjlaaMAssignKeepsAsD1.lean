/-
  Texts joined: AsD1.
-/
import Derived.Test.YtnbifobdkjkjlaaMAssignKeepsAsR8
/-
  slices.Sort and slices.MinFunc of one number. 
-/
namespace Go.Proofs.Ytnbifobdkjkjlaa
open Go.RowKit
set_option linter.unusedVariables false

set_option maxRecDepth 100000 in
theorem insSort1_any (v : Value) (w : World) : Calls Try.prog 72 #[v, .int .i64 0, .int .i64 1] w fun e w' => e = .returned (.tuple #[]) ∧ w' = w := by
  go_enter Try.func72, Try.ntmps72
  go_wp2_with fail
  go_loopw [6] (fun iv wr => iv = .int .i64 1 ∧ w = wr) (fun _ _ => 0)
  case atStart => exact ⟨rfl, rfl⟩
  case round =>
    obtain ⟨rfl, rfl⟩ := hrel
    go_wp2_with fail
    exact bodyPost_end (v := .tuple #[]) (by simp [results, Try.results72, go_sem]) rfl ⟨rfl, rfl⟩

set_option maxRecDepth 100000 in
theorem pdq1_any (v : Value) (n : Int) (w : World) : Calls Try.prog 63 #[v, .int .i64 0, .int .i64 1, .int .i64 n] w fun e w' => e = .returned (.tuple #[]) ∧ w' = w := by
  have HI := hide (insSort1_any v w)
  go_enter Try.func63, Try.ntmps63
  go_wp2_with fail
  go_loopw [1, 2] (fun a b wr => a = .int .i64 0 ∧ b = .int .i64 1 ∧ w = wr) (fun _ _ _ => 0)
  case atStart => exact ⟨rfl, rfl, rfl⟩
  case round =>
    obtain ⟨rfl, rfl, rfl⟩ := hrel
    go_wp2_with (go_at_call 72; refine HI.out.mono ?_; rintro e w1 ⟨rfl, hw⟩; rw [hw]; clear hw)
    exact bodyPost_ret (v := .tuple #[]) (by simp [results, Try.results63, go_sem]) rfl ⟨rfl, rfl⟩

set_option maxRecDepth 100000 in
theorem len64_1 (w : World) : Calls Try.prog 82 #[.int .u64 1] w fun e w' => (∃ n, e = .returned (.int .i64 n)) ∧ w' = w := by
  go_enter Try.func82, Try.ntmps82
  go_wp2_with fail
  go_ret
  exact ⟨⟨_, rfl⟩, rfl⟩

set_option maxRecDepth 100000 in
theorem len_1 (w : World) : Calls Try.prog 64 #[.int .u64 1] w fun e w' => (∃ n, e = .returned (.int .i64 n)) ∧ w' = w := by
  have HL := hide (len64_1 w)
  go_enter Try.func64, Try.ntmps64
  go_wp2_with (go_at_call 82; refine HL.out.mono ?_; rintro e w1 ⟨⟨n, rfl⟩, hw⟩; rw [hw]; clear hw)
  go_ret
  exact ⟨⟨_, rfl⟩, rfl⟩

set_option maxRecDepth 100000 in
theorem SortI1_any (ao : Option Addr) (cap : Nat) (w : World) : Calls Try.prog 48 #[.slice ao 1 cap] w fun e w' => e = .returned (.tuple #[]) ∧ w' = w := by
  have HL := hide (len_1 w)
  have HP := hide (fun n => pdq1_any (.slice ao 1 cap) n w)
  go_enter Try.func48, Try.ntmps48
  go_wp2_with (first
    | (go_at_call 64; refine HL.out.mono ?_; rintro e w1 ⟨⟨n, rfl⟩, hw⟩; rw [hw]; clear hw)
    | (go_at_call 63; refine (HP.out _).mono ?_; rintro e w1 ⟨rfl, hw⟩; rw [hw]; clear hw))
  exact bodyPost_end (v := .tuple #[]) (by simp [results, Try.results48, go_sem]) rfl ⟨rfl, rfl⟩

set_option maxRecDepth 100000 in
theorem MinFunc1_any (g o cap : Nat) (n : Int) (fv : Value) (w : World) (h0 : w.cell? ⟨g, o, none⟩ = some (.int .i64 n)) (hl : g < w.heap.size) : Calls Try.prog 23 #[.slice (some ⟨g, o, none⟩) 1 cap, fv] w fun e w' => e = .returned (.int .i64 n) ∧ w' = w := by
  go_enter Try.func23, Try.ntmps23
  go_wp2_with fail
  go_loopw [5, 6] (fun m iv wr => m = .int .i64 n ∧ iv = .int .i64 1 ∧ w = wr) (fun _ _ _ => 0)
  case atStart => exact ⟨rfl, rfl, rfl⟩
  case round =>
    obtain ⟨rfl, rfl, rfl⟩ := hrel
    go_wp2_with fail
    go_ret
    exact ⟨rfl, rfl⟩

end Go.Proofs.Ytnbifobdkjkjlaa
