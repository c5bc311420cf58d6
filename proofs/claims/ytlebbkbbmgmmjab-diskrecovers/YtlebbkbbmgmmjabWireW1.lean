/-
  The walks over package wire's writers.
-/
import Derived.Test.YtlebbkbbmgmmjabCodeW1
namespace Go.Proofs.Ytlebbkbbmgmmjab
open Go.RowKit

theorem Try.info5 : (Try.prog.info? 5).map (fun i => (i.zero, i.size, i.bytes)) = some (some (.int .u8 0), 1, 1) := by kernel_rfl
theorem Try.info3 : (Try.prog.info? 3).map (fun i => (i.zero, i.size, i.bytes)) = some (some (.int .i64 0), 1, 8) := by kernel_rfl

/-- A fault, as a value. -/
def flt (c a : Int) : Value := .agg #[.int .i64 c, .int .i64 a]


end Go.Proofs.Ytlebbkbbmgmmjab
