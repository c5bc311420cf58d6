/-
  The walks over the document's reading of numbers.
-/
import Derived.Test.YtkhdphhnhlmdjabRefW2
import Derived.Deep.RegionHeld3
namespace Go.Proofs.Ytkhdphhnhlmdjab
open Go.RowKit

def okB (bs : List UInt8) (k : Nat) : Bool := decide (valOf (bs.take k) ≤ 1000000000) && (encN (valOf (bs.take k)) == bs.take k)
theorem okB_iff (bs : List UInt8) (k : Nat) : okB bs k = true ↔ okAt bs k := by simp [okB, okAt]
theorem okB_no {bs : List UInt8} {k : Nat} (h : okB bs k = false) : ¬ okAt bs k := fun e => by rw [(okB_iff bs k).2 e] at h; cases h

/-- What NumberAt answers. -/
def natV : Option (Nat × Nat) → Value
  | none => .tuple #[.int .i64 0, .int .i64 0]
  | some (n, k) => .tuple #[.int .i64 n, .int .i64 k]


/-- What ReadNumbers answers, from what is left on: the numbers, and how many are ahead of what is none. -/
def refNums : Nat → List UInt8 → List Int → List Int × Int
  | 0, _, _ => ([], 0)
  | f + 1, bs, acc =>
    if bs = [] then (acc, -1)
    else match numAt bs with
      | none => ([], (acc.length : Int))
      | some (n, k) => refNums f (bs.drop k) (acc ++ [(n : Int)])

theorem refNums_end {f : Nat} {acc : List Int} : refNums (f + 1) [] acc = (acc, -1) := by
  rw [refNums, if_pos rfl]

theorem refNums_bad {f : Nat} {bs : List UInt8} {acc : List Int} (h : bs ≠ []) (hn : numAt bs = none) : refNums (f + 1) bs acc = ([], (acc.length : Int)) := by
  rw [refNums, if_neg h, hn]

theorem refNums_step {f : Nat} {bs : List UInt8} {acc : List Int} {n k : Nat} (h : bs ≠ []) (hn : numAt bs = some (n, k)) : refNums (f + 1) bs acc = refNums f (bs.drop k) (acc ++ [(n : Int)]) := by
  rw [refNums, if_neg h, hn]


end Go.Proofs.Ytkhdphhnhlmdjab
