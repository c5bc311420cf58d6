/-
  The walks over package wire's texts.
-/
import Derived.Test.YtlebbkbbmgmmjabWireW3
namespace Go.Proofs.Ytlebbkbbmgmmjab
open Go.RowKit

/-- What ReadTexts comes to, from what is left on. -/
def rdTexts : Nat → List UInt8 → List (List UInt8) → List (List UInt8) × Int × Int
  | 0, _, _ => ([], 0, 0)
  | f + 1, bs, acc =>
    if bs = [] then (if 1000 < acc.length then ([], 2, 0) else (acc, 0, 0))
    else match textAt bs with
      | none => ([], 5, (acc.length : Int))
      | some (t, k) => rdTexts f (bs.drop k) (acc ++ [t])

def readTextsR (bs : List UInt8) : List (List UInt8) × Int × Int := if 60000 < bs.length then ([], 8, 0) else rdTexts (bs.length + 1) bs []
theorem rdTexts_end {f : Nat} {acc : List (List UInt8)} (h : acc.length ≤ 1000) : rdTexts (f + 1) [] acc = (acc, 0, 0) := by
  rw [rdTexts, if_pos rfl, if_neg (by omega)]

theorem rdTexts_many {f : Nat} {acc : List (List UInt8)} (h : 1000 < acc.length) : rdTexts (f + 1) [] acc = ([], 2, 0) := by
  rw [rdTexts, if_pos rfl, if_pos h]

theorem rdTexts_bad {f : Nat} {bs : List UInt8} {acc : List (List UInt8)} (h : bs ≠ []) (hn : textAt bs = none) : rdTexts (f + 1) bs acc = ([], 5, (acc.length : Int)) := by
  rw [rdTexts, if_neg h, hn]

theorem rdTexts_step {f : Nat} {bs t : List UInt8} {acc : List (List UInt8)} {k : Nat} (h : bs ≠ []) (hn : textAt bs = some (t, k)) : rdTexts (f + 1) bs acc = rdTexts f (bs.drop k) (acc ++ [t]) := by
  rw [rdTexts, if_neg h, hn]

theorem sc_snoc (l : List (List UInt8)) (x : List UInt8) : sc l ++ [.string ⟨x.toArray⟩] = sc (l ++ [x]) := by rw [sc_append]; rfl
theorem Try.info9 : (Try.prog.info? 9).map (fun i => (i.zero, i.size, i.bytes)) = some (some (.string ⟨#[]⟩), 1, 16) := by kernel_rfl


end Go.Proofs.Ytlebbkbbmgmmjab
