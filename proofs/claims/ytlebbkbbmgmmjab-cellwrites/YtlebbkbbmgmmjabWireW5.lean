/-
  The walk over wire.Texts.
-/
import Derived.Test.YtlebbkbbmgmmjabWireW4
namespace Go.Proofs.Ytlebbkbbmgmmjab
open Go.RowKit

/-- What Texts comes to, from what is left on. -/
def textsGo : List (List UInt8) → List UInt8 → List UInt8 × Int × Int
  | [], acc => (acc, 0, 0)
  | t :: ts, acc => if 60000 < acc.length + (encN t.length).length + t.length then ([], 9, 0) else textsGo ts (acc ++ encN t.length ++ t)

def textsR (ss : List (List UInt8)) : List UInt8 × Int × Int := if 1000 < ss.length then ([], 2, 0) else textsGo ss []
theorem textsGo_step (zs : List (List UInt8)) (k : Nat) (acc : List UInt8) (h : k < zs.length) (h1 : acc.length + (encN zs[k].length).length + zs[k].length ≤ 60000) :
    textsGo (zs.drop (k + 1)) (acc ++ encN zs[k].length ++ zs[k]) = textsGo (zs.drop k) acc := by
  rw [drop_cons zs k h, textsGo, if_neg (by omega)]

theorem textsGo_bad (zs : List (List UInt8)) (k : Nat) (acc : List UInt8) (h : k < zs.length) (h1 : 60000 < acc.length + (encN zs[k].length).length + zs[k].length) : textsGo (zs.drop k) acc = ([], 9, 0) := by
  rw [drop_cons zs k h, textsGo, if_pos h1]

theorem textsGo_end (zs : List (List UInt8)) (k : Nat) (acc : List UInt8) (h : zs.length ≤ k) : textsGo (zs.drop k) acc = (acc, 0, 0) := by
  rw [List.drop_eq_nil_of_le h, textsGo]


end Go.Proofs.Ytlebbkbbmgmmjab
