/-
  The law WireNums: its parts.
-/
import Derived.Test.YtkhdphhnhlmdjabRefW3
import Derived.Test.YtkhdphhnhlmdjabLawBack
import Derived.Deep.CutBlock
namespace Go.Proofs.Ytkhdphhnhlmdjab
open Go.RowKit

theorem cell_below {w w' : World} {a : Addr} {v : Value} (h : w.cell? a = some v) (hb : Below w.heap.size w w') : w'.cell? a = some v :=
  (hb.cell (World.block_lt_of_cell? w _ h)).trans h

theorem flat_snoc (zs : List Int) (k : Nat) (h : k < zs.length) : flat (zs.take (k + 1)) = flat (zs.take k) ++ encN zs[k].toNat := by
  rw [List.take_succ_eq_append_getElem h]
  simp only [flat, List.flatMap_append, List.flatMap_cons, List.flatMap_nil, List.append_nil]




end Go.Proofs.Ytkhdphhnhlmdjab
