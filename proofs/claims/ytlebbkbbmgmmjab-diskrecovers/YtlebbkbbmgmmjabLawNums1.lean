/-
  The law WireNums: its parts.
-/
import Derived.Test.YtlebbkbbmgmmjabRefW3
import Derived.Test.YtlebbkbbmgmmjabLawBack
import Derived.Deep.CutBlock
namespace Go.Proofs.Ytlebbkbbmgmmjab
open Go.RowKit

theorem cell_below {w w' : World} {a : Addr} {v : Value} (h : w.cell? a = some v) (hb : Below w.heap.size w w') : w'.cell? a = some v :=
  (hb.cell (World.block_lt_of_cell? w _ h)).trans h

theorem flat_snoc (zs : List Int) (k : Nat) (h : k < zs.length) : flat (zs.take (k + 1)) = flat (zs.take k) ++ encN zs[k].toNat := by
  rw [List.take_succ_eq_append_getElem h]
  simp only [flat, List.flatMap_append, List.flatMap_cons, List.flatMap_nil, List.append_nil]



set_option maxRecDepth 100000 in
set_option maxHeartbeats 400000 in
/-- Where there is a fault the bytes must be none: whatever function is handed. -/
theorem bytesAs_bad (x fv : Value) (c a : Int) (w : World) (hc : c ≠ 0) (hx : Rd w x (bc [])) :
    Calls Try.prog 41 #[x, flt c a, flt c a, fv] w fun e w' => e = .returned (.bool true) ∧ Below w.heap.size w w' := by
  obtain ⟨ao, cap, hv, hc1, hc2, _⟩ := hx.open
  rw [bc_length] at hc1 hv
  subst hv
  have hcb : (c != 0) = true := by simp [hc]
  clear hc
  simp only [flt]
  go_enter Try.func41, Try.ntmps41
  go_wp2_with fail
  go_ret
  exact ⟨rfl, by go_grown⟩

end Go.Proofs.Ytlebbkbbmgmmjab
