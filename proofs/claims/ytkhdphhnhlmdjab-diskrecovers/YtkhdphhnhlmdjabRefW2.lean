/-
  The walks over the document's numbers.
-/
import Derived.Test.YtkhdphhnhlmdjabRefMath
import Derived.Test.YtkhdphhnhlmdjabBase2
import Derived.Test.YtkhdphhnhlmdjabRefW1
namespace Go.Proofs.Ytkhdphhnhlmdjab
open Go.RowKit


set_option maxRecDepth 100000 in
set_option maxHeartbeats 400000 in
theorem ownBytes_any (v : Value) (zs : List UInt8) (w : World) (h : Rd w v (bc zs)) (hl : zs.length ≤ 1000000000) :
    Calls Try.prog 8 #[v] w fun e w' => ∃ v', e = .returned v' ∧ Rd w' v' (bc zs) ∧ Below w.heap.size w w' ∧ New w.heap.size v' := by
  go_enter Try.func8, Try.ntmps8
  go_wp2_with (at_builtin; go_must (refine wpList_append_rd (World.ownsRow_nil w w.heap.size 5 1) h Try.underlying25 Try.info5 rfl rfl rfl rfl rfl (bc_one _) (by rw [bc_length]; omega) (by decide) (Nat.le_refl _) ?_); intro v1 w1 ho1 hb1 hg1; clear hg1)
  go_ret
  exact ⟨v1, rfl, Rd.ofOwns ho1, hb1, New.owns ho1⟩

set_option maxRecDepth 100000 in
set_option maxHeartbeats 400000 in
theorem F_any (c a : Int) (w : World) : Calls Try.prog 12 #[.int .i64 c, .int .i64 a] w fun e w' => e = .returned (flt c a) ∧ w' = w.alloc (.cells #[.int .i64 c, .int .i64 a] 29) := by
  go_enter Try.func12, Try.ntmps12
  go_wp2_with fail
  exact bodyPost_ret (v := flt c a) (by simp [results, Try.results12, go_sem, flt]) rfl ⟨rfl, rfl⟩



end Go.Proofs.Ytkhdphhnhlmdjab
