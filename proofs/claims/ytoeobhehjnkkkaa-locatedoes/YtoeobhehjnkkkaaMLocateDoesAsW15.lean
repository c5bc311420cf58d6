/-
  Texts joined: AsW15.
-/
import Derived.Test.YtoeobhehjnkkkaaMLocateDoesAsW14
/-
  The walk over New of package assign.
-/
namespace Go.Proofs.Ytoeobhehjnkkkaa
open Go.RowKit Go.Maps
set_option linter.unusedVariables false

theorem owns_made1 {w : World} {base : Nat} {e : TypeId} {K : Nat} {vs : Array Value} (hb : base ≤ w.heap.size) (hs : vs.size = K) : (w.alloc (.cells vs e)).ownsRow base e K (.slice (some ⟨w.heap.size, 0, none⟩) 1 1) 1 vs.toList :=
  ⟨by simp [hs], .inr ⟨w.heap.size, 1, vs, rfl, hb, heap_alloc_new w _, Nat.le_refl _, by decide, by simp [hs], by rw [Nat.one_mul, ← hs]; exact List.take_length⟩⟩

set_option maxRecDepth 100000 in
set_option maxHeartbeats 1000000 in
theorem New_any (w : World) :
    Calls Try.prog 14 #[] w fun e w' => ∃ hv sv, e = .returned (bdV hv sv newBd) ∧ w'.ownsRow w.heap.size 42 3 hv newBd.hs.length (hoE.vs newBd.hs) ∧ w'.ownsRow w.heap.size 46 6 sv newBd.sl.length (slE.vs newBd.sl) ∧ Below w.heap.size w w' := by
  have hA := below_allocG w (.cells #[.slice none 0 0, .slice none 0 0, .int .i64 0, .int .i64 0] 27)
  have hB := Blk.new w 27 #[.slice none 0 0, .slice none 0 0, .int .i64 0, .int .i64 0]
  generalize hW : w.alloc (.cells #[.slice none 0 0, .slice none 0 0, .int .i64 0, .int .i64 0] 27) = W0 at hA hB
  have hA2 := below_allocG W0 (.cells #[.string ⟨#[]⟩, .string ⟨#[]⟩, .int .i64 1, .int .i64 0, .int .i64 0, .int .i64 0] 46)
  have HB0 := hide (hB.later hA2)
  have HA0 := hide (hA.trans (hA2.mono hA.size))
  have HO0 := hide (owns_made1 (w := W0) (base := w.heap.size) (e := 46) (K := 6) (vs := #[.string ⟨#[]⟩, .string ⟨#[]⟩, .int .i64 1, .int .i64 0, .int .i64 0, .int .i64 0]) hA.size rfl)
  have HW := hide hW
  clear hA hB hA2 hW
  go_enter Try.func14, Try.ntmps14
  go_upto_region 1 with fail
  rw [HW.out]
  clear HW
  go_wp2_with (refine wpList_store_blk rfl rfl rfl rfl HB0.out rfl Try.sizeBoard rfl ?_; intro w8 hB8 hg8; have HB8 := hide hB8; have HO8 := hide (owns_grownO HO0.out hg8 (.inr (owns_off HO0.out HB0.out (by decide)))); have HA8 := hide (below_grownO HA0.out hg8 (fun k hk => by cases hk; omega) HA0.out.size); clear hB8 hg8)
  refine bodyPost_ret (v := .agg #[.slice none 0 0, .slice (some ⟨W0.heap.size, 0, none⟩) 1 1, .int .i64 0, .int .i64 2]) (results1_cell Try.results14 rfl (run_loadVar_blk HB8.out Try.underlying27 rfl Try.sizeBoard)) rfl ?_
  exact ⟨_, _, rfl, World.ownsRow_nil _ _ _ _, HO8.out, HA8.out⟩

end Go.Proofs.Ytoeobhehjnkkkaa
