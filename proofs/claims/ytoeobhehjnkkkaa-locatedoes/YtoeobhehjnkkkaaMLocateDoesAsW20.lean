/-
  Texts joined: AsW20.
-/
import Derived.Test.YtoeobhehjnkkkaaMLocateDoesAsW19
/-
  The walk over Play of package assign, of more than 2000 orders.
-/
namespace Go.Proofs.Ytoeobhehjnkkkaa
open Go.RowKit Go.Maps
set_option linter.unusedVariables false

set_option maxRecDepth 100000 in
set_option maxHeartbeats 4000000 in
theorem Play_many (v : Value) (l : List Od) (w : World) (hv : RdG odE w v l) (hl : 2000 < l.length) :
    Calls Try.prog 9 #[v] w fun e w' => e = .returned (.tuple #[bdV (.slice none 0 0) (.slice none 0 0) zeroBd, .slice none 0 0, flt (2, -1)]) ∧ Below w.heap.size w w' := by
  obtain ⟨ao, cap, rfl, hc1, hc2⟩ := hv.shape
  obtain ⟨hR, hQ, hA⟩ := two_atA w #[.slice none 0 0, .slice none 0 0, .int .i64 0, .int .i64 0] #[.int .i64 0, .int .i64 0] 27 30
  have HR0 := hide hR
  have HQ0 := hide hQ
  have HA0 := hide hA
  generalize hW : ((w.alloc (.cells #[.slice none 0 0, .slice none 0 0, .int .i64 0, .int .i64 0] 27)).alloc (.cells #[.int .i64 0, .int .i64 0] 30)) = W0 at HR0 HQ0 HA0
  have HW := hide hW
  have HN := hide (show some (w.heap.size + 1) ≠ some w.heap.size from fun q => by simp at q)
  have d0 : decide ((2000 : Int) < (l.length : Int)) = true := decide_eq_true (by omega)
  clear hv hR hQ hA hW
  go_enter Try.func9, Try.ntmps9
  go_upto_region 1 with fail
  rw [HW.out]
  clear HW
  go_wp2_with (first
    | (refine wpList_store_blk rfl rfl rfl rfl HR0.out rfl Try.sizeBoard rfl ?_; intro w7 hR7 hg7; have HR7 := hide hR7; have HQ7 := hide (HQ0.out.grown hg7 HN.out); have HA7 := hide (below_grownO HA0.out hg7 (fun k hk => by cases hk; omega) HA0.out.size); clear hR7 hg7)
    | (refine wpList_store_blk rfl rfl rfl rfl HQ7.out rfl Try.sizeFaultA rfl ?_; intro w8 hQ8 hg8; have HQ8 := hide hQ8; have HR8 := hide (HR7.out.grown hg8 HN.out.symm); have HA8 := hide (below_grownO HA7.out hg8 (fun k hk => by cases hk; omega) HA7.out.size); clear hQ8 hg8))
  refine bodyPost_ret (results3_ctcA (v2 := .slice none 0 0) Try.results9 rfl rfl rfl (run_loadVar_blk HR8.out Try.underlying27 rfl Try.sizeBoard) (run_loadVar_blk HQ8.out Try.underlying30 rfl Try.sizeFaultA)) rfl ?_
  exact ⟨rfl, HA8.out⟩

end Go.Proofs.Ytoeobhehjnkkkaa
