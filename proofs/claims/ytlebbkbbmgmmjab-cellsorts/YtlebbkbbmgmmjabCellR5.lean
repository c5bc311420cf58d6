/-
  The closures of the laws of cells, and the comparison that calls them.
-/
import Derived.Test.YtlebbkbbmgmmjabAsksMath
namespace Go.Proofs.Ytlebbkbbmgmmjab
open Go.RowKit

set_option maxRecDepth 100000 in
set_option maxHeartbeats 1000000 in
theorem Asks1_any (L A : Nat) (v : Value) (cs : List Cl) (a b : ByteArray) (t m : Int) (w : World) (hL : w.cell? ⟨L, 0, none⟩ = some v) (hA : Bk w A 58 #[.string a, .string b, .int .i64 t, .int .i64 m]) (hv : RdC w v cs) (hp : cs.Pairwise Lt) (hm0 : 0 ≤ m) (hl : cs.length ≤ 1000) :
    Calls Try.prog 35 #[.pointer (some ⟨L, 0, none⟩), .pointer (some ⟨A, 0, none⟩)] w fun e w' => ∃ v', e = .returned v' ∧ RdC w' v' (scannedR cs a b t m) ∧ Below w.heap.size w w' := by
  obtain ⟨ao, cap, hu, hc1, hc2⟩ := hv.shape
  subst hu
  have a0 := hA.cell 0
  have a1 := hA.cell 1
  have a2 := hA.cell 2
  have a3 := hA.cell 3
  simp at a0 a1 a2 a3
  have HP := hide hp
  clear hp
  go_enter Try.func35, Try.ntmps35
  go_wp2_with fail
  refine (Scanned_any _ cs a b t m _ hv HP.out hm0 hl).mono ?_
  rintro e w1 ⟨v1, rfl, hr1, hb1⟩
  go_wp2_with fail
  go_ret
  exact ⟨_, rfl, hr1, hb1⟩

set_option maxRecDepth 100000 in
set_option maxHeartbeats 1000000 in
theorem cellsAsA_true (p1 p2 v : Value) (cs : List Cl) (c a : Int) (w : World) (hv : RdC w v cs) (hbad : c ≠ 0 → cs = [])
    (hcl : c = 0 → ∀ W, Below w.heap.size w W → Calls Try.prog 35 #[p1, p2] W fun e w' => ∃ v', e = .returned v' ∧ RdC w' v' cs ∧ Below W.heap.size W w') :
    Calls Try.prog 28 #[v, fltC (c, a), fltC (c, a), .func (.func 35) #[] #[p1, p2]] w fun e w' => e = .returned (.bool true) ∧ Below w.heap.size w w' := by
  obtain ⟨ao, cap, hu, hc1, hc2⟩ := hv.shape
  subst hu
  unfold fltC
  have hbC : Below w.heap.size w ((w.alloc (.cells #[.int .i64 c, .int .i64 a] 29)).alloc (.cells #[.int .i64 c, .int .i64 a] 29)) := (below_alloc' _ _).trans ((below_alloc' _ _).mono (by simp))
  have HBC := hide hbC
  by_cases hc : c = 0
  · subst hc
    have HCL := hide (hcl rfl)
    clear hcl hbad hbC
    go_enter Try.func28, Try.ntmps28
    go_wp2_with fail
    refine (HCL.out _ HBC.out).mono ?_
    rintro e w1 ⟨v1, rfl, hr1, hb1⟩
    have hbw1 := HBC.out.trans (hb1.mono (by simp; omega))
    go_wp2_with fail
    refine (SameCells_any _ _ cs _ (hv.below hbw1) hr1).mono ?_
    rintro e w2 ⟨rfl, hb2⟩
    have hbw2 := hbw1.trans (hb2.mono hbw1.size)
    go_wp2_with fail
    go_ret
    exact ⟨rfl, hbw2⟩
  · have hcb : (c != 0) = true := by simp [hc]
    have he := hbad hc
    subst he
    clear hcl hbad hc hbC
    go_enter Try.func28, Try.ntmps28
    go_wp2_with fail
    go_ret
    exact ⟨by simp, HBC.out⟩

set_option maxRecDepth 100000 in
set_option maxHeartbeats 1000000 in
theorem cellsAsS_true (p1 v : Value) (cs : List Cl) (c a : Int) (w : World) (hv : RdC w v cs) (hbad : c ≠ 0 → cs = [])
    (hcl : c = 0 → ∀ W, Below w.heap.size w W → Calls Try.prog 29 #[p1] W fun e w' => ∃ v', e = .returned v' ∧ RdC w' v' cs ∧ Below W.heap.size W w') :
    Calls Try.prog 28 #[v, fltC (c, a), fltC (c, a), .func (.func 29) #[] #[p1]] w fun e w' => e = .returned (.bool true) ∧ Below w.heap.size w w' := by
  obtain ⟨ao, cap, hu, hc1, hc2⟩ := hv.shape
  subst hu
  unfold fltC
  have hbC : Below w.heap.size w ((w.alloc (.cells #[.int .i64 c, .int .i64 a] 29)).alloc (.cells #[.int .i64 c, .int .i64 a] 29)) := (below_alloc' _ _).trans ((below_alloc' _ _).mono (by simp))
  have HBC := hide hbC
  by_cases hc : c = 0
  · subst hc
    have HCL := hide (hcl rfl)
    clear hcl hbad hbC
    go_enter Try.func28, Try.ntmps28
    go_wp2_with fail
    refine (HCL.out _ HBC.out).mono ?_
    rintro e w1 ⟨v1, rfl, hr1, hb1⟩
    have hbw1 := HBC.out.trans (hb1.mono (by simp; omega))
    go_wp2_with fail
    refine (SameCells_any _ _ cs _ (hv.below hbw1) hr1).mono ?_
    rintro e w2 ⟨rfl, hb2⟩
    have hbw2 := hbw1.trans (hb2.mono hbw1.size)
    go_wp2_with fail
    go_ret
    exact ⟨rfl, hbw2⟩
  · have hcb : (c != 0) = true := by simp [hc]
    have he := hbad hc
    subst he
    clear hcl hbad hc hbC
    go_enter Try.func28, Try.ntmps28
    go_wp2_with fail
    go_ret
    exact ⟨by simp, HBC.out⟩

end Go.Proofs.Ytlebbkbbmgmmjab
