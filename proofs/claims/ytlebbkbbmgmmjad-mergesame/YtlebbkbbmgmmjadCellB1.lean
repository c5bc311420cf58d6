/-
  The walks beneath the laws of cells: the example, copies.
-/
import Derived.Test.YtlebbkbbmgmmjadCellMath
namespace Go.Proofs.Ytlebbkbbmgmmjad
open Go.RowKit

def verC : List Cl := [⟨⟨#[114]⟩, ⟨#[99]⟩, 2, false, ⟨#[98]⟩⟩, ⟨⟨#[114]⟩, ⟨#[99]⟩, 1, false, ⟨#[97]⟩⟩]

set_option maxRecDepth 100000 in
set_option maxHeartbeats 400000 in
theorem versions_any (w : World) : Calls Try.prog 53 #[] w fun e w' => ∃ v', e = .returned v' ∧ RdC w' v' verC ∧ Below w.heap.size w w' := by
  go_enter Try.func53, Try.ntmps53
  go_wp2_with fail
  go_ret
  refine ⟨_, rfl, ?_, by go_grown⟩
  refine ⟨some ⟨w.heap.size, 0, none⟩, 2, rfl, by decide, by decide, (fun h => by cases h), fun a ha j v hv => ?_⟩
  cases ha
  rw [Addr.add_lit, Nat.zero_add, ← hv]
  refine ((Bk.new w 91 _).cell j).trans ?_
  simp [cc, cv, verC]

theorem getC_ver1 : getC verC ⟨#[114]⟩ ⟨#[99]⟩ 1 = (⟨#[97]⟩, true, (0, 0)) := by decide +kernel
theorem getC_ver0 : getC verC ⟨#[114]⟩ ⟨#[99]⟩ 0 = (⟨#[]⟩, false, (0, 0)) := by decide +kernel


set_option maxRecDepth 100000 in
set_option maxHeartbeats 400000 in
theorem ownCells_any (v : Value) (cs : List Cl) (w : World) (hv : RdC w v cs) (hl : cs.length ≤ 1000000) :
    Calls Try.prog 43 #[v] w fun e w' => ∃ v', e = .returned v' ∧ RdC w' v' cs ∧ Below w.heap.size w w' ∧ New w.heap.size v' := by
  obtain ⟨ao, cap, hvv, hc1, hc2⟩ := hv.shape
  subst hvv
  have hl2 : 0 + cs.length ≤ 1000000000 := by omega
  go_enter Try.func43, Try.ntmps43
  go_wp2_with (at_builtin; go_must (refine wpList_append_rdC (cs := []) (World.ownsRow_nil w w.heap.size 91 5) hv Try.underlying30 Try.info91 rfl rfl rfl rfl rfl hl2 (by decide) (Nat.le_refl _) ?_); intro v1 w1 ho1 hb1 hg1; clear hg1)
  go_ret
  exact ⟨_, rfl, RdC.ofOwns ho1, hb1, New.owns ho1⟩

def manyB (n : Int) : Bool := decide (150 < n ∧ n < 1000 ∨ 2000 < n)

set_option maxRecDepth 100000 in
set_option maxHeartbeats 400000 in
theorem many_any (n : Int) (w : World) : Calls Try.prog 19 #[.int .i64 n] w fun e w' => e = .returned (.bool (manyB n)) ∧ w' = w := by
  have h : n ≤ 150 ∨ 150 < n ∧ n < 1000 ∨ 1000 ≤ n ∧ n ≤ 2000 ∨ 2000 < n := by omega
  rcases h with h | ⟨h, h2⟩ | ⟨h, h2⟩ | h
  · have hd : decide (150 < n) = false := by simp; omega
    have hd2 : decide (2000 < n) = false := by simp; omega
    have HE := hide (show manyB n = false by unfold manyB; simp; omega)
    go_enter Try.func19, Try.ntmps19
    go_wp2_with fail
    go_ret
    exact ⟨by rw [HE.out]; rfl, rfl⟩
  · have hd : decide (150 < n) = true := by simp; omega
    have hd2 : decide (n < 1000) = true := by simp; omega
    have HE := hide (show manyB n = true by unfold manyB; simp; omega)
    go_enter Try.func19, Try.ntmps19
    go_wp2_with fail
    go_ret
    exact ⟨by rw [HE.out]; rfl, rfl⟩
  · have hd : decide (150 < n) = true := by simp; omega
    have hd2 : decide (n < 1000) = false := by simp; omega
    have hd3 : decide (2000 < n) = false := by simp; omega
    have HE := hide (show manyB n = false by unfold manyB; simp; omega)
    go_enter Try.func19, Try.ntmps19
    go_wp2_with fail
    go_ret
    exact ⟨by rw [HE.out]; rfl, rfl⟩
  · have hd : decide (150 < n) = true := by simp; omega
    have hd2 : decide (n < 1000) = false := by simp; omega
    have hd3 : decide (2000 < n) = true := by simp; omega
    have HE := hide (show manyB n = true by unfold manyB; simp; omega)
    go_enter Try.func19, Try.ntmps19
    go_wp2_with fail
    go_ret
    exact ⟨by rw [HE.out]; rfl, rfl⟩

end Go.Proofs.Ytlebbkbbmgmmjad
