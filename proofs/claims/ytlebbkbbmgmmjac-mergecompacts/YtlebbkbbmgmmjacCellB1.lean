/-
  The walks beneath the laws of cells: the example, copies.
-/
import Derived.Test.YtlebbkbbmgmmjacCellMath
namespace Go.Proofs.Ytlebbkbbmgmmjac
open Go.RowKit

def verC : List Cl := [⟨⟨#[114]⟩, ⟨#[99]⟩, 2, false, ⟨#[98]⟩⟩, ⟨⟨#[114]⟩, ⟨#[99]⟩, 1, false, ⟨#[97]⟩⟩]

set_option maxRecDepth 100000 in
set_option maxHeartbeats 400000 in
theorem versions_any (w : World) : Calls Try.prog 44 #[] w fun e w' => ∃ v', e = .returned v' ∧ RdC w' v' verC ∧ Below w.heap.size w w' := by
  go_enter Try.func44, Try.ntmps44
  go_wp2_with fail
  go_ret
  refine ⟨_, rfl, ?_, by go_grown⟩
  refine ⟨some ⟨w.heap.size, 0, none⟩, 2, rfl, by decide, by decide, (fun h => by cases h), fun a ha j v hv => ?_⟩
  cases ha
  rw [Addr.add_lit, Nat.zero_add, ← hv]
  refine ((Bk.new w 53 _).cell j).trans ?_
  simp [cc, cv, verC]

theorem getC_ver1 : getC verC ⟨#[114]⟩ ⟨#[99]⟩ 1 = (⟨#[97]⟩, true, (0, 0)) := by decide +kernel
theorem getC_ver0 : getC verC ⟨#[114]⟩ ⟨#[99]⟩ 0 = (⟨#[]⟩, false, (0, 0)) := by decide +kernel


set_option maxRecDepth 100000 in
set_option maxHeartbeats 400000 in
theorem ownCells_any (v : Value) (cs : List Cl) (w : World) (hv : RdC w v cs) (hl : cs.length ≤ 1000000) :
    Calls Try.prog 11 #[v] w fun e w' => ∃ v', e = .returned v' ∧ RdC w' v' cs ∧ Below w.heap.size w w' ∧ New w.heap.size v' := by
  obtain ⟨ao, cap, hvv, hc1, hc2⟩ := hv.shape
  subst hvv
  have hl2 : 0 + cs.length ≤ 1000000000 := by omega
  go_enter Try.func11, Try.ntmps11
  go_wp2_with (at_builtin; go_must (refine wpList_append_rdC (cs := []) (World.ownsRow_nil w w.heap.size 53 5) hv Try.underlying22 Try.info53 rfl rfl rfl rfl rfl hl2 (by decide) (Nat.le_refl _) ?_); intro v1 w1 ho1 hb1 hg1; clear hg1)
  go_ret
  exact ⟨_, rfl, RdC.ofOwns ho1, hb1, New.owns ho1⟩

def manyB (n : Int) : Bool := decide (150 < n ∧ n < 1000 ∨ 2000 < n)


end Go.Proofs.Ytlebbkbbmgmmjac
