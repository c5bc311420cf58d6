/-
  The walks beneath the laws of cells: the example, copies.
-/
import Derived.Test.YtlebbkbbmgmmjabCellMath
namespace Go.Proofs.Ytlebbkbbmgmmjab
open Go.RowKit

def verC : List Cl := [⟨⟨#[114]⟩, ⟨#[99]⟩, 2, false, ⟨#[98]⟩⟩, ⟨⟨#[114]⟩, ⟨#[99]⟩, 1, false, ⟨#[97]⟩⟩]

set_option maxRecDepth 100000 in
set_option maxHeartbeats 400000 in
theorem versions_any (w : World) : Calls Try.prog 48 #[] w fun e w' => ∃ v', e = .returned v' ∧ RdC w' v' verC ∧ Below w.heap.size w w' := by
  go_enter Try.func48, Try.ntmps48
  go_wp2_with fail
  go_ret
  refine ⟨_, rfl, ?_, by go_grown⟩
  refine ⟨some ⟨w.heap.size, 0, none⟩, 2, rfl, by decide, by decide, (fun h => by cases h), fun a ha j v hv => ?_⟩
  cases ha
  rw [Addr.add_lit, Nat.zero_add, ← hv]
  refine ((Bk.new w 52 _).cell j).trans ?_
  simp [cc, cv, verC]

theorem getC_ver1 : getC verC ⟨#[114]⟩ ⟨#[99]⟩ 1 = (⟨#[97]⟩, true, (0, 0)) := by decide +kernel
theorem getC_ver0 : getC verC ⟨#[114]⟩ ⟨#[99]⟩ 0 = (⟨#[]⟩, false, (0, 0)) := by decide +kernel

set_option maxRecDepth 100000 in
set_option maxHeartbeats 400000 in
theorem cellBegun_any (w : World) : Calls Try.prog 20 #[] w fun e w' => e = .returned (.bool true) ∧ Below w.heap.size w w' := by
  go_enter Try.func20, Try.ntmps20
  go_wp2_with fail
  refine (versions_any _).mono ?_
  rintro e w1 ⟨v1, rfl, hr1, hb1⟩
  go_wp2_with fail
  refine (Get_any _ verC ⟨#[114]⟩ ⟨#[99]⟩ 1 _ hr1).mono ?_
  rintro e w2 ⟨rfl, hb2⟩
  rw [getC_ver1]
  have hb12 := hb1.trans (hb2.mono hb1.size)
  have hs2 := hb12.size
  clear hb1 hb2 hr1
  unfold fltC
  go_wp2_with fail
  refine (versions_any _).mono ?_
  rintro e w3 ⟨v3, rfl, hr3, hb3⟩
  have hF3 := (Bk.new w2 29 #[.int .i64 0, .int .i64 0]).below hb3 (by simp)
  have hb23 : Below w.heap.size w w3 := hb12.trans (((below_alloc' _ _).mono hs2).trans (hb3.mono (by simp; omega)))
  have hs23 := hb23.size
  have hsF := hF3.lt
  clear hb3 hb12
  go_wp2_with fail
  refine (Get_any _ verC ⟨#[114]⟩ ⟨#[99]⟩ 0 _ hr3).mono ?_
  rintro e w4 ⟨rfl, hb4⟩
  rw [getC_ver0]
  have hF4 := hF3.below hb4 hsF
  have hb24 : Below w.heap.size w w4 := hb23.trans (hb4.mono hs23)
  have f0 := hF4.cell 0
  have hsF4 := hF4.lt
  simp at f0
  clear hb4
  unfold fltC
  go_wp2_with fail
  go_ret
  exact ⟨by simp, by go_grown⟩

set_option maxRecDepth 100000 in
set_option maxHeartbeats 400000 in
theorem ownCells_any (v : Value) (cs : List Cl) (w : World) (hv : RdC w v cs) (hl : cs.length ≤ 1000000) :
    Calls Try.prog 22 #[v] w fun e w' => ∃ v', e = .returned v' ∧ RdC w' v' cs ∧ Below w.heap.size w w' ∧ New w.heap.size v' := by
  obtain ⟨ao, cap, hvv, hc1, hc2⟩ := hv.shape
  subst hvv
  have hl2 : 0 + cs.length ≤ 1000000000 := by omega
  go_enter Try.func22, Try.ntmps22
  go_wp2_with (at_builtin; go_must (refine wpList_append_rdC (cs := []) (World.ownsRow_nil w w.heap.size 52 5) hv Try.underlying43 Try.info52 rfl rfl rfl rfl rfl hl2 (by decide) (Nat.le_refl _) ?_); intro v1 w1 ho1 hb1 hg1; clear hg1)
  go_ret
  exact ⟨_, rfl, RdC.ofOwns ho1, hb1, New.owns ho1⟩

def manyB (n : Int) : Bool := decide (150 < n ∧ n < 1000 ∨ 2000 < n)

set_option maxRecDepth 100000 in
set_option maxHeartbeats 400000 in
theorem many_any (n : Int) (w : World) : Calls Try.prog 21 #[.int .i64 n] w fun e w' => e = .returned (.bool (manyB n)) ∧ w' = w := by
  have h : n ≤ 150 ∨ 150 < n ∧ n < 1000 ∨ 1000 ≤ n ∧ n ≤ 2000 ∨ 2000 < n := by omega
  rcases h with h | ⟨h, h2⟩ | ⟨h, h2⟩ | h
  · have hd : decide (150 < n) = false := by simp; omega
    have hd2 : decide (2000 < n) = false := by simp; omega
    have HE := hide (show manyB n = false by unfold manyB; simp; omega)
    go_enter Try.func21, Try.ntmps21
    go_wp2_with fail
    go_ret
    exact ⟨by rw [HE.out]; rfl, rfl⟩
  · have hd : decide (150 < n) = true := by simp; omega
    have hd2 : decide (n < 1000) = true := by simp; omega
    have HE := hide (show manyB n = true by unfold manyB; simp; omega)
    go_enter Try.func21, Try.ntmps21
    go_wp2_with fail
    go_ret
    exact ⟨by rw [HE.out]; rfl, rfl⟩
  · have hd : decide (150 < n) = true := by simp; omega
    have hd2 : decide (n < 1000) = false := by simp; omega
    have hd3 : decide (2000 < n) = false := by simp; omega
    have HE := hide (show manyB n = false by unfold manyB; simp; omega)
    go_enter Try.func21, Try.ntmps21
    go_wp2_with fail
    go_ret
    exact ⟨by rw [HE.out]; rfl, rfl⟩
  · have hd : decide (150 < n) = true := by simp; omega
    have hd2 : decide (n < 1000) = false := by simp; omega
    have hd3 : decide (2000 < n) = true := by simp; omega
    have HE := hide (show manyB n = true by unfold manyB; simp; omega)
    go_enter Try.func21, Try.ntmps21
    go_wp2_with fail
    go_ret
    exact ⟨by rw [HE.out]; rfl, rfl⟩

end Go.Proofs.Ytlebbkbbmgmmjab
