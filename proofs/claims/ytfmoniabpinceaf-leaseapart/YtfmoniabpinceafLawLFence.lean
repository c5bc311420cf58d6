/-
  The walks over the example of leases, and over the law LeaseFence.
-/
import Derived.Test.YtfmoniabpinceafLeaseW5
namespace Go.Proofs.Ytfmoniabpinceaf
open Go.RowKit
set_option linter.unusedVariables false

theorem begun_g : grantF zeroLs 1 0 8 = (0, 0) := by decide +kernel
theorem begun_l : grantL zeroLs 1 0 8 = ⟨1, 1, 8⟩ := by
  unfold grantL
  rw [begun_g, if_pos rfl]
  rfl

theorem begun_t : trustF 2 8 = (0, 0) := by decide +kernel
theorem begun_v : trustV 2 8 = 8 := by
  unfold trustV
  rw [begun_t, if_pos rfl]
  rfl

set_option maxRecDepth 100000 in
set_option maxHeartbeats 1000000 in
theorem leaseBegun_any (w : World) : Calls Try.prog 19 #[] w fun e w' => e = .returned (.bool true) ∧ Below w.heap.size w w' := by
  have hg := Grant_any zeroLs 1 0 8 w
  have ht := fun W => Trust_any 2 8 W
  rw [begun_g, begun_l] at hg
  rw [begun_t, begun_v] at ht
  have HG := hide hg
  have HT := hide ht
  clear hg ht
  unfold lsV zeroLs at HG
  go_enter Try.func19, Try.ntmps19
  go_wp2_with fail
  refine HG.out.mono ?_
  rintro e w1 ⟨rfl, hb1⟩
  unfold flt
  go_wp2_with fail
  refine (HT.out _).mono ?_
  rintro e w2 ⟨rfl, hb2⟩
  have hL := (Blk.at0of2 w1 (.cells #[.int .i64 0, .int .i64 0] 26) 47 #[.int .i64 1, .int .i64 1, .int .i64 8]).later hb2
  have hF := (Blk.at1 w1 (.cells #[.int .i64 1, .int .i64 1, .int .i64 8] 47) 26 #[.int .i64 0, .int .i64 0]).later hb2
  have hbw2 := hb1.trans (((below_alloc2 w1 (.cells #[.int .i64 1, .int .i64 1, .int .i64 8] 47) (.cells #[.int .i64 0, .int .i64 0] 26)).trans (hb2.mono (by simp; omega))).mono hb1.size)
  have hsz := hbw2.size
  clear hb1 hb2
  have lc0 := hL.cell 0
  have lc1 := hL.cell 1
  have lc2 := hL.cell 2
  have lz0 := hL.frozen 0
  have lz1 := hL.frozen 1
  have lz2 := hL.frozen 2
  have ll := hL.lt
  simp at lc0 lc1 lc2
  have fc0 := hF.cell 0
  have fc1 := hF.cell 1
  have fz0 := hF.frozen 0
  have fz1 := hF.frozen 1
  have fl := hF.lt
  simp at fc0 fc1
  clear hL hF lz0 lz1 lz2 fz0 fz1
  unfold flt
  go_wp2_with fail
  go_ret
  exact ⟨rfl, by go_grown⟩

/-- An int of a list, where it lies. -/
theorem Rd.hereL {w : World} {ao : Option Addr} {n cap : Nat} {zs : List Int} (h : Rd w (.slice ao n cap) (ic zs)) {i : Nat} {x : Int} (hi : zs[i]? = some x) :
    ∃ b off, ao = some ⟨b, off, none⟩ ∧ b < w.heap.size ∧ w.cell? ⟨b, off + i, none⟩ = some (.int .i64 x) := by
  have hl := (List.getElem?_eq_some_iff.1 hi).1
  obtain ⟨b, off, cap', hv, _, _, hb, hc⟩ := h.pos (by rw [ic_length]; omega)
  simp only [Value.slice.injEq] at hv
  obtain ⟨rfl, _, _⟩ := hv
  exact ⟨b, off, rfl, hb, hc i _ (by simp [ic, hi])⟩

set_option maxRecDepth 100000 in
set_option maxHeartbeats 4000000 in
theorem leaseFence_any (v : Value) (zs : List Int) (w : World) (hv : Rd w v (ic zs)) :
    Calls Try.prog 6 #[v] w fun e w' => e = .returned (.bool true) ∧ Below w.heap.size w w' := by
  have HV := hide hv
  obtain ⟨ao, cap, hvv, hc1, hc2⟩ := hv.shape
  rw [ic_length] at hvv hc1
  subst hvv
  unfold maxLen at hc2
  clear hv
  go_enter Try.func6, Try.ntmps6
  go_wp2_with fail
  refine (leaseBegun_any _).mono ?_
  rintro e w1 ⟨rfl, hb1⟩
  by_cases hbig : 1000 < zs.length
  · go_wp2_with fail
    go_ret
    exact ⟨rfl, hb1⟩
  go_wp2_with fail
  go_loopw [3, 4] (fun sv iv wr => ∃ (j : Nat) (s : Int), j ≤ zs.length ∧ iv = .int .i64 j ∧ sv = .int .i64 s ∧ 0 ≤ s ∧ s ≤ 1000000000 ∧ Below w.heap.size w wr)
    (fun _ iv _ => zs.length - (intOf iv).toNat)
  case atStart => exact ⟨0, 0, by omega, rfl, rfl, by omega, by omega, hb1⟩
  case round =>
    obtain ⟨j, s, hj, rfl, rfl, hs0, hs1, hbel⟩ := hrel
    by_cases hlt : j < zs.length
    · obtain ⟨x, hx⟩ : ∃ x, zs[j]? = some x := ⟨_, List.getElem?_eq_getElem hlt⟩
      obtain ⟨b, off, rfl, hb, hc⟩ := HV.out.hereL hx
      have hk1 : (0 : Int) ≤ (j : Int) := by omega
      have hk2 : (j : Int) < (zs.length : Int) := by omega
      have c0 := cell_belowG hc hbel
      have HC := hide hc
      have hns : numL s = true := numL_true hs0 hs1
      clear hx hc
      by_cases hn : numL x = false
      · have hF : admitF s x = (3, 0) := by unfold admitF; rw [if_pos (.inr hn)]
        have hV : admitV s x = 0 := by unfold admitV; rw [hF, if_neg (by decide)]
        have had := fun W => Admit_any s x W
        rw [hF, hV] at had
        have HA := hide had
        clear had hF hV
        go_wp2_with fail
        refine (HA.out _).mono ?_
        rintro e w2 ⟨rfl, hb2⟩
        have hbel2 := hbel.trans (hb2.mono hbel.size)
        have d0 := cell_belowG HC.out hbel2
        have hb' : b < w2.heap.size := Nat.lt_of_lt_of_le hb hbel2.size
        have hsz := hbel2.size
        clear c0 hb2
        unfold flt
        by_cases hge : s ≤ x
        · have hd1 : decide (s ≤ x) = true := decide_eq_true hge
          have hd2 : decide (x ≤ 1000000000) = false := decide_eq_false (fun h => by rw [numL_true (by omega) h] at hn; cases hn)
          go_wp2_with fail
          go_quiet (fail)
          go_wp2_with fail
          go_roundw
          case rel => exact ⟨j + 1, s, by omega, by go_num, rfl, hs0, hs1, below_drewN (by go_grown) _⟩
          case measure => simp [intOf]; omega
        · have hd1 : decide (s ≤ x) = false := decide_eq_false (by omega)
          go_wp2_with fail
          go_quiet (fail)
          go_wp2_with fail
          go_roundw
          case rel => exact ⟨j + 1, s, by omega, by go_num, rfl, hs0, hs1, below_drewN (by go_grown) _⟩
          case measure => simp [intOf]; omega
      · have hn' : numL x = true := by simpa using hn
        have hx2 := numL_iff.1 hn'
        by_cases hge : s ≤ x
        · have hF : admitF s x = (0, 0) := by unfold admitF; rw [if_neg (by simp [hns, hn']), if_neg (by omega)]
          have hV : admitV s x = x := by unfold admitV; rw [hF, if_pos rfl]
          have had := fun W => Admit_any s x W
          rw [hF, hV] at had
          have HA := hide had
          clear had hF hV
          go_wp2_with fail
          refine (HA.out _).mono ?_
          rintro e w2 ⟨rfl, hb2⟩
          have hbel2 := hbel.trans (hb2.mono hbel.size)
          have d0 := cell_belowG HC.out hbel2
          have hb' : b < w2.heap.size := Nat.lt_of_lt_of_le hb hbel2.size
          have hsz := hbel2.size
          clear c0 hb2
          unfold flt
          have hd1 : decide (s ≤ x) = true := decide_eq_true hge
          have hd2 : decide (x ≤ 1000000000) = true := decide_eq_true hx2.2
          go_wp2_with fail
          go_quiet (fail)
          go_wp2_with fail
          go_roundw
          case rel => exact ⟨j + 1, x, by omega, by go_num, rfl, hx2.1, hx2.2, below_drewN (by go_grown) _⟩
          case measure => simp [intOf]; omega
        · have hF : admitF s x = (12, 0) := by unfold admitF; rw [if_neg (by simp [hns, hn']), if_pos (by omega)]
          have hV : admitV s x = 0 := by unfold admitV; rw [hF, if_neg (by decide)]
          have had := fun W => Admit_any s x W
          rw [hF, hV] at had
          have HA := hide had
          clear had hF hV
          go_wp2_with fail
          refine (HA.out _).mono ?_
          rintro e w2 ⟨rfl, hb2⟩
          have hbel2 := hbel.trans (hb2.mono hbel.size)
          have d0 := cell_belowG HC.out hbel2
          have hb' : b < w2.heap.size := Nat.lt_of_lt_of_le hb hbel2.size
          have hsz := hbel2.size
          clear c0 hb2
          unfold flt
          have hd1 : decide (s ≤ x) = false := decide_eq_false (by omega)
          go_wp2_with fail
          go_quiet (fail)
          go_wp2_with fail
          go_roundw
          case rel => exact ⟨j + 1, s, by omega, by go_num, rfl, hs0, hs1, below_drewN (by go_grown) _⟩
          case measure => simp [intOf]; omega
    · go_wp2_with fail
      go_ret
      exact ⟨rfl, hbel⟩

end Go.Proofs.Ytfmoniabpinceaf
