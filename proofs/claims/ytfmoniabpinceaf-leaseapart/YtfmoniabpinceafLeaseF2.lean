/-
  The walk over lease.areFair.
-/
import Derived.Test.YtfmoniabpinceafLeaseF1
namespace Go.Proofs.Ytfmoniabpinceaf
open Go.RowKit
set_option linter.unusedVariables false

/-- Moments that may be. -/
def MomOk (M : List (Int × List Int)) : Prop := ∀ m ∈ M, (0 ≤ m.1 ∧ m.1 ≤ 900000000) ∧ ClkOk m.2

set_option maxRecDepth 100000 in
set_option maxHeartbeats 16000000 in
theorem areFair_any (v : Value) (M : List (Int × List Int)) (span : Int) (w : World) (hv : RdM w v M) (hm : MonoM M) (hok : MomOk M) (hs : 4 ≤ span ∧ span ≤ 1000000) (hlen : M.length ≤ 1000000) :
    Calls Try.prog 53 #[v, .int .i64 span] w fun e w' => e = .returned (.bool (fairB M span)) ∧ Below w.heap.size w w' := by
  have HV := hide hv
  have HM := hide hm
  have HOK := hide hok
  have HS := hide hs
  obtain ⟨ao, cap, rfl, hc1, hc2⟩ := hv.shape
  unfold maxLen at hc2
  clear hv hm hok hs
  go_enter Try.func53, Try.ntmps53
  go_wp2_with fail
  go_loopw [10, 5] (fun iv av wr => ∃ (j a : Nat), j ≤ M.length ∧ iv = .int .i64 j ∧ av = .int .i64 a ∧ a ≤ j ∧ (∀ (i k : Nat) mi mk, i < a → j ≤ k → M[i]? = some mi → M[k]? = some mk → span ≤ mk.1 - mi.1) ∧ FairUp M span j ∧ Below w.heap.size w wr)
    (fun iv _ _ => M.length - (intOf iv).toNat)
  case atStart => exact ⟨0, 0, by omega, rfl, rfl, by omega, fun i k mi mk h => by omega, fun i k mi mk _ h => by omega, Below.refl _ _⟩
  case round =>
    obtain ⟨j, a, hj, rfl, rfl, haj, hinv, hup, hbr⟩ := hrel
    have HINV := hide hinv
    have HUP := hide hup
    have HBR := hide hbr
    clear hinv hup
    by_cases hlt : j < M.length
    · obtain ⟨m, hmj⟩ : ∃ m, M[j]? = some m := ⟨_, List.getElem?_eq_getElem hlt⟩
      have HMJ := hide hmj
      have HRr := hide (HV.out.below hbr)
      obtain ⟨b, off, co, cl, cc, rfl, hb, q0, q1, hrd⟩ := HRr.out.here hmj
      have HRD := hide hrd
      have hk1 : (0 : Int) ≤ (j : Int) := by omega
      have hk2 : (j : Int) < (M.length : Int) := by omega
      have hmo := HOK.out m (List.mem_of_getElem? hmj)
      have HMO := hide hmo
      obtain ⟨mn, mc⟩ := m
      simp only at q0 hrd
      obtain ⟨wq, hwq⟩ : ∃ z, z = wr := ⟨_, rfl⟩
      subst hwq
      clear hbr hmj hrd hmo
      go_wp2_with fail
      go_loopw [5] (fun av wi => ∃ (a : Nat), a ≤ j ∧ av = .int .i64 a ∧ (∀ (i : Nat) mi, i < a → M[i]? = some mi → span ≤ mn - mi.1) ∧ Below (wq.heap.size + 1) (wq.alloc (.cells #[.int .i64 mn, .slice co cl cc] 99)) wi)
        (fun av _ => M.length - (intOf av).toNat)
      case atStart => exact ⟨a, haj, rfl, fun i mi hi hmi => HINV.out i j mi _ hi (Nat.le_refl _) hmi HMJ.out, Below.refl _ _⟩
      case round =>
        obtain ⟨a2, ha2, rfl, hin, hbi⟩ := hrel
        have hbqi : Below wq.heap.size wq wr := (below_allocG wq _).trans (hbi.mono (by omega))
        have HIN := hide hin
        have HBI := hide hbi
        have HBQI := hide hbqi
        obtain ⟨ma, hma⟩ : ∃ ma, M[a2]? = some ma := ⟨_, List.getElem?_eq_getElem (by omega)⟩
        obtain ⟨b', off', co', cl', cc', e', hb', p0, p1, hrd'⟩ := (HRr.out.below hbqi).here hma
        simp only [Option.some.injEq, Addr.mk.injEq, and_true] at e'
        obtain ⟨rfl, rfl⟩ := e'
        have hMB := (Blk.new wq 99 #[.int .i64 mn, .slice co cl cc]).below hbi (by omega)
        have m0 := hMB.cell 0
        have m1 := hMB.cell 1
        have ml := hMB.lt
        simp at m0 m1
        have hma2 := (HOK.out ma (List.mem_of_getElem? hma)).1
        have hmn2 := HMO.out.1
        have hw1 : IntKind.i64.wrap (mn - ma.1) = mn - ma.1 := by rw [IntKind.wrap_i64]; omega
        have hk3 : (0 : Int) ≤ (a2 : Int) := by omega
        have hk4 : (a2 : Int) < (M.length : Int) := by omega
        have HMA := hide hma
        clear hma2 hmn2 hin hMB hbi hbqi hrd'
        by_cases hc : span ≤ mn - ma.1
        · have hd : decide (span ≤ mn - ma.1) = true := decide_eq_true hc
          have hne : a2 ≠ j := by
            rintro rfl
            have := HMJ.out
            rw [HMA.out] at this
            cases this
            have := HS.out
            omega
          go_wp2_with fail
          go_quiet (fail)
          go_wp2_with fail
          go_roundw
          case rel => exact ⟨a2 + 1, by omega, by go_num, fun i mi hi hmi => by
            by_cases q : i < a2
            · exact HIN.out i mi q hmi
            · obtain rfl : i = a2 := by omega
              rw [HMA.out] at hmi
              cases hmi
              exact hc, below_drewN HBI.out _⟩
          case measure => simp [intOf]; omega
        · have hd : decide (span ≤ mn - ma.1) = false := decide_eq_false hc
          have HNC := hide (show mn - ma.1 < span by omega)
          go_wp2_with fail
          go_quiet (fail)
          cases a2 with
          | zero =>
            have HUP2 := hide (fair_step HM.out (by omega) HMJ.out HMA.out HNC.out HUP.out (fun mp h _ => absurd h (by omega)))
            go_wp2_with fail
            go_quiet (fail)
            go_wp2_with fail
            go_roundw
            case rel => exact ⟨j + 1, 0, by omega, by go_num, rfl, by omega, fun i k mi mk h => by omega, HUP2.out, HBR.out.trans (below_drewN (HBQI.out.mono HBR.out.size) _)⟩
            case measure => simp [intOf]; omega
          | succ k =>
            obtain ⟨mp, hmp⟩ : ∃ mp, M[k]? = some mp := ⟨_, List.getElem?_eq_getElem (by omega)⟩
            obtain ⟨b2, off2, co2, cl2, cc2, e2, hb2, r0, r1, hrd2⟩ := (HRr.out.below HBQI.out).here hmp
            simp only [Option.some.injEq, Addr.mk.injEq, and_true] at e2
            obtain ⟨rfl, rfl⟩ := e2
            have hki : IntKind.i64.wrap (((k + 1 : Nat) : Int) - 1) = (k : Int) := by rw [IntKind.wrap_i64]; omega
            have hk5 : (0 : Int) ≤ (k : Int) := by omega
            have hk6 : (k : Int) < (M.length : Int) := by omega
            have hg1 : decide (0 < ((k + 1 : Nat) : Int)) = true := decide_eq_true (by omega)
            have hg2 : decide (0 < k + 1) = true := decide_eq_true (by omega)
            have hll := (HM.out k j mp _ (by omega) hmp HMJ.out).2.1
            have hdr : Below wr.heap.size wr (wr.drewN nq) := below_drewN (Below.refl _ _) _
            generalize wr.drewN nq = wz at hdr ⊢
            have HDR := hide hdr
            have r0 := cell_belowG r0 hdr
            have r1 := cell_belowG r1 hdr
            have m0 := cell_belowG m0 hdr
            have m1 := cell_belowG m1 hdr
            have hbz : b < wz.heap.size := Nat.lt_of_lt_of_le hb2 hdr.size
            have hmz : wq.heap.size < wz.heap.size := Nat.lt_of_lt_of_le ml hdr.size
            have HSL := hide (fun W (hW : Below wz.heap.size wz W) => isAnySlow_any mp.1 mn span (.slice co2 cl2 cc2) (.slice co cl cc) mp.2 mc W ((hrd2.below hdr).below hW) (((HRD.out.below HBQI.out).below hdr).below hW) hll (HOK.out mp (List.mem_of_getElem? hmp)).2 HMO.out.2 HS.out)
            have HKEEP : Hid (∀ W, Below wz.heap.size wz W → W.cell? ⟨b, off + k * 2, none⟩ = some (.int .i64 mp.1) ∧ W.cell? ⟨b, off + k * 2 + 1, none⟩ = some (.slice co2 cl2 cc2) ∧ W.cell? ⟨wq.heap.size, 0, none⟩ = some (.int .i64 mn) ∧ W.cell? ⟨wq.heap.size, 1, none⟩ = some (.slice co cl cc)) := hide fun W hW => ⟨cell_belowG r0 hW, cell_belowG r1 hW, cell_belowG m0 hW, cell_belowG m1 hW⟩
            have HMP := hide hmp
            have HSPAN := hide (HIN.out k mp (by omega) hmp)
            have HB2 : Hid (Below w.heap.size w wz) := hide ((HBR.out.trans (HBQI.out.mono HBR.out.size)).trans (hdr.mono (HBR.out.trans (HBQI.out.mono HBR.out.size)).size))
            generalize hK1 : ((k + 1 : Nat) : Int) = K1 at *
            have HK1 := hide hK1
            clear hmp hrd2 hll hma hK1 hdr p0 p1
            go_wp2_with fail
            go_region_held3 (fun W => W.cell? ⟨b, off + k * 2, none⟩ = some (.int .i64 mp.1) ∧ W.cell? ⟨b, off + k * 2 + 1, none⟩ = some (.slice co2 cl2 cc2) ∧ W.cell? ⟨wq.heap.size, 0, none⟩ = some (.int .i64 mn) ∧ W.cell? ⟨wq.heap.size, 1, none⟩ = some (.slice co cl cc)) (exact HKEEP.out _ (by go_grown)) (first
              | (go_at_call 65; refine (HSL.out _ (by go_grown)).mono ?_; rintro e w9 ⟨rfl, hb9⟩; have hb9' : Below wz.heap.size wz w9 := Below.trans (by go_grown) hb9))
            all_goals
              have HB9 := hide (HB2.out.trans (hb9'.mono HB2.out.size))
              clear hb9 hb9'
              cases hsl : slowB mp.2 mc (trustD span)
              · have HUP2 := hide (fair_step HM.out ha2 HMJ.out HMA.out HNC.out HUP.out (fun mp' _ h' => by
                  have h2 := HMP.out
                  rw [Nat.add_sub_cancel] at h'
                  rw [h2] at h'
                  cases h'
                  exact hsl))
                go_wp2_with fail
                go_roundw
                case rel => exact ⟨j + 1, k + 1, by omega, by go_num, by rw [HK1.out], by omega, fun i k' mi mk hi hk' hmi hmk => by
                  have h1 := HIN.out i mi hi hmi
                  have h2 := (HM.out j k' _ mk (by omega) HMJ.out hmk).1
                  simp only at h2
                  omega, HUP2.out, HB9.out⟩
                case measure => simp [intOf]; omega
              · have HE := hide (fairB_false (show k ≤ j by omega) HMP.out HMJ.out HSPAN.out hsl)
                go_wp2_with fail
                go_ret
                exact ⟨by rw [HE.out]; rfl, HB9.out⟩
    · have hje : j = M.length := by omega
      subst hje
      have HE := hide (fairB_true HUP.out)
      clear hbr
      go_wp2_with fail
      go_ret
      exact ⟨by rw [HE.out]; rfl, HBR.out⟩

end Go.Proofs.Ytfmoniabpinceaf
