/-
  The walks beneath the law DiskDoes: the document's check, copies, the closures.
-/
import Derived.Test.YtlebbkbbmgmmjaaKeepsMath
namespace Go.Proofs.Ytlebbkbbmgmmjaa
open Go.RowKit

set_option maxRecDepth 100000 in
set_option maxHeartbeats 400000 in
theorem DiskFault_any (v : Value) (bs : List UInt8) (k : Int) (w : World) (h : Rd w v (bc bs)) :
    Calls Try.prog 44 #[dsk v k] w fun e w' => e = .returned (flt (checkR bs k) 0) ∧ Below w.heap.size w w' := by
  obtain ⟨ao, cap, hu, hc1, hc2⟩ := h.shape
  rw [bc_length] at hc1 hu
  subst hu
  unfold maxLen at hc2
  unfold dsk
  clear h
  by_cases h1 : 60000 < bs.length
  · have HE := hide (@checkR_big bs k h1)
    go_enter Try.func44, Try.ntmps44
    go_wp2_with fail
    refine (F_any 8 0 _).mono ?_
    rintro e w1 ⟨rfl, rfl⟩
    simp only [flt]
    go_wp2_with fail
    exact bodyPost_ret (v := flt 8 0) (by simp [results, Try.results44, go_sem, flt]) rfl ⟨by rw [HE.out], by go_grown⟩
  · by_cases h2 : k < 0
    · have HE := hide (@checkR_out bs k h1 (by omega))
      go_enter Try.func44, Try.ntmps44
      go_wp2_with fail
      refine (F_any 3 0 _).mono ?_
      rintro e w1 ⟨rfl, rfl⟩
      simp only [flt]
      go_wp2_with fail
      exact bodyPost_ret (v := flt 3 0) (by simp [results, Try.results44, go_sem, flt]) rfl ⟨by rw [HE.out], by go_grown⟩
    · by_cases h3 : (bs.length : Int) < k
      · have HE := hide (@checkR_out bs k h1 (by omega))
        go_enter Try.func44, Try.ntmps44
        go_wp2_with fail
        refine (F_any 3 0 _).mono ?_
        rintro e w1 ⟨rfl, rfl⟩
        simp only [flt]
        go_wp2_with fail
        exact bodyPost_ret (v := flt 3 0) (by simp [results, Try.results44, go_sem, flt]) rfl ⟨by rw [HE.out], by go_grown⟩
      · have HE := hide (@checkR_ok bs k h1 (by omega) (by omega))
        go_enter Try.func44, Try.ntmps44
        go_wp2_with fail
        exact bodyPost_ret (v := flt 0 0) (by simp [results, Try.results44, go_sem, flt]) rfl ⟨by rw [HE.out], by go_grown⟩

set_option maxRecDepth 100000 in
set_option maxHeartbeats 400000 in
theorem ownDisk_any (v : Value) (bs : List UInt8) (k : Int) (w : World) (h : Rd w v (bc bs)) (hl : bs.length ≤ 1000000000) :
    Calls Try.prog 37 #[dsk v k] w fun e w' => ∃ v', e = .returned (dsk v' k) ∧ Rd w' v' (bc bs) ∧ Below w.heap.size w w' ∧ New w.heap.size v' := by
  obtain ⟨ao, cap, hu, hc1, hc2⟩ := h.shape
  rw [bc_length] at hc1 hu
  subst hu
  unfold dsk
  go_enter Try.func37, Try.ntmps37
  go_wp2_with fail
  have hbC : Below w.heap.size w ((w.alloc (.cells #[.slice ao bs.length cap, .int .i64 k] 67)).alloc (.cells #[.slice none 0 0, .int .i64 0] 67)) := ((Below.refl _ _).alloc (Nat.le_refl _) _).alloc (by simp) _
  have hD : Tb ((w.alloc (.cells #[.slice ao bs.length cap, .int .i64 k] 67)).alloc (.cells #[.slice none 0 0, .int .i64 0] 67)) w.heap.size 67 (.slice ao bs.length cap) (.int .i64 k) := (Tb.new w _ _ _).below (below_alloc _ _)
  have hR : Tb ((w.alloc (.cells #[.slice ao bs.length cap, .int .i64 k] 67)).alloc (.cells #[.slice none 0 0, .int .i64 0] 67)) (w.heap.size + 1) 67 (.slice none 0 0) (.int .i64 0) := by
    have := Tb.new (w.alloc (.cells #[.slice ao bs.length cap, .int .i64 k] 67)) 67 (.slice none 0 0) (.int .i64 0)
    simpa using this
  have h1 := h.below hbC
  generalize (w.alloc (.cells #[.slice ao bs.length cap, .int .i64 k] 67)).alloc (.cells #[.slice none 0 0, .int .i64 0] 67) = w1 at *
  have hsz1 := hR.facts.2.2.2.2
  obtain ⟨d0, d1, d2, d3, d4⟩ := hD.facts
  have HD := hide hD
  have HR := hide hR
  have H1 := hide h1
  clear hD hR h1 h
  go_region_held3 (fun W => W.cell? ⟨w.heap.size, 0, none⟩ = some (.slice ao bs.length cap) ∧ W.cell? ⟨w.heap.size, 1, none⟩ = some (.int .i64 k)) (go_keep) (first | (go_at_call 13; refine (ownBytes_any _ bs _ (by exact H1.out) hl).mono ?_; rintro e w3 ⟨v3, rfl, hr3, hb3, hn3⟩; obtain ⟨ao3, cap3, hv3, _, _⟩ := hr3.shape; rw [bc_length] at hv3; subst hv3; obtain ⟨q0, q1, q2, q3, q4⟩ := (Tb.below (w := w1.drew) HD.out hb3).facts; obtain ⟨r0, r1, r2, r3, r4⟩ := (Tb.below (w := w1.drew) HR.out hb3).facts))
  all_goals
    have hz1 : w1.drew.heap.size = w1.heap.size := rfl
    have hbw3 : Below w.heap.size w w3 := Below.trans hbC.drew (hb3.mono (by omega))
    go_wp2_with fail
    exact bodyPost_ret (v := dsk (.slice ao3 bs.length cap3) k) (by simp [results, Try.results37, go_sem, dsk, r0, r1]) rfl ⟨_, rfl, (hr3.setNew hn3 (by simp only; omega) _).setNew hn3 (by simp only; omega) _, by go_grown, hn3.mono (by omega)⟩

end Go.Proofs.Ytlebbkbbmgmmjaa
