/-
  The walks over package disk: Trim, Sync, Crash.
-/
import Derived.Test.YtlebbkbbmgmmjabDiskW2
namespace Go.Proofs.Ytlebbkbbmgmmjab
open Go.RowKit

/-- What Trim comes to: bytes, Kept, code, place. -/
def trimR (bs : List UInt8) (k n : Int) : List UInt8 × Int × Int × Int :=
  if checkR bs k ≠ 0 then ([], 0, checkR bs k, 0) else if n < 0 ∨ (bs.length : Int) < n then ([], 0, 3, -1) else (bs.take n.toNat, n, 0, 0)
theorem trimR_bad {bs : List UInt8} {k n : Int} (h : checkR bs k ≠ 0) : trimR bs k n = ([], 0, checkR bs k, 0) := by rw [trimR, if_pos h]
theorem trimR_out {bs : List UInt8} {k n : Int} (h : checkR bs k = 0) (h2 : n < 0 ∨ (bs.length : Int) < n) : trimR bs k n = ([], 0, 3, -1) := by rw [trimR, if_neg (by omega), if_pos h2]
theorem trimR_ok {bs : List UInt8} {k : Int} {m : Nat} (h : checkR bs k = 0) (h2 : m ≤ bs.length) : trimR bs k (m : Int) = (bs.take m, (m : Int), 0, 0) := by rw [trimR, if_neg (by omega), if_neg (by omega)]; simp

set_option maxRecDepth 100000 in
set_option maxHeartbeats 400000 in
theorem Trim_any (v : Value) (bs : List UInt8) (k n : Int) (w : World) (h : Rd w v (bc bs)) :
    Calls Try.prog 45 #[dsk v k, .int .i64 n] w fun e w' => ∃ v', e = .returned (.tuple #[dsk v' (trimR bs k n).2.1, flt (trimR bs k n).2.2.1 (trimR bs k n).2.2.2]) ∧ Rd w' v' (bc (trimR bs k n).1) ∧ Below w.heap.size w w' ∧ New w.heap.size v' := by
  obtain ⟨ao, cap, hu, hc1, hc2⟩ := h.shape
  rw [bc_length] at hc1 hu
  subst hu
  unfold maxLen at hc2
  unfold dsk
  go_enter Try.func45, Try.ntmps45
  go_wp2_with fail
  refine (Check_any _ bs k _ (by exact h.below (by go_grown))).mono ?_
  rintro e w1 ⟨rfl, hb1⟩
  obtain ⟨hD, hR, hF, hbw, hsz⟩ := three_later hb1
  obtain ⟨d0, d1, d2, d3, d4⟩ := hD.facts
  obtain ⟨r0, r1, r2, r3, r4⟩ := hR.facts
  obtain ⟨f0, f1, f2, f3, f4⟩ := hF.facts
  have h1 := h.below hbw
  clear hb1 h
  by_cases hc : checkR bs k = 0
  · obtain ⟨hk1, hk2, hk3⟩ := checkR_zero hc
    by_cases hm : n < 0
    · have HE := hide (@trimR_out bs k n hc (by omega))
      rw [hc]
      clear hc hD hR hF
      unfold flt
      go_wp2_with fail
      exact bodyPost_ret (v := .tuple #[dsk (.slice none 0 0) 0, flt 3 (-1)]) (by simp [results, Try.results45, go_sem, flt, dsk, r0, r1, f0, f1, r4, f4]) rfl ⟨_, by rw [HE.out]; rfl, by rw [HE.out]; exact Rd.nil _, by go_grown, New.nil _⟩
    by_cases hm2 : (bs.length : Int) < n
    · have HE := hide (@trimR_out bs k n hc (by omega))
      rw [hc]
      clear hc hD hR hF
      unfold flt
      go_wp2_with fail
      exact bodyPost_ret (v := .tuple #[dsk (.slice none 0 0) 0, flt 3 (-1)]) (by simp [results, Try.results45, go_sem, flt, dsk, r0, r1, f0, f1, r4, f4]) rfl ⟨_, by rw [HE.out]; rfl, by rw [HE.out]; exact Rd.nil _, by go_grown, New.nil _⟩
    · obtain ⟨m, rfl⟩ : ∃ m : Nat, n = (m : Int) := ⟨n.toNat, by omega⟩
      have HE := hide (@trimR_ok bs k m hc (by omega))
      rw [hc]
      clear hc
      unfold flt
      have hs7 := run_slice_upto (P := Try.prog) Try.underlying25 (by kernel_rfl) Try.info5 ao bs.length cap m (m : Int) rfl (by omega)
      have hV7 := h1.upto (hi := m) (by omega)
      rw [bc_take] at hV7
      generalize Go.sliced ao 0 m cap 1 = V7 at hs7 hV7
      have hl7 : (bs.take m).length = m := by simp; omega
      generalize bs.take m = ts at *
      go_wp2_with fail
      refine (joined_any _ _ ts [] _ (hV7.alloc _) (Rd.nil _) (by simp; omega)).mono ?_
      rintro e w3 ⟨v3, rfl, ho3, hb3⟩
      have hbA := below_alloc w1 (.cells #[.int .i64 0, .int .i64 0] 29)
      obtain ⟨q0, q1, q2, q3, q4⟩ := ((hD.below hbA).below hb3).facts
      obtain ⟨s0, s1, s2, s3, s4⟩ := ((hR.below hbA).below hb3).facts
      obtain ⟨g0, g1, g2, g3, g4⟩ := ((hF.below hbA).below hb3).facts
      rw [List.append_nil, List.length_nil, Nat.add_zero, hl7] at ho3
      have hbw2 := hbw.trans (hbA.mono (by omega))
      have hbw3 : Below w.heap.size w w3 := Below.trans hbw2 (hb3.mono (by simp; omega))
      have hz2 : (w1.alloc (.cells #[.int .i64 0, .int .i64 0] 29)).heap.size = w1.heap.size + 1 := by simp
      rw [hz2] at ho3
      obtain ⟨ao3, cap3, rfl⟩ := owns_shape ho3
      clear hD hR hF h1 hV7 hbA hb3 hbw2 hz2 d0 d1 d2 d3 r0 r1 r2 r3 f0 f1 f2 f3 hs7
      go_wp2_with fail
      exact bodyPost_ret (v := .tuple #[dsk (.slice ao3 m cap3) m, flt 0 0]) (by simp [results, Try.results45, go_sem, flt, dsk, s0, s1, g0, g1]) rfl ⟨_, by rw [HE.out]; rfl, by rw [HE.out]; exact Rd.ofOwns (ownsRow_setCell_below (ownsRow_setCell_below (ownsRow_setCell_below (ownsRow_setCell_below ho3 (by simp only; omega) _) (by simp only; omega) _) (by simp only; omega) _) (by simp only; omega) _), by go_grown, (New.owns ho3).mono (by omega)⟩
  · have HE := hide (@trimR_bad bs k n hc)
    have hcb : (checkR bs k == 0) = false := beq_eq_false_iff_ne.2 hc
    have hcb2 : (checkR bs k != 0) = true := by simp [hc]
    clear hc hD hR hF
    generalize checkR bs k = c at *
    unfold flt
    go_wp2_with fail
    go_region
    all_goals
      go_wp2_with fail
      exact bodyPost_ret (v := .tuple #[dsk (.slice none 0 0) 0, flt c 0]) (by simp [results, Try.results45, go_sem, flt, dsk, r0, r1, f0, f1, r4, f4]) rfl ⟨_, by rw [HE.out]; rfl, by rw [HE.out]; exact Rd.nil _, by go_grown, New.nil _⟩

set_option maxRecDepth 100000 in
set_option maxHeartbeats 400000 in
theorem Sync_any (v : Value) (bs : List UInt8) (k : Int) (w : World) (h : Rd w v (bc bs)) :
    Calls Try.prog 11 #[dsk v k] w fun e w' => ∃ v', e = .returned (.tuple #[dsk v' (trimR bs k bs.length).2.1, flt (trimR bs k bs.length).2.2.1 (trimR bs k bs.length).2.2.2]) ∧ Rd w' v' (bc (trimR bs k bs.length).1) ∧ Below w.heap.size w w' ∧ New w.heap.size v' := by
  obtain ⟨ao, cap, hu, hc1, hc2⟩ := h.shape
  rw [bc_length] at hc1 hu
  subst hu
  unfold maxLen at hc2
  unfold dsk
  go_enter Try.func11, Try.ntmps11
  go_wp2_with fail
  refine (Trim_any _ bs k bs.length _ (by exact h.below (by go_grown))).mono ?_
  rintro e w1 ⟨v1, rfl, hr1, hb1, hn1⟩
  obtain ⟨hD, hR, hF, hbw, hsz⟩ := three_later hb1
  obtain ⟨r0, r1, r2, r3, r4⟩ := hR.facts
  obtain ⟨f0, f1, f2, f3, f4⟩ := hF.facts
  simp only [World.size_alloc] at hn1
  clear hb1 h hD hR hF
  generalize hT : trimR bs k bs.length = T at hr1 hn1 ⊢
  obtain ⟨bv, kv, cv, av⟩ := T
  have HT := hide hT
  clear hT
  obtain ⟨ao1, cap1, hu, hc3, hc4⟩ := hr1.shape
  rw [bc_length] at hc3 hu
  subst hu
  simp only [dsk, flt] at hr1 hc3 ⊢
  go_wp2_with fail
  exact bodyPost_ret (v := .tuple #[dsk (.slice ao1 bv.length cap1) kv, flt cv av]) (by simp [results, Try.results11, go_sem, flt, dsk, r0, r1, f0, f1]) rfl ⟨_, by rw [HT.out]; rfl, by rw [HT.out]; exact (((hr1.setNew hn1 (by simp only; omega) _).setNew hn1 (by simp only; omega) _).setNew hn1 (by simp only; omega) _).setNew hn1 (by simp only; omega) _, by go_grown, hn1.mono (by omega)⟩

/-- What Crash comes to: bytes, Kept, code, place. -/
def crashR (bs : List UInt8) (k n : Int) : List UInt8 × Int × Int × Int :=
  if checkR bs k ≠ 0 then ([], 0, checkR bs k, 0) else if n < 0 ∨ (bs.length : Int) - k < n then ([], 0, 3, -1) else (bs.take (k + n).toNat, k + n, 0, 0)
theorem crashR_bad {bs : List UInt8} {k n : Int} (h : checkR bs k ≠ 0) : crashR bs k n = ([], 0, checkR bs k, 0) := by rw [crashR, if_pos h]
theorem crashR_out {bs : List UInt8} {k n : Int} (h : checkR bs k = 0) (h2 : n < 0 ∨ (bs.length : Int) - k < n) : crashR bs k n = ([], 0, 3, -1) := by rw [crashR, if_neg (by omega), if_pos h2]
theorem crashR_ok {bs : List UInt8} {k n : Int} (h : checkR bs k = 0) (h2 : 0 ≤ n) (h3 : n ≤ (bs.length : Int) - k) : crashR bs k n = trimR bs k (k + n) := by
  have := checkR_zero h
  rw [crashR, if_neg (by omega), if_neg (by omega), trimR, if_neg (by omega), if_neg (by omega)]

set_option maxRecDepth 100000 in
set_option maxHeartbeats 400000 in
theorem Crash_any (v : Value) (bs : List UInt8) (k n : Int) (w : World) (h : Rd w v (bc bs)) :
    Calls Try.prog 13 #[dsk v k, .int .i64 n] w fun e w' => ∃ v', e = .returned (.tuple #[dsk v' (crashR bs k n).2.1, flt (crashR bs k n).2.2.1 (crashR bs k n).2.2.2]) ∧ Rd w' v' (bc (crashR bs k n).1) ∧ Below w.heap.size w w' ∧ New w.heap.size v' := by
  obtain ⟨ao, cap, hu, hc1, hc2⟩ := h.shape
  rw [bc_length] at hc1 hu
  subst hu
  unfold maxLen at hc2
  unfold dsk
  go_enter Try.func13, Try.ntmps13
  go_wp2_with fail
  refine (Check_any _ bs k _ (by exact h.below (by go_grown))).mono ?_
  rintro e w1 ⟨rfl, hb1⟩
  obtain ⟨hD, hR, hF, hbw, hsz⟩ := three_later hb1
  obtain ⟨d0, d1, d2, d3, d4⟩ := hD.facts
  obtain ⟨r0, r1, r2, r3, r4⟩ := hR.facts
  obtain ⟨f0, f1, f2, f3, f4⟩ := hF.facts
  have h1 := h.below hbw
  clear hb1 h
  by_cases hc : checkR bs k = 0
  · obtain ⟨hk1, hk2, hk3⟩ := checkR_zero hc
    by_cases hm : n < 0
    · have HE := hide (@crashR_out bs k n hc (by omega))
      rw [hc]
      clear hc hD hR hF
      unfold flt
      go_wp2_with fail
      exact bodyPost_ret (v := .tuple #[dsk (.slice none 0 0) 0, flt 3 (-1)]) (by simp [results, Try.results13, go_sem, flt, dsk, r0, r1, f0, f1, r4, f4]) rfl ⟨_, by rw [HE.out]; rfl, by rw [HE.out]; exact Rd.nil _, by go_grown, New.nil _⟩
    by_cases hm2 : (bs.length : Int) - k < n
    · have HE := hide (@crashR_out bs k n hc (by omega))
      rw [hc]
      clear hc hD hR hF
      unfold flt
      go_wp2_with fail
      exact bodyPost_ret (v := .tuple #[dsk (.slice none 0 0) 0, flt 3 (-1)]) (by simp [results, Try.results13, go_sem, flt, dsk, r0, r1, f0, f1, r4, f4]) rfl ⟨_, by rw [HE.out]; rfl, by rw [HE.out]; exact Rd.nil _, by go_grown, New.nil _⟩
    · have HE := hide (@crashR_ok bs k n hc (by omega) (by omega))
      rw [hc]
      clear hc
      unfold flt
      go_wp2_with fail
      refine (Trim_any _ bs k (k + n) _ (h1.alloc _)).mono ?_
      rintro e w3 ⟨v3, rfl, hr3, hb3, hn3⟩
      have hbA := below_alloc w1 (.cells #[.int .i64 0, .int .i64 0] 29)
      obtain ⟨s0, s1, s2, s3, s4⟩ := ((hR.below hbA).below hb3).facts
      obtain ⟨g0, g1, g2, g3, g4⟩ := ((hF.below hbA).below hb3).facts
      have hbw2 := hbw.trans (hbA.mono (by omega))
      have hbw3 : Below w.heap.size w w3 := Below.trans hbw2 (hb3.mono (by simp; omega))
      simp only [World.size_alloc] at hn3
      clear hD hR hF h1 hbA hb3 hbw2 d0 d1 d2 d3 r0 r1 r2 r3 f0 f1 f2 f3
      generalize hT : trimR bs k (k + n) = T at hr3 hn3 ⊢
      obtain ⟨bv, kv, cv, av⟩ := T
      have HT := hide (HE.out.trans hT)
      clear hT HE
      obtain ⟨ao1, cap1, hu, hc3, hc4⟩ := hr3.shape
      rw [bc_length] at hc3 hu
      subst hu
      simp only [dsk, flt] at hr3 hc3 ⊢
      go_wp2_with fail
      exact bodyPost_ret (v := .tuple #[dsk (.slice ao1 bv.length cap1) kv, flt cv av]) (by simp [results, Try.results13, go_sem, flt, dsk, s0, s1, g0, g1]) rfl ⟨_, by rw [HT.out]; rfl, by rw [HT.out]; exact (((hr3.setNew hn3 (by simp only; omega) _).setNew hn3 (by simp only; omega) _).setNew hn3 (by simp only; omega) _).setNew hn3 (by simp only; omega) _, by go_grown, hn3.mono (by omega)⟩
  · have HE := hide (@crashR_bad bs k n hc)
    have hcb : (checkR bs k == 0) = false := beq_eq_false_iff_ne.2 hc
    have hcb2 : (checkR bs k != 0) = true := by simp [hc]
    clear hc hD hR hF
    generalize checkR bs k = c at *
    unfold flt
    go_wp2_with fail
    go_region
    all_goals
      go_wp2_with fail
      exact bodyPost_ret (v := .tuple #[dsk (.slice none 0 0) 0, flt c 0]) (by simp [results, Try.results13, go_sem, flt, dsk, r0, r1, f0, f1, r4, f4]) rfl ⟨_, by rw [HE.out]; rfl, by rw [HE.out]; exact Rd.nil _, by go_grown, New.nil _⟩

end Go.Proofs.Ytlebbkbbmgmmjab
