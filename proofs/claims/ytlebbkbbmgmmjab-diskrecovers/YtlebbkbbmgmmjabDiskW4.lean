/-
  The walks over package disk: Recover; the document's comparison of disks; the example.
-/
import Derived.Test.YtlebbkbbmgmmjabDiskW3
namespace Go.Proofs.Ytlebbkbbmgmmjab
open Go.RowKit

theorem openGo_le : ∀ (f k : Nat) (bs : List UInt8) (acc : List (List UInt8)), bs.length ≤ f → (openGo (f + 1) bs acc k).2.2 = 0 → 0 ≤ (openGo (f + 1) bs acc k).2.1 ∧ (openGo (f + 1) bs acc k).2.1 ≤ (k + bs.length : Nat)
  | 0, k, bs, acc, h, _ => by
    have : frameAt bs = none := frameAt_short (by omega)
    rw [openGo_end this]
    simp only
    omega
  | f + 1, k, bs, acc, h, hz => by
    cases hn : frameAt bs with
    | none => rw [openGo_end hn]; simp only; omega
    | some body =>
      have hl := frameAt_len hn
      by_cases hm : acc.length = 1000
      · rw [openGo_many hn hm] at hz
        cases hz
      · rw [openGo_step hn hm] at hz ⊢
        have := openGo_le f (k + (body.length + 6)) (bs.drop (body.length + 6)) _ (by rw [List.length_drop]; omega) hz
        rw [List.length_drop] at this
        omega

theorem openR_le {bs : List UInt8} (h : (openR bs).2.2 = 0) : 0 ≤ (openR bs).2.1 ∧ (openR bs).2.1 ≤ (bs.length : Int) := by
  unfold openR at h ⊢
  split at h
  · cases h
  · rename_i hb
    rw [if_neg hb]
    have := openGo_le _ 0 bs [] (Nat.le_refl _) h
    omega

/-- What Recover comes to: bytes, Kept, bodies, code. -/
def recoverR (bs : List UInt8) (k : Int) : List UInt8 × Int × List (List UInt8) × Int :=
  if checkR bs k ≠ 0 then ([], 0, [], checkR bs k) else if (openR bs).2.2 ≠ 0 then ([], 0, [], (openR bs).2.2) else (bs.take (openR bs).2.1.toNat, (openR bs).2.1, (openR bs).1, 0)
theorem recoverR_bad {bs : List UInt8} {k : Int} (h : checkR bs k ≠ 0) : recoverR bs k = ([], 0, [], checkR bs k) := by rw [recoverR, if_pos h]
theorem recoverR_out {bs : List UInt8} {k : Int} (h : checkR bs k = 0) (h2 : (openR bs).2.2 ≠ 0) : recoverR bs k = ([], 0, [], (openR bs).2.2) := by rw [recoverR, if_neg (by omega), if_pos h2]
theorem recoverR_ok {bs : List UInt8} {k : Int} (h : checkR bs k = 0) (h2 : (openR bs).2.2 = 0) : recoverR bs k = (bs.take (openR bs).2.1.toNat, (openR bs).2.1, (openR bs).1, 0) := by rw [recoverR, if_neg (by omega), if_neg (by omega)]
theorem trimR_open {bs : List UInt8} {k : Int} (h : checkR bs k = 0) (h2 : (openR bs).2.2 = 0) : trimR bs k (openR bs).2.1 = (bs.take (openR bs).2.1.toNat, (openR bs).2.1, 0, 0) := by
  have := openR_le h2
  rw [trimR, if_neg (by omega), if_neg (by omega)]

theorem Tb.set {w : World} {B : Nat} {t : TypeId} {x y : Value} (h : Tb w B t x y) (x' y' : Value) : Tb ((w.setCell ⟨B, 0, none⟩ x').setCell ⟨B, 1, none⟩ y') B t x' y' := by
  unfold Tb
  rw [heap_setCell_same _ B 1 #[x', y] _ y']
  · rfl
  · rw [heap_setCell_same _ B 0 _ _ x' h]
    rfl

theorem Tb.far {w : World} {B : Nat} {t : TypeId} {x y : Value} (h : Tb w B t x y) {p : Addr} (hp : B ≠ p.block) (u : Value) : Tb (w.setCell p u) B t x y := by
  unfold Tb
  rw [heap_setCell_other w p _ u hp]
  exact h

theorem RdBN.mono {w : World} {B B' : Nat} {v : Value} {bb : List (List UInt8)} (h : RdBN w B v bb) (hb : B' ≤ B) : RdBN w B' v bb := by
  obtain ⟨vs, h1, h2, h3, h4⟩ := h
  exact ⟨vs, h1, h2.mono hb, h3, fun i u b hu hb' => ⟨(h4 i u b hu hb').1, (h4 i u b hu hb').2.mono hb⟩⟩

theorem RdBN.shape {w : World} {B : Nat} {v : Value} {bb : List (List UInt8)} (h : RdBN w B v bb) : ∃ ao cap, v = .slice ao bb.length cap ∧ bb.length ≤ cap ∧ cap ≤ maxLen := by
  obtain ⟨vs, h1, h2, h3, h4⟩ := h
  rw [← h3]
  exact h1.shape

set_option maxRecDepth 100000 in
set_option maxHeartbeats 1000000 in
theorem Recover_any (v : Value) (bs : List UInt8) (k : Int) (w : World) (h : Rd w v (bc bs)) :
    Calls Try.prog 17 #[dsk v k] w fun e w' => ∃ v' l', e = .returned (.tuple #[dsk v' (recoverR bs k).2.1, l', flt (recoverR bs k).2.2.2 0]) ∧ Rd w' v' (bc (recoverR bs k).1) ∧ RdBN w' w.heap.size l' (recoverR bs k).2.2.1 ∧ Below w.heap.size w w' ∧ New w.heap.size v' := by
  obtain ⟨ao, cap, hu, hc1, hc2⟩ := h.shape
  rw [bc_length] at hc1 hu
  subst hu
  unfold maxLen at hc2
  unfold dsk
  go_enter Try.func17, Try.ntmps17
  go_wp2_with fail
  refine (Check_any _ bs k _ (by exact h.below (by go_grown))).mono ?_
  rintro e w1 ⟨rfl, hb1⟩
  obtain ⟨hD, hR, hF, hbw, hsz⟩ := three_later hb1
  obtain ⟨d0, d1, d2, d3, d4⟩ := hD.facts
  obtain ⟨r0, r1, r2, r3, r4⟩ := hR.facts
  obtain ⟨f0, f1, f2, f3, f4⟩ := hF.facts
  have h1 := h.below hbw
  clear hb1 h
  by_cases hc : checkR bs k = 0
  · obtain ⟨hk1, hk2, hk3⟩ := checkR_zero hc
    have hTO := @trimR_open bs k hc
    have hOU := @recoverR_out bs k hc
    have hOK := @recoverR_ok bs k hc
    rw [hc]
    clear hc
    unfold flt
    go_wp2_with fail
    refine (Open_any _ bs _ (h1.alloc _)).mono ?_
    rintro e w2 ⟨l2, rfl, hl2, hb2⟩
    have hbA := below_alloc w1 (.cells #[.int .i64 0, .int .i64 0] 29)
    have hb12 : Below w1.heap.size w1 w2 := hbA.trans (hb2.mono (by simp))
    have hbw2 : Below w.heap.size w w2 := hbw.trans (hb12.mono (by omega))
    have hz1 : w1.heap.size + 1 ≤ w2.heap.size := by have := hb2.size; simp at this; exact this
    simp only [World.size_alloc] at hl2
    have hD2 := hD.below hb12
    have hR2 := hR.below hb12
    have hF2 := hF.below hb12
    have h2 := h1.below hb12
    clear hb2 hbA hb12 hD hR hF h1 hbw d0 d1 d2 d3 d4 r0 r1 r2 r3 r4 f0 f1 f2 f3 f4
    obtain ⟨d0, d1, d2, d3, d4⟩ := hD2.facts
    obtain ⟨r0, r1, r2, r3, r4⟩ := hR2.facts
    obtain ⟨f0, f1, f2, f3, f4⟩ := hF2.facts
    generalize openR bs = O at *
    obtain ⟨ol, on, oc⟩ := O
    simp only at hTO hOU hOK hl2 ⊢
    obtain ⟨lo, lcap, hlv, hl3, hl4⟩ := hl2.shape
    subst hlv
    by_cases ho : oc = 0
    · have HT := hide (hTO ho)
      have HK := hide (hOK ho)
      subst ho
      clear hTO hOU hOK
      simp only [flt]
      go_wp2_with fail
      refine (Trim_any _ bs k on _ (h2.alloc _)).mono ?_
      rintro e w3 ⟨v3, rfl, hr3, hb3, hn3⟩
      simp only [HT.out, flt] at hr3 ⊢
      have hbA := below_alloc w2 (.cells #[.int .i64 0, .int .i64 0] 29)
      have hb23 : Below w2.heap.size w2 w3 := hbA.trans (hb3.mono (by simp))
      have hbw3 : Below w.heap.size w w3 := hbw2.trans (hb23.mono (by omega))
      have hz2 : w2.heap.size + 1 ≤ w3.heap.size := by have := hb3.size; simp at this; exact this
      have hX := (Tb.new w2 29 (.int .i64 0) (.int .i64 0)).below hb3
      simp only [World.size_alloc] at hn3
      have hR3 := hR2.below hb23
      have hF3 := hF2.below hb23
      have hl5 := hl2.below hb23
      clear hb3 hbA hD2 hR2 hF2 h2 d0 d1 d2 d3 d4 r0 r1 r2 r3 r4 f0 f1 f2 f3 f4 hl5
      obtain ⟨x0, x1, x2, x3, x4⟩ := hX.facts
      obtain ⟨vo, vcap, hvv, hv3, hv4⟩ := hr3.shape
      rw [bc_length] at hvv hv3
      subst hvv
      generalize bs.take on.toNat = ts at *
      simp only [dsk]
      go_upto_region 8 with fail
      have hb4 := (hb23.setCell (p := ⟨w2.heap.size, 0, none⟩) (Nat.le_refl _) (.int .i64 0)).setCell (p := ⟨w2.heap.size, 1, none⟩) (Nat.le_refl _) (.int .i64 0)
      have hR4 := (hR3.far (p := ⟨w2.heap.size, 0, none⟩) (by simp only; omega) (.int .i64 0)).far (p := ⟨w2.heap.size, 1, none⟩) (by simp only; omega) (.int .i64 0)
      have hF4 := (hF3.far (p := ⟨w2.heap.size, 0, none⟩) (by simp only; omega) (.int .i64 0)).far (p := ⟨w2.heap.size, 1, none⟩) (by simp only; omega) (.int .i64 0)
      have hX4 := hX.set (.int .i64 0) (.int .i64 0)
      have hr4 := (hr3.setNew hn3 (p := ⟨w2.heap.size, 0, none⟩) (by simp) (.int .i64 0)).setNew hn3 (p := ⟨w2.heap.size, 1, none⟩) (by simp) (.int .i64 0)
      have hz4 : ((w3.setCell ⟨w2.heap.size, 0, none⟩ (.int .i64 0)).setCell ⟨w2.heap.size, 1, none⟩ (.int .i64 0)).heap.size = w3.heap.size := by simp
      have hbw4 : Below w.heap.size w _ := hbw2.trans (hb4.mono (by omega))
      have hl6 := hl2.below hb4
      clear hb4 hR3 hF3 hX hr3 hl2 hbw2 hbw3 hb23
      generalize (w3.setCell ⟨w2.heap.size, 0, none⟩ (.int .i64 0)).setCell ⟨w2.heap.size, 1, none⟩ (.int .i64 0) = w4 at *
      have hbC := below_alloc w4 (.cells #[.slice vo ts.length vcap, .int .i64 on] 27)
      have hR5 := hR4.below hbC
      have hF5 := hF4.below hbC
      have hX5 := hX4.below hbC
      have hN5 := Tb.new w4 27 (.slice vo ts.length vcap) (.int .i64 on)
      rw [hz4] at hN5
      have hr5 := hr4.below hbC
      have hl7 := hl6.below hbC
      have hbw5 : Below w.heap.size w _ := hbw4.trans (hbC.mono (by omega))
      clear hR4 hF4 hX4 hr4 hl6 hbw4 hbC x0 x1 x2 x3 x4
      have hz5 : (w4.alloc (.cells #[.slice vo ts.length vcap, .int .i64 on] 27)).heap.size = w4.heap.size + 1 := by simp
      generalize w4.alloc (.cells #[.slice vo ts.length vcap, .int .i64 on] 27) = w5 at *
      have HZ : Hid (w.heap.size + 3 ≤ w2.heap.size) := by show _ ≤ _; omega
      obtain ⟨r0, r1, r2, r3, r4⟩ := hR5.facts
      obtain ⟨f0, f1, f2, f3, f4⟩ := hF5.facts
      obtain ⟨x0, x1, x2, x3, x4⟩ := hX5.facts
      obtain ⟨n0, n1, n2, n3, n4⟩ := hN5.facts
      rw [hz4] at hz5
      clear hR5 hF5 hX5 hN5 HT hz4
      generalize w3.heap.size = z4 at *
      generalize w2.heap.size = z2 at *
      generalize w1.heap.size = z1 at *
      have hne1 : w.heap.size + 1 ≠ z4 := by omega
      have hne2 : w.heap.size + 1 + 1 ≠ z4 := by omega
      have hne3 : w.heap.size + 1 ≠ z2 := by omega
      have hne4 : w.heap.size + 1 + 1 ≠ z2 := by omega
      go_region
      all_goals
        go_wp2_with fail
        have hzz := HZ.out
        exact bodyPost_ret (v := .tuple #[dsk (.slice vo ts.length vcap) on, .slice lo ol.length lcap, flt 0 0]) (by simp [results, Try.results17, go_sem, flt, dsk, r0, r1, f0, f1]) rfl ⟨_, _, by rw [HK.out]; rfl, by rw [HK.out]; exact (((hr5.setNew hn3 (by simp only; omega) _).setNew hn3 (by simp only; omega) _).setNew hn3 (by simp only; omega) _).setNew hn3 (by simp only; omega) _, by rw [HK.out]; exact ((((hl7.set (by simp only; omega) _).set (by simp only; omega) _).set (by simp only; omega) _).set (by simp only; omega) _).mono (by omega), by go_grown, hn3.mono (by omega)⟩
    · have HE := hide (hOU ho)
      have hcb : (oc == 0) = false := beq_eq_false_iff_ne.2 ho
      have hcb2 : (oc != 0) = true := by simp [ho]
      clear ho hTO hOU hOK hD2 hR2 hF2
      simp only [flt]
      go_wp2_with fail
      go_region
      all_goals
        go_wp2_with fail
        exact bodyPost_ret (v := .tuple #[dsk (.slice none 0 0) 0, .slice none 0 0, flt oc 0]) (by simp [results, Try.results17, go_sem, flt, dsk, r0, r1, f0, f1, r4, f4]) rfl ⟨_, _, by rw [HE.out]; rfl, by rw [HE.out]; exact Rd.nil _, by rw [HE.out]; exact RdBN.nil _ _, by go_grown, New.nil _⟩
  · have HE := hide (@recoverR_bad bs k hc)
    have hcb : (checkR bs k == 0) = false := beq_eq_false_iff_ne.2 hc
    have hcb2 : (checkR bs k != 0) = true := by simp [hc]
    clear hc hD hR hF
    generalize checkR bs k = c at *
    unfold flt
    go_wp2_with fail
    go_region
    all_goals
      go_wp2_with fail
      exact bodyPost_ret (v := .tuple #[dsk (.slice none 0 0) 0, .slice none 0 0, flt c 0]) (by simp [results, Try.results17, go_sem, flt, dsk, r0, r1, f0, f1, r4, f4]) rfl ⟨_, _, by rw [HE.out]; rfl, by rw [HE.out]; exact Rd.nil _, by rw [HE.out]; exact RdBN.nil _ _, by go_grown, New.nil _⟩

set_option maxRecDepth 100000 in
set_option maxHeartbeats 400000 in
theorem SameDisk_any (u v : Value) (xs ys : List UInt8) (k m : Int) (w : World) (h1 : Rd w u (bc xs)) (h2 : Rd w v (bc ys)) :
    Calls Try.prog 19 #[dsk u k, dsk v m] w fun e w' => e = .returned (.bool (k == m && xs == ys)) ∧ Below w.heap.size w w' := by
  obtain ⟨ao, cap, hu, hc1, hc2⟩ := h1.shape
  obtain ⟨bo, cbp, hv, hd1, hd2⟩ := h2.shape
  rw [bc_length] at hc1 hu hd1 hv
  subst hu hv
  unfold dsk
  go_enter Try.func19, Try.ntmps19
  by_cases hk : k = m
  · have hkb : (k == m) = true := beq_iff_eq.2 hk
    clear hk
    go_wp2_with fail
    refine (Same_any _ _ xs ys _ ((h1.alloc _).alloc _) ((h2.alloc _).alloc _)).mono ?_
    rintro e w1 ⟨rfl, rfl⟩
    go_wp2_with fail
    go_ret
    exact ⟨by rw [hkb]; rfl, by go_grown⟩
  · have hkb : (k == m) = false := beq_eq_false_iff_ne.2 hk
    clear hk
    go_wp2_with fail
    go_ret
    exact ⟨by rw [hkb]; rfl, by go_grown⟩

end Go.Proofs.Ytlebbkbbmgmmjab
