/-
  The comparison that the law DiskDoes calls, with each of its closures.
-/
import Derived.Test.YtlebbkbbmgmmjaaDoesRef2
namespace Go.Proofs.Ytlebbkbbmgmmjaa
open Go.RowKit

set_option maxRecDepth 100000 in
set_option maxHeartbeats 1000000 in
theorem diskAs1_true (p1 p2 v : Value) (bs : List UInt8) (k c a : Int) (w : World) (hv : Rd w v (bc bs)) (hbad : c ≠ 0 → bs = [] ∧ k = 0)
    (hcl : c = 0 → ∀ W, Below w.heap.size w W → Calls Try.prog 47 #[p1, p2] W fun e w' => ∃ v', e = .returned (dsk v' k) ∧ Rd w' v' (bc bs) ∧ Below W.heap.size W w') :
    Calls Try.prog 46 #[dsk v k, flt c a, flt c a, .func (.func 47) #[] #[p1, p2]] w fun e w' => e = .returned (.bool true) ∧ Below w.heap.size w w' := by
  obtain ⟨ao, cap, hu, hc1, hc2⟩ := hv.shape
  rw [bc_length] at hc1 hu
  subst hu
  unfold dsk flt
  by_cases hc : c = 0
  · subst hc
    have HCL := hide (hcl rfl)
    clear hcl hbad
    go_enter Try.func46, Try.ntmps46
    go_wp2_with fail
    have hbC : Below w.heap.size w (((w.alloc (.cells #[.slice ao bs.length cap, .int .i64 k] 67)).alloc (.cells #[.int .i64 0, .int .i64 a] 26)).alloc (.cells #[.int .i64 0, .int .i64 a] 26)) := (((Below.refl _ _).alloc (Nat.le_refl _) _).alloc (by simp) _).alloc (by simp; omega) _
    obtain ⟨hD, _, _, _, hsz⟩ := three_later (Below.refl _ (((w.alloc (.cells #[.slice ao bs.length cap, .int .i64 k] 67)).alloc (.cells #[.int .i64 0, .int .i64 a] 26)).alloc (.cells #[.int .i64 0, .int .i64 a] 26)))
    have hv1 := hv.below hbC
    generalize ((w.alloc (.cells #[.slice ao bs.length cap, .int .i64 k] 67)).alloc (.cells #[.int .i64 0, .int .i64 a] 26)).alloc (.cells #[.int .i64 0, .int .i64 a] 26) = w1 at *
    have hkeep : ∀ W, Below w1.heap.size w1 W → W.cell? ⟨w.heap.size, 0, none⟩ = some (.slice ao bs.length cap) ∧ W.cell? ⟨w.heap.size, 1, none⟩ = some (.int .i64 k) := fun W h => ⟨(hD.below h).facts.1, (hD.below h).facts.2.1⟩
    have hcl1 : ∀ W, Below w1.heap.size w1 W → Below w.heap.size w W := fun W h => hbC.trans (h.mono (by omega))
    have HKEEP := hide hkeep
    have HC1 := hide hcl1
    have HV := hide hv1
    obtain ⟨d0, d1, d2, d3, d4⟩ := hD.facts
    clear hkeep hcl1 hv1 hD
    go_region_held3 (fun W => W.cell? ⟨w.heap.size, 0, none⟩ = some (.slice ao bs.length cap) ∧ W.cell? ⟨w.heap.size, 1, none⟩ = some (.int .i64 k)) (exact HKEEP.out _ (by go_grown)) (first
      | (go_at_call 45; refine (SameDisk_any _ _ bs bs k k _ (by exact HV.out.below hb13) (by exact hr3)).mono ?_; rintro e w4 ⟨rfl, hb4⟩; have hb14 := hb13.trans (hb4.mono hz13); have hz14 := hb14.size)
      | (go_at_call 47; refine (HCL.out _ (by exact HC1.out _ (by go_grown))).mono ?_; rintro e w3 ⟨v3, rfl, hr3, hb3⟩; have hb13 : Below w1.heap.size w1 w3 := Below.trans (by go_grown) hb3; have hz13 := hb13.size; obtain ⟨ao3, cap3, hv3, _, _⟩ := hr3.shape; rw [bc_length] at hv3; subst hv3; unfold dsk))
    all_goals
      go_wp2_with fail
      go_ret
      exact ⟨by simp, HC1.out _ hb14⟩
  · obtain ⟨rfl, rfl⟩ := hbad hc
    have hcb : (c != 0) = true := by simp [hc]
    clear hcl hbad hc
    go_enter Try.func46, Try.ntmps46
    go_wp2_with fail
    refine (SameDisk_any _ _ [] [] 0 0 _ (((hv.alloc _).alloc _).alloc _) (Rd.nil _)).mono ?_
    rintro e w3 ⟨rfl, hb3⟩
    have hbw3 : Below w.heap.size w w3 := Below.trans (by go_grown) (hb3.mono (by simp; omega))
    go_wp2_with fail
    go_ret
    exact ⟨rfl, hbw3⟩

set_option maxRecDepth 100000 in
set_option maxHeartbeats 1000000 in
theorem diskAs2_true (p1 v : Value) (bs : List UInt8) (k c a : Int) (w : World) (hv : Rd w v (bc bs)) (hbad : c ≠ 0 → bs = [] ∧ k = 0)
    (hcl : c = 0 → ∀ W, Below w.heap.size w W → Calls Try.prog 48 #[p1] W fun e w' => ∃ v', e = .returned (dsk v' k) ∧ Rd w' v' (bc bs) ∧ Below W.heap.size W w') :
    Calls Try.prog 46 #[dsk v k, flt c a, flt c a, .func (.func 48) #[] #[p1]] w fun e w' => e = .returned (.bool true) ∧ Below w.heap.size w w' := by
  obtain ⟨ao, cap, hu, hc1, hc2⟩ := hv.shape
  rw [bc_length] at hc1 hu
  subst hu
  unfold dsk flt
  by_cases hc : c = 0
  · subst hc
    have HCL := hide (hcl rfl)
    clear hcl hbad
    go_enter Try.func46, Try.ntmps46
    go_wp2_with fail
    have hbC : Below w.heap.size w (((w.alloc (.cells #[.slice ao bs.length cap, .int .i64 k] 67)).alloc (.cells #[.int .i64 0, .int .i64 a] 26)).alloc (.cells #[.int .i64 0, .int .i64 a] 26)) := (((Below.refl _ _).alloc (Nat.le_refl _) _).alloc (by simp) _).alloc (by simp; omega) _
    obtain ⟨hD, _, _, _, hsz⟩ := three_later (Below.refl _ (((w.alloc (.cells #[.slice ao bs.length cap, .int .i64 k] 67)).alloc (.cells #[.int .i64 0, .int .i64 a] 26)).alloc (.cells #[.int .i64 0, .int .i64 a] 26)))
    have hv1 := hv.below hbC
    generalize ((w.alloc (.cells #[.slice ao bs.length cap, .int .i64 k] 67)).alloc (.cells #[.int .i64 0, .int .i64 a] 26)).alloc (.cells #[.int .i64 0, .int .i64 a] 26) = w1 at *
    have hkeep : ∀ W, Below w1.heap.size w1 W → W.cell? ⟨w.heap.size, 0, none⟩ = some (.slice ao bs.length cap) ∧ W.cell? ⟨w.heap.size, 1, none⟩ = some (.int .i64 k) := fun W h => ⟨(hD.below h).facts.1, (hD.below h).facts.2.1⟩
    have hcl1 : ∀ W, Below w1.heap.size w1 W → Below w.heap.size w W := fun W h => hbC.trans (h.mono (by omega))
    have HKEEP := hide hkeep
    have HC1 := hide hcl1
    have HV := hide hv1
    obtain ⟨d0, d1, d2, d3, d4⟩ := hD.facts
    clear hkeep hcl1 hv1 hD
    go_region_held3 (fun W => W.cell? ⟨w.heap.size, 0, none⟩ = some (.slice ao bs.length cap) ∧ W.cell? ⟨w.heap.size, 1, none⟩ = some (.int .i64 k)) (exact HKEEP.out _ (by go_grown)) (first
      | (go_at_call 45; refine (SameDisk_any _ _ bs bs k k _ (by exact HV.out.below hb13) (by exact hr3)).mono ?_; rintro e w4 ⟨rfl, hb4⟩; have hb14 := hb13.trans (hb4.mono hz13); have hz14 := hb14.size)
      | (go_at_call 48; refine (HCL.out _ (by exact HC1.out _ (by go_grown))).mono ?_; rintro e w3 ⟨v3, rfl, hr3, hb3⟩; have hb13 : Below w1.heap.size w1 w3 := Below.trans (by go_grown) hb3; have hz13 := hb13.size; obtain ⟨ao3, cap3, hv3, _, _⟩ := hr3.shape; rw [bc_length] at hv3; subst hv3; unfold dsk))
    all_goals
      go_wp2_with fail
      go_ret
      exact ⟨by simp, HC1.out _ hb14⟩
  · obtain ⟨rfl, rfl⟩ := hbad hc
    have hcb : (c != 0) = true := by simp [hc]
    clear hcl hbad hc
    go_enter Try.func46, Try.ntmps46
    go_wp2_with fail
    refine (SameDisk_any _ _ [] [] 0 0 _ (((hv.alloc _).alloc _).alloc _) (Rd.nil _)).mono ?_
    rintro e w3 ⟨rfl, hb3⟩
    have hbw3 : Below w.heap.size w w3 := Below.trans (by go_grown) (hb3.mono (by simp; omega))
    go_wp2_with fail
    go_ret
    exact ⟨rfl, hbw3⟩

set_option maxRecDepth 100000 in
set_option maxHeartbeats 1000000 in
theorem diskAs3_true (p1 p2 v : Value) (bs : List UInt8) (k c a : Int) (w : World) (hv : Rd w v (bc bs)) (hbad : c ≠ 0 → bs = [] ∧ k = 0)
    (hcl : c = 0 → ∀ W, Below w.heap.size w W → Calls Try.prog 49 #[p1, p2] W fun e w' => ∃ v', e = .returned (dsk v' k) ∧ Rd w' v' (bc bs) ∧ Below W.heap.size W w') :
    Calls Try.prog 46 #[dsk v k, flt c a, flt c a, .func (.func 49) #[] #[p1, p2]] w fun e w' => e = .returned (.bool true) ∧ Below w.heap.size w w' := by
  obtain ⟨ao, cap, hu, hc1, hc2⟩ := hv.shape
  rw [bc_length] at hc1 hu
  subst hu
  unfold dsk flt
  by_cases hc : c = 0
  · subst hc
    have HCL := hide (hcl rfl)
    clear hcl hbad
    go_enter Try.func46, Try.ntmps46
    go_wp2_with fail
    have hbC : Below w.heap.size w (((w.alloc (.cells #[.slice ao bs.length cap, .int .i64 k] 67)).alloc (.cells #[.int .i64 0, .int .i64 a] 26)).alloc (.cells #[.int .i64 0, .int .i64 a] 26)) := (((Below.refl _ _).alloc (Nat.le_refl _) _).alloc (by simp) _).alloc (by simp; omega) _
    obtain ⟨hD, _, _, _, hsz⟩ := three_later (Below.refl _ (((w.alloc (.cells #[.slice ao bs.length cap, .int .i64 k] 67)).alloc (.cells #[.int .i64 0, .int .i64 a] 26)).alloc (.cells #[.int .i64 0, .int .i64 a] 26)))
    have hv1 := hv.below hbC
    generalize ((w.alloc (.cells #[.slice ao bs.length cap, .int .i64 k] 67)).alloc (.cells #[.int .i64 0, .int .i64 a] 26)).alloc (.cells #[.int .i64 0, .int .i64 a] 26) = w1 at *
    have hkeep : ∀ W, Below w1.heap.size w1 W → W.cell? ⟨w.heap.size, 0, none⟩ = some (.slice ao bs.length cap) ∧ W.cell? ⟨w.heap.size, 1, none⟩ = some (.int .i64 k) := fun W h => ⟨(hD.below h).facts.1, (hD.below h).facts.2.1⟩
    have hcl1 : ∀ W, Below w1.heap.size w1 W → Below w.heap.size w W := fun W h => hbC.trans (h.mono (by omega))
    have HKEEP := hide hkeep
    have HC1 := hide hcl1
    have HV := hide hv1
    obtain ⟨d0, d1, d2, d3, d4⟩ := hD.facts
    clear hkeep hcl1 hv1 hD
    go_region_held3 (fun W => W.cell? ⟨w.heap.size, 0, none⟩ = some (.slice ao bs.length cap) ∧ W.cell? ⟨w.heap.size, 1, none⟩ = some (.int .i64 k)) (exact HKEEP.out _ (by go_grown)) (first
      | (go_at_call 45; refine (SameDisk_any _ _ bs bs k k _ (by exact HV.out.below hb13) (by exact hr3)).mono ?_; rintro e w4 ⟨rfl, hb4⟩; have hb14 := hb13.trans (hb4.mono hz13); have hz14 := hb14.size)
      | (go_at_call 49; refine (HCL.out _ (by exact HC1.out _ (by go_grown))).mono ?_; rintro e w3 ⟨v3, rfl, hr3, hb3⟩; have hb13 : Below w1.heap.size w1 w3 := Below.trans (by go_grown) hb3; have hz13 := hb13.size; obtain ⟨ao3, cap3, hv3, _, _⟩ := hr3.shape; rw [bc_length] at hv3; subst hv3; unfold dsk))
    all_goals
      go_wp2_with fail
      go_ret
      exact ⟨by simp, HC1.out _ hb14⟩
  · obtain ⟨rfl, rfl⟩ := hbad hc
    have hcb : (c != 0) = true := by simp [hc]
    clear hcl hbad hc
    go_enter Try.func46, Try.ntmps46
    go_wp2_with fail
    refine (SameDisk_any _ _ [] [] 0 0 _ (((hv.alloc _).alloc _).alloc _) (Rd.nil _)).mono ?_
    rintro e w3 ⟨rfl, hb3⟩
    have hbw3 : Below w.heap.size w w3 := Below.trans (by go_grown) (hb3.mono (by simp; omega))
    go_wp2_with fail
    go_ret
    exact ⟨rfl, hbw3⟩

set_option maxRecDepth 100000 in
set_option maxHeartbeats 1000000 in
theorem diskAs4_true (p1 p2 v : Value) (bs : List UInt8) (k c a : Int) (w : World) (hv : Rd w v (bc bs)) (hbad : c ≠ 0 → bs = [] ∧ k = 0)
    (hcl : c = 0 → ∀ W, Below w.heap.size w W → Calls Try.prog 50 #[p1, p2] W fun e w' => ∃ v', e = .returned (dsk v' k) ∧ Rd w' v' (bc bs) ∧ Below W.heap.size W w') :
    Calls Try.prog 46 #[dsk v k, flt c a, flt c a, .func (.func 50) #[] #[p1, p2]] w fun e w' => e = .returned (.bool true) ∧ Below w.heap.size w w' := by
  obtain ⟨ao, cap, hu, hc1, hc2⟩ := hv.shape
  rw [bc_length] at hc1 hu
  subst hu
  unfold dsk flt
  by_cases hc : c = 0
  · subst hc
    have HCL := hide (hcl rfl)
    clear hcl hbad
    go_enter Try.func46, Try.ntmps46
    go_wp2_with fail
    have hbC : Below w.heap.size w (((w.alloc (.cells #[.slice ao bs.length cap, .int .i64 k] 67)).alloc (.cells #[.int .i64 0, .int .i64 a] 26)).alloc (.cells #[.int .i64 0, .int .i64 a] 26)) := (((Below.refl _ _).alloc (Nat.le_refl _) _).alloc (by simp) _).alloc (by simp; omega) _
    obtain ⟨hD, _, _, _, hsz⟩ := three_later (Below.refl _ (((w.alloc (.cells #[.slice ao bs.length cap, .int .i64 k] 67)).alloc (.cells #[.int .i64 0, .int .i64 a] 26)).alloc (.cells #[.int .i64 0, .int .i64 a] 26)))
    have hv1 := hv.below hbC
    generalize ((w.alloc (.cells #[.slice ao bs.length cap, .int .i64 k] 67)).alloc (.cells #[.int .i64 0, .int .i64 a] 26)).alloc (.cells #[.int .i64 0, .int .i64 a] 26) = w1 at *
    have hkeep : ∀ W, Below w1.heap.size w1 W → W.cell? ⟨w.heap.size, 0, none⟩ = some (.slice ao bs.length cap) ∧ W.cell? ⟨w.heap.size, 1, none⟩ = some (.int .i64 k) := fun W h => ⟨(hD.below h).facts.1, (hD.below h).facts.2.1⟩
    have hcl1 : ∀ W, Below w1.heap.size w1 W → Below w.heap.size w W := fun W h => hbC.trans (h.mono (by omega))
    have HKEEP := hide hkeep
    have HC1 := hide hcl1
    have HV := hide hv1
    obtain ⟨d0, d1, d2, d3, d4⟩ := hD.facts
    clear hkeep hcl1 hv1 hD
    go_region_held3 (fun W => W.cell? ⟨w.heap.size, 0, none⟩ = some (.slice ao bs.length cap) ∧ W.cell? ⟨w.heap.size, 1, none⟩ = some (.int .i64 k)) (exact HKEEP.out _ (by go_grown)) (first
      | (go_at_call 45; refine (SameDisk_any _ _ bs bs k k _ (by exact HV.out.below hb13) (by exact hr3)).mono ?_; rintro e w4 ⟨rfl, hb4⟩; have hb14 := hb13.trans (hb4.mono hz13); have hz14 := hb14.size)
      | (go_at_call 50; refine (HCL.out _ (by exact HC1.out _ (by go_grown))).mono ?_; rintro e w3 ⟨v3, rfl, hr3, hb3⟩; have hb13 : Below w1.heap.size w1 w3 := Below.trans (by go_grown) hb3; have hz13 := hb13.size; obtain ⟨ao3, cap3, hv3, _, _⟩ := hr3.shape; rw [bc_length] at hv3; subst hv3; unfold dsk))
    all_goals
      go_wp2_with fail
      go_ret
      exact ⟨by simp, HC1.out _ hb14⟩
  · obtain ⟨rfl, rfl⟩ := hbad hc
    have hcb : (c != 0) = true := by simp [hc]
    clear hcl hbad hc
    go_enter Try.func46, Try.ntmps46
    go_wp2_with fail
    refine (SameDisk_any _ _ [] [] 0 0 _ (((hv.alloc _).alloc _).alloc _) (Rd.nil _)).mono ?_
    rintro e w3 ⟨rfl, hb3⟩
    have hbw3 : Below w.heap.size w w3 := Below.trans (by go_grown) (hb3.mono (by simp; omega))
    go_wp2_with fail
    go_ret
    exact ⟨rfl, hbw3⟩

set_option maxRecDepth 100000 in
set_option maxHeartbeats 1000000 in
theorem diskAs5_true (p1 p2 v : Value) (bs : List UInt8) (k c a : Int) (w : World) (hv : Rd w v (bc bs)) (hbad : c ≠ 0 → bs = [] ∧ k = 0)
    (hcl : c = 0 → ∀ W, Below w.heap.size w W → Calls Try.prog 51 #[p1, p2] W fun e w' => ∃ v', e = .returned (dsk v' k) ∧ Rd w' v' (bc bs) ∧ Below W.heap.size W w') :
    Calls Try.prog 46 #[dsk v k, flt c a, flt c a, .func (.func 51) #[] #[p1, p2]] w fun e w' => e = .returned (.bool true) ∧ Below w.heap.size w w' := by
  obtain ⟨ao, cap, hu, hc1, hc2⟩ := hv.shape
  rw [bc_length] at hc1 hu
  subst hu
  unfold dsk flt
  by_cases hc : c = 0
  · subst hc
    have HCL := hide (hcl rfl)
    clear hcl hbad
    go_enter Try.func46, Try.ntmps46
    go_wp2_with fail
    have hbC : Below w.heap.size w (((w.alloc (.cells #[.slice ao bs.length cap, .int .i64 k] 67)).alloc (.cells #[.int .i64 0, .int .i64 a] 26)).alloc (.cells #[.int .i64 0, .int .i64 a] 26)) := (((Below.refl _ _).alloc (Nat.le_refl _) _).alloc (by simp) _).alloc (by simp; omega) _
    obtain ⟨hD, _, _, _, hsz⟩ := three_later (Below.refl _ (((w.alloc (.cells #[.slice ao bs.length cap, .int .i64 k] 67)).alloc (.cells #[.int .i64 0, .int .i64 a] 26)).alloc (.cells #[.int .i64 0, .int .i64 a] 26)))
    have hv1 := hv.below hbC
    generalize ((w.alloc (.cells #[.slice ao bs.length cap, .int .i64 k] 67)).alloc (.cells #[.int .i64 0, .int .i64 a] 26)).alloc (.cells #[.int .i64 0, .int .i64 a] 26) = w1 at *
    have hkeep : ∀ W, Below w1.heap.size w1 W → W.cell? ⟨w.heap.size, 0, none⟩ = some (.slice ao bs.length cap) ∧ W.cell? ⟨w.heap.size, 1, none⟩ = some (.int .i64 k) := fun W h => ⟨(hD.below h).facts.1, (hD.below h).facts.2.1⟩
    have hcl1 : ∀ W, Below w1.heap.size w1 W → Below w.heap.size w W := fun W h => hbC.trans (h.mono (by omega))
    have HKEEP := hide hkeep
    have HC1 := hide hcl1
    have HV := hide hv1
    obtain ⟨d0, d1, d2, d3, d4⟩ := hD.facts
    clear hkeep hcl1 hv1 hD
    go_region_held3 (fun W => W.cell? ⟨w.heap.size, 0, none⟩ = some (.slice ao bs.length cap) ∧ W.cell? ⟨w.heap.size, 1, none⟩ = some (.int .i64 k)) (exact HKEEP.out _ (by go_grown)) (first
      | (go_at_call 45; refine (SameDisk_any _ _ bs bs k k _ (by exact HV.out.below hb13) (by exact hr3)).mono ?_; rintro e w4 ⟨rfl, hb4⟩; have hb14 := hb13.trans (hb4.mono hz13); have hz14 := hb14.size)
      | (go_at_call 51; refine (HCL.out _ (by exact HC1.out _ (by go_grown))).mono ?_; rintro e w3 ⟨v3, rfl, hr3, hb3⟩; have hb13 : Below w1.heap.size w1 w3 := Below.trans (by go_grown) hb3; have hz13 := hb13.size; obtain ⟨ao3, cap3, hv3, _, _⟩ := hr3.shape; rw [bc_length] at hv3; subst hv3; unfold dsk))
    all_goals
      go_wp2_with fail
      go_ret
      exact ⟨by simp, HC1.out _ hb14⟩
  · obtain ⟨rfl, rfl⟩ := hbad hc
    have hcb : (c != 0) = true := by simp [hc]
    clear hcl hbad hc
    go_enter Try.func46, Try.ntmps46
    go_wp2_with fail
    refine (SameDisk_any _ _ [] [] 0 0 _ (((hv.alloc _).alloc _).alloc _) (Rd.nil _)).mono ?_
    rintro e w3 ⟨rfl, hb3⟩
    have hbw3 : Below w.heap.size w w3 := Below.trans (by go_grown) (hb3.mono (by simp; omega))
    go_wp2_with fail
    go_ret
    exact ⟨rfl, hbw3⟩

end Go.Proofs.Ytlebbkbbmgmmjaa
