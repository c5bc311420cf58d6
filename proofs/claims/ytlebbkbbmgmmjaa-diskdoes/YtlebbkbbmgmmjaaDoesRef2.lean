/-
  The closures of the law DiskDoes, and the comparison that calls them.
-/
import Derived.Test.YtlebbkbbmgmmjaaDoesRef
namespace Go.Proofs.Ytlebbkbbmgmmjaa
open Go.RowKit

set_option maxRecDepth 100000 in
set_option maxHeartbeats 400000 in
theorem Does1_any (L M : Nat) (v x : Value) (bs ys : List UInt8) (k : Int) (w : World) (hD : Tb w L 67 v (.int .i64 k)) (hB : w.cell? ⟨M, 0, none⟩ = some x) (hv : Rd w v (bc bs)) (hx : Rd w x (bc ys)) (hl : bs.length + ys.length ≤ 1000000) :
    Calls Try.prog 47 #[.pointer (some ⟨L, 0, none⟩), .pointer (some ⟨M, 0, none⟩)] w fun e w' => ∃ v', e = .returned (dsk v' k) ∧ Rd w' v' (bc (bs ++ ys)) ∧ Below w.heap.size w w' := by
  obtain ⟨ao, cap, hu, hc1, hc2⟩ := hv.shape
  obtain ⟨bo, cbp, hu2, hd1, hd2⟩ := hx.shape
  rw [bc_length] at hc1 hu hd1 hu2
  subst hu hu2
  have hMs : M < w.heap.size := World.block_lt_of_cell? w _ hB
  go_enter Try.func47, Try.ntmps47
  go_wp2_with fail
  have hbC := below_alloc w (.cells #[.slice none 0 0, .int .i64 0] 67)
  have hall : ∀ W, Below w.heap.size w W → W.cell? ⟨L, 0, none⟩ = some (.slice ao bs.length cap) ∧ W.cell? ⟨L, 1, none⟩ = some (.int .i64 k) ∧ W.cell? ⟨M, 0, none⟩ = some (.slice bo ys.length cbp) := fun W h => ⟨(hD.below h).facts.1, (hD.below h).facts.2.1, cell_below hB h⟩
  have hD1 := hD.below hbC
  have hB1 := cell_below hB hbC
  have hv1 := hv.below hbC
  have hx1 := hx.below hbC
  have hR1 := Tb.new w 67 (.slice none 0 0) (.int .i64 0)
  clear hD hB hv hx
  generalize w.alloc (.cells #[.slice none 0 0, .int .i64 0] 67) = w1 at *
  obtain ⟨d0, d1, d2, d3, d4⟩ := hD1.facts
  have hsz1 := hR1.facts.2.2.2.2
  have HALL := hide hall
  have HR := hide hR1
  have HV := hide hv1
  have HX := hide hx1
  clear hall hR1 hv1 hx1
  have hal : bs.length + (bc ys).length ≤ 2000000000000 := by rw [bc_length]; omega
  have hl2 : bs.length ≤ 1000000000 := by omega
  go_region_held3 (fun W => W.cell? ⟨L, 0, none⟩ = some (.slice ao bs.length cap) ∧ W.cell? ⟨L, 1, none⟩ = some (.int .i64 k) ∧ W.cell? ⟨M, 0, none⟩ = some (.slice bo ys.length cbp)) (exact HALL.out _ (by go_grown)) (first
    | (go_at_call 13; refine (ownBytesO_any _ bs _ (by exact HV.out) hl2).mono ?_; rintro e w3 ⟨v3, rfl, ho3, hb3⟩; have hb13 : Below w1.heap.size w1 w3 := Below.trans (by go_grown) hb3; have hz13 := hb13.size; have hbw3 : Below w.heap.size w w3 := hbC.trans (hb13.mono (Nat.le_of_lt hsz1)); have hzw3 := hbw3.size; obtain ⟨ao3, cap3, hv3⟩ := owns_shape ho3; subst hv3)
    | (have k9 := ho3; refine step_append_rd k9 (by exact HX.out.below hb13) Try.underlying23 Try.info5 rfl (by rfl) (by rfl) (by rfl) (by rfl) (bc_one _) hal (by decide) (by exact hz13) ?_; intro v6 w6 ho6 hb6 hg6; obtain ⟨ao6, cap6, hv6⟩ := owns_shape ho6; subst hv6; have hb16 : Below w1.heap.size w1 w6 := hb13.trans hb6; have hbw6 : Below w.heap.size w w6 := hbC.trans (hb16.mono (Nat.le_of_lt hsz1)); have hzw6 := hbw6.size; obtain ⟨r0, r1, r2, r3, r4⟩ := (HR.out.below hb16).facts))
  all_goals
    have hz1 : w1.drew.heap.size = w1.heap.size := rfl
    have hn6 := New.owns ho6
    have hr6 := Rd.ofOwns ho6
    rw [← bc_append] at hr6
    go_wp2_with fail
    exact bodyPost_ret (v := dsk (.slice ao6 (bs.length + (bc ys).length) cap6) k) (by simp [results, Try.results47, go_sem, dsk, r0, r1]) rfl ⟨_, rfl, (hr6.setNew hn6 (by simp only; omega) _).setNew hn6 (by simp only; omega) _, by go_grown⟩

set_option maxRecDepth 100000 in
set_option maxHeartbeats 400000 in
theorem Does2_any (L : Nat) (v : Value) (bs : List UInt8) (k : Int) (w : World) (hD : Tb w L 67 v (.int .i64 k)) (hv : Rd w v (bc bs)) :
    Calls Try.prog 48 #[.pointer (some ⟨L, 0, none⟩)] w fun e w' => ∃ v', e = .returned (dsk v' bs.length) ∧ Rd w' v' (bc bs) ∧ Below w.heap.size w w' := by
  obtain ⟨ao, cap, hu, hc1, hc2⟩ := hv.shape
  rw [bc_length] at hc1 hu
  subst hu
  obtain ⟨d0, d1, d2, d3, d4⟩ := hD.facts
  go_enter Try.func48, Try.ntmps48
  go_wp2_with fail
  exact bodyPost_ret (v := dsk (.slice ao bs.length cap) bs.length) (by simp [results, Try.results48, go_sem, dsk]) rfl ⟨_, rfl, hv.alloc _, by go_grown⟩

set_option maxRecDepth 100000 in
set_option maxHeartbeats 400000 in
theorem Does3_any (L M : Nat) (v : Value) (bs : List UInt8) (k m : Nat) (w : World) (hD : Tb w L 67 v (.int .i64 k)) (hN : w.cell? ⟨M, 0, none⟩ = some (.int .i64 m)) (hv : Rd w v (bc bs)) (hm : k + m ≤ bs.length) (hbl : bs.length ≤ 1000000) :
    Calls Try.prog 49 #[.pointer (some ⟨L, 0, none⟩), .pointer (some ⟨M, 0, none⟩)] w fun e w' => ∃ v', e = .returned (dsk v' ((k + m : Nat) : Int)) ∧ Rd w' v' (bc (bs.take (k + m))) ∧ Below w.heap.size w w' := by
  obtain ⟨ao, cap, hu, hc1, hc2⟩ := hv.shape
  rw [bc_length] at hc1 hu
  subst hu
  obtain ⟨d0, d1, d2, d3, d4⟩ := hD.facts
  have hMs : M < w.heap.size := World.block_lt_of_cell? w _ hN
  have hs7 := run_slice_upto (P := Try.prog) Try.underlying23 (by kernel_rfl) Try.info5 ao bs.length cap (k + m) ((k : Int) + (m : Int)) (by omega) (by omega)
  have hV7 := hv.upto (hi := k + m) (by omega)
  rw [bc_take] at hV7
  generalize hge : Go.sliced ao 0 (k + m) cap 1 = V7 at hs7 hV7
  clear hge
  obtain ⟨vo, vc, hvv, _, _⟩ := hV7.shape
  have hlt : (bc (bs.take (k + m))).length = k + m := by rw [bc_length, List.length_take]; omega
  rw [hlt] at hvv
  subst hvv
  go_enter Try.func49, Try.ntmps49
  go_wp2_with fail
  go_region
  all_goals
    go_wp2_with fail
    exact bodyPost_ret (v := dsk (.slice vo (k + m) vc) ((k : Int) + (m : Int))) (by simp [results, Try.results49, go_sem, dsk]) rfl ⟨_, by simp [dsk], hV7.alloc _, by go_grown⟩


set_option maxRecDepth 100000 in
set_option maxHeartbeats 400000 in
theorem Does4_any (L M : Nat) (v : Value) (bs : List UInt8) (kk : Int) (m : Nat) (w : World) (hD : Tb w L 67 v (.int .i64 kk)) (hN : w.cell? ⟨M, 0, none⟩ = some (.int .i64 m)) (hv : Rd w v (bc bs)) (hm : m ≤ bs.length) :
    Calls Try.prog 50 #[.pointer (some ⟨L, 0, none⟩), .pointer (some ⟨M, 0, none⟩)] w fun e w' => ∃ v', e = .returned (dsk v' ((m : Nat) : Int)) ∧ Rd w' v' (bc (bs.take (m))) ∧ Below w.heap.size w w' := by
  obtain ⟨ao, cap, hu, hc1, hc2⟩ := hv.shape
  rw [bc_length] at hc1 hu
  subst hu
  obtain ⟨d0, d1, d2, d3, d4⟩ := hD.facts
  have hMs : M < w.heap.size := World.block_lt_of_cell? w _ hN
  have hs7 := run_slice_upto (P := Try.prog) Try.underlying23 (by kernel_rfl) Try.info5 ao bs.length cap (m) ((m : Int)) (by omega) (by omega)
  have hV7 := hv.upto (hi := m) (by omega)
  rw [bc_take] at hV7
  generalize hge : Go.sliced ao 0 (m) cap 1 = V7 at hs7 hV7
  clear hge
  obtain ⟨vo, vc, hvv, _, _⟩ := hV7.shape
  have hlt : (bc (bs.take (m))).length = m := by rw [bc_length, List.length_take]; omega
  rw [hlt] at hvv
  subst hvv
  go_enter Try.func50, Try.ntmps50
  go_wp2_with fail
  go_region
  all_goals
    go_wp2_with fail
    exact bodyPost_ret (v := dsk (.slice vo (m) vc) (m : Int)) (by simp [results, Try.results50, go_sem, dsk]) rfl ⟨_, by simp [dsk], hV7.alloc _, by go_grown⟩


set_option maxRecDepth 100000 in
set_option maxHeartbeats 400000 in
theorem Does5_any (L M : Nat) (v : Value) (bs : List UInt8) (kk : Int) (m : Nat) (w : World) (hD : Tb w L 67 v (.int .i64 kk)) (hN : w.cell? ⟨M, 0, none⟩ = some (.int .i64 m)) (hv : Rd w v (bc bs)) (hm : m ≤ bs.length) :
    Calls Try.prog 51 #[.pointer (some ⟨L, 0, none⟩), .pointer (some ⟨M, 0, none⟩)] w fun e w' => ∃ v', e = .returned (dsk v' ((m : Nat) : Int)) ∧ Rd w' v' (bc (bs.take (m))) ∧ Below w.heap.size w w' := by
  obtain ⟨ao, cap, hu, hc1, hc2⟩ := hv.shape
  rw [bc_length] at hc1 hu
  subst hu
  obtain ⟨d0, d1, d2, d3, d4⟩ := hD.facts
  have hMs : M < w.heap.size := World.block_lt_of_cell? w _ hN
  have hs7 := run_slice_upto (P := Try.prog) Try.underlying23 (by kernel_rfl) Try.info5 ao bs.length cap (m) ((m : Int)) (by omega) (by omega)
  have hV7 := hv.upto (hi := m) (by omega)
  rw [bc_take] at hV7
  generalize hge : Go.sliced ao 0 (m) cap 1 = V7 at hs7 hV7
  clear hge
  obtain ⟨vo, vc, hvv, _, _⟩ := hV7.shape
  have hlt : (bc (bs.take (m))).length = m := by rw [bc_length, List.length_take]; omega
  rw [hlt] at hvv
  subst hvv
  go_enter Try.func51, Try.ntmps51
  go_wp2_with fail
  go_region
  all_goals
    go_wp2_with fail
    exact bodyPost_ret (v := dsk (.slice vo (m) vc) (m : Int)) (by simp [results, Try.results51, go_sem, dsk]) rfl ⟨_, by simp [dsk], hV7.alloc _, by go_grown⟩


end Go.Proofs.Ytlebbkbbmgmmjaa
