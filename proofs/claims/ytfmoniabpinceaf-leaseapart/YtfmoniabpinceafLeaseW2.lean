/-
  The walks over lease.askFault, unlessMuch, Grant, Renew, Trust and Admit.
-/
import Derived.Test.YtfmoniabpinceafLeaseW1
namespace Go.Proofs.Ytfmoniabpinceaf
open Go.RowKit
set_option linter.unusedVariables false

theorem lchkF_ok {l : Ls} (h : (lchkF l).1 = 0) : lchkF l = (0, 0) ∧ numL l.hold = true ∧ numL l.ep = true ∧ numL l.til = true := by
  unfold lchkF at h ⊢
  split at h
  · rename_i q; rw [if_pos q]; exact ⟨rfl, q⟩
  · cases h

theorem lchkF_bad {l : Ls} (h : (lchkF l).1 ≠ 0) : lchkF l = (3, 0) := by
  unfold lchkF at h ⊢
  split at h
  · exact absurd rfl h
  · rename_i q; rw [if_neg q]

set_option maxRecDepth 100000 in
set_option maxHeartbeats 1000000 in
theorem askFault_any (l : Ls) (who now span : Int) (w : World) : Calls Try.prog 43 #[lsV l, .int .i64 who, .int .i64 now, .int .i64 span] w fun e w' => e = .returned (flt (wishF l who now span)) ∧ Below w.heap.size w w' := by
  have hck := fun W => lCheck_any l W
  by_cases h0 : (lchkF l).1 ≠ 0
  · have HE : Hid (wishF l who now span = (3, 0)) := hide (by unfold wishF; rw [if_pos h0, lchkF_bad h0])
    rw [lchkF_bad h0] at hck
    have HCK := hide hck
    clear h0 hck
    obtain ⟨hold, ep, til⟩ := l
    unfold lsV at HCK ⊢
    go_enter Try.func43, Try.ntmps43
    go_wp2_with fail
    refine (HCK.out _).mono ?_
    rintro e w1 ⟨rfl, hb1⟩
    have hbw1 := (below_alloc2 w (.cells #[.int .i64 hold, .int .i64 ep, .int .i64 til] 47) (.cells #[.int .i64 0, .int .i64 0] 26)).trans (hb1.mono (by simp; omega))
    have hF := (Blk.at1 w (.cells #[.int .i64 hold, .int .i64 ep, .int .i64 til] 47) 26 #[.int .i64 0, .int .i64 0]).later hb1
    have fc0 := hF.cell 0
    have fc1 := hF.cell 1
    have fz0 := hF.frozen 0
    have fz1 := hF.frozen 1
    have fl := hF.lt
    simp at fc0 fc1
    clear hb1
    unfold flt
    go_wp2_with fail
    exact bodyPost_ret (v := flt (3, 0)) (by simp [results, Try.results43, go_sem, flt, fc0, fc1, fl]) rfl ⟨by rw [HE.out], by go_grown⟩
  · have hz := Decidable.not_not.1 h0
    have HE := hide (show wishF l who now span = if who < 1 ∨ 1000000000 < who then (3, -1) else if numL now = false then (3, -2) else spanF span by unfold wishF; rw [if_neg h0])
    rw [(lchkF_ok hz).1] at hck
    have HCK := hide hck
    clear h0 hz hck
    by_cases h1 : who < 1 ∨ 1000000000 < who
    · have HE := hide (HE.out.trans (if_pos h1))
      by_cases h2 : who = 0
      · subst h2
        obtain ⟨hold, ep, til⟩ := l
        unfold lsV at HCK ⊢
        go_enter Try.func43, Try.ntmps43
        go_wp2_with fail
        refine (HCK.out _).mono ?_
        rintro e w1 ⟨rfl, hb1⟩
        have hbw1 := (below_alloc2 w (.cells #[.int .i64 hold, .int .i64 ep, .int .i64 til] 47) (.cells #[.int .i64 0, .int .i64 0] 26)).trans (hb1.mono (by simp; omega))
        have hF := (Blk.at1 w (.cells #[.int .i64 hold, .int .i64 ep, .int .i64 til] 47) 26 #[.int .i64 0, .int .i64 0]).later hb1
        have fc0 := hF.cell 0
        have fc1 := hF.cell 1
        have fz0 := hF.frozen 0
        have fz1 := hF.frozen 1
        have fl := hF.lt
        simp at fc0 fc1
        clear hb1
        unfold flt
        go_wp2_with fail
        exact bodyPost_ret (v := flt (3, -1)) (by simp [results, Try.results43, go_sem, flt, fc0, fc1, fl]) rfl ⟨by rw [HE.out], by go_grown⟩
      · have h3 : (who == 0) = false := beq_eq_false_iff_ne.2 h2
        have h4 : numL who = false := by
          cases q : numL who
          · rfl
          · have := numL_iff.1 q
            omega
        clear h1 h2
        obtain ⟨hold, ep, til⟩ := l
        unfold lsV at HCK ⊢
        go_enter Try.func43, Try.ntmps43
        go_wp2_with fail
        refine (HCK.out _).mono ?_
        rintro e w1 ⟨rfl, hb1⟩
        have hbw1 := (below_alloc2 w (.cells #[.int .i64 hold, .int .i64 ep, .int .i64 til] 47) (.cells #[.int .i64 0, .int .i64 0] 26)).trans (hb1.mono (by simp; omega))
        have hF := (Blk.at1 w (.cells #[.int .i64 hold, .int .i64 ep, .int .i64 til] 47) 26 #[.int .i64 0, .int .i64 0]).later hb1
        have fc0 := hF.cell 0
        have fc1 := hF.cell 1
        have fz0 := hF.frozen 0
        have fz1 := hF.frozen 1
        have fl := hF.lt
        simp at fc0 fc1
        clear hb1
        unfold flt
        go_wp2_with (go_at_call 42; refine (lIsNum_any _ _).mono ?_; rintro e w' ⟨rfl, rfl⟩; rw [h4])
        exact bodyPost_ret (v := flt (3, -1)) (by simp [results, Try.results43, go_sem, flt, fc0, fc1, fl]) rfl ⟨by rw [HE.out], by go_grown⟩
    · have HE := hide (HE.out.trans (if_neg h1))
      have h3 : (who == 0) = false := beq_eq_false_iff_ne.2 (by omega)
      have h4 : numL who = true := numL_true (by omega) (by omega)
      clear h1
      cases h5 : numL now
      · have HE := hide (HE.out.trans (if_pos h5))
        obtain ⟨hold, ep, til⟩ := l
        unfold lsV at HCK ⊢
        go_enter Try.func43, Try.ntmps43
        go_wp2_with fail
        refine (HCK.out _).mono ?_
        rintro e w1 ⟨rfl, hb1⟩
        have hbw1 := (below_alloc2 w (.cells #[.int .i64 hold, .int .i64 ep, .int .i64 til] 47) (.cells #[.int .i64 0, .int .i64 0] 26)).trans (hb1.mono (by simp; omega))
        have hF := (Blk.at1 w (.cells #[.int .i64 hold, .int .i64 ep, .int .i64 til] 47) 26 #[.int .i64 0, .int .i64 0]).later hb1
        have fc0 := hF.cell 0
        have fc1 := hF.cell 1
        have fz0 := hF.frozen 0
        have fz1 := hF.frozen 1
        have fl := hF.lt
        simp at fc0 fc1
        clear hb1
        unfold flt
        go_wp2_with (go_at_call 42; refine (lIsNum_any _ _).mono ?_; rintro e w' ⟨rfl, rfl⟩; first | rw [h4] | rw [h5])
        exact bodyPost_ret (v := flt (3, -2)) (by simp [results, Try.results43, go_sem, flt, fc0, fc1, fl]) rfl ⟨by rw [HE.out], by go_grown⟩
      · have HE := hide (HE.out.trans (if_neg (by rw [h5]; decide)))
        obtain ⟨hold, ep, til⟩ := l
        unfold lsV at HCK ⊢
        go_enter Try.func43, Try.ntmps43
        go_wp2_with fail
        refine (HCK.out _).mono ?_
        rintro e w1 ⟨rfl, hb1⟩
        have hbw1 := (below_alloc2 w (.cells #[.int .i64 hold, .int .i64 ep, .int .i64 til] 47) (.cells #[.int .i64 0, .int .i64 0] 26)).trans (hb1.mono (by simp; omega))
        have hF := (Blk.at1 w (.cells #[.int .i64 hold, .int .i64 ep, .int .i64 til] 47) 26 #[.int .i64 0, .int .i64 0]).later hb1
        have fc0 := hF.cell 0
        have fc1 := hF.cell 1
        have fz0 := hF.frozen 0
        have fz1 := hF.frozen 1
        have fl := hF.lt
        simp at fc0 fc1
        clear hb1
        unfold flt
        go_wp2_with (go_at_call 42; refine (lIsNum_any _ _).mono ?_; rintro e w' ⟨rfl, rfl⟩; first | rw [h4] | rw [h5])
        refine (spanFault_any span _).mono ?_
        rintro e w2 ⟨rfl, hb2⟩
        generalize spanF span = S at HE ⊢
        obtain ⟨x, y⟩ := S
        unfold flt
        have hb12 := (below_allocG w1 (.cells #[.int .i64 0, .int .i64 0] 26)).trans (hb2.mono (by simp))
        have hbw2 := hbw1.trans (hb12.mono hbw1.size)
        have hG := hF.later hb12
        clear fc0 fc1 fz0 fz1 fl hb2
        have fc0 := hG.cell 0
        have fc1 := hG.cell 1
        have fz0 := hG.frozen 0
        have fz1 := hG.frozen 1
        have fl := hG.lt
        simp at fc0 fc1
        clear hb12
        go_wp2_with fail
        exact bodyPost_ret (v := flt (x, y)) (by simp [results, Try.results43, go_sem, flt, fc0, fc1]) rfl ⟨by rw [HE.out], by go_grown⟩

end Go.Proofs.Ytfmoniabpinceaf
