/-
  The walks over lease.unlessMuch and Grant.
-/
import Derived.Test.YtfmoniabpinceafLeaseW2
namespace Go.Proofs.Ytfmoniabpinceaf
open Go.RowKit
set_option linter.unusedVariables false

def muchF (l : Ls) : Int × Int := if (lchkF l).1 = 0 then (0, 0) else (9, 0)
def muchL (l : Ls) : Ls := if (lchkF l).1 = 0 then l else zeroLs

set_option maxRecDepth 100000 in
set_option maxHeartbeats 1000000 in
theorem unlessMuch_any (l : Ls) (w : World) : Calls Try.prog 45 #[lsV l] w fun e w' => e = .returned (.tuple #[lsV (muchL l), flt (muchF l)]) ∧ Below w.heap.size w w' := by
  have hck := fun W => lCheck_any l W
  by_cases h0 : (lchkF l).1 = 0
  · have HE1 : Hid (muchL l = l) := hide (by unfold muchL; rw [if_pos h0])
    have HE2 : Hid (muchF l = (0, 0)) := hide (by unfold muchF; rw [if_pos h0])
    rw [(lchkF_ok h0).1] at hck
    have HCK := hide hck
    clear h0 hck
    obtain ⟨hold, ep, til⟩ := l
    unfold lsV at HCK ⊢
    go_enter Try.func45, Try.ntmps45
    go_wp2_with fail
    refine (HCK.out _).mono ?_
    rintro e w1 ⟨rfl, hb1⟩
    have hbw1 := (below_alloc3 w (.cells #[.int .i64 hold, .int .i64 ep, .int .i64 til] 47) (.cells #[.int .i64 0, .int .i64 0, .int .i64 0] 47) (.cells #[.int .i64 0, .int .i64 0] 26)).trans (hb1.mono (by simp; omega))
    have hL := (Blk.at0of3 w (.cells #[.int .i64 0, .int .i64 0, .int .i64 0] 47) (.cells #[.int .i64 0, .int .i64 0] 26) 47 #[.int .i64 hold, .int .i64 ep, .int .i64 til]).later hb1
    have hR := (Blk.at1of3 w (.cells #[.int .i64 hold, .int .i64 ep, .int .i64 til] 47) (.cells #[.int .i64 0, .int .i64 0] 26) 47 #[.int .i64 0, .int .i64 0, .int .i64 0]).later hb1
    have hF := (Blk.at2 w (.cells #[.int .i64 hold, .int .i64 ep, .int .i64 til] 47) (.cells #[.int .i64 0, .int .i64 0, .int .i64 0] 47) 26 #[.int .i64 0, .int .i64 0]).later hb1
    clear hb1
    have lc0 := hL.cell 0
    have lc1 := hL.cell 1
    have lc2 := hL.cell 2
    have lz0 := hL.frozen 0
    have lz1 := hL.frozen 1
    have lz2 := hL.frozen 2
    have ll := hL.lt
    simp at lc0 lc1 lc2
    have rc0 := hR.cell 0
    have rc1 := hR.cell 1
    have rc2 := hR.cell 2
    have rz0 := hR.frozen 0
    have rz1 := hR.frozen 1
    have rz2 := hR.frozen 2
    have rl := hR.lt
    simp at rc0 rc1 rc2
    have fc0 := hF.cell 0
    have fc1 := hF.cell 1
    have fz0 := hF.frozen 0
    have fz1 := hF.frozen 1
    have fl := hF.lt
    simp at fc0 fc1
    unfold flt
    go_wp2_with fail
    exact bodyPost_ret (v := .tuple #[lsV ⟨hold, ep, til⟩, flt (0, 0)]) (by simp [results, Try.results45, go_sem, flt, lsV, rc0, rc1, rc2, fc0, fc1]) rfl ⟨by rw [HE1.out, HE2.out]; rfl, by go_grown⟩
  · have HE1 : Hid (muchL l = zeroLs) := hide (by unfold muchL; rw [if_neg h0])
    have HE2 : Hid (muchF l = (9, 0)) := hide (by unfold muchF; rw [if_neg h0])
    rw [lchkF_bad h0] at hck
    have HCK := hide hck
    clear h0 hck
    obtain ⟨hold, ep, til⟩ := l
    unfold lsV at HCK ⊢
    go_enter Try.func45, Try.ntmps45
    go_wp2_with fail
    refine (HCK.out _).mono ?_
    rintro e w1 ⟨rfl, hb1⟩
    have hbw1 := (below_alloc3 w (.cells #[.int .i64 hold, .int .i64 ep, .int .i64 til] 47) (.cells #[.int .i64 0, .int .i64 0, .int .i64 0] 47) (.cells #[.int .i64 0, .int .i64 0] 26)).trans (hb1.mono (by simp; omega))
    have hL := (Blk.at0of3 w (.cells #[.int .i64 0, .int .i64 0, .int .i64 0] 47) (.cells #[.int .i64 0, .int .i64 0] 26) 47 #[.int .i64 hold, .int .i64 ep, .int .i64 til]).later hb1
    have hR := (Blk.at1of3 w (.cells #[.int .i64 hold, .int .i64 ep, .int .i64 til] 47) (.cells #[.int .i64 0, .int .i64 0] 26) 47 #[.int .i64 0, .int .i64 0, .int .i64 0]).later hb1
    have hF := (Blk.at2 w (.cells #[.int .i64 hold, .int .i64 ep, .int .i64 til] 47) (.cells #[.int .i64 0, .int .i64 0, .int .i64 0] 47) 26 #[.int .i64 0, .int .i64 0]).later hb1
    clear hb1
    have lc0 := hL.cell 0
    have lc1 := hL.cell 1
    have lc2 := hL.cell 2
    have lz0 := hL.frozen 0
    have lz1 := hL.frozen 1
    have lz2 := hL.frozen 2
    have ll := hL.lt
    simp at lc0 lc1 lc2
    have rc0 := hR.cell 0
    have rc1 := hR.cell 1
    have rc2 := hR.cell 2
    have rz0 := hR.frozen 0
    have rz1 := hR.frozen 1
    have rz2 := hR.frozen 2
    have rl := hR.lt
    simp at rc0 rc1 rc2
    have fc0 := hF.cell 0
    have fc1 := hF.cell 1
    have fz0 := hF.frozen 0
    have fz1 := hF.frozen 1
    have fl := hF.lt
    simp at fc0 fc1
    unfold flt
    go_wp2_with fail
    exact bodyPost_ret (v := .tuple #[lsV ⟨0, 0, 0⟩, flt (9, 0)]) (by simp [results, Try.results45, go_sem, flt, lsV, rc0, rc1, rc2, fc0, fc1]) rfl ⟨by rw [HE1.out, HE2.out]; rfl, by go_grown⟩

theorem wishF_ok {l : Ls} {who now span : Int} (h : (wishF l who now span).1 = 0) : wishF l who now span = (0, 0) ∧ (numL l.hold = true ∧ numL l.ep = true ∧ numL l.til = true) ∧ (1 ≤ who ∧ who ≤ 1000000000) ∧ (0 ≤ now ∧ now ≤ 1000000000) ∧ 4 ≤ span ∧ span ≤ 1000000 := by
  unfold wishF at h ⊢
  by_cases h0 : (lchkF l).1 ≠ 0
  · rw [if_pos h0] at h; exact absurd h h0
  rw [if_neg h0] at h ⊢
  have hl := (lchkF_ok (Decidable.not_not.1 h0)).2
  by_cases h1 : who < 1 ∨ 1000000000 < who
  · rw [if_pos h1] at h; cases h
  rw [if_neg h1] at h ⊢
  by_cases h2 : numL now = false
  · rw [if_pos h2] at h; cases h
  rw [if_neg h2] at h ⊢
  have hn := numL_iff.1 (by simpa using h2)
  unfold spanF at h ⊢
  by_cases h3 : 4 ≤ span ∧ span ≤ 1000000
  · rw [if_pos h3]
    exact ⟨rfl, hl, by omega, hn, h3⟩
  · rw [if_neg h3] at h; cases h

theorem grantF_bad {l : Ls} {who now span : Int} (h : (wishF l who now span).1 ≠ 0) : grantF l who now span = wishF l who now span ∧ grantL l who now span = zeroLs := by
  have e : grantF l who now span = wishF l who now span := by unfold grantF; rw [if_pos h]
  exact ⟨e, by unfold grantL; rw [e, if_neg h]⟩

theorem grantF_held {l : Ls} {who now span : Int} (h : (wishF l who now span).1 = 0) (hh : heldB l now = true) : grantF l who now span = (11, 0) ∧ grantL l who now span = zeroLs := by
  obtain ⟨_, ⟨h1, _⟩, _⟩ := wishF_ok h
  have hp := numL_iff.1 h1
  have hd := of_decide_eq_true hh
  have e : grantF l who now span = (11, 0) := by unfold grantF; rw [if_neg (by rw [h]; simp), if_pos ⟨by omega, hd.2⟩]
  exact ⟨e, by unfold grantL; rw [e, if_neg (by decide)]⟩

theorem grantF_free {l : Ls} {who now span : Int} (h : (wishF l who now span).1 = 0) (hh : heldB l now = false) : grantF l who now span = muchF ⟨who, l.ep + 1, now + span⟩ ∧ grantL l who now span = muchL ⟨who, l.ep + 1, now + span⟩ := by
  obtain ⟨_, ⟨h1, h2, _⟩, h3, h4, h5⟩ := wishF_ok h
  have hp := numL_iff.1 h1
  have hq := numL_iff.1 h2
  have hd := of_decide_eq_false hh
  have e : grantF l who now span = if 1000000000 < l.ep + 1 ∨ 1000000000 < now + span then (9, 0) else (0, 0) := by unfold grantF; rw [if_neg (by rw [h]; simp), if_neg (by omega)]
  have hc : (lchkF ⟨who, l.ep + 1, now + span⟩).1 = 0 ↔ ¬ (1000000000 < l.ep + 1 ∨ 1000000000 < now + span) := by
    unfold lchkF
    simp only [numL_iff]
    by_cases q : 1000000000 < l.ep + 1 ∨ 1000000000 < now + span
    · rw [if_neg (by omega)]; simp [q]
    · rw [if_pos (by omega)]; simp [q]
  by_cases q : 1000000000 < l.ep + 1 ∨ 1000000000 < now + span
  · have hn : ¬ (lchkF ⟨who, l.ep + 1, now + span⟩).1 = 0 := fun h => (hc.1 h) q
    exact ⟨by rw [e, if_pos q, muchF, if_neg hn], by rw [grantL, e, if_pos q, if_neg (by decide), muchL, if_neg hn]⟩
  · exact ⟨by rw [e, if_neg q, muchF, if_pos (hc.2 q)], by rw [grantL, e, if_neg q, if_pos rfl, muchL, if_pos (hc.2 q)]⟩

set_option maxRecDepth 100000 in
set_option maxHeartbeats 2000000 in
theorem Grant_any (l : Ls) (who now span : Int) (w : World) : Calls Try.prog 21 #[lsV l, .int .i64 who, .int .i64 now, .int .i64 span] w fun e w' => e = .returned (.tuple #[lsV (grantL l who now span), flt (grantF l who now span)]) ∧ Below w.heap.size w w' := by
  have hck := fun W => askFault_any l who now span W
  by_cases h0 : (wishF l who now span).1 ≠ 0
  · obtain ⟨e2, e1⟩ := grantF_bad h0
    have HE1 := hide e1
    have HE2 := hide e2
    have HCK := hide hck
    clear hck e1 e2
    generalize hS : wishF l who now span = S at *
    obtain ⟨x, y⟩ := S
    have hx : (x == 0) = false := beq_eq_false_iff_ne.2 h0
    clear h0 hS
    obtain ⟨hold, ep, til⟩ := l
    unfold lsV at HCK ⊢
    go_enter Try.func21, Try.ntmps21
    go_wp2_with fail
    refine (HCK.out _).mono ?_
    rintro e w1 ⟨rfl, hb1⟩
    have hbw1 := (below_alloc3 w (.cells #[.int .i64 hold, .int .i64 ep, .int .i64 til] 47) (.cells #[.int .i64 0, .int .i64 0, .int .i64 0] 47) (.cells #[.int .i64 0, .int .i64 0] 26)).trans (hb1.mono (by simp; omega))
    have hL := (Blk.at0of3 w (.cells #[.int .i64 0, .int .i64 0, .int .i64 0] 47) (.cells #[.int .i64 0, .int .i64 0] 26) 47 #[.int .i64 hold, .int .i64 ep, .int .i64 til]).later hb1
    have hR := (Blk.at1of3 w (.cells #[.int .i64 hold, .int .i64 ep, .int .i64 til] 47) (.cells #[.int .i64 0, .int .i64 0] 26) 47 #[.int .i64 0, .int .i64 0, .int .i64 0]).later hb1
    have hF := (Blk.at2 w (.cells #[.int .i64 hold, .int .i64 ep, .int .i64 til] 47) (.cells #[.int .i64 0, .int .i64 0, .int .i64 0] 47) 26 #[.int .i64 0, .int .i64 0]).later hb1
    clear hb1
    have lc0 := hL.cell 0
    have lc1 := hL.cell 1
    have lc2 := hL.cell 2
    have lz0 := hL.frozen 0
    have lz1 := hL.frozen 1
    have lz2 := hL.frozen 2
    have ll := hL.lt
    simp at lc0 lc1 lc2
    have rc0 := hR.cell 0
    have rc1 := hR.cell 1
    have rc2 := hR.cell 2
    have rz0 := hR.frozen 0
    have rz1 := hR.frozen 1
    have rz2 := hR.frozen 2
    have rl := hR.lt
    simp at rc0 rc1 rc2
    have fc0 := hF.cell 0
    have fc1 := hF.cell 1
    have fz0 := hF.frozen 0
    have fz1 := hF.frozen 1
    have fl := hF.lt
    simp at fc0 fc1
    unfold flt
    go_wp2_with fail
    go_region
    all_goals
      go_wp2_with fail
      exact bodyPost_ret (v := .tuple #[lsV ⟨0, 0, 0⟩, flt (x, y)]) (by simp [results, Try.results21, go_sem, flt, lsV, rc0, rc1, rc2, rl, fc0, fc1, fl]) rfl ⟨by rw [HE1.out, HE2.out]; rfl, by go_grown⟩
  · have hz := Decidable.not_not.1 h0
    have hok := wishF_ok hz
    rw [hok.1] at hck
    have HCK := hide hck
    have HH := hide (fun W => isHeld_any l now W)
    clear h0 hck
    cases hh : heldB l now
    · obtain ⟨e2, e1⟩ := grantF_free hz hh
      have HE1 := hide e1
      have HE2 := hide e2
      have HM := hide (fun W => unlessMuch_any ⟨who, l.ep + 1, now + span⟩ W)
      rw [hh] at HH
      obtain ⟨_, ⟨_, hn, _⟩, _, hn2, hn3⟩ := hok
      have hp := numL_iff.1 hn
      clear e1 e2 hn hz hh
      obtain ⟨hold, ep, til⟩ := l
      have hw1 : IntKind.i64.wrap (ep + 1) = ep + 1 := by rw [IntKind.wrap_i64]; simp only at hp; omega
      have hw2 : IntKind.i64.wrap (now + span) = now + span := by rw [IntKind.wrap_i64]; omega
      clear hp hn2 hn3
      unfold lsV at HCK HH HM ⊢
      go_enter Try.func21, Try.ntmps21
      go_wp2_with fail
      refine (HCK.out _).mono ?_
      rintro e w1 ⟨rfl, hb1⟩
      have hbw1 := (below_alloc3 w (.cells #[.int .i64 hold, .int .i64 ep, .int .i64 til] 47) (.cells #[.int .i64 0, .int .i64 0, .int .i64 0] 47) (.cells #[.int .i64 0, .int .i64 0] 26)).trans (hb1.mono (by simp; omega))
      have hL := (Blk.at0of3 w (.cells #[.int .i64 0, .int .i64 0, .int .i64 0] 47) (.cells #[.int .i64 0, .int .i64 0] 26) 47 #[.int .i64 hold, .int .i64 ep, .int .i64 til]).later hb1
      have hR := (Blk.at1of3 w (.cells #[.int .i64 hold, .int .i64 ep, .int .i64 til] 47) (.cells #[.int .i64 0, .int .i64 0] 26) 47 #[.int .i64 0, .int .i64 0, .int .i64 0]).later hb1
      have hF := (Blk.at2 w (.cells #[.int .i64 hold, .int .i64 ep, .int .i64 til] 47) (.cells #[.int .i64 0, .int .i64 0, .int .i64 0] 47) 26 #[.int .i64 0, .int .i64 0]).later hb1
      clear hb1
      have lc0 := hL.cell 0
      have lc1 := hL.cell 1
      have lc2 := hL.cell 2
      have lz0 := hL.frozen 0
      have lz1 := hL.frozen 1
      have lz2 := hL.frozen 2
      have ll := hL.lt
      simp at lc0 lc1 lc2
      have rc0 := hR.cell 0
      have rc1 := hR.cell 1
      have rc2 := hR.cell 2
      have rz0 := hR.frozen 0
      have rz1 := hR.frozen 1
      have rz2 := hR.frozen 2
      have rl := hR.lt
      simp at rc0 rc1 rc2
      have fc0 := hF.cell 0
      have fc1 := hF.cell 1
      have fz0 := hF.frozen 0
      have fz1 := hF.frozen 1
      have fl := hF.lt
      simp at fc0 fc1
      unfold flt
      go_wp2_with fail
      refine (HH.out _).mono ?_
      rintro e w2 ⟨rfl, hb2⟩
      have hb12 := (below_allocG w1 (.cells #[.int .i64 0, .int .i64 0] 26)).trans (hb2.mono (by simp))
      have hbw2 := hbw1.trans (hb12.mono hbw1.size)
      have hLw2 := hL.later hb12
      have hRw2 := hR.later hb12
      have hFw2 := hF.later hb12
      clear lc0 lz0 lc1 lz1 lc2 lz2 rc0 rz0 rc1 rz1 rc2 rz2 fc0 fz0 fc1 fz1 ll rl fl
      have lc0 := hLw2.cell 0
      have lc1 := hLw2.cell 1
      have lc2 := hLw2.cell 2
      have lz0 := hLw2.frozen 0
      have lz1 := hLw2.frozen 1
      have lz2 := hLw2.frozen 2
      have ll := hLw2.lt
      simp at lc0 lc1 lc2
      have rc0 := hRw2.cell 0
      have rc1 := hRw2.cell 1
      have rc2 := hRw2.cell 2
      have rz0 := hRw2.frozen 0
      have rz1 := hRw2.frozen 1
      have rz2 := hRw2.frozen 2
      have rl := hRw2.lt
      simp at rc0 rc1 rc2
      have fc0 := hFw2.cell 0
      have fc1 := hFw2.cell 1
      have fz0 := hFw2.frozen 0
      have fz1 := hFw2.frozen 1
      have fl := hFw2.lt
      simp at fc0 fc1
      clear hb2 hb12 hbw1 hL hR hF
      go_wp2_with fail
      refine (HM.out _).mono ?_
      rintro e w3 ⟨rfl, hb3⟩
      have hbw3 := hbw2.trans (hb3.mono hbw2.size)
      have hLw3 := hLw2.later hb3
      have hRw3 := hRw2.later hb3
      have hFw3 := hFw2.later hb3
      clear lc0 lz0 lc1 lz1 lc2 lz2 rc0 rz0 rc1 rz1 rc2 rz2 fc0 fz0 fc1 fz1 ll rl fl
      have lc0 := hLw3.cell 0
      have lc1 := hLw3.cell 1
      have lc2 := hLw3.cell 2
      have lz0 := hLw3.frozen 0
      have lz1 := hLw3.frozen 1
      have lz2 := hLw3.frozen 2
      have ll := hLw3.lt
      simp at lc0 lc1 lc2
      have rc0 := hRw3.cell 0
      have rc1 := hRw3.cell 1
      have rc2 := hRw3.cell 2
      have rz0 := hRw3.frozen 0
      have rz1 := hRw3.frozen 1
      have rz2 := hRw3.frozen 2
      have rl := hRw3.lt
      simp at rc0 rc1 rc2
      have fc0 := hFw3.cell 0
      have fc1 := hFw3.cell 1
      have fz0 := hFw3.frozen 0
      have fz1 := hFw3.frozen 1
      have fl := hFw3.lt
      simp at fc0 fc1
      clear hb3 hbw2 hLw2 hRw2 hFw2
      generalize muchL _ = ML at HE1 ⊢
      generalize muchF _ = MF at HE2 ⊢
      obtain ⟨a, b, c⟩ := ML
      obtain ⟨x, y⟩ := MF
      unfold flt
      go_wp2_with fail
      exact bodyPost_ret (v := .tuple #[lsV ⟨a, b, c⟩, flt (x, y)]) (by simp [results, Try.results21, go_sem, flt, lsV, rc0, rc1, rc2, fc0, fc1]) rfl ⟨by rw [HE1.out, HE2.out]; rfl, by go_grown⟩
    · obtain ⟨e2, e1⟩ := grantF_held hz hh
      have HE1 := hide e1
      have HE2 := hide e2
      rw [hh] at HH
      clear e1 e2 hz hh hok
      obtain ⟨hold, ep, til⟩ := l
      unfold lsV at HCK HH ⊢
      go_enter Try.func21, Try.ntmps21
      go_wp2_with fail
      refine (HCK.out _).mono ?_
      rintro e w1 ⟨rfl, hb1⟩
      have hbw1 := (below_alloc3 w (.cells #[.int .i64 hold, .int .i64 ep, .int .i64 til] 47) (.cells #[.int .i64 0, .int .i64 0, .int .i64 0] 47) (.cells #[.int .i64 0, .int .i64 0] 26)).trans (hb1.mono (by simp; omega))
      have hL := (Blk.at0of3 w (.cells #[.int .i64 0, .int .i64 0, .int .i64 0] 47) (.cells #[.int .i64 0, .int .i64 0] 26) 47 #[.int .i64 hold, .int .i64 ep, .int .i64 til]).later hb1
      have hR := (Blk.at1of3 w (.cells #[.int .i64 hold, .int .i64 ep, .int .i64 til] 47) (.cells #[.int .i64 0, .int .i64 0] 26) 47 #[.int .i64 0, .int .i64 0, .int .i64 0]).later hb1
      have hF := (Blk.at2 w (.cells #[.int .i64 hold, .int .i64 ep, .int .i64 til] 47) (.cells #[.int .i64 0, .int .i64 0, .int .i64 0] 47) 26 #[.int .i64 0, .int .i64 0]).later hb1
      clear hb1
      have lc0 := hL.cell 0
      have lc1 := hL.cell 1
      have lc2 := hL.cell 2
      have lz0 := hL.frozen 0
      have lz1 := hL.frozen 1
      have lz2 := hL.frozen 2
      have ll := hL.lt
      simp at lc0 lc1 lc2
      have rc0 := hR.cell 0
      have rc1 := hR.cell 1
      have rc2 := hR.cell 2
      have rz0 := hR.frozen 0
      have rz1 := hR.frozen 1
      have rz2 := hR.frozen 2
      have rl := hR.lt
      simp at rc0 rc1 rc2
      have fc0 := hF.cell 0
      have fc1 := hF.cell 1
      have fz0 := hF.frozen 0
      have fz1 := hF.frozen 1
      have fl := hF.lt
      simp at fc0 fc1
      unfold flt
      go_wp2_with fail
      refine (HH.out _).mono ?_
      rintro e w2 ⟨rfl, hb2⟩
      have hb12 := (below_allocG w1 (.cells #[.int .i64 0, .int .i64 0] 26)).trans (hb2.mono (by simp))
      have hbw2 := hbw1.trans (hb12.mono hbw1.size)
      have hLw2 := hL.later hb12
      have hRw2 := hR.later hb12
      have hFw2 := hF.later hb12
      clear lc0 lz0 lc1 lz1 lc2 lz2 rc0 rz0 rc1 rz1 rc2 rz2 fc0 fz0 fc1 fz1 ll rl fl
      have lc0 := hLw2.cell 0
      have lc1 := hLw2.cell 1
      have lc2 := hLw2.cell 2
      have lz0 := hLw2.frozen 0
      have lz1 := hLw2.frozen 1
      have lz2 := hLw2.frozen 2
      have ll := hLw2.lt
      simp at lc0 lc1 lc2
      have rc0 := hRw2.cell 0
      have rc1 := hRw2.cell 1
      have rc2 := hRw2.cell 2
      have rz0 := hRw2.frozen 0
      have rz1 := hRw2.frozen 1
      have rz2 := hRw2.frozen 2
      have rl := hRw2.lt
      simp at rc0 rc1 rc2
      have fc0 := hFw2.cell 0
      have fc1 := hFw2.cell 1
      have fz0 := hFw2.frozen 0
      have fz1 := hFw2.frozen 1
      have fl := hFw2.lt
      simp at fc0 fc1
      clear hb2 hb12 hbw1 hL hR hF
      go_wp2_with fail
      exact bodyPost_ret (v := .tuple #[lsV ⟨0, 0, 0⟩, flt (11, 0)]) (by simp [results, Try.results21, go_sem, flt, lsV, rc0, rc1, rc2, fc0, fc1]) rfl ⟨by rw [HE1.out, HE2.out]; rfl, by go_grown⟩

end Go.Proofs.Ytfmoniabpinceaf
