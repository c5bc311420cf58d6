/-
  The walks over lease.Renew.
-/
import Derived.Test.YtfmoniabpinceafLeaseW3
namespace Go.Proofs.Ytfmoniabpinceaf
open Go.RowKit
set_option linter.unusedVariables false

theorem renewF_bad {l : Ls} {who ep now span : Int} (h : (wishF l who now span).1 ≠ 0) : renewF l who ep now span = wishF l who now span ∧ renewL l who ep now span = zeroLs := by
  have e : renewF l who ep now span = wishF l who now span := by unfold renewF; rw [if_pos h]
  exact ⟨e, by unfold renewL; rw [e, if_neg h]⟩

theorem renewF_none {l : Ls} {who ep now span : Int} (h : (wishF l who now span).1 = 0) (hh : l.hold ≠ who ∨ l.ep ≠ ep) : renewF l who ep now span = (6, 0) ∧ renewL l who ep now span = zeroLs := by
  have e : renewF l who ep now span = (6, 0) := by unfold renewF; rw [if_neg (by rw [h]; simp), if_pos hh]
  exact ⟨e, by unfold renewL; rw [e, if_neg (by decide)]⟩

theorem renewF_stale {l : Ls} {who ep now span : Int} (h : (wishF l who now span).1 = 0) (hh : ¬ (l.hold ≠ who ∨ l.ep ≠ ep)) (hs : heldB l now = false) : renewF l who ep now span = (12, 0) ∧ renewL l who ep now span = zeroLs := by
  obtain ⟨_, _, h3, _⟩ := wishF_ok h
  have hd := of_decide_eq_false hs
  have e : renewF l who ep now span = (12, 0) := by unfold renewF; rw [if_neg (by rw [h]; simp), if_neg hh, if_pos (by omega)]
  exact ⟨e, by unfold renewL; rw [e, if_neg (by decide)]⟩

theorem renewF_go {l : Ls} {who ep now span : Int} (h : (wishF l who now span).1 = 0) (hh : ¬ (l.hold ≠ who ∨ l.ep ≠ ep)) (hs : heldB l now = true) : renewF l who ep now span = muchF ⟨l.hold, l.ep, max l.til (now + span)⟩ ∧ renewL l who ep now span = muchL ⟨l.hold, l.ep, max l.til (now + span)⟩ := by
  obtain ⟨_, ⟨h1, h2, h2'⟩, h3, h4, h5⟩ := wishF_ok h
  have hp := numL_iff.1 h1
  have hq := numL_iff.1 h2
  have hr := numL_iff.1 h2'
  have hd := of_decide_eq_true hs
  have e : renewF l who ep now span = if 1000000000 < now + span then (9, 0) else (0, 0) := by unfold renewF; rw [if_neg (by rw [h]; simp), if_neg hh, if_neg (by omega)]
  have hc : (lchkF ⟨l.hold, l.ep, max l.til (now + span)⟩).1 = 0 ↔ ¬ (1000000000 < now + span) := by
    unfold lchkF
    simp only [numL_iff]
    by_cases q : 1000000000 < now + span
    · rw [if_neg (by omega)]; simp [q]
    · rw [if_pos (by omega)]; simp [q]
  by_cases q : 1000000000 < now + span
  · have hn : ¬ (lchkF ⟨l.hold, l.ep, max l.til (now + span)⟩).1 = 0 := fun h => (hc.1 h) q
    exact ⟨by rw [e, if_pos q, muchF, if_neg hn], by rw [renewL, e, if_pos q, if_neg (by decide), muchL, if_neg hn]⟩
  · exact ⟨by rw [e, if_neg q, muchF, if_pos (hc.2 q)], by rw [renewL, e, if_neg q, if_pos rfl, muchL, if_pos (hc.2 q)]⟩

def AskIs (l : Ls) (who now span : Int) (f : Int × Int) : Prop := ∀ W, Calls Try.prog 43 #[.agg #[.int .i64 l.hold, .int .i64 l.ep, .int .i64 l.til], .int .i64 who, .int .i64 now, .int .i64 span] W fun e w' => e = .returned (flt f) ∧ Below W.heap.size W w'

set_option maxRecDepth 100000 in
set_option maxHeartbeats 2000000 in
theorem renew_bad (hold ep til who epoch now span x y : Int) (w : World) (hck : AskIs ⟨hold, ep, til⟩ who now span (x, y)) (h0 : x ≠ 0) (e1 : renewL ⟨hold, ep, til⟩ who epoch now span = zeroLs) (e2 : renewF ⟨hold, ep, til⟩ who epoch now span = (x, y)) :
    Calls Try.prog 22 #[.agg #[.int .i64 hold, .int .i64 ep, .int .i64 til], .int .i64 who, .int .i64 epoch, .int .i64 now, .int .i64 span] w fun e w' => e = .returned (.tuple #[lsV (renewL ⟨hold, ep, til⟩ who epoch now span), flt (renewF ⟨hold, ep, til⟩ who epoch now span)]) ∧ Below w.heap.size w w' := by
  have HCK := hide hck
  have HE1 := hide e1
  have HE2 := hide e2
  have hx : (x == 0) = false := beq_eq_false_iff_ne.2 h0
  clear h0 hck e1 e2
  unfold AskIs at HCK
  go_enter Try.func22, Try.ntmps22
  go_wp2_with fail
  refine (HCK.out _).mono ?_
  rintro e w1 ⟨rfl, hb1⟩
  have hbw1 := (below_alloc3 w (.cells #[.int .i64 hold, .int .i64 ep, .int .i64 til] 47) (.cells #[.int .i64 0, .int .i64 0, .int .i64 0] 47) (.cells #[.int .i64 0, .int .i64 0] 26)).trans (hb1.mono (by simp; omega))
  have hL := (Blk.at0of3 w (.cells #[.int .i64 0, .int .i64 0, .int .i64 0] 47) (.cells #[.int .i64 0, .int .i64 0] 26) 47 #[.int .i64 hold, .int .i64 ep, .int .i64 til]).later hb1
  have hR := (Blk.at1of3 w (.cells #[.int .i64 hold, .int .i64 ep, .int .i64 til] 47) (.cells #[.int .i64 0, .int .i64 0] 26) 47 #[.int .i64 0, .int .i64 0, .int .i64 0]).later hb1
  have hF := (Blk.at2 w (.cells #[.int .i64 hold, .int .i64 ep, .int .i64 til] 47) (.cells #[.int .i64 0, .int .i64 0, .int .i64 0] 47) 26 #[.int .i64 0, .int .i64 0]).later hb1
  clear hb1
  have lc0 := hL.cell 0
  have lc1 := hL.cell 1
  have lc2 := hL.cell 2
  have lz0 := hL.frozen 0
  have lz1 := hL.frozen 1
  have lz2 := hL.frozen 2
  have ll := hL.lt
  simp at lc0 lc1 lc2
  have rc0 := hR.cell 0
  have rc1 := hR.cell 1
  have rc2 := hR.cell 2
  have rz0 := hR.frozen 0
  have rz1 := hR.frozen 1
  have rz2 := hR.frozen 2
  have rl := hR.lt
  simp at rc0 rc1 rc2
  have fc0 := hF.cell 0
  have fc1 := hF.cell 1
  have fz0 := hF.frozen 0
  have fz1 := hF.frozen 1
  have fl := hF.lt
  simp at fc0 fc1
  unfold flt
  go_wp2_with fail
  go_region
  all_goals
    go_wp2_with fail
    exact bodyPost_ret (v := .tuple #[lsV ⟨0, 0, 0⟩, flt (x, y)]) (by simp [results, Try.results22, go_sem, flt, lsV, rc0, rc1, rc2, rl, fc0, fc1, fl]) rfl ⟨by rw [HE1.out, HE2.out]; rfl, by go_grown⟩

set_option maxRecDepth 100000 in
set_option maxHeartbeats 2000000 in
theorem renew_none1 (hold ep til epoch now span : Int) (w : World) (hck : AskIs ⟨hold, ep, til⟩ hold now span (0, 0)) (h0 : ep ≠ epoch) (e1 : renewL ⟨hold, ep, til⟩ hold epoch now span = zeroLs) (e2 : renewF ⟨hold, ep, til⟩ hold epoch now span = (6, 0)) :
    Calls Try.prog 22 #[.agg #[.int .i64 hold, .int .i64 ep, .int .i64 til], .int .i64 hold, .int .i64 epoch, .int .i64 now, .int .i64 span] w fun e w' => e = .returned (.tuple #[lsV (renewL ⟨hold, ep, til⟩ hold epoch now span), flt (renewF ⟨hold, ep, til⟩ hold epoch now span)]) ∧ Below w.heap.size w w' := by
  have HCK := hide hck
  have HE1 := hide e1
  have HE2 := hide e2
  have hx : (ep == epoch) = false := beq_eq_false_iff_ne.2 h0
  clear h0 hck e1 e2
  unfold AskIs at HCK
  go_enter Try.func22, Try.ntmps22
  go_wp2_with fail
  refine (HCK.out _).mono ?_
  rintro e w1 ⟨rfl, hb1⟩
  have hbw1 := (below_alloc3 w (.cells #[.int .i64 hold, .int .i64 ep, .int .i64 til] 47) (.cells #[.int .i64 0, .int .i64 0, .int .i64 0] 47) (.cells #[.int .i64 0, .int .i64 0] 26)).trans (hb1.mono (by simp; omega))
  have hL := (Blk.at0of3 w (.cells #[.int .i64 0, .int .i64 0, .int .i64 0] 47) (.cells #[.int .i64 0, .int .i64 0] 26) 47 #[.int .i64 hold, .int .i64 ep, .int .i64 til]).later hb1
  have hR := (Blk.at1of3 w (.cells #[.int .i64 hold, .int .i64 ep, .int .i64 til] 47) (.cells #[.int .i64 0, .int .i64 0] 26) 47 #[.int .i64 0, .int .i64 0, .int .i64 0]).later hb1
  have hF := (Blk.at2 w (.cells #[.int .i64 hold, .int .i64 ep, .int .i64 til] 47) (.cells #[.int .i64 0, .int .i64 0, .int .i64 0] 47) 26 #[.int .i64 0, .int .i64 0]).later hb1
  clear hb1
  have lc0 := hL.cell 0
  have lc1 := hL.cell 1
  have lc2 := hL.cell 2
  have lz0 := hL.frozen 0
  have lz1 := hL.frozen 1
  have lz2 := hL.frozen 2
  have ll := hL.lt
  simp at lc0 lc1 lc2
  have rc0 := hR.cell 0
  have rc1 := hR.cell 1
  have rc2 := hR.cell 2
  have rz0 := hR.frozen 0
  have rz1 := hR.frozen 1
  have rz2 := hR.frozen 2
  have rl := hR.lt
  simp at rc0 rc1 rc2
  have fc0 := hF.cell 0
  have fc1 := hF.cell 1
  have fz0 := hF.frozen 0
  have fz1 := hF.frozen 1
  have fl := hF.lt
  simp at fc0 fc1
  unfold flt
  go_wp2_with fail
  exact bodyPost_ret (v := .tuple #[lsV ⟨0, 0, 0⟩, flt (6, 0)]) (by simp [results, Try.results22, go_sem, flt, lsV, rc0, rc1, rc2, rl, fc0, fc1, fl]) rfl ⟨by rw [HE1.out, HE2.out]; rfl, by go_grown⟩

set_option maxRecDepth 100000 in
set_option maxHeartbeats 2000000 in
theorem renew_none2 (hold ep til who epoch now span : Int) (w : World) (hck : AskIs ⟨hold, ep, til⟩ who now span (0, 0)) (h0 : hold ≠ who) (e1 : renewL ⟨hold, ep, til⟩ who epoch now span = zeroLs) (e2 : renewF ⟨hold, ep, til⟩ who epoch now span = (6, 0)) :
    Calls Try.prog 22 #[.agg #[.int .i64 hold, .int .i64 ep, .int .i64 til], .int .i64 who, .int .i64 epoch, .int .i64 now, .int .i64 span] w fun e w' => e = .returned (.tuple #[lsV (renewL ⟨hold, ep, til⟩ who epoch now span), flt (renewF ⟨hold, ep, til⟩ who epoch now span)]) ∧ Below w.heap.size w w' := by
  have HCK := hide hck
  have HE1 := hide e1
  have HE2 := hide e2
  have hx : (hold == who) = false := beq_eq_false_iff_ne.2 h0
  have hx2 : (hold != who) = true := by simp [h0]
  clear h0 hck e1 e2
  unfold AskIs at HCK
  go_enter Try.func22, Try.ntmps22
  go_wp2_with fail
  refine (HCK.out _).mono ?_
  rintro e w1 ⟨rfl, hb1⟩
  have hbw1 := (below_alloc3 w (.cells #[.int .i64 hold, .int .i64 ep, .int .i64 til] 47) (.cells #[.int .i64 0, .int .i64 0, .int .i64 0] 47) (.cells #[.int .i64 0, .int .i64 0] 26)).trans (hb1.mono (by simp; omega))
  have hL := (Blk.at0of3 w (.cells #[.int .i64 0, .int .i64 0, .int .i64 0] 47) (.cells #[.int .i64 0, .int .i64 0] 26) 47 #[.int .i64 hold, .int .i64 ep, .int .i64 til]).later hb1
  have hR := (Blk.at1of3 w (.cells #[.int .i64 hold, .int .i64 ep, .int .i64 til] 47) (.cells #[.int .i64 0, .int .i64 0] 26) 47 #[.int .i64 0, .int .i64 0, .int .i64 0]).later hb1
  have hF := (Blk.at2 w (.cells #[.int .i64 hold, .int .i64 ep, .int .i64 til] 47) (.cells #[.int .i64 0, .int .i64 0, .int .i64 0] 47) 26 #[.int .i64 0, .int .i64 0]).later hb1
  clear hb1
  have lc0 := hL.cell 0
  have lc1 := hL.cell 1
  have lc2 := hL.cell 2
  have lz0 := hL.frozen 0
  have lz1 := hL.frozen 1
  have lz2 := hL.frozen 2
  have ll := hL.lt
  simp at lc0 lc1 lc2
  have rc0 := hR.cell 0
  have rc1 := hR.cell 1
  have rc2 := hR.cell 2
  have rz0 := hR.frozen 0
  have rz1 := hR.frozen 1
  have rz2 := hR.frozen 2
  have rl := hR.lt
  simp at rc0 rc1 rc2
  have fc0 := hF.cell 0
  have fc1 := hF.cell 1
  have fz0 := hF.frozen 0
  have fz1 := hF.frozen 1
  have fl := hF.lt
  simp at fc0 fc1
  unfold flt
  go_wp2_with fail
  exact bodyPost_ret (v := .tuple #[lsV ⟨0, 0, 0⟩, flt (6, 0)]) (by simp [results, Try.results22, go_sem, flt, lsV, rc0, rc1, rc2, rl, fc0, fc1, fl]) rfl ⟨by rw [HE1.out, HE2.out]; rfl, by go_grown⟩

def HeldIs (l : Ls) (now : Int) (b : Bool) : Prop := ∀ W, Calls Try.prog 44 #[.agg #[.int .i64 l.hold, .int .i64 l.ep, .int .i64 l.til], .int .i64 now] W fun e w' => e = .returned (.bool b) ∧ Below W.heap.size W w'

set_option maxRecDepth 100000 in
set_option maxHeartbeats 2000000 in
theorem renew_stale (hold ep til now span : Int) (w : World) (hck : AskIs ⟨hold, ep, til⟩ hold now span (0, 0)) (hh : HeldIs ⟨hold, ep, til⟩ now false) (e1 : renewL ⟨hold, ep, til⟩ hold ep now span = zeroLs) (e2 : renewF ⟨hold, ep, til⟩ hold ep now span = (12, 0)) :
    Calls Try.prog 22 #[.agg #[.int .i64 hold, .int .i64 ep, .int .i64 til], .int .i64 hold, .int .i64 ep, .int .i64 now, .int .i64 span] w fun e w' => e = .returned (.tuple #[lsV (renewL ⟨hold, ep, til⟩ hold ep now span), flt (renewF ⟨hold, ep, til⟩ hold ep now span)]) ∧ Below w.heap.size w w' := by
  have HCK := hide hck
  have HH := hide hh
  have HE1 := hide e1
  have HE2 := hide e2
  clear hck hh e1 e2
  unfold AskIs at HCK
  unfold HeldIs at HH
  go_enter Try.func22, Try.ntmps22
  go_wp2_with fail
  refine (HCK.out _).mono ?_
  rintro e w1 ⟨rfl, hb1⟩
  have hbw1 := (below_alloc3 w (.cells #[.int .i64 hold, .int .i64 ep, .int .i64 til] 47) (.cells #[.int .i64 0, .int .i64 0, .int .i64 0] 47) (.cells #[.int .i64 0, .int .i64 0] 26)).trans (hb1.mono (by simp; omega))
  have hL := (Blk.at0of3 w (.cells #[.int .i64 0, .int .i64 0, .int .i64 0] 47) (.cells #[.int .i64 0, .int .i64 0] 26) 47 #[.int .i64 hold, .int .i64 ep, .int .i64 til]).later hb1
  have hR := (Blk.at1of3 w (.cells #[.int .i64 hold, .int .i64 ep, .int .i64 til] 47) (.cells #[.int .i64 0, .int .i64 0] 26) 47 #[.int .i64 0, .int .i64 0, .int .i64 0]).later hb1
  have hF := (Blk.at2 w (.cells #[.int .i64 hold, .int .i64 ep, .int .i64 til] 47) (.cells #[.int .i64 0, .int .i64 0, .int .i64 0] 47) 26 #[.int .i64 0, .int .i64 0]).later hb1
  clear hb1
  have lc0 := hL.cell 0
  have lc1 := hL.cell 1
  have lc2 := hL.cell 2
  have lz0 := hL.frozen 0
  have lz1 := hL.frozen 1
  have lz2 := hL.frozen 2
  have ll := hL.lt
  simp at lc0 lc1 lc2
  have rc0 := hR.cell 0
  have rc1 := hR.cell 1
  have rc2 := hR.cell 2
  have rz0 := hR.frozen 0
  have rz1 := hR.frozen 1
  have rz2 := hR.frozen 2
  have rl := hR.lt
  simp at rc0 rc1 rc2
  have fc0 := hF.cell 0
  have fc1 := hF.cell 1
  have fz0 := hF.frozen 0
  have fz1 := hF.frozen 1
  have fl := hF.lt
  simp at fc0 fc1
  unfold flt
  go_wp2_with fail
  refine (HH.out _).mono ?_
  rintro e w2 ⟨rfl, hb2⟩
  have hb12 := (below_allocG w1 (.cells #[.int .i64 0, .int .i64 0] 26)).trans (hb2.mono (by simp))
  have hbw2 := hbw1.trans (hb12.mono hbw1.size)
  have hLw2 := hL.later hb12
  have hRw2 := hR.later hb12
  have hFw2 := hF.later hb12
  clear lc0 lz0 lc1 lz1 lc2 lz2 rc0 rz0 rc1 rz1 rc2 rz2 fc0 fz0 fc1 fz1 ll rl fl
  have lc0 := hLw2.cell 0
  have lc1 := hLw2.cell 1
  have lc2 := hLw2.cell 2
  have lz0 := hLw2.frozen 0
  have lz1 := hLw2.frozen 1
  have lz2 := hLw2.frozen 2
  have ll := hLw2.lt
  simp at lc0 lc1 lc2
  have rc0 := hRw2.cell 0
  have rc1 := hRw2.cell 1
  have rc2 := hRw2.cell 2
  have rz0 := hRw2.frozen 0
  have rz1 := hRw2.frozen 1
  have rz2 := hRw2.frozen 2
  have rl := hRw2.lt
  simp at rc0 rc1 rc2
  have fc0 := hFw2.cell 0
  have fc1 := hFw2.cell 1
  have fz0 := hFw2.frozen 0
  have fz1 := hFw2.frozen 1
  have fl := hFw2.lt
  simp at fc0 fc1
  clear hb2 hb12 hbw1 hL hR hF
  go_wp2_with fail
  exact bodyPost_ret (v := .tuple #[lsV ⟨0, 0, 0⟩, flt (12, 0)]) (by simp [results, Try.results22, go_sem, flt, lsV, rc0, rc1, rc2, fc0, fc1]) rfl ⟨by rw [HE1.out, HE2.out]; rfl, by go_grown⟩

end Go.Proofs.Ytfmoniabpinceaf
