/-
  The walk over the document's Granted.
-/
import Derived.Test.YtdpjakkijoohnafLeaseR1
namespace Go.Proofs.Ytdpjakkijoohnaf
open Go.RowKit
set_option linter.unusedVariables false

set_option maxRecDepth 100000 in
set_option maxHeartbeats 4000000 in
theorem granted1 (hold ep til who now span x y : Int) (w : World) (hck : ∀ W, Calls Try.prog 48 #[.agg #[.int .i64 hold, .int .i64 ep, .int .i64 til], .int .i64 who, .int .i64 now, .int .i64 span] W fun e w' => e = .returned (flt (x, y)) ∧ Below W.heap.size W w') (h0 : x ≠ 0) (e1 : grantL ⟨hold, ep, til⟩ who now span = zeroLs) (e2 : grantF ⟨hold, ep, til⟩ who now span = (x, y)) :
    Calls Try.prog 27 #[.agg #[.int .i64 hold, .int .i64 ep, .int .i64 til], .int .i64 who, .int .i64 now, .int .i64 span] w fun e w' => e = .returned (.tuple #[lsV (grantL ⟨hold, ep, til⟩ who now span), flt (grantF ⟨hold, ep, til⟩ who now span)]) ∧ Below w.heap.size w w' := by
  have HCK := hide hck
  have HE1 := hide e1
  have HE2 := hide e2
  clear hck e1 e2
  have hx : (x == 0) = false := beq_eq_false_iff_ne.2 h0
  have hx2 : (x != 0) = true := by simp [h0]
  clear h0
  go_enter Try.func27, Try.ntmps27
  go_wp2_with fail
  refine (HCK.out _).mono ?_
  rintro e w1 ⟨rfl, hb1⟩
  have hbw1 := (below_alloc3 w (.cells #[.int .i64 hold, .int .i64 ep, .int .i64 til] 47) (.cells #[.int .i64 0, .int .i64 0, .int .i64 0] 47) (.cells #[.int .i64 0, .int .i64 0] 26)).trans (hb1.mono (by simp; omega))
  have hL := (Blk.at0of3 w (.cells #[.int .i64 0, .int .i64 0, .int .i64 0] 47) (.cells #[.int .i64 0, .int .i64 0] 26) 47 #[.int .i64 hold, .int .i64 ep, .int .i64 til]).later hb1
  have hR := (Blk.at1of3 w (.cells #[.int .i64 hold, .int .i64 ep, .int .i64 til] 47) (.cells #[.int .i64 0, .int .i64 0] 26) 47 #[.int .i64 0, .int .i64 0, .int .i64 0]).later hb1
  have hF := (Blk.at2 w (.cells #[.int .i64 hold, .int .i64 ep, .int .i64 til] 47) (.cells #[.int .i64 0, .int .i64 0, .int .i64 0] 47) 26 #[.int .i64 0, .int .i64 0]).later hb1
  clear hb1
  have lc0 := hL.cell 0
  have lc1 := hL.cell 1
  have lc2 := hL.cell 2
  have lz0 := hL.frozen 0
  have lz1 := hL.frozen 1
  have lz2 := hL.frozen 2
  have ll := hL.lt
  simp at lc0 lc1 lc2
  have rc0 := hR.cell 0
  have rc1 := hR.cell 1
  have rc2 := hR.cell 2
  have rz0 := hR.frozen 0
  have rz1 := hR.frozen 1
  have rz2 := hR.frozen 2
  have rl := hR.lt
  simp at rc0 rc1 rc2
  have fc0 := hF.cell 0
  have fc1 := hF.cell 1
  have fz0 := hF.frozen 0
  have fz1 := hF.frozen 1
  have fl := hF.lt
  simp at fc0 fc1
  unfold flt
  go_wp2_with fail
  go_region
  all_goals
    go_wp2_with fail
    exact bodyPost_ret (v := .tuple #[lsV ⟨0, 0, 0⟩, flt (x, y)]) (by simp [results, Try.results27, go_sem, flt, lsV, rc0, rc1, rc2, rl, fc0, fc1, fl]) rfl ⟨by rw [HE1.out, HE2.out] <;> rfl, by go_grown⟩

set_option maxRecDepth 100000 in
set_option maxHeartbeats 4000000 in
theorem granted2 (hold ep til who now span : Int) (w : World) (hck : ∀ W, Calls Try.prog 48 #[.agg #[.int .i64 hold, .int .i64 ep, .int .i64 til], .int .i64 who, .int .i64 now, .int .i64 span] W fun e w' => e = .returned (flt (0, 0)) ∧ Below W.heap.size W w') (h1 : 0 < hold) (h2 : now < til) (e1 : grantL ⟨hold, ep, til⟩ who now span = zeroLs) (e2 : grantF ⟨hold, ep, til⟩ who now span = (11, 0)) :
    Calls Try.prog 27 #[.agg #[.int .i64 hold, .int .i64 ep, .int .i64 til], .int .i64 who, .int .i64 now, .int .i64 span] w fun e w' => e = .returned (.tuple #[lsV (grantL ⟨hold, ep, til⟩ who now span), flt (grantF ⟨hold, ep, til⟩ who now span)]) ∧ Below w.heap.size w w' := by
  have HCK := hide hck
  have HE1 := hide e1
  have HE2 := hide e2
  clear hck e1 e2
  go_enter Try.func27, Try.ntmps27
  go_wp2_with fail
  refine (HCK.out _).mono ?_
  rintro e w1 ⟨rfl, hb1⟩
  have hbw1 := (below_alloc3 w (.cells #[.int .i64 hold, .int .i64 ep, .int .i64 til] 47) (.cells #[.int .i64 0, .int .i64 0, .int .i64 0] 47) (.cells #[.int .i64 0, .int .i64 0] 26)).trans (hb1.mono (by simp; omega))
  have hL := (Blk.at0of3 w (.cells #[.int .i64 0, .int .i64 0, .int .i64 0] 47) (.cells #[.int .i64 0, .int .i64 0] 26) 47 #[.int .i64 hold, .int .i64 ep, .int .i64 til]).later hb1
  have hR := (Blk.at1of3 w (.cells #[.int .i64 hold, .int .i64 ep, .int .i64 til] 47) (.cells #[.int .i64 0, .int .i64 0] 26) 47 #[.int .i64 0, .int .i64 0, .int .i64 0]).later hb1
  have hF := (Blk.at2 w (.cells #[.int .i64 hold, .int .i64 ep, .int .i64 til] 47) (.cells #[.int .i64 0, .int .i64 0, .int .i64 0] 47) 26 #[.int .i64 0, .int .i64 0]).later hb1
  clear hb1
  have lc0 := hL.cell 0
  have lc1 := hL.cell 1
  have lc2 := hL.cell 2
  have lz0 := hL.frozen 0
  have lz1 := hL.frozen 1
  have lz2 := hL.frozen 2
  have ll := hL.lt
  simp at lc0 lc1 lc2
  have rc0 := hR.cell 0
  have rc1 := hR.cell 1
  have rc2 := hR.cell 2
  have rz0 := hR.frozen 0
  have rz1 := hR.frozen 1
  have rz2 := hR.frozen 2
  have rl := hR.lt
  simp at rc0 rc1 rc2
  have fc0 := hF.cell 0
  have fc1 := hF.cell 1
  have fz0 := hF.frozen 0
  have fz1 := hF.frozen 1
  have fl := hF.lt
  simp at fc0 fc1
  unfold flt
  have hs1 : w.heap.size + 2 < w1.heap.size := fl
  go_wp2_with fail
  refine (lF_any 11 0 _).mono ?_
  rintro e w2 ⟨rfl, hb2⟩
  have hb12 := (below_allocG w1 (.cells #[.int .i64 0, .int .i64 0] 26)).trans (hb2.mono (by simp))
  have hbw2 := hbw1.trans (hb12.mono hbw1.size)
  have hV := (Blk.new w1 26 #[.int .i64 0, .int .i64 0]).later hb2
  have hLw2 := hL.later hb12
  have hRw2 := hR.later hb12
  have hFw2 := hF.later hb12
  clear lc0 lz0 lc1 lz1 lc2 lz2 rc0 rz0 rc1 rz1 rc2 rz2 fc0 fz0 fc1 fz1 ll rl fl
  have lc0 := hLw2.cell 0
  have lc1 := hLw2.cell 1
  have lc2 := hLw2.cell 2
  have lz0 := hLw2.frozen 0
  have lz1 := hLw2.frozen 1
  have lz2 := hLw2.frozen 2
  have ll := hLw2.lt
  simp at lc0 lc1 lc2
  have rc0 := hRw2.cell 0
  have rc1 := hRw2.cell 1
  have rc2 := hRw2.cell 2
  have rz0 := hRw2.frozen 0
  have rz1 := hRw2.frozen 1
  have rz2 := hRw2.frozen 2
  have rl := hRw2.lt
  simp at rc0 rc1 rc2
  have fc0 := hFw2.cell 0
  have fc1 := hFw2.cell 1
  have fz0 := hFw2.frozen 0
  have fz1 := hFw2.frozen 1
  have fl := hFw2.lt
  simp at fc0 fc1
  have vc0 := hV.cell 0
  have vc1 := hV.cell 1
  have vz0 := hV.frozen 0
  have vz1 := hV.frozen 1
  have vl := hV.lt
  simp at vc0 vc1
  clear hb2 hb12 hbw1 hL hR hF
  unfold flt
  go_wp2_with fail
  go_region
  all_goals
    go_wp2_with fail
    exact bodyPost_ret (v := .tuple #[lsV ⟨0, 0, 0⟩, flt (11, 0)]) (by simp [results, Try.results27, go_sem, flt, lsV, rc0, rc1, rc2, fc0, fc1]) rfl ⟨by rw [HE1.out, HE2.out] <;> rfl, by go_grown⟩

set_option maxRecDepth 100000 in
set_option maxHeartbeats 4000000 in
theorem granted3a (hold ep til who now span : Int) (w : World) (hck : ∀ W, Calls Try.prog 48 #[.agg #[.int .i64 hold, .int .i64 ep, .int .i64 til], .int .i64 who, .int .i64 now, .int .i64 span] W fun e w' => e = .returned (flt (0, 0)) ∧ Below W.heap.size W w') (h1 : hold ≤ 0) (hw1 : IntKind.i64.wrap (ep + 1) = ep + 1) (h3 : 1000000000 < ep + 1) (e1 : grantL ⟨hold, ep, til⟩ who now span = zeroLs) (e2 : grantF ⟨hold, ep, til⟩ who now span = (9, 0)) :
    Calls Try.prog 27 #[.agg #[.int .i64 hold, .int .i64 ep, .int .i64 til], .int .i64 who, .int .i64 now, .int .i64 span] w fun e w' => e = .returned (.tuple #[lsV (grantL ⟨hold, ep, til⟩ who now span), flt (grantF ⟨hold, ep, til⟩ who now span)]) ∧ Below w.heap.size w w' := by
  have HCK := hide hck
  have HE1 := hide e1
  have HE2 := hide e2
  clear hck e1 e2
  have hd1 : decide (0 < hold) = false := decide_eq_false (by omega)
  go_enter Try.func27, Try.ntmps27
  go_wp2_with fail
  refine (HCK.out _).mono ?_
  rintro e w1 ⟨rfl, hb1⟩
  have hbw1 := (below_alloc3 w (.cells #[.int .i64 hold, .int .i64 ep, .int .i64 til] 47) (.cells #[.int .i64 0, .int .i64 0, .int .i64 0] 47) (.cells #[.int .i64 0, .int .i64 0] 26)).trans (hb1.mono (by simp; omega))
  have hL := (Blk.at0of3 w (.cells #[.int .i64 0, .int .i64 0, .int .i64 0] 47) (.cells #[.int .i64 0, .int .i64 0] 26) 47 #[.int .i64 hold, .int .i64 ep, .int .i64 til]).later hb1
  have hR := (Blk.at1of3 w (.cells #[.int .i64 hold, .int .i64 ep, .int .i64 til] 47) (.cells #[.int .i64 0, .int .i64 0] 26) 47 #[.int .i64 0, .int .i64 0, .int .i64 0]).later hb1
  have hF := (Blk.at2 w (.cells #[.int .i64 hold, .int .i64 ep, .int .i64 til] 47) (.cells #[.int .i64 0, .int .i64 0, .int .i64 0] 47) 26 #[.int .i64 0, .int .i64 0]).later hb1
  clear hb1
  have lc0 := hL.cell 0
  have lc1 := hL.cell 1
  have lc2 := hL.cell 2
  have lz0 := hL.frozen 0
  have lz1 := hL.frozen 1
  have lz2 := hL.frozen 2
  have ll := hL.lt
  simp at lc0 lc1 lc2
  have rc0 := hR.cell 0
  have rc1 := hR.cell 1
  have rc2 := hR.cell 2
  have rz0 := hR.frozen 0
  have rz1 := hR.frozen 1
  have rz2 := hR.frozen 2
  have rl := hR.lt
  simp at rc0 rc1 rc2
  have fc0 := hF.cell 0
  have fc1 := hF.cell 1
  have fz0 := hF.frozen 0
  have fz1 := hF.frozen 1
  have fl := hF.lt
  simp at fc0 fc1
  unfold flt
  have hs1 : w.heap.size + 2 < w1.heap.size := fl
  go_wp2_with fail
  refine (lF_any 9 0 _).mono ?_
  rintro e w2 ⟨rfl, hb2⟩
  have hb12 := (below_allocG w1 (.cells #[.int .i64 0, .int .i64 0] 26)).trans (hb2.mono (by simp))
  have hbw2 := hbw1.trans (hb12.mono hbw1.size)
  have hV := (Blk.new w1 26 #[.int .i64 0, .int .i64 0]).later hb2
  have hLw2 := hL.later hb12
  have hRw2 := hR.later hb12
  have hFw2 := hF.later hb12
  clear lc0 lz0 lc1 lz1 lc2 lz2 rc0 rz0 rc1 rz1 rc2 rz2 fc0 fz0 fc1 fz1 ll rl fl
  have lc0 := hLw2.cell 0
  have lc1 := hLw2.cell 1
  have lc2 := hLw2.cell 2
  have lz0 := hLw2.frozen 0
  have lz1 := hLw2.frozen 1
  have lz2 := hLw2.frozen 2
  have ll := hLw2.lt
  simp at lc0 lc1 lc2
  have rc0 := hRw2.cell 0
  have rc1 := hRw2.cell 1
  have rc2 := hRw2.cell 2
  have rz0 := hRw2.frozen 0
  have rz1 := hRw2.frozen 1
  have rz2 := hRw2.frozen 2
  have rl := hRw2.lt
  simp at rc0 rc1 rc2
  have fc0 := hFw2.cell 0
  have fc1 := hFw2.cell 1
  have fz0 := hFw2.frozen 0
  have fz1 := hFw2.frozen 1
  have fl := hFw2.lt
  simp at fc0 fc1
  have vc0 := hV.cell 0
  have vc1 := hV.cell 1
  have vz0 := hV.frozen 0
  have vz1 := hV.frozen 1
  have vl := hV.lt
  simp at vc0 vc1
  clear hb2 hb12 hbw1 hL hR hF
  unfold flt
  go_wp2_with fail
  go_region
  all_goals
    go_wp2_with fail
    exact bodyPost_ret (v := .tuple #[lsV ⟨0, 0, 0⟩, flt (9, 0)]) (by simp [results, Try.results27, go_sem, flt, lsV, rc0, rc1, rc2, fc0, fc1]) rfl ⟨by rw [HE1.out, HE2.out] <;> rfl, by go_grown⟩

set_option maxRecDepth 100000 in
set_option maxHeartbeats 4000000 in
theorem granted4a (hold ep til who now span : Int) (w : World) (hck : ∀ W, Calls Try.prog 48 #[.agg #[.int .i64 hold, .int .i64 ep, .int .i64 til], .int .i64 who, .int .i64 now, .int .i64 span] W fun e w' => e = .returned (flt (0, 0)) ∧ Below W.heap.size W w') (h1 : hold ≤ 0) (hw1 : IntKind.i64.wrap (ep + 1) = ep + 1) (hw2 : IntKind.i64.wrap (now + span) = now + span) (h3 : ¬ 1000000000 < ep + 1) (h4 : 1000000000 < now + span) (e1 : grantL ⟨hold, ep, til⟩ who now span = zeroLs) (e2 : grantF ⟨hold, ep, til⟩ who now span = (9, 0)) :
    Calls Try.prog 27 #[.agg #[.int .i64 hold, .int .i64 ep, .int .i64 til], .int .i64 who, .int .i64 now, .int .i64 span] w fun e w' => e = .returned (.tuple #[lsV (grantL ⟨hold, ep, til⟩ who now span), flt (grantF ⟨hold, ep, til⟩ who now span)]) ∧ Below w.heap.size w w' := by
  have HCK := hide hck
  have HE1 := hide e1
  have HE2 := hide e2
  clear hck e1 e2
  have hd1 : decide (0 < hold) = false := decide_eq_false (by omega)
  go_enter Try.func27, Try.ntmps27
  go_wp2_with fail
  refine (HCK.out _).mono ?_
  rintro e w1 ⟨rfl, hb1⟩
  have hbw1 := (below_alloc3 w (.cells #[.int .i64 hold, .int .i64 ep, .int .i64 til] 47) (.cells #[.int .i64 0, .int .i64 0, .int .i64 0] 47) (.cells #[.int .i64 0, .int .i64 0] 26)).trans (hb1.mono (by simp; omega))
  have hL := (Blk.at0of3 w (.cells #[.int .i64 0, .int .i64 0, .int .i64 0] 47) (.cells #[.int .i64 0, .int .i64 0] 26) 47 #[.int .i64 hold, .int .i64 ep, .int .i64 til]).later hb1
  have hR := (Blk.at1of3 w (.cells #[.int .i64 hold, .int .i64 ep, .int .i64 til] 47) (.cells #[.int .i64 0, .int .i64 0] 26) 47 #[.int .i64 0, .int .i64 0, .int .i64 0]).later hb1
  have hF := (Blk.at2 w (.cells #[.int .i64 hold, .int .i64 ep, .int .i64 til] 47) (.cells #[.int .i64 0, .int .i64 0, .int .i64 0] 47) 26 #[.int .i64 0, .int .i64 0]).later hb1
  clear hb1
  have lc0 := hL.cell 0
  have lc1 := hL.cell 1
  have lc2 := hL.cell 2
  have lz0 := hL.frozen 0
  have lz1 := hL.frozen 1
  have lz2 := hL.frozen 2
  have ll := hL.lt
  simp at lc0 lc1 lc2
  have rc0 := hR.cell 0
  have rc1 := hR.cell 1
  have rc2 := hR.cell 2
  have rz0 := hR.frozen 0
  have rz1 := hR.frozen 1
  have rz2 := hR.frozen 2
  have rl := hR.lt
  simp at rc0 rc1 rc2
  have fc0 := hF.cell 0
  have fc1 := hF.cell 1
  have fz0 := hF.frozen 0
  have fz1 := hF.frozen 1
  have fl := hF.lt
  simp at fc0 fc1
  unfold flt
  have hs1 : w.heap.size + 2 < w1.heap.size := fl
  go_wp2_with fail
  refine (lF_any 9 0 _).mono ?_
  rintro e w2 ⟨rfl, hb2⟩
  have hb12 := (below_allocG w1 (.cells #[.int .i64 0, .int .i64 0] 26)).trans (hb2.mono (by simp))
  have hbw2 := hbw1.trans (hb12.mono hbw1.size)
  have hV := (Blk.new w1 26 #[.int .i64 0, .int .i64 0]).later hb2
  have hLw2 := hL.later hb12
  have hRw2 := hR.later hb12
  have hFw2 := hF.later hb12
  clear lc0 lz0 lc1 lz1 lc2 lz2 rc0 rz0 rc1 rz1 rc2 rz2 fc0 fz0 fc1 fz1 ll rl fl
  have lc0 := hLw2.cell 0
  have lc1 := hLw2.cell 1
  have lc2 := hLw2.cell 2
  have lz0 := hLw2.frozen 0
  have lz1 := hLw2.frozen 1
  have lz2 := hLw2.frozen 2
  have ll := hLw2.lt
  simp at lc0 lc1 lc2
  have rc0 := hRw2.cell 0
  have rc1 := hRw2.cell 1
  have rc2 := hRw2.cell 2
  have rz0 := hRw2.frozen 0
  have rz1 := hRw2.frozen 1
  have rz2 := hRw2.frozen 2
  have rl := hRw2.lt
  simp at rc0 rc1 rc2
  have fc0 := hFw2.cell 0
  have fc1 := hFw2.cell 1
  have fz0 := hFw2.frozen 0
  have fz1 := hFw2.frozen 1
  have fl := hFw2.lt
  simp at fc0 fc1
  have vc0 := hV.cell 0
  have vc1 := hV.cell 1
  have vz0 := hV.frozen 0
  have vz1 := hV.frozen 1
  have vl := hV.lt
  simp at vc0 vc1
  clear hb2 hb12 hbw1 hL hR hF
  unfold flt
  go_wp2_with fail
  go_region
  all_goals
    go_wp2_with fail
    exact bodyPost_ret (v := .tuple #[lsV ⟨0, 0, 0⟩, flt (9, 0)]) (by simp [results, Try.results27, go_sem, flt, lsV, rc0, rc1, rc2, fc0, fc1]) rfl ⟨by rw [HE1.out, HE2.out] <;> rfl, by go_grown⟩

set_option maxRecDepth 100000 in
set_option maxHeartbeats 4000000 in
theorem granted5a (hold ep til who now span : Int) (w : World) (hck : ∀ W, Calls Try.prog 48 #[.agg #[.int .i64 hold, .int .i64 ep, .int .i64 til], .int .i64 who, .int .i64 now, .int .i64 span] W fun e w' => e = .returned (flt (0, 0)) ∧ Below W.heap.size W w') (h1 : hold ≤ 0) (hw1 : IntKind.i64.wrap (ep + 1) = ep + 1) (hw2 : IntKind.i64.wrap (now + span) = now + span) (h3 : ¬ 1000000000 < ep + 1) (h4 : ¬ 1000000000 < now + span) (e1 : grantL ⟨hold, ep, til⟩ who now span = ⟨who, ep + 1, now + span⟩) (e2 : grantF ⟨hold, ep, til⟩ who now span = (0, 0)) :
    Calls Try.prog 27 #[.agg #[.int .i64 hold, .int .i64 ep, .int .i64 til], .int .i64 who, .int .i64 now, .int .i64 span] w fun e w' => e = .returned (.tuple #[lsV (grantL ⟨hold, ep, til⟩ who now span), flt (grantF ⟨hold, ep, til⟩ who now span)]) ∧ Below w.heap.size w w' := by
  have HCK := hide hck
  have HE1 := hide e1
  have HE2 := hide e2
  clear hck e1 e2
  have hd1 : decide (0 < hold) = false := decide_eq_false (by omega)
  go_enter Try.func27, Try.ntmps27
  go_wp2_with fail
  refine (HCK.out _).mono ?_
  rintro e w1 ⟨rfl, hb1⟩
  have hbw1 := (below_alloc3 w (.cells #[.int .i64 hold, .int .i64 ep, .int .i64 til] 47) (.cells #[.int .i64 0, .int .i64 0, .int .i64 0] 47) (.cells #[.int .i64 0, .int .i64 0] 26)).trans (hb1.mono (by simp; omega))
  have hL := (Blk.at0of3 w (.cells #[.int .i64 0, .int .i64 0, .int .i64 0] 47) (.cells #[.int .i64 0, .int .i64 0] 26) 47 #[.int .i64 hold, .int .i64 ep, .int .i64 til]).later hb1
  have hR := (Blk.at1of3 w (.cells #[.int .i64 hold, .int .i64 ep, .int .i64 til] 47) (.cells #[.int .i64 0, .int .i64 0] 26) 47 #[.int .i64 0, .int .i64 0, .int .i64 0]).later hb1
  have hF := (Blk.at2 w (.cells #[.int .i64 hold, .int .i64 ep, .int .i64 til] 47) (.cells #[.int .i64 0, .int .i64 0, .int .i64 0] 47) 26 #[.int .i64 0, .int .i64 0]).later hb1
  clear hb1
  have lc0 := hL.cell 0
  have lc1 := hL.cell 1
  have lc2 := hL.cell 2
  have lz0 := hL.frozen 0
  have lz1 := hL.frozen 1
  have lz2 := hL.frozen 2
  have ll := hL.lt
  simp at lc0 lc1 lc2
  have rc0 := hR.cell 0
  have rc1 := hR.cell 1
  have rc2 := hR.cell 2
  have rz0 := hR.frozen 0
  have rz1 := hR.frozen 1
  have rz2 := hR.frozen 2
  have rl := hR.lt
  simp at rc0 rc1 rc2
  have fc0 := hF.cell 0
  have fc1 := hF.cell 1
  have fz0 := hF.frozen 0
  have fz1 := hF.frozen 1
  have fl := hF.lt
  simp at fc0 fc1
  unfold flt
  go_wp2_with fail
  go_region
  all_goals
    go_wp2_with fail
    exact bodyPost_ret (v := .tuple #[lsV ⟨who, ep + 1, now + span⟩, flt (0, 0)]) (by simp [results, Try.results27, go_sem, flt, lsV, rc0, rc1, rc2, rl, fc0, fc1, fl]) rfl ⟨by rw [HE1.out, HE2.out] <;> rfl, by go_grown⟩

set_option maxRecDepth 100000 in
set_option maxHeartbeats 4000000 in
theorem granted3b (hold ep til who now span : Int) (w : World) (hck : ∀ W, Calls Try.prog 48 #[.agg #[.int .i64 hold, .int .i64 ep, .int .i64 til], .int .i64 who, .int .i64 now, .int .i64 span] W fun e w' => e = .returned (flt (0, 0)) ∧ Below W.heap.size W w') (h1 : 0 < hold) (h2 : til ≤ now) (hw1 : IntKind.i64.wrap (ep + 1) = ep + 1) (h3 : 1000000000 < ep + 1) (e1 : grantL ⟨hold, ep, til⟩ who now span = zeroLs) (e2 : grantF ⟨hold, ep, til⟩ who now span = (9, 0)) :
    Calls Try.prog 27 #[.agg #[.int .i64 hold, .int .i64 ep, .int .i64 til], .int .i64 who, .int .i64 now, .int .i64 span] w fun e w' => e = .returned (.tuple #[lsV (grantL ⟨hold, ep, til⟩ who now span), flt (grantF ⟨hold, ep, til⟩ who now span)]) ∧ Below w.heap.size w w' := by
  have HCK := hide hck
  have HE1 := hide e1
  have HE2 := hide e2
  clear hck e1 e2
  have hd1 : decide (0 < hold) = true := decide_eq_true h1
  have hd2 : decide (now < til) = false := decide_eq_false (by omega)
  go_enter Try.func27, Try.ntmps27
  go_wp2_with fail
  refine (HCK.out _).mono ?_
  rintro e w1 ⟨rfl, hb1⟩
  have hbw1 := (below_alloc3 w (.cells #[.int .i64 hold, .int .i64 ep, .int .i64 til] 47) (.cells #[.int .i64 0, .int .i64 0, .int .i64 0] 47) (.cells #[.int .i64 0, .int .i64 0] 26)).trans (hb1.mono (by simp; omega))
  have hL := (Blk.at0of3 w (.cells #[.int .i64 0, .int .i64 0, .int .i64 0] 47) (.cells #[.int .i64 0, .int .i64 0] 26) 47 #[.int .i64 hold, .int .i64 ep, .int .i64 til]).later hb1
  have hR := (Blk.at1of3 w (.cells #[.int .i64 hold, .int .i64 ep, .int .i64 til] 47) (.cells #[.int .i64 0, .int .i64 0] 26) 47 #[.int .i64 0, .int .i64 0, .int .i64 0]).later hb1
  have hF := (Blk.at2 w (.cells #[.int .i64 hold, .int .i64 ep, .int .i64 til] 47) (.cells #[.int .i64 0, .int .i64 0, .int .i64 0] 47) 26 #[.int .i64 0, .int .i64 0]).later hb1
  clear hb1
  have lc0 := hL.cell 0
  have lc1 := hL.cell 1
  have lc2 := hL.cell 2
  have lz0 := hL.frozen 0
  have lz1 := hL.frozen 1
  have lz2 := hL.frozen 2
  have ll := hL.lt
  simp at lc0 lc1 lc2
  have rc0 := hR.cell 0
  have rc1 := hR.cell 1
  have rc2 := hR.cell 2
  have rz0 := hR.frozen 0
  have rz1 := hR.frozen 1
  have rz2 := hR.frozen 2
  have rl := hR.lt
  simp at rc0 rc1 rc2
  have fc0 := hF.cell 0
  have fc1 := hF.cell 1
  have fz0 := hF.frozen 0
  have fz1 := hF.frozen 1
  have fl := hF.lt
  simp at fc0 fc1
  unfold flt
  have hs1 : w.heap.size + 2 < w1.heap.size := fl
  go_wp2_with fail
  refine (lF_any 9 0 _).mono ?_
  rintro e w2 ⟨rfl, hb2⟩
  have hb12 := (below_allocG w1 (.cells #[.int .i64 0, .int .i64 0] 26)).trans (hb2.mono (by simp))
  have hbw2 := hbw1.trans (hb12.mono hbw1.size)
  have hV := (Blk.new w1 26 #[.int .i64 0, .int .i64 0]).later hb2
  have hLw2 := hL.later hb12
  have hRw2 := hR.later hb12
  have hFw2 := hF.later hb12
  clear lc0 lz0 lc1 lz1 lc2 lz2 rc0 rz0 rc1 rz1 rc2 rz2 fc0 fz0 fc1 fz1 ll rl fl
  have lc0 := hLw2.cell 0
  have lc1 := hLw2.cell 1
  have lc2 := hLw2.cell 2
  have lz0 := hLw2.frozen 0
  have lz1 := hLw2.frozen 1
  have lz2 := hLw2.frozen 2
  have ll := hLw2.lt
  simp at lc0 lc1 lc2
  have rc0 := hRw2.cell 0
  have rc1 := hRw2.cell 1
  have rc2 := hRw2.cell 2
  have rz0 := hRw2.frozen 0
  have rz1 := hRw2.frozen 1
  have rz2 := hRw2.frozen 2
  have rl := hRw2.lt
  simp at rc0 rc1 rc2
  have fc0 := hFw2.cell 0
  have fc1 := hFw2.cell 1
  have fz0 := hFw2.frozen 0
  have fz1 := hFw2.frozen 1
  have fl := hFw2.lt
  simp at fc0 fc1
  have vc0 := hV.cell 0
  have vc1 := hV.cell 1
  have vz0 := hV.frozen 0
  have vz1 := hV.frozen 1
  have vl := hV.lt
  simp at vc0 vc1
  clear hb2 hb12 hbw1 hL hR hF
  unfold flt
  go_wp2_with fail
  go_region
  all_goals
    go_wp2_with fail
    exact bodyPost_ret (v := .tuple #[lsV ⟨0, 0, 0⟩, flt (9, 0)]) (by simp [results, Try.results27, go_sem, flt, lsV, rc0, rc1, rc2, fc0, fc1]) rfl ⟨by rw [HE1.out, HE2.out] <;> rfl, by go_grown⟩

set_option maxRecDepth 100000 in
set_option maxHeartbeats 4000000 in
theorem granted4b (hold ep til who now span : Int) (w : World) (hck : ∀ W, Calls Try.prog 48 #[.agg #[.int .i64 hold, .int .i64 ep, .int .i64 til], .int .i64 who, .int .i64 now, .int .i64 span] W fun e w' => e = .returned (flt (0, 0)) ∧ Below W.heap.size W w') (h1 : 0 < hold) (h2 : til ≤ now) (hw1 : IntKind.i64.wrap (ep + 1) = ep + 1) (hw2 : IntKind.i64.wrap (now + span) = now + span) (h3 : ¬ 1000000000 < ep + 1) (h4 : 1000000000 < now + span) (e1 : grantL ⟨hold, ep, til⟩ who now span = zeroLs) (e2 : grantF ⟨hold, ep, til⟩ who now span = (9, 0)) :
    Calls Try.prog 27 #[.agg #[.int .i64 hold, .int .i64 ep, .int .i64 til], .int .i64 who, .int .i64 now, .int .i64 span] w fun e w' => e = .returned (.tuple #[lsV (grantL ⟨hold, ep, til⟩ who now span), flt (grantF ⟨hold, ep, til⟩ who now span)]) ∧ Below w.heap.size w w' := by
  have HCK := hide hck
  have HE1 := hide e1
  have HE2 := hide e2
  clear hck e1 e2
  have hd1 : decide (0 < hold) = true := decide_eq_true h1
  have hd2 : decide (now < til) = false := decide_eq_false (by omega)
  go_enter Try.func27, Try.ntmps27
  go_wp2_with fail
  refine (HCK.out _).mono ?_
  rintro e w1 ⟨rfl, hb1⟩
  have hbw1 := (below_alloc3 w (.cells #[.int .i64 hold, .int .i64 ep, .int .i64 til] 47) (.cells #[.int .i64 0, .int .i64 0, .int .i64 0] 47) (.cells #[.int .i64 0, .int .i64 0] 26)).trans (hb1.mono (by simp; omega))
  have hL := (Blk.at0of3 w (.cells #[.int .i64 0, .int .i64 0, .int .i64 0] 47) (.cells #[.int .i64 0, .int .i64 0] 26) 47 #[.int .i64 hold, .int .i64 ep, .int .i64 til]).later hb1
  have hR := (Blk.at1of3 w (.cells #[.int .i64 hold, .int .i64 ep, .int .i64 til] 47) (.cells #[.int .i64 0, .int .i64 0] 26) 47 #[.int .i64 0, .int .i64 0, .int .i64 0]).later hb1
  have hF := (Blk.at2 w (.cells #[.int .i64 hold, .int .i64 ep, .int .i64 til] 47) (.cells #[.int .i64 0, .int .i64 0, .int .i64 0] 47) 26 #[.int .i64 0, .int .i64 0]).later hb1
  clear hb1
  have lc0 := hL.cell 0
  have lc1 := hL.cell 1
  have lc2 := hL.cell 2
  have lz0 := hL.frozen 0
  have lz1 := hL.frozen 1
  have lz2 := hL.frozen 2
  have ll := hL.lt
  simp at lc0 lc1 lc2
  have rc0 := hR.cell 0
  have rc1 := hR.cell 1
  have rc2 := hR.cell 2
  have rz0 := hR.frozen 0
  have rz1 := hR.frozen 1
  have rz2 := hR.frozen 2
  have rl := hR.lt
  simp at rc0 rc1 rc2
  have fc0 := hF.cell 0
  have fc1 := hF.cell 1
  have fz0 := hF.frozen 0
  have fz1 := hF.frozen 1
  have fl := hF.lt
  simp at fc0 fc1
  unfold flt
  have hs1 : w.heap.size + 2 < w1.heap.size := fl
  go_wp2_with fail
  refine (lF_any 9 0 _).mono ?_
  rintro e w2 ⟨rfl, hb2⟩
  have hb12 := (below_allocG w1 (.cells #[.int .i64 0, .int .i64 0] 26)).trans (hb2.mono (by simp))
  have hbw2 := hbw1.trans (hb12.mono hbw1.size)
  have hV := (Blk.new w1 26 #[.int .i64 0, .int .i64 0]).later hb2
  have hLw2 := hL.later hb12
  have hRw2 := hR.later hb12
  have hFw2 := hF.later hb12
  clear lc0 lz0 lc1 lz1 lc2 lz2 rc0 rz0 rc1 rz1 rc2 rz2 fc0 fz0 fc1 fz1 ll rl fl
  have lc0 := hLw2.cell 0
  have lc1 := hLw2.cell 1
  have lc2 := hLw2.cell 2
  have lz0 := hLw2.frozen 0
  have lz1 := hLw2.frozen 1
  have lz2 := hLw2.frozen 2
  have ll := hLw2.lt
  simp at lc0 lc1 lc2
  have rc0 := hRw2.cell 0
  have rc1 := hRw2.cell 1
  have rc2 := hRw2.cell 2
  have rz0 := hRw2.frozen 0
  have rz1 := hRw2.frozen 1
  have rz2 := hRw2.frozen 2
  have rl := hRw2.lt
  simp at rc0 rc1 rc2
  have fc0 := hFw2.cell 0
  have fc1 := hFw2.cell 1
  have fz0 := hFw2.frozen 0
  have fz1 := hFw2.frozen 1
  have fl := hFw2.lt
  simp at fc0 fc1
  have vc0 := hV.cell 0
  have vc1 := hV.cell 1
  have vz0 := hV.frozen 0
  have vz1 := hV.frozen 1
  have vl := hV.lt
  simp at vc0 vc1
  clear hb2 hb12 hbw1 hL hR hF
  unfold flt
  go_wp2_with fail
  go_region
  all_goals
    go_wp2_with fail
    exact bodyPost_ret (v := .tuple #[lsV ⟨0, 0, 0⟩, flt (9, 0)]) (by simp [results, Try.results27, go_sem, flt, lsV, rc0, rc1, rc2, fc0, fc1]) rfl ⟨by rw [HE1.out, HE2.out] <;> rfl, by go_grown⟩

set_option maxRecDepth 100000 in
set_option maxHeartbeats 4000000 in
theorem granted5b (hold ep til who now span : Int) (w : World) (hck : ∀ W, Calls Try.prog 48 #[.agg #[.int .i64 hold, .int .i64 ep, .int .i64 til], .int .i64 who, .int .i64 now, .int .i64 span] W fun e w' => e = .returned (flt (0, 0)) ∧ Below W.heap.size W w') (h1 : 0 < hold) (h2 : til ≤ now) (hw1 : IntKind.i64.wrap (ep + 1) = ep + 1) (hw2 : IntKind.i64.wrap (now + span) = now + span) (h3 : ¬ 1000000000 < ep + 1) (h4 : ¬ 1000000000 < now + span) (e1 : grantL ⟨hold, ep, til⟩ who now span = ⟨who, ep + 1, now + span⟩) (e2 : grantF ⟨hold, ep, til⟩ who now span = (0, 0)) :
    Calls Try.prog 27 #[.agg #[.int .i64 hold, .int .i64 ep, .int .i64 til], .int .i64 who, .int .i64 now, .int .i64 span] w fun e w' => e = .returned (.tuple #[lsV (grantL ⟨hold, ep, til⟩ who now span), flt (grantF ⟨hold, ep, til⟩ who now span)]) ∧ Below w.heap.size w w' := by
  have HCK := hide hck
  have HE1 := hide e1
  have HE2 := hide e2
  clear hck e1 e2
  have hd1 : decide (0 < hold) = true := decide_eq_true h1
  have hd2 : decide (now < til) = false := decide_eq_false (by omega)
  go_enter Try.func27, Try.ntmps27
  go_wp2_with fail
  refine (HCK.out _).mono ?_
  rintro e w1 ⟨rfl, hb1⟩
  have hbw1 := (below_alloc3 w (.cells #[.int .i64 hold, .int .i64 ep, .int .i64 til] 47) (.cells #[.int .i64 0, .int .i64 0, .int .i64 0] 47) (.cells #[.int .i64 0, .int .i64 0] 26)).trans (hb1.mono (by simp; omega))
  have hL := (Blk.at0of3 w (.cells #[.int .i64 0, .int .i64 0, .int .i64 0] 47) (.cells #[.int .i64 0, .int .i64 0] 26) 47 #[.int .i64 hold, .int .i64 ep, .int .i64 til]).later hb1
  have hR := (Blk.at1of3 w (.cells #[.int .i64 hold, .int .i64 ep, .int .i64 til] 47) (.cells #[.int .i64 0, .int .i64 0] 26) 47 #[.int .i64 0, .int .i64 0, .int .i64 0]).later hb1
  have hF := (Blk.at2 w (.cells #[.int .i64 hold, .int .i64 ep, .int .i64 til] 47) (.cells #[.int .i64 0, .int .i64 0, .int .i64 0] 47) 26 #[.int .i64 0, .int .i64 0]).later hb1
  clear hb1
  have lc0 := hL.cell 0
  have lc1 := hL.cell 1
  have lc2 := hL.cell 2
  have lz0 := hL.frozen 0
  have lz1 := hL.frozen 1
  have lz2 := hL.frozen 2
  have ll := hL.lt
  simp at lc0 lc1 lc2
  have rc0 := hR.cell 0
  have rc1 := hR.cell 1
  have rc2 := hR.cell 2
  have rz0 := hR.frozen 0
  have rz1 := hR.frozen 1
  have rz2 := hR.frozen 2
  have rl := hR.lt
  simp at rc0 rc1 rc2
  have fc0 := hF.cell 0
  have fc1 := hF.cell 1
  have fz0 := hF.frozen 0
  have fz1 := hF.frozen 1
  have fl := hF.lt
  simp at fc0 fc1
  unfold flt
  go_wp2_with fail
  go_region
  all_goals
    go_wp2_with fail
    exact bodyPost_ret (v := .tuple #[lsV ⟨who, ep + 1, now + span⟩, flt (0, 0)]) (by simp [results, Try.results27, go_sem, flt, lsV, rc0, rc1, rc2, rl, fc0, fc1, fl]) rfl ⟨by rw [HE1.out, HE2.out] <;> rfl, by go_grown⟩

theorem rGranted_any (l : Ls) (who now span : Int) (w : World) : Calls Try.prog 27 #[lsV l, .int .i64 who, .int .i64 now, .int .i64 span] w fun e w' => e = .returned (.tuple #[lsV (grantL l who now span), flt (grantF l who now span)]) ∧ Below w.heap.size w w' := by
  have hck := fun W => rWished_any l who now span W
  obtain ⟨hold, ep, til⟩ := l
  by_cases h0 : (wishF ⟨hold, ep, til⟩ who now span).1 ≠ 0
  · obtain ⟨e2, e1⟩ := grantF_bad h0
    generalize hS : wishF ⟨hold, ep, til⟩ who now span = S at *
    obtain ⟨x, y⟩ := S
    exact granted1 hold ep til who now span x y w hck h0 e1 e2
  have hz := Decidable.not_not.1 h0
  obtain ⟨hok, ⟨n1, n2, n3⟩, h3, h4, h5⟩ := wishF_ok hz
  rw [hok] at hck
  have p1 := numL_iff.1 n1
  have p2 := numL_iff.1 n2
  simp only at p1 p2
  have hD : grantF ⟨hold, ep, til⟩ who now span = if 0 < hold ∧ now < til then (11, 0) else if 1000000000 < ep + 1 ∨ 1000000000 < now + span then (9, 0) else (0, 0) := by
    unfold grantF
    rw [if_neg (by rw [hz]; simp)]
  have hL : grantL ⟨hold, ep, til⟩ who now span = if (grantF ⟨hold, ep, til⟩ who now span).1 = 0 then ⟨who, ep + 1, now + span⟩ else zeroLs := rfl
  have hw1 : IntKind.i64.wrap (ep + 1) = ep + 1 := by rw [IntKind.wrap_i64]; omega
  have hw2 : IntKind.i64.wrap (now + span) = now + span := by rw [IntKind.wrap_i64]; omega
  by_cases hh : 0 < hold ∧ now < til
  · rw [if_pos hh] at hD
    exact granted2 hold ep til who now span w hck hh.1 hh.2 (by rw [hL, hD]; rfl) hD
  rw [if_neg hh] at hD
  by_cases g3 : 1000000000 < ep + 1
  · rw [if_pos (.inl g3)] at hD
    by_cases g1 : 0 < hold
    · exact granted3b hold ep til who now span w hck g1 (by omega) hw1 g3 (by rw [hL, hD]; rfl) hD
    · exact granted3a hold ep til who now span w hck (by omega) hw1 g3 (by rw [hL, hD]; rfl) hD
  by_cases g4 : 1000000000 < now + span
  · rw [if_pos (.inr g4)] at hD
    by_cases g1 : 0 < hold
    · exact granted4b hold ep til who now span w hck g1 (by omega) hw1 hw2 g3 g4 (by rw [hL, hD]; rfl) hD
    · exact granted4a hold ep til who now span w hck (by omega) hw1 hw2 g3 g4 (by rw [hL, hD]; rfl) hD
  · rw [if_neg (by omega)] at hD
    by_cases g1 : 0 < hold
    · exact granted5b hold ep til who now span w hck g1 (by omega) hw1 hw2 g3 g4 (by rw [hL, hD]; rfl) hD
    · exact granted5a hold ep til who now span w hck (by omega) hw1 hw2 g3 g4 (by rw [hL, hD]; rfl) hD

end Go.Proofs.Ytdpjakkijoohnaf
