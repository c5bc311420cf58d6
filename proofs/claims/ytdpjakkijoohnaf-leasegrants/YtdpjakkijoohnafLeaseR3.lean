/-
  The walk over the document's Renewed.
-/
import Derived.Test.YtdpjakkijoohnafLeaseR1
import Derived.Test.YtdpjakkijoohnafLeaseW4
namespace Go.Proofs.Ytdpjakkijoohnaf
open Go.RowKit
set_option linter.unusedVariables false

set_option maxRecDepth 100000 in
set_option maxHeartbeats 4000000 in
theorem renewed1 (hold ep til who epoch now span x y : Int) (w : World) (hck : ∀ W, Calls Try.prog 48 #[.agg #[.int .i64 hold, .int .i64 ep, .int .i64 til], .int .i64 who, .int .i64 now, .int .i64 span] W fun e w' => e = .returned (flt (x, y)) ∧ Below W.heap.size W w') (h0 : x ≠ 0) (e1 : renewL ⟨hold, ep, til⟩ who epoch now span = zeroLs) (e2 : renewF ⟨hold, ep, til⟩ who epoch now span = (x, y)) :
    Calls Try.prog 28 #[.agg #[.int .i64 hold, .int .i64 ep, .int .i64 til], .int .i64 who, .int .i64 epoch, .int .i64 now, .int .i64 span] w fun e w' => e = .returned (.tuple #[lsV (renewL ⟨hold, ep, til⟩ who epoch now span), flt (renewF ⟨hold, ep, til⟩ who epoch now span)]) ∧ Below w.heap.size w w' := by
  have HCK := hide hck
  have HE1 := hide e1
  have HE2 := hide e2
  clear hck e1 e2
  have hx : (x == 0) = false := beq_eq_false_iff_ne.2 h0
  have hx2 : (x != 0) = true := by simp [h0]
  clear h0
  go_enter Try.func28, Try.ntmps28
  go_wp2_with fail
  refine (HCK.out _).mono ?_
  rintro e w1 ⟨rfl, hb1⟩
  have hbw1 := (below_alloc3 w (.cells #[.int .i64 hold, .int .i64 ep, .int .i64 til] 47) (.cells #[.int .i64 0, .int .i64 0, .int .i64 0] 47) (.cells #[.int .i64 0, .int .i64 0] 26)).trans (hb1.mono (by simp; omega))
  have hL := (Blk.at0of3 w (.cells #[.int .i64 0, .int .i64 0, .int .i64 0] 47) (.cells #[.int .i64 0, .int .i64 0] 26) 47 #[.int .i64 hold, .int .i64 ep, .int .i64 til]).later hb1
  have hR := (Blk.at1of3 w (.cells #[.int .i64 hold, .int .i64 ep, .int .i64 til] 47) (.cells #[.int .i64 0, .int .i64 0] 26) 47 #[.int .i64 0, .int .i64 0, .int .i64 0]).later hb1
  have hF := (Blk.at2 w (.cells #[.int .i64 hold, .int .i64 ep, .int .i64 til] 47) (.cells #[.int .i64 0, .int .i64 0, .int .i64 0] 47) 26 #[.int .i64 0, .int .i64 0]).later hb1
  clear hb1
  have lc0 := hL.cell 0
  have lc1 := hL.cell 1
  have lc2 := hL.cell 2
  have lz0 := hL.frozen 0
  have lz1 := hL.frozen 1
  have lz2 := hL.frozen 2
  have ll := hL.lt
  simp at lc0 lc1 lc2
  have rc0 := hR.cell 0
  have rc1 := hR.cell 1
  have rc2 := hR.cell 2
  have rz0 := hR.frozen 0
  have rz1 := hR.frozen 1
  have rz2 := hR.frozen 2
  have rl := hR.lt
  simp at rc0 rc1 rc2
  have fc0 := hF.cell 0
  have fc1 := hF.cell 1
  have fz0 := hF.frozen 0
  have fz1 := hF.frozen 1
  have fl := hF.lt
  simp at fc0 fc1
  unfold flt
  go_wp2_with fail
  go_region
  all_goals
    go_wp2_with fail
    exact bodyPost_ret (v := .tuple #[lsV ⟨0, 0, 0⟩, flt (x, y)]) (by simp [results, Try.results28, go_sem, flt, lsV, rc0, rc1, rc2, rl, fc0, fc1, fl]) rfl ⟨by rw [HE1.out, HE2.out] <;> rfl, by go_grown⟩

set_option maxRecDepth 100000 in
set_option maxHeartbeats 4000000 in
theorem renewed2 (hold ep til who epoch now span : Int) (w : World) (hck : ∀ W, Calls Try.prog 48 #[.agg #[.int .i64 hold, .int .i64 ep, .int .i64 til], .int .i64 who, .int .i64 now, .int .i64 span] W fun e w' => e = .returned (flt (0, 0)) ∧ Below W.heap.size W w') (h1 : hold = who) (h2 : ep ≠ epoch) (e1 : renewL ⟨hold, ep, til⟩ who epoch now span = zeroLs) (e2 : renewF ⟨hold, ep, til⟩ who epoch now span = (6, 0)) :
    Calls Try.prog 28 #[.agg #[.int .i64 hold, .int .i64 ep, .int .i64 til], .int .i64 who, .int .i64 epoch, .int .i64 now, .int .i64 span] w fun e w' => e = .returned (.tuple #[lsV (renewL ⟨hold, ep, til⟩ who epoch now span), flt (renewF ⟨hold, ep, til⟩ who epoch now span)]) ∧ Below w.heap.size w w' := by
  have HCK := hide hck
  have HE1 := hide e1
  have HE2 := hide e2
  clear hck e1 e2
  have hq : (ep == epoch) = false := beq_eq_false_iff_ne.2 h2
  have hq2 : (ep != epoch) = true := by simp [h2]
  subst h1
  clear h2
  go_enter Try.func28, Try.ntmps28
  go_wp2_with fail
  refine (HCK.out _).mono ?_
  rintro e w1 ⟨rfl, hb1⟩
  have hbw1 := (below_alloc3 w (.cells #[.int .i64 hold, .int .i64 ep, .int .i64 til] 47) (.cells #[.int .i64 0, .int .i64 0, .int .i64 0] 47) (.cells #[.int .i64 0, .int .i64 0] 26)).trans (hb1.mono (by simp; omega))
  have hL := (Blk.at0of3 w (.cells #[.int .i64 0, .int .i64 0, .int .i64 0] 47) (.cells #[.int .i64 0, .int .i64 0] 26) 47 #[.int .i64 hold, .int .i64 ep, .int .i64 til]).later hb1
  have hR := (Blk.at1of3 w (.cells #[.int .i64 hold, .int .i64 ep, .int .i64 til] 47) (.cells #[.int .i64 0, .int .i64 0] 26) 47 #[.int .i64 0, .int .i64 0, .int .i64 0]).later hb1
  have hF := (Blk.at2 w (.cells #[.int .i64 hold, .int .i64 ep, .int .i64 til] 47) (.cells #[.int .i64 0, .int .i64 0, .int .i64 0] 47) 26 #[.int .i64 0, .int .i64 0]).later hb1
  clear hb1
  have lc0 := hL.cell 0
  have lc1 := hL.cell 1
  have lc2 := hL.cell 2
  have lz0 := hL.frozen 0
  have lz1 := hL.frozen 1
  have lz2 := hL.frozen 2
  have ll := hL.lt
  simp at lc0 lc1 lc2
  have rc0 := hR.cell 0
  have rc1 := hR.cell 1
  have rc2 := hR.cell 2
  have rz0 := hR.frozen 0
  have rz1 := hR.frozen 1
  have rz2 := hR.frozen 2
  have rl := hR.lt
  simp at rc0 rc1 rc2
  have fc0 := hF.cell 0
  have fc1 := hF.cell 1
  have fz0 := hF.frozen 0
  have fz1 := hF.frozen 1
  have fl := hF.lt
  simp at fc0 fc1
  unfold flt
  have hs1 : w.heap.size + 2 < w1.heap.size := fl
  go_wp2_with fail
  refine (lF_any 6 0 _).mono ?_
  rintro e w2 ⟨rfl, hb2⟩
  have hb12 := (below_allocG w1 (.cells #[.int .i64 0, .int .i64 0] 26)).trans (hb2.mono (by simp))
  have hbw2 := hbw1.trans (hb12.mono hbw1.size)
  have hV := (Blk.new w1 26 #[.int .i64 0, .int .i64 0]).later hb2
  have hLw2 := hL.later hb12
  have hRw2 := hR.later hb12
  have hFw2 := hF.later hb12
  clear lc0 lz0 lc1 lz1 lc2 lz2 rc0 rz0 rc1 rz1 rc2 rz2 fc0 fz0 fc1 fz1 ll rl fl
  have lc0 := hLw2.cell 0
  have lc1 := hLw2.cell 1
  have lc2 := hLw2.cell 2
  have lz0 := hLw2.frozen 0
  have lz1 := hLw2.frozen 1
  have lz2 := hLw2.frozen 2
  have ll := hLw2.lt
  simp at lc0 lc1 lc2
  have rc0 := hRw2.cell 0
  have rc1 := hRw2.cell 1
  have rc2 := hRw2.cell 2
  have rz0 := hRw2.frozen 0
  have rz1 := hRw2.frozen 1
  have rz2 := hRw2.frozen 2
  have rl := hRw2.lt
  simp at rc0 rc1 rc2
  have fc0 := hFw2.cell 0
  have fc1 := hFw2.cell 1
  have fz0 := hFw2.frozen 0
  have fz1 := hFw2.frozen 1
  have fl := hFw2.lt
  simp at fc0 fc1
  have vc0 := hV.cell 0
  have vc1 := hV.cell 1
  have vz0 := hV.frozen 0
  have vz1 := hV.frozen 1
  have vl := hV.lt
  simp at vc0 vc1
  clear hb2 hb12 hbw1 hL hR hF
  unfold flt
  go_wp2_with fail
  go_region
  all_goals
    go_wp2_with fail
    exact bodyPost_ret (v := .tuple #[lsV ⟨0, 0, 0⟩, flt (6, 0)]) (by simp [results, Try.results28, go_sem, flt, lsV, rc0, rc1, rc2, fc0, fc1]) rfl ⟨by rw [HE1.out, HE2.out] <;> rfl, by go_grown⟩

set_option maxRecDepth 100000 in
set_option maxHeartbeats 4000000 in
theorem renewed3 (hold ep til who epoch now span : Int) (w : World) (hck : ∀ W, Calls Try.prog 48 #[.agg #[.int .i64 hold, .int .i64 ep, .int .i64 til], .int .i64 who, .int .i64 now, .int .i64 span] W fun e w' => e = .returned (flt (0, 0)) ∧ Below W.heap.size W w') (h1 : hold ≠ who) (e1 : renewL ⟨hold, ep, til⟩ who epoch now span = zeroLs) (e2 : renewF ⟨hold, ep, til⟩ who epoch now span = (6, 0)) :
    Calls Try.prog 28 #[.agg #[.int .i64 hold, .int .i64 ep, .int .i64 til], .int .i64 who, .int .i64 epoch, .int .i64 now, .int .i64 span] w fun e w' => e = .returned (.tuple #[lsV (renewL ⟨hold, ep, til⟩ who epoch now span), flt (renewF ⟨hold, ep, til⟩ who epoch now span)]) ∧ Below w.heap.size w w' := by
  have HCK := hide hck
  have HE1 := hide e1
  have HE2 := hide e2
  clear hck e1 e2
  have hq : (hold == who) = false := beq_eq_false_iff_ne.2 h1
  have hq2 : (hold != who) = true := by simp [h1]
  clear h1
  go_enter Try.func28, Try.ntmps28
  go_wp2_with fail
  refine (HCK.out _).mono ?_
  rintro e w1 ⟨rfl, hb1⟩
  have hbw1 := (below_alloc3 w (.cells #[.int .i64 hold, .int .i64 ep, .int .i64 til] 47) (.cells #[.int .i64 0, .int .i64 0, .int .i64 0] 47) (.cells #[.int .i64 0, .int .i64 0] 26)).trans (hb1.mono (by simp; omega))
  have hL := (Blk.at0of3 w (.cells #[.int .i64 0, .int .i64 0, .int .i64 0] 47) (.cells #[.int .i64 0, .int .i64 0] 26) 47 #[.int .i64 hold, .int .i64 ep, .int .i64 til]).later hb1
  have hR := (Blk.at1of3 w (.cells #[.int .i64 hold, .int .i64 ep, .int .i64 til] 47) (.cells #[.int .i64 0, .int .i64 0] 26) 47 #[.int .i64 0, .int .i64 0, .int .i64 0]).later hb1
  have hF := (Blk.at2 w (.cells #[.int .i64 hold, .int .i64 ep, .int .i64 til] 47) (.cells #[.int .i64 0, .int .i64 0, .int .i64 0] 47) 26 #[.int .i64 0, .int .i64 0]).later hb1
  clear hb1
  have lc0 := hL.cell 0
  have lc1 := hL.cell 1
  have lc2 := hL.cell 2
  have lz0 := hL.frozen 0
  have lz1 := hL.frozen 1
  have lz2 := hL.frozen 2
  have ll := hL.lt
  simp at lc0 lc1 lc2
  have rc0 := hR.cell 0
  have rc1 := hR.cell 1
  have rc2 := hR.cell 2
  have rz0 := hR.frozen 0
  have rz1 := hR.frozen 1
  have rz2 := hR.frozen 2
  have rl := hR.lt
  simp at rc0 rc1 rc2
  have fc0 := hF.cell 0
  have fc1 := hF.cell 1
  have fz0 := hF.frozen 0
  have fz1 := hF.frozen 1
  have fl := hF.lt
  simp at fc0 fc1
  unfold flt
  have hs1 : w.heap.size + 2 < w1.heap.size := fl
  go_wp2_with fail
  refine (lF_any 6 0 _).mono ?_
  rintro e w2 ⟨rfl, hb2⟩
  have hb12 := (below_allocG w1 (.cells #[.int .i64 0, .int .i64 0] 26)).trans (hb2.mono (by simp))
  have hbw2 := hbw1.trans (hb12.mono hbw1.size)
  have hV := (Blk.new w1 26 #[.int .i64 0, .int .i64 0]).later hb2
  have hLw2 := hL.later hb12
  have hRw2 := hR.later hb12
  have hFw2 := hF.later hb12
  clear lc0 lz0 lc1 lz1 lc2 lz2 rc0 rz0 rc1 rz1 rc2 rz2 fc0 fz0 fc1 fz1 ll rl fl
  have lc0 := hLw2.cell 0
  have lc1 := hLw2.cell 1
  have lc2 := hLw2.cell 2
  have lz0 := hLw2.frozen 0
  have lz1 := hLw2.frozen 1
  have lz2 := hLw2.frozen 2
  have ll := hLw2.lt
  simp at lc0 lc1 lc2
  have rc0 := hRw2.cell 0
  have rc1 := hRw2.cell 1
  have rc2 := hRw2.cell 2
  have rz0 := hRw2.frozen 0
  have rz1 := hRw2.frozen 1
  have rz2 := hRw2.frozen 2
  have rl := hRw2.lt
  simp at rc0 rc1 rc2
  have fc0 := hFw2.cell 0
  have fc1 := hFw2.cell 1
  have fz0 := hFw2.frozen 0
  have fz1 := hFw2.frozen 1
  have fl := hFw2.lt
  simp at fc0 fc1
  have vc0 := hV.cell 0
  have vc1 := hV.cell 1
  have vz0 := hV.frozen 0
  have vz1 := hV.frozen 1
  have vl := hV.lt
  simp at vc0 vc1
  clear hb2 hb12 hbw1 hL hR hF
  unfold flt
  go_wp2_with fail
  go_region
  all_goals
    go_wp2_with fail
    exact bodyPost_ret (v := .tuple #[lsV ⟨0, 0, 0⟩, flt (6, 0)]) (by simp [results, Try.results28, go_sem, flt, lsV, rc0, rc1, rc2, fc0, fc1]) rfl ⟨by rw [HE1.out, HE2.out] <;> rfl, by go_grown⟩

end Go.Proofs.Ytdpjakkijoohnaf
