/-
  The walk over the document's Renewed: where it is held.
-/
import Derived.Test.YtdpjakkijoohnafLeaseR3
namespace Go.Proofs.Ytdpjakkijoohnaf
open Go.RowKit
set_option linter.unusedVariables false

set_option maxRecDepth 100000 in
set_option maxHeartbeats 4000000 in
theorem renewed4 (hold ep til who epoch now span : Int) (w : World) (hck : ∀ W, Calls Try.prog 48 #[.agg #[.int .i64 hold, .int .i64 ep, .int .i64 til], .int .i64 who, .int .i64 now, .int .i64 span] W fun e w' => e = .returned (flt (0, 0)) ∧ Below W.heap.size W w') (h1 : hold = who) (h2 : ep = epoch) (h3 : til ≤ now) (e1 : renewL ⟨hold, ep, til⟩ who epoch now span = zeroLs) (e2 : renewF ⟨hold, ep, til⟩ who epoch now span = (12, 0)) :
    Calls Try.prog 28 #[.agg #[.int .i64 hold, .int .i64 ep, .int .i64 til], .int .i64 who, .int .i64 epoch, .int .i64 now, .int .i64 span] w fun e w' => e = .returned (.tuple #[lsV (renewL ⟨hold, ep, til⟩ who epoch now span), flt (renewF ⟨hold, ep, til⟩ who epoch now span)]) ∧ Below w.heap.size w w' := by
  have HCK := hide hck
  have HE1 := hide e1
  have HE2 := hide e2
  clear hck e1 e2
  subst h1 h2
  have hd1 : decide (til ≤ now) = true := decide_eq_true h3
  go_enter Try.func28, Try.ntmps28
  go_wp2_with fail
  refine (HCK.out _).mono ?_
  rintro e w1 ⟨rfl, hb1⟩
  have hbw1 := (below_alloc3 w (.cells #[.int .i64 hold, .int .i64 ep, .int .i64 til] 47) (.cells #[.int .i64 0, .int .i64 0, .int .i64 0] 47) (.cells #[.int .i64 0, .int .i64 0] 26)).trans (hb1.mono (by simp; omega))
  have hL := (Blk.at0of3 w (.cells #[.int .i64 0, .int .i64 0, .int .i64 0] 47) (.cells #[.int .i64 0, .int .i64 0] 26) 47 #[.int .i64 hold, .int .i64 ep, .int .i64 til]).later hb1
  have hR := (Blk.at1of3 w (.cells #[.int .i64 hold, .int .i64 ep, .int .i64 til] 47) (.cells #[.int .i64 0, .int .i64 0] 26) 47 #[.int .i64 0, .int .i64 0, .int .i64 0]).later hb1
  have hF := (Blk.at2 w (.cells #[.int .i64 hold, .int .i64 ep, .int .i64 til] 47) (.cells #[.int .i64 0, .int .i64 0, .int .i64 0] 47) 26 #[.int .i64 0, .int .i64 0]).later hb1
  clear hb1
  have lc0 := hL.cell 0
  have lc1 := hL.cell 1
  have lc2 := hL.cell 2
  have lz0 := hL.frozen 0
  have lz1 := hL.frozen 1
  have lz2 := hL.frozen 2
  have ll := hL.lt
  simp at lc0 lc1 lc2
  have rc0 := hR.cell 0
  have rc1 := hR.cell 1
  have rc2 := hR.cell 2
  have rz0 := hR.frozen 0
  have rz1 := hR.frozen 1
  have rz2 := hR.frozen 2
  have rl := hR.lt
  simp at rc0 rc1 rc2
  have fc0 := hF.cell 0
  have fc1 := hF.cell 1
  have fz0 := hF.frozen 0
  have fz1 := hF.frozen 1
  have fl := hF.lt
  simp at fc0 fc1
  unfold flt
  have hs1 : w.heap.size + 2 < w1.heap.size := fl
  go_wp2_with fail
  refine (lF_any 12 0 _).mono ?_
  rintro e w2 ⟨rfl, hb2⟩
  have hb12 := (below_allocG w1 (.cells #[.int .i64 0, .int .i64 0] 26)).trans (hb2.mono (by simp))
  have hbw2 := hbw1.trans (hb12.mono hbw1.size)
  have hV := (Blk.new w1 26 #[.int .i64 0, .int .i64 0]).later hb2
  have hLw2 := hL.later hb12
  have hRw2 := hR.later hb12
  have hFw2 := hF.later hb12
  clear lc0 lz0 lc1 lz1 lc2 lz2 rc0 rz0 rc1 rz1 rc2 rz2 fc0 fz0 fc1 fz1 ll rl fl
  have lc0 := hLw2.cell 0
  have lc1 := hLw2.cell 1
  have lc2 := hLw2.cell 2
  have lz0 := hLw2.frozen 0
  have lz1 := hLw2.frozen 1
  have lz2 := hLw2.frozen 2
  have ll := hLw2.lt
  simp at lc0 lc1 lc2
  have rc0 := hRw2.cell 0
  have rc1 := hRw2.cell 1
  have rc2 := hRw2.cell 2
  have rz0 := hRw2.frozen 0
  have rz1 := hRw2.frozen 1
  have rz2 := hRw2.frozen 2
  have rl := hRw2.lt
  simp at rc0 rc1 rc2
  have fc0 := hFw2.cell 0
  have fc1 := hFw2.cell 1
  have fz0 := hFw2.frozen 0
  have fz1 := hFw2.frozen 1
  have fl := hFw2.lt
  simp at fc0 fc1
  have vc0 := hV.cell 0
  have vc1 := hV.cell 1
  have vz0 := hV.frozen 0
  have vz1 := hV.frozen 1
  have vl := hV.lt
  simp at vc0 vc1
  clear hb2 hb12 hbw1 hL hR hF
  unfold flt
  go_wp2_with fail
  go_region
  all_goals
    go_wp2_with fail
    exact bodyPost_ret (v := .tuple #[lsV ⟨0, 0, 0⟩, flt (12, 0)]) (by simp [results, Try.results28, go_sem, flt, lsV, rc0, rc1, rc2, fc0, fc1]) rfl ⟨by rw [HE1.out, HE2.out] <;> rfl, by go_grown⟩

set_option maxRecDepth 100000 in
set_option maxHeartbeats 4000000 in
theorem renewed5 (hold ep til who epoch now span : Int) (w : World) (hck : ∀ W, Calls Try.prog 48 #[.agg #[.int .i64 hold, .int .i64 ep, .int .i64 til], .int .i64 who, .int .i64 now, .int .i64 span] W fun e w' => e = .returned (flt (0, 0)) ∧ Below W.heap.size W w') (h1 : hold = who) (h2 : ep = epoch) (h3 : ¬ til ≤ now) (hw2 : IntKind.i64.wrap (now + span) = now + span) (h4 : 1000000000 < now + span) (e1 : renewL ⟨hold, ep, til⟩ who epoch now span = zeroLs) (e2 : renewF ⟨hold, ep, til⟩ who epoch now span = (9, 0)) :
    Calls Try.prog 28 #[.agg #[.int .i64 hold, .int .i64 ep, .int .i64 til], .int .i64 who, .int .i64 epoch, .int .i64 now, .int .i64 span] w fun e w' => e = .returned (.tuple #[lsV (renewL ⟨hold, ep, til⟩ who epoch now span), flt (renewF ⟨hold, ep, til⟩ who epoch now span)]) ∧ Below w.heap.size w w' := by
  have HCK := hide hck
  have HE1 := hide e1
  have HE2 := hide e2
  clear hck e1 e2
  subst h1 h2
  have hd1 : decide (til ≤ now) = false := decide_eq_false h3
  go_enter Try.func28, Try.ntmps28
  go_wp2_with fail
  refine (HCK.out _).mono ?_
  rintro e w1 ⟨rfl, hb1⟩
  have hbw1 := (below_alloc3 w (.cells #[.int .i64 hold, .int .i64 ep, .int .i64 til] 47) (.cells #[.int .i64 0, .int .i64 0, .int .i64 0] 47) (.cells #[.int .i64 0, .int .i64 0] 26)).trans (hb1.mono (by simp; omega))
  have hL := (Blk.at0of3 w (.cells #[.int .i64 0, .int .i64 0, .int .i64 0] 47) (.cells #[.int .i64 0, .int .i64 0] 26) 47 #[.int .i64 hold, .int .i64 ep, .int .i64 til]).later hb1
  have hR := (Blk.at1of3 w (.cells #[.int .i64 hold, .int .i64 ep, .int .i64 til] 47) (.cells #[.int .i64 0, .int .i64 0] 26) 47 #[.int .i64 0, .int .i64 0, .int .i64 0]).later hb1
  have hF := (Blk.at2 w (.cells #[.int .i64 hold, .int .i64 ep, .int .i64 til] 47) (.cells #[.int .i64 0, .int .i64 0, .int .i64 0] 47) 26 #[.int .i64 0, .int .i64 0]).later hb1
  clear hb1
  have lc0 := hL.cell 0
  have lc1 := hL.cell 1
  have lc2 := hL.cell 2
  have lz0 := hL.frozen 0
  have lz1 := hL.frozen 1
  have lz2 := hL.frozen 2
  have ll := hL.lt
  simp at lc0 lc1 lc2
  have rc0 := hR.cell 0
  have rc1 := hR.cell 1
  have rc2 := hR.cell 2
  have rz0 := hR.frozen 0
  have rz1 := hR.frozen 1
  have rz2 := hR.frozen 2
  have rl := hR.lt
  simp at rc0 rc1 rc2
  have fc0 := hF.cell 0
  have fc1 := hF.cell 1
  have fz0 := hF.frozen 0
  have fz1 := hF.frozen 1
  have fl := hF.lt
  simp at fc0 fc1
  unfold flt
  have hs1 : w.heap.size + 2 < w1.heap.size := fl
  go_wp2_with fail
  refine (lF_any 9 0 _).mono ?_
  rintro e w2 ⟨rfl, hb2⟩
  have hb12 := (below_allocG w1 (.cells #[.int .i64 0, .int .i64 0] 26)).trans (hb2.mono (by simp))
  have hbw2 := hbw1.trans (hb12.mono hbw1.size)
  have hV := (Blk.new w1 26 #[.int .i64 0, .int .i64 0]).later hb2
  have hLw2 := hL.later hb12
  have hRw2 := hR.later hb12
  have hFw2 := hF.later hb12
  clear lc0 lz0 lc1 lz1 lc2 lz2 rc0 rz0 rc1 rz1 rc2 rz2 fc0 fz0 fc1 fz1 ll rl fl
  have lc0 := hLw2.cell 0
  have lc1 := hLw2.cell 1
  have lc2 := hLw2.cell 2
  have lz0 := hLw2.frozen 0
  have lz1 := hLw2.frozen 1
  have lz2 := hLw2.frozen 2
  have ll := hLw2.lt
  simp at lc0 lc1 lc2
  have rc0 := hRw2.cell 0
  have rc1 := hRw2.cell 1
  have rc2 := hRw2.cell 2
  have rz0 := hRw2.frozen 0
  have rz1 := hRw2.frozen 1
  have rz2 := hRw2.frozen 2
  have rl := hRw2.lt
  simp at rc0 rc1 rc2
  have fc0 := hFw2.cell 0
  have fc1 := hFw2.cell 1
  have fz0 := hFw2.frozen 0
  have fz1 := hFw2.frozen 1
  have fl := hFw2.lt
  simp at fc0 fc1
  have vc0 := hV.cell 0
  have vc1 := hV.cell 1
  have vz0 := hV.frozen 0
  have vz1 := hV.frozen 1
  have vl := hV.lt
  simp at vc0 vc1
  clear hb2 hb12 hbw1 hL hR hF
  unfold flt
  go_wp2_with fail
  go_region
  all_goals
    go_wp2_with fail
    exact bodyPost_ret (v := .tuple #[lsV ⟨0, 0, 0⟩, flt (9, 0)]) (by simp [results, Try.results28, go_sem, flt, lsV, rc0, rc1, rc2, fc0, fc1]) rfl ⟨by rw [HE1.out, HE2.out] <;> rfl, by go_grown⟩

set_option maxRecDepth 100000 in
set_option maxHeartbeats 4000000 in
theorem renewed6 (hold ep til who epoch now span : Int) (w : World) (hck : ∀ W, Calls Try.prog 48 #[.agg #[.int .i64 hold, .int .i64 ep, .int .i64 til], .int .i64 who, .int .i64 now, .int .i64 span] W fun e w' => e = .returned (flt (0, 0)) ∧ Below W.heap.size W w') (h1 : hold = who) (h2 : ep = epoch) (h3 : ¬ til ≤ now) (hw2 : IntKind.i64.wrap (now + span) = now + span) (h4 : ¬ 1000000000 < now + span) (h5 : til < now + span) (e1 : renewL ⟨hold, ep, til⟩ who epoch now span = ⟨hold, ep, now + span⟩) (e2 : renewF ⟨hold, ep, til⟩ who epoch now span = (0, 0)) :
    Calls Try.prog 28 #[.agg #[.int .i64 hold, .int .i64 ep, .int .i64 til], .int .i64 who, .int .i64 epoch, .int .i64 now, .int .i64 span] w fun e w' => e = .returned (.tuple #[lsV (renewL ⟨hold, ep, til⟩ who epoch now span), flt (renewF ⟨hold, ep, til⟩ who epoch now span)]) ∧ Below w.heap.size w w' := by
  have HCK := hide hck
  have HE1 := hide e1
  have HE2 := hide e2
  clear hck e1 e2
  subst h1 h2
  have hd1 : decide (til ≤ now) = false := decide_eq_false h3
  go_enter Try.func28, Try.ntmps28
  go_wp2_with fail
  refine (HCK.out _).mono ?_
  rintro e w1 ⟨rfl, hb1⟩
  have hbw1 := (below_alloc3 w (.cells #[.int .i64 hold, .int .i64 ep, .int .i64 til] 47) (.cells #[.int .i64 0, .int .i64 0, .int .i64 0] 47) (.cells #[.int .i64 0, .int .i64 0] 26)).trans (hb1.mono (by simp; omega))
  have hL := (Blk.at0of3 w (.cells #[.int .i64 0, .int .i64 0, .int .i64 0] 47) (.cells #[.int .i64 0, .int .i64 0] 26) 47 #[.int .i64 hold, .int .i64 ep, .int .i64 til]).later hb1
  have hR := (Blk.at1of3 w (.cells #[.int .i64 hold, .int .i64 ep, .int .i64 til] 47) (.cells #[.int .i64 0, .int .i64 0] 26) 47 #[.int .i64 0, .int .i64 0, .int .i64 0]).later hb1
  have hF := (Blk.at2 w (.cells #[.int .i64 hold, .int .i64 ep, .int .i64 til] 47) (.cells #[.int .i64 0, .int .i64 0, .int .i64 0] 47) 26 #[.int .i64 0, .int .i64 0]).later hb1
  clear hb1
  have lc0 := hL.cell 0
  have lc1 := hL.cell 1
  have lc2 := hL.cell 2
  have lz0 := hL.frozen 0
  have lz1 := hL.frozen 1
  have lz2 := hL.frozen 2
  have ll := hL.lt
  simp at lc0 lc1 lc2
  have rc0 := hR.cell 0
  have rc1 := hR.cell 1
  have rc2 := hR.cell 2
  have rz0 := hR.frozen 0
  have rz1 := hR.frozen 1
  have rz2 := hR.frozen 2
  have rl := hR.lt
  simp at rc0 rc1 rc2
  have fc0 := hF.cell 0
  have fc1 := hF.cell 1
  have fz0 := hF.frozen 0
  have fz1 := hF.frozen 1
  have fl := hF.lt
  simp at fc0 fc1
  unfold flt
  go_upto_region 12 with fail
  have hs1 : w.heap.size + 2 < w1.heap.size := fl
  have hL3 := (hL.set 2 (.int .i64 (now + span))).later (below_allocG _ (.cells #[.int .i64 0, .int .i64 0] 26))
  have hR3 := (hR.other (p := ⟨w.heap.size, 2, none⟩) (by simp) (.int .i64 (now + span))).later (below_allocG _ (.cells #[.int .i64 0, .int .i64 0] 26))
  have hF3 := (hF.other (p := ⟨w.heap.size, 2, none⟩) (by simp) (.int .i64 (now + span))).later (below_allocG _ (.cells #[.int .i64 0, .int .i64 0] 26))
  have hV3 := Blk.new (w1.setCell ⟨w.heap.size, 2, none⟩ (.int .i64 (now + span))) 26 #[.int .i64 0, .int .i64 0]
  rw [show (w1.setCell ⟨w.heap.size, 2, none⟩ (.int .i64 (now + span))).heap.size = w1.heap.size by simp] at hV3
  have hbw3 : Below w.heap.size w ((w1.setCell ⟨w.heap.size, 2, none⟩ (.int .i64 (now + span))).alloc (.cells #[.int .i64 0, .int .i64 0] 26)) := by go_grown
  simp only [List.setIfInBounds_toArray, List.set_cons_succ, List.set_cons_zero] at hL3
  clear hL hR hF hbw1 lc0 lc1 lc2 lz0 lz1 lz2 ll rc0 rc1 rc2 rz0 rz1 rz2 rl fc0 fc1 fz0 fz1 fl
  generalize (w1.setCell ⟨w.heap.size, 2, none⟩ (.int .i64 (now + span))).alloc (.cells #[.int .i64 0, .int .i64 0] 26) = w3 at hL3 hR3 hF3 hV3 hbw3 ⊢
  have lc0 := hL3.cell 0
  have lc1 := hL3.cell 1
  have lc2 := hL3.cell 2
  have lz0 := hL3.frozen 0
  have lz1 := hL3.frozen 1
  have lz2 := hL3.frozen 2
  have ll := hL3.lt
  simp at lc0 lc1 lc2
  have rc0 := hR3.cell 0
  have rc1 := hR3.cell 1
  have rc2 := hR3.cell 2
  have rz0 := hR3.frozen 0
  have rz1 := hR3.frozen 1
  have rz2 := hR3.frozen 2
  have rl := hR3.lt
  simp at rc0 rc1 rc2
  have fc0 := hF3.cell 0
  have fc1 := hF3.cell 1
  have fz0 := hF3.frozen 0
  have fz1 := hF3.frozen 1
  have fl := hF3.lt
  simp at fc0 fc1
  have vc0 := hV3.cell 0
  have vc1 := hV3.cell 1
  have vz0 := hV3.frozen 0
  have vz1 := hV3.frozen 1
  have vl := hV3.lt
  simp at vc0 vc1
  clear hL3 hR3 hF3 hV3
  go_region
  all_goals
    go_wp2_with fail
    exact bodyPost_ret (v := .tuple #[lsV ⟨hold, ep, now + span⟩, flt (0, 0)]) (by simp [results, Try.results28, go_sem, flt, lsV, rc0, rc1, rc2, fc0, fc1]) rfl ⟨by rw [HE1.out, HE2.out] <;> rfl, by go_grown⟩

set_option maxRecDepth 100000 in
set_option maxHeartbeats 4000000 in
theorem renewed7 (hold ep til who epoch now span : Int) (w : World) (hck : ∀ W, Calls Try.prog 48 #[.agg #[.int .i64 hold, .int .i64 ep, .int .i64 til], .int .i64 who, .int .i64 now, .int .i64 span] W fun e w' => e = .returned (flt (0, 0)) ∧ Below W.heap.size W w') (h1 : hold = who) (h2 : ep = epoch) (h3 : ¬ til ≤ now) (hw2 : IntKind.i64.wrap (now + span) = now + span) (h4 : ¬ 1000000000 < now + span) (h5 : ¬ til < now + span) (e1 : renewL ⟨hold, ep, til⟩ who epoch now span = ⟨hold, ep, til⟩) (e2 : renewF ⟨hold, ep, til⟩ who epoch now span = (0, 0)) :
    Calls Try.prog 28 #[.agg #[.int .i64 hold, .int .i64 ep, .int .i64 til], .int .i64 who, .int .i64 epoch, .int .i64 now, .int .i64 span] w fun e w' => e = .returned (.tuple #[lsV (renewL ⟨hold, ep, til⟩ who epoch now span), flt (renewF ⟨hold, ep, til⟩ who epoch now span)]) ∧ Below w.heap.size w w' := by
  have HCK := hide hck
  have HE1 := hide e1
  have HE2 := hide e2
  clear hck e1 e2
  subst h1 h2
  have hd1 : decide (til ≤ now) = false := decide_eq_false h3
  go_enter Try.func28, Try.ntmps28
  go_wp2_with fail
  refine (HCK.out _).mono ?_
  rintro e w1 ⟨rfl, hb1⟩
  have hbw1 := (below_alloc3 w (.cells #[.int .i64 hold, .int .i64 ep, .int .i64 til] 47) (.cells #[.int .i64 0, .int .i64 0, .int .i64 0] 47) (.cells #[.int .i64 0, .int .i64 0] 26)).trans (hb1.mono (by simp; omega))
  have hL := (Blk.at0of3 w (.cells #[.int .i64 0, .int .i64 0, .int .i64 0] 47) (.cells #[.int .i64 0, .int .i64 0] 26) 47 #[.int .i64 hold, .int .i64 ep, .int .i64 til]).later hb1
  have hR := (Blk.at1of3 w (.cells #[.int .i64 hold, .int .i64 ep, .int .i64 til] 47) (.cells #[.int .i64 0, .int .i64 0] 26) 47 #[.int .i64 0, .int .i64 0, .int .i64 0]).later hb1
  have hF := (Blk.at2 w (.cells #[.int .i64 hold, .int .i64 ep, .int .i64 til] 47) (.cells #[.int .i64 0, .int .i64 0, .int .i64 0] 47) 26 #[.int .i64 0, .int .i64 0]).later hb1
  clear hb1
  have lc0 := hL.cell 0
  have lc1 := hL.cell 1
  have lc2 := hL.cell 2
  have lz0 := hL.frozen 0
  have lz1 := hL.frozen 1
  have lz2 := hL.frozen 2
  have ll := hL.lt
  simp at lc0 lc1 lc2
  have rc0 := hR.cell 0
  have rc1 := hR.cell 1
  have rc2 := hR.cell 2
  have rz0 := hR.frozen 0
  have rz1 := hR.frozen 1
  have rz2 := hR.frozen 2
  have rl := hR.lt
  simp at rc0 rc1 rc2
  have fc0 := hF.cell 0
  have fc1 := hF.cell 1
  have fz0 := hF.frozen 0
  have fz1 := hF.frozen 1
  have fl := hF.lt
  simp at fc0 fc1
  unfold flt
  go_wp2_with fail
  go_region
  all_goals
    go_wp2_with fail
    exact bodyPost_ret (v := .tuple #[lsV ⟨hold, ep, til⟩, flt (0, 0)]) (by simp [results, Try.results28, go_sem, flt, lsV, rc0, rc1, rc2, rl, fc0, fc1, fl]) rfl ⟨by rw [HE1.out, HE2.out] <;> rfl, by go_grown⟩

theorem rRenewed_any (l : Ls) (who epoch now span : Int) (w : World) : Calls Try.prog 28 #[lsV l, .int .i64 who, .int .i64 epoch, .int .i64 now, .int .i64 span] w fun e w' => e = .returned (.tuple #[lsV (renewL l who epoch now span), flt (renewF l who epoch now span)]) ∧ Below w.heap.size w w' := by
  have hck := fun W => rWished_any l who now span W
  obtain ⟨hold, ep, til⟩ := l
  by_cases h0 : (wishF ⟨hold, ep, til⟩ who now span).1 ≠ 0
  · obtain ⟨e2, e1⟩ := renewF_bad (ep := epoch) h0
    generalize hS : wishF ⟨hold, ep, til⟩ who now span = S at *
    obtain ⟨x, y⟩ := S
    exact renewed1 hold ep til who epoch now span x y w hck h0 e1 e2
  have hz := Decidable.not_not.1 h0
  obtain ⟨hok, _, h3, h4, h5⟩ := wishF_ok hz
  rw [hok] at hck
  have hD : renewF ⟨hold, ep, til⟩ who epoch now span = if hold ≠ who ∨ ep ≠ epoch then (6, 0) else if til ≤ now then (12, 0) else if 1000000000 < now + span then (9, 0) else (0, 0) := by
    unfold renewF
    rw [if_neg (by rw [hz]; simp)]
  have hL : renewL ⟨hold, ep, til⟩ who epoch now span = if (renewF ⟨hold, ep, til⟩ who epoch now span).1 = 0 then ⟨hold, ep, max til (now + span)⟩ else zeroLs := rfl
  have hw2 : IntKind.i64.wrap (now + span) = now + span := by rw [IntKind.wrap_i64]; omega
  by_cases hh : hold ≠ who ∨ ep ≠ epoch
  · rw [if_pos hh] at hD
    by_cases hq : hold = who
    · exact renewed2 hold ep til who epoch now span w hck hq (hh.resolve_left (fun h => h hq)) (by rw [hL, hD]; rfl) hD
    · exact renewed3 hold ep til who epoch now span w hck hq (by rw [hL, hD]; rfl) hD
  rw [if_neg hh] at hD
  have hq1 : hold = who := by omega
  have hq2 : ep = epoch := by omega
  by_cases g3 : til ≤ now
  · rw [if_pos g3] at hD
    exact renewed4 hold ep til who epoch now span w hck hq1 hq2 g3 (by rw [hL, hD]; rfl) hD
  rw [if_neg g3] at hD
  by_cases g4 : 1000000000 < now + span
  · rw [if_pos g4] at hD
    exact renewed5 hold ep til who epoch now span w hck hq1 hq2 g3 hw2 g4 (by rw [hL, hD]; rfl) hD
  rw [if_neg g4] at hD
  by_cases g5 : til < now + span
  · exact renewed6 hold ep til who epoch now span w hck hq1 hq2 g3 hw2 g4 g5 (by rw [hL, hD, if_pos rfl, show max til (now + span) = now + span by omega]) hD
  · exact renewed7 hold ep til who epoch now span w hck hq1 hq2 g3 hw2 g4 g5 (by rw [hL, hD, if_pos rfl, show max til (now + span) = til by omega]) hD

end Go.Proofs.Ytdpjakkijoohnaf
