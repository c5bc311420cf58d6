/-
  The walks over the document's answers of leases: Spanned, Wished, Granted.
-/
import Derived.Test.YtdpjakkijoohnafLeaseW3
namespace Go.Proofs.Ytdpjakkijoohnaf
open Go.RowKit
set_option linter.unusedVariables false

set_option maxRecDepth 100000 in
set_option maxHeartbeats 1000000 in
theorem rSpanned_any (span : Int) (w : World) : Calls Try.prog 29 #[.int .i64 span] w fun e w' => e = .returned (flt (spanF span)) ∧ Below w.heap.size w w' := by
  by_cases h0 : 4 ≤ span ∧ span ≤ 1000000
  · have HE : Hid (spanF span = (0, 0)) := hide (by unfold spanF; rw [if_pos h0])
    have h1 : ¬ span < 4 := by omega
    have h2 : ¬ 1000000 < span := by omega
    clear h0
    go_enter Try.func29, Try.ntmps29
    go_wp2_with fail
    exact bodyPost_ret (v := flt (0, 0)) (by simp [results, Try.results29, go_sem, flt]) rfl ⟨by rw [HE.out], by go_grown⟩
  · have HE : Hid (spanF span = (3, -3)) := hide (by unfold spanF; rw [if_neg h0])
    by_cases h1 : span < 4
    · clear h0
      go_enter Try.func29, Try.ntmps29
      go_wp2_with fail
      refine (lF_any 3 (-3) _).mono ?_
      rintro e w1 ⟨rfl, hb1⟩
      have hbw1 := (below_allocG w (.cells #[.int .i64 0, .int .i64 0] 26)).trans (hb1.mono (by simp))
      have hF := (Blk.new w 26 #[.int .i64 0, .int .i64 0]).later hb1
      clear hb1
      have fc0 := hF.cell 0
      have fc1 := hF.cell 1
      have fz0 := hF.frozen 0
      have fz1 := hF.frozen 1
      have fl := hF.lt
      simp at fc0 fc1
      unfold flt
      go_wp2_with fail
      exact bodyPost_ret (v := flt (3, -3)) (by simp [results, Try.results29, go_sem, flt, fc0, fc1]) rfl ⟨by rw [HE.out], by go_grown⟩
    · have h2 : 1000000 < span := by omega
      clear h0
      go_enter Try.func29, Try.ntmps29
      go_wp2_with fail
      refine (lF_any 3 (-3) _).mono ?_
      rintro e w1 ⟨rfl, hb1⟩
      have hbw1 := (below_allocG w (.cells #[.int .i64 0, .int .i64 0] 26)).trans (hb1.mono (by simp))
      have hF := (Blk.new w 26 #[.int .i64 0, .int .i64 0]).later hb1
      clear hb1
      have fc0 := hF.cell 0
      have fc1 := hF.cell 1
      have fz0 := hF.frozen 0
      have fz1 := hF.frozen 1
      have fl := hF.lt
      simp at fc0 fc1
      unfold flt
      go_wp2_with fail
      exact bodyPost_ret (v := flt (3, -3)) (by simp [results, Try.results29, go_sem, flt, fc0, fc1]) rfl ⟨by rw [HE.out], by go_grown⟩

set_option maxRecDepth 100000 in
set_option maxHeartbeats 1000000 in
theorem wished1 (hold ep til who now span : Int) (w : World) (n1 : numL hold = false) (n2 : True) (n3 : True) (n4 : True) (he : wishF ⟨hold, ep, til⟩ who now span = (3, 0)) :
    Calls Try.prog 48 #[.agg #[.int .i64 hold, .int .i64 ep, .int .i64 til], .int .i64 who, .int .i64 now, .int .i64 span] w fun e w' => e = .returned (flt (wishF ⟨hold, ep, til⟩ who now span)) ∧ Below w.heap.size w w' := by
  have HE := hide he
  clear he
  go_enter Try.func48, Try.ntmps48
  go_wp2_with (go_at_call 25; refine (lNum_any _ _).mono ?_; rintro e w' ⟨rfl, rfl⟩; rw [n1])
  refine (lF_any 3 0 _).mono ?_
  rintro e w1 ⟨rfl, hb1⟩
  have hbw1 := (below_alloc2 w (.cells #[.int .i64 hold, .int .i64 ep, .int .i64 til] 47) (.cells #[.int .i64 0, .int .i64 0] 26)).trans (hb1.mono (by simp; omega))
  have hF := (Blk.at1 w (.cells #[.int .i64 hold, .int .i64 ep, .int .i64 til] 47) 26 #[.int .i64 0, .int .i64 0]).later hb1
  have fc0 := hF.cell 0
  have fc1 := hF.cell 1
  have fz0 := hF.frozen 0
  have fz1 := hF.frozen 1
  have fl := hF.lt
  simp at fc0 fc1
  clear hb1
  unfold flt
  go_wp2_with fail
  exact bodyPost_ret (v := flt (3, 0)) (by simp [results, Try.results48, go_sem, flt, fc0, fc1]) rfl ⟨by rw [HE.out], by go_grown⟩

set_option maxRecDepth 100000 in
set_option maxHeartbeats 1000000 in
theorem wished2 (hold ep til who now span : Int) (w : World) (n1 : numL hold = true) (n2 : numL ep = false) (he : wishF ⟨hold, ep, til⟩ who now span = (3, 0)) :
    Calls Try.prog 48 #[.agg #[.int .i64 hold, .int .i64 ep, .int .i64 til], .int .i64 who, .int .i64 now, .int .i64 span] w fun e w' => e = .returned (flt (wishF ⟨hold, ep, til⟩ who now span)) ∧ Below w.heap.size w w' := by
  have HE := hide he
  clear he
  go_enter Try.func48, Try.ntmps48
  go_wp2_with (go_at_call 25; refine (lNum_any _ _).mono ?_; rintro e w' ⟨rfl, rfl⟩; first | rw [n1] | rw [n2])
  refine (lF_any 3 0 _).mono ?_
  rintro e w1 ⟨rfl, hb1⟩
  have hbw1 := (below_alloc2 w (.cells #[.int .i64 hold, .int .i64 ep, .int .i64 til] 47) (.cells #[.int .i64 0, .int .i64 0] 26)).trans (hb1.mono (by simp; omega))
  have hF := (Blk.at1 w (.cells #[.int .i64 hold, .int .i64 ep, .int .i64 til] 47) 26 #[.int .i64 0, .int .i64 0]).later hb1
  have fc0 := hF.cell 0
  have fc1 := hF.cell 1
  have fz0 := hF.frozen 0
  have fz1 := hF.frozen 1
  have fl := hF.lt
  simp at fc0 fc1
  clear hb1
  unfold flt
  go_wp2_with fail
  exact bodyPost_ret (v := flt (3, 0)) (by simp [results, Try.results48, go_sem, flt, fc0, fc1]) rfl ⟨by rw [HE.out], by go_grown⟩

set_option maxRecDepth 100000 in
set_option maxHeartbeats 1000000 in
theorem wished3 (hold ep til who now span : Int) (w : World) (n1 : numL hold = true) (n2 : numL ep = true) (n3 : numL til = false) (he : wishF ⟨hold, ep, til⟩ who now span = (3, 0)) :
    Calls Try.prog 48 #[.agg #[.int .i64 hold, .int .i64 ep, .int .i64 til], .int .i64 who, .int .i64 now, .int .i64 span] w fun e w' => e = .returned (flt (wishF ⟨hold, ep, til⟩ who now span)) ∧ Below w.heap.size w w' := by
  have HE := hide he
  clear he
  go_enter Try.func48, Try.ntmps48
  go_wp2_with (go_at_call 25; refine (lNum_any _ _).mono ?_; rintro e w' ⟨rfl, rfl⟩; first | rw [n1] | rw [n2] | rw [n3])
  refine (lF_any 3 0 _).mono ?_
  rintro e w1 ⟨rfl, hb1⟩
  have hbw1 := (below_alloc2 w (.cells #[.int .i64 hold, .int .i64 ep, .int .i64 til] 47) (.cells #[.int .i64 0, .int .i64 0] 26)).trans (hb1.mono (by simp; omega))
  have hF := (Blk.at1 w (.cells #[.int .i64 hold, .int .i64 ep, .int .i64 til] 47) 26 #[.int .i64 0, .int .i64 0]).later hb1
  have fc0 := hF.cell 0
  have fc1 := hF.cell 1
  have fz0 := hF.frozen 0
  have fz1 := hF.frozen 1
  have fl := hF.lt
  simp at fc0 fc1
  clear hb1
  unfold flt
  go_wp2_with fail
  exact bodyPost_ret (v := flt (3, 0)) (by simp [results, Try.results48, go_sem, flt, fc0, fc1]) rfl ⟨by rw [HE.out], by go_grown⟩

set_option maxRecDepth 100000 in
set_option maxHeartbeats 1000000 in
theorem wished4 (hold ep til who now span : Int) (w : World) (n1 : numL hold = true) (n2 : numL ep = true) (n3 : numL til = true) (h1 : who < 1) (he : wishF ⟨hold, ep, til⟩ who now span = (3, -1)) :
    Calls Try.prog 48 #[.agg #[.int .i64 hold, .int .i64 ep, .int .i64 til], .int .i64 who, .int .i64 now, .int .i64 span] w fun e w' => e = .returned (flt (wishF ⟨hold, ep, til⟩ who now span)) ∧ Below w.heap.size w w' := by
  have HE := hide he
  clear he
  go_enter Try.func48, Try.ntmps48
  go_wp2_with (go_at_call 25; refine (lNum_any _ _).mono ?_; rintro e w' ⟨rfl, rfl⟩; first | rw [n1] | rw [n2] | rw [n3])
  refine (lF_any 3 (-1) _).mono ?_
  rintro e w1 ⟨rfl, hb1⟩
  have hbw1 := (below_alloc2 w (.cells #[.int .i64 hold, .int .i64 ep, .int .i64 til] 47) (.cells #[.int .i64 0, .int .i64 0] 26)).trans (hb1.mono (by simp; omega))
  have hF := (Blk.at1 w (.cells #[.int .i64 hold, .int .i64 ep, .int .i64 til] 47) 26 #[.int .i64 0, .int .i64 0]).later hb1
  have fc0 := hF.cell 0
  have fc1 := hF.cell 1
  have fz0 := hF.frozen 0
  have fz1 := hF.frozen 1
  have fl := hF.lt
  simp at fc0 fc1
  clear hb1
  unfold flt
  go_wp2_with fail
  exact bodyPost_ret (v := flt (3, -1)) (by simp [results, Try.results48, go_sem, flt, fc0, fc1]) rfl ⟨by rw [HE.out], by go_grown⟩

set_option maxRecDepth 100000 in
set_option maxHeartbeats 1000000 in
theorem wished5 (hold ep til who now span : Int) (w : World) (n1 : numL hold = true) (n2 : numL ep = true) (n3 : numL til = true) (h1 : ¬ who < 1) (h2 : 1000000000 < who) (he : wishF ⟨hold, ep, til⟩ who now span = (3, -1)) :
    Calls Try.prog 48 #[.agg #[.int .i64 hold, .int .i64 ep, .int .i64 til], .int .i64 who, .int .i64 now, .int .i64 span] w fun e w' => e = .returned (flt (wishF ⟨hold, ep, til⟩ who now span)) ∧ Below w.heap.size w w' := by
  have HE := hide he
  clear he
  go_enter Try.func48, Try.ntmps48
  go_wp2_with (go_at_call 25; refine (lNum_any _ _).mono ?_; rintro e w' ⟨rfl, rfl⟩; first | rw [n1] | rw [n2] | rw [n3])
  refine (lF_any 3 (-1) _).mono ?_
  rintro e w1 ⟨rfl, hb1⟩
  have hbw1 := (below_alloc2 w (.cells #[.int .i64 hold, .int .i64 ep, .int .i64 til] 47) (.cells #[.int .i64 0, .int .i64 0] 26)).trans (hb1.mono (by simp; omega))
  have hF := (Blk.at1 w (.cells #[.int .i64 hold, .int .i64 ep, .int .i64 til] 47) 26 #[.int .i64 0, .int .i64 0]).later hb1
  have fc0 := hF.cell 0
  have fc1 := hF.cell 1
  have fz0 := hF.frozen 0
  have fz1 := hF.frozen 1
  have fl := hF.lt
  simp at fc0 fc1
  clear hb1
  unfold flt
  go_wp2_with fail
  exact bodyPost_ret (v := flt (3, -1)) (by simp [results, Try.results48, go_sem, flt, fc0, fc1]) rfl ⟨by rw [HE.out], by go_grown⟩

set_option maxRecDepth 100000 in
set_option maxHeartbeats 1000000 in
theorem wished6 (hold ep til who now span : Int) (w : World) (n1 : numL hold = true) (n2 : numL ep = true) (n3 : numL til = true) (h1 : ¬ who < 1) (h2 : ¬ 1000000000 < who) (n4 : numL now = false) (he : wishF ⟨hold, ep, til⟩ who now span = (3, -2)) :
    Calls Try.prog 48 #[.agg #[.int .i64 hold, .int .i64 ep, .int .i64 til], .int .i64 who, .int .i64 now, .int .i64 span] w fun e w' => e = .returned (flt (wishF ⟨hold, ep, til⟩ who now span)) ∧ Below w.heap.size w w' := by
  have HE := hide he
  clear he
  go_enter Try.func48, Try.ntmps48
  go_wp2_with (go_at_call 25; refine (lNum_any _ _).mono ?_; rintro e w' ⟨rfl, rfl⟩; first | rw [n1] | rw [n2] | rw [n3] | rw [n4])
  refine (lF_any 3 (-2) _).mono ?_
  rintro e w1 ⟨rfl, hb1⟩
  have hbw1 := (below_alloc2 w (.cells #[.int .i64 hold, .int .i64 ep, .int .i64 til] 47) (.cells #[.int .i64 0, .int .i64 0] 26)).trans (hb1.mono (by simp; omega))
  have hF := (Blk.at1 w (.cells #[.int .i64 hold, .int .i64 ep, .int .i64 til] 47) 26 #[.int .i64 0, .int .i64 0]).later hb1
  have fc0 := hF.cell 0
  have fc1 := hF.cell 1
  have fz0 := hF.frozen 0
  have fz1 := hF.frozen 1
  have fl := hF.lt
  simp at fc0 fc1
  clear hb1
  unfold flt
  go_wp2_with fail
  exact bodyPost_ret (v := flt (3, -2)) (by simp [results, Try.results48, go_sem, flt, fc0, fc1]) rfl ⟨by rw [HE.out], by go_grown⟩

set_option maxRecDepth 100000 in
set_option maxHeartbeats 1000000 in
theorem wished7 (hold ep til who now span x y : Int) (w : World) (n1 : numL hold = true) (n2 : numL ep = true) (n3 : numL til = true) (h1 : ¬ who < 1) (h2 : ¬ 1000000000 < who) (n4 : numL now = true) (hs : spanF span = (x, y)) (he : wishF ⟨hold, ep, til⟩ who now span = (x, y)) :
    Calls Try.prog 48 #[.agg #[.int .i64 hold, .int .i64 ep, .int .i64 til], .int .i64 who, .int .i64 now, .int .i64 span] w fun e w' => e = .returned (flt (wishF ⟨hold, ep, til⟩ who now span)) ∧ Below w.heap.size w w' := by
  have HE := hide he
  have hsp := fun W => rSpanned_any span W
  rw [hs] at hsp
  have HSP := hide hsp
  clear he hs hsp
  go_enter Try.func48, Try.ntmps48
  go_wp2_with (go_at_call 25; refine (lNum_any _ _).mono ?_; rintro e w' ⟨rfl, rfl⟩; first | rw [n1] | rw [n2] | rw [n3] | rw [n4])
  refine (HSP.out _).mono ?_
  rintro e w1 ⟨rfl, hb1⟩
  have hbw1 := (below_alloc2 w (.cells #[.int .i64 hold, .int .i64 ep, .int .i64 til] 47) (.cells #[.int .i64 0, .int .i64 0] 26)).trans (hb1.mono (by simp; omega))
  have hF := (Blk.at1 w (.cells #[.int .i64 hold, .int .i64 ep, .int .i64 til] 47) 26 #[.int .i64 0, .int .i64 0]).later hb1
  have fc0 := hF.cell 0
  have fc1 := hF.cell 1
  have fz0 := hF.frozen 0
  have fz1 := hF.frozen 1
  have fl := hF.lt
  simp at fc0 fc1
  clear hb1
  unfold flt
  go_wp2_with fail
  exact bodyPost_ret (v := flt (x, y)) (by simp [results, Try.results48, go_sem, flt, fc0, fc1]) rfl ⟨by rw [HE.out], by go_grown⟩

theorem rWished_any (l : Ls) (who now span : Int) (w : World) : Calls Try.prog 48 #[lsV l, .int .i64 who, .int .i64 now, .int .i64 span] w fun e w' => e = .returned (flt (wishF l who now span)) ∧ Below w.heap.size w w' := by
  obtain ⟨hold, ep, til⟩ := l
  have hD : wishF ⟨hold, ep, til⟩ who now span = if ¬ (numL hold = true ∧ numL ep = true ∧ numL til = true) then (3, 0) else if who < 1 ∨ 1000000000 < who then (3, -1) else if numL now = false then (3, -2) else spanF span := by
    unfold wishF lchkF
    by_cases q : numL hold = true ∧ numL ep = true ∧ numL til = true
    · simp only [if_pos q]
      rw [if_neg (not_not_intro q)]
      first | rfl | exact if_neg (by simp)
    · simp only [if_neg q]
      rw [if_pos (by simp), if_pos q]
  cases n1 : numL hold
  · exact wished1 hold ep til who now span w n1 trivial trivial trivial (by rw [hD, if_pos (by simp [n1])])
  cases n2 : numL ep
  · exact wished2 hold ep til who now span w n1 n2 (by rw [hD, if_pos (by simp [n2])])
  cases n3 : numL til
  · exact wished3 hold ep til who now span w n1 n2 n3 (by rw [hD, if_pos (by simp [n3])])
  rw [if_neg (by simp [n1, n2, n3])] at hD
  by_cases h1 : who < 1
  · exact wished4 hold ep til who now span w n1 n2 n3 h1 (by rw [hD, if_pos (.inl h1)])
  by_cases h2 : 1000000000 < who
  · exact wished5 hold ep til who now span w n1 n2 n3 h1 h2 (by rw [hD, if_pos (.inr h2)])
  rw [if_neg (by omega)] at hD
  cases n4 : numL now
  · exact wished6 hold ep til who now span w n1 n2 n3 h1 h2 n4 (by rw [hD, if_pos n4])
  rw [if_neg (by simp [n4])] at hD
  exact wished7 hold ep til who now span (spanF span).1 (spanF span).2 w n1 n2 n3 h1 h2 n4 rfl hD

end Go.Proofs.Ytdpjakkijoohnaf
