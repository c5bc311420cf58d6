/-
  The walks over the court: answer.
-/
import Derived.Test.YtfmoniabpinceafLeaseC4
namespace Go.Proofs.Ytfmoniabpinceaf
open Go.RowKit
set_option linter.unusedVariables false

theorem grantF_ok {l : Ls} {who now span : Int} (h : (grantF l who now span).1 = 0) : grantF l who now span = (0, 0) := by
  unfold grantF at h ⊢
  split at h
  · rename_i q; exact absurd h q
  · rename_i q
    rw [if_neg q]
    split at h
    · cases h
    · rename_i q2
      rw [if_neg q2]
      split at h
      · cases h
      · rename_i q3; rw [if_neg q3]

theorem renewF_ok {l : Ls} {who ep now span : Int} (h : (renewF l who ep now span).1 = 0) : renewF l who ep now span = (0, 0) := by
  unfold renewF at h ⊢
  split at h
  · rename_i q; exact absurd h q
  · rename_i q
    rw [if_neg q]
    split at h
    · cases h
    · rename_i q2
      rw [if_neg q2]
      split at h
      · cases h
      · rename_i q3
        rw [if_neg q3]
        split at h
        · cases h
        · rename_i q4; rw [if_neg q4]

theorem heardF_ok {l : Ls} {w : Ws} {now span : Int} (h : (heardF l w now span).1 = 0) : heardF l w now span = (0, 0) := by
  unfold heardF at h ⊢
  split at h
  · rename_i q; rw [if_pos q]; exact renewF_ok h
  · rename_i q; rw [if_neg q]; exact grantF_ok h

set_option maxRecDepth 100000 in
set_option maxHeartbeats 8000000 in
theorem answer_bad (B : Nat) (span : Int) (c : Ct) (vc vt vw vr : Value) (wh : Ws) (w : World) (h : CtAt w B span c vc vt vw vr) (hsp : 4 ≤ span ∧ span ≤ 1000000) (hwho : 0 ≤ wh.who ∧ wh.who < 8) (hsent : 0 ≤ wh.sent ∧ wh.sent ≤ 900000000) (h0 : 0 ≤ wh.ep) (hf : (heardF c.lease wh c.now span).1 ≠ 0) :
    Calls Try.prog 75 #[.pointer (some ⟨B, 0, none⟩), .agg #[.int .i64 wh.who, .int .i64 wh.sent, .int .i64 wh.ep]] w fun e w' => e = .returned (.int .i64 0) ∧ FrC B vc w w' ∧ CtAt w' B span c vc vt vw vr := by
  have hask := asked_any B span c vc vt vw vr wh (w.alloc (.cells #[.int .i64 wh.who, .int .i64 wh.sent, .int .i64 wh.ep] 105)) (h.below (below_allocG _ _)) hwho h0
  have HT := hide (fun W => trusted_any span W (by omega) hsp.2)
  have hw2 : IntKind.i64.wrap (wh.sent + trustD span) = wh.sent + trustD span := by rw [IntKind.wrap_i64]; unfold trustD; omega
  have HH := hide h
  have HBL := hide h.blk.lt
  generalize hGL : heardL c.lease wh c.now span = GL at *
  generalize hGF : heardF c.lease wh c.now span = GF at *
  obtain ⟨gx, gy⟩ := GF
  have hx : (gx == 0) = false := beq_eq_false_iff_ne.2 hf
  obtain ⟨ga, gb, gc⟩ := GL
  obtain ⟨who, sent, ep⟩ := wh
  simp only at hask hw2 ⊢
  unfold lsV flt at hask
  have HA := hide hask
  clear hask h hf hGL hGF hwho hsent h0 hsp
  go_enter Try.func75, Try.ntmps75
  go_wp2_with fail
  refine HA.out.mono ?_
  rintro e w1 ⟨rfl, hb1⟩
  have hbw1 := (below_allocG w (.cells #[.int .i64 who, .int .i64 sent, .int .i64 ep] 105)).trans (hb1.mono (by simp))
  have hW1 := (Blk.new w 105 #[.int .i64 who, .int .i64 sent, .int .i64 ep]).later hb1
  have hC1 := HH.out.below hbw1
  have HC1 := hide hC1
  have HW1 := hide hW1
  have hs1 : w.heap.size < w1.heap.size := hW1.lt
  have hB1 : B < w.heap.size := HBL.out
  have hz := hbw1.size
  clear hb1 hW1 hC1
  go_wp2_with fail
  go_ret
  exact ⟨rfl, (FrC.later hbw1 (Nat.le_of_lt hB1)).trans (FrC.later (by go_grown) (by omega)), HC1.out.below (by go_grown)⟩

set_option maxRecDepth 100000 in
set_option maxHeartbeats 8000000 in
theorem answer_ok (B : Nat) (span : Int) (c : Ct) (vc vt vw vr : Value) (wh : Ws) (w : World) (h : CtAt w B span c vc vt vw vr) (hsp : 4 ≤ span ∧ span ≤ 1000000) (hwho : 0 ≤ wh.who ∧ wh.who < 8) (hsent : 0 ≤ wh.sent ∧ wh.sent ≤ 900000000) (h0 : 0 ≤ wh.ep) (hf : (heardF c.lease wh c.now span).1 = 0) (hl : c.replies.length < 100) :
    Calls Try.prog 75 #[.pointer (some ⟨B, 0, none⟩), .agg #[.int .i64 wh.who, .int .i64 wh.sent, .int .i64 wh.ep]] w fun e w' => e = .returned (.int .i64 0) ∧ FrC B vc w w' ∧ ∃ v', CtAt w' B span { c with lease := heardL c.lease wh c.now span, replies := c.replies ++ [⟨wh.who, (heardL c.lease wh c.now span).ep, wh.sent + trustD span⟩] } vc vt vw v' := by
  have hask := asked_any B span c vc vt vw vr wh (w.alloc (.cells #[.int .i64 wh.who, .int .i64 wh.sent, .int .i64 wh.ep] 105)) (h.below (below_allocG _ _)) hwho h0
  have HT := hide (fun W => trusted_any span W (by omega) hsp.2)
  have hw2 : IntKind.i64.wrap (wh.sent + trustD span) = wh.sent + trustD span := by rw [IntKind.wrap_i64]; unfold trustD; omega
  have HH := hide h
  have HBL := hide h.blk.lt
  rw [heardF_ok hf] at hask
  have HL := hide hl
  generalize hGL : heardL c.lease wh c.now span = GL at *
  obtain ⟨ga, gb, gc⟩ := GL
  obtain ⟨who, sent, ep⟩ := wh
  simp only at hask hw2 ⊢
  unfold lsV flt at hask
  have HA := hide hask
  clear hask h hf hGL hl hwho hsent h0 hsp
  go_enter Try.func75, Try.ntmps75
  go_wp2_with fail
  refine HA.out.mono ?_
  rintro e w1 ⟨rfl, hb1⟩
  have hbw1 := (below_allocG w (.cells #[.int .i64 who, .int .i64 sent, .int .i64 ep] 105)).trans (hb1.mono (by simp))
  have hW1 := (Blk.new w 105 #[.int .i64 who, .int .i64 sent, .int .i64 ep]).later hb1
  have hC1 := HH.out.below hbw1
  have HC1 := hide hC1
  have HW1 := hide hW1
  have hs1 : w.heap.size < w1.heap.size := hW1.lt
  have hB1 : B < w.heap.size := HBL.out
  obtain ⟨q0, q1, q2, qz0, qz1, qz2, ql⟩ := hW1.three
  have b1 := hC1.blk.cell 1
  have b2 := hC1.blk.cell 2
  have b3 := hC1.blk.cell 3
  have b8 := hC1.blk.cell 8
  have bz1 := hC1.blk.frozen 1
  have bz2 := hC1.blk.frozen 2
  have bz3 := hC1.blk.frozen 3
  have bl := hC1.blk.lt
  simp at b1 b2 b3 b8
  clear hb1 hW1 hC1
  go_upto_region 5 with fail
  have hCL := HC1.out.setLease ⟨ga, gb, gc⟩
  have hsA : ((((w1.setCell ⟨B, 1, none⟩ (.int .i64 ga)).setCell ⟨B, 2, none⟩ (.int .i64 gb)).setCell ⟨B, 3, none⟩ (.int .i64 gc))).heap.size = w1.heap.size := by simp
  have hWL := ((HW1.out.other (p := ⟨B, 1, none⟩) (show w.heap.size ≠ B by omega) (.int .i64 ga)).other (p := ⟨B, 2, none⟩) (show w.heap.size ≠ B by omega) (.int .i64 gb)).other (p := ⟨B, 3, none⟩) (show w.heap.size ≠ B by omega) (.int .i64 gc)
  have hbB : FrC B vc w (((w1.setCell ⟨B, 1, none⟩ (.int .i64 ga)).setCell ⟨B, 2, none⟩ (.int .i64 gb)).setCell ⟨B, 3, none⟩ (.int .i64 gc)) := (FrC.later hbw1 (Nat.le_of_lt hB1)).trans (HC1.out.frLease _ _ _)
  simp only at hCL
  clear q0 q1 q2 qz0 qz1 qz2 ql b1 b2 b3 b8 bz1 bz2 bz3 bl HC1 HW1 hbw1
  generalize ((w1.setCell ⟨B, 1, none⟩ (.int .i64 ga)).setCell ⟨B, 2, none⟩ (.int .i64 gb)).setCell ⟨B, 3, none⟩ (.int .i64 gc) = wL at hCL hsA hWL hbB ⊢
  have hbA := below_alloc2 wL (.cells #[.int .i64 ga, .int .i64 gb, .int .i64 gc] 47) (.cells #[.int .i64 0, .int .i64 0] 26)
  have hLA := Blk.at0of2 wL (.cells #[.int .i64 0, .int .i64 0] 26) 47 #[.int .i64 ga, .int .i64 gb, .int .i64 gc]
  have hszA : ((wL.alloc (.cells #[.int .i64 ga, .int .i64 gb, .int .i64 gc] 47)).alloc (.cells #[.int .i64 0, .int .i64 0] 26)).heap.size = w1.heap.size + 2 := by simp [hsA]
  rw [hsA] at hLA
  have hCA := hCL.below hbA
  have hWA := hWL.later hbA
  have hbBA := hbB.trans (FrC.later hbA (by rw [hsA]; omega))
  clear hCL hWL hbB hbA hsA
  generalize (wL.alloc (.cells #[.int .i64 ga, .int .i64 gb, .int .i64 gc] 47)).alloc (.cells #[.int .i64 0, .int .i64 0] 26) = wA at hCA hWA hLA hszA hbBA ⊢
  obtain ⟨q0, q1, q2, qz0, qz1, qz2, ql⟩ := hWA.three
  obtain ⟨l0, l1, l2, lz0, lz1, lz2, ll⟩ := hLA.three
  have b8 := hCA.blk.cell 8
  have bl := hCA.blk.lt
  simp at b8
  have HKEEP : Hid (∀ W, Below wA.heap.size wA W → W.cell? ⟨w1.heap.size, 1, none⟩ = some (.int .i64 gb) ∧ W.cell? ⟨w.heap.size, 1, none⟩ = some (.int .i64 sent) ∧ W.cell? ⟨B, 8, none⟩ = some (.int .i64 span)) := hide fun W hW => ⟨cell_belowG l1 hW, cell_belowG q1 hW, cell_belowG b8 hW⟩
  have HCA := hide hCA
  have HWA := hide hWA
  have HSZ := hide hszA
  have HBA := hide hbBA
  clear hCA hWA hLA hszA hbBA
  go_region_held3 (fun W => W.cell? ⟨w1.heap.size, 1, none⟩ = some (.int .i64 gb) ∧ W.cell? ⟨w.heap.size, 1, none⟩ = some (.int .i64 sent) ∧ W.cell? ⟨B, 8, none⟩ = some (.int .i64 span)) (exact HKEEP.out _ (by go_grown)) (first
    | (go_at_call 47; refine (HT.out _).mono ?_; rintro e w9 ⟨rfl, rfl⟩))
  all_goals
    clear l0 l1 l2 lz0 lz1 lz2 ll b8 q1 q2 qz0 qz1 qz2 HKEEP
    have hbT := below_allocG wA (.cells #[.int .i64 gb, .int .i64 (sent + trustD span)] 80)
    have hC2 := HCA.out.below hbT
    have HC2 := hide hC2
    have HBT := hide hbT
    have HP := hide (putR_any B 7 116 _ vr c.replies.length (B + 1) c.replies ⟨who, gb, sent + trustD span⟩ (wA.alloc (.cells #[.int .i64 gb, .int .i64 (sent + trustD span)] 80)).drew.drew hC2.blk rfl (by decide) hC2.rp (show B + 1 ≤ (wA.alloc (.cells #[.int .i64 gb, .int .i64 (sent + trustD span)] 80)).heap.size by have := hC2.blk.lt; omega) HL.out)
    clear hC2 hbT
    go_upto_region 6 with fail
    go_region_with (go_at_call 85; refine HP.out.mono ?_; rintro e w9 ⟨v9, rfl, hB9, ho9, hk9⟩)
    all_goals
      go_wp2_with fail
      go_ret
      have hk : Kp2 (wA.alloc (.cells #[.int .i64 gb, .int .i64 (sent + trustD span)] 80)) w9 B vr.ownBlock := ⟨hk9.os, hk9.tape, hk9.output, hk9.size, hk9.block⟩
      exact ⟨rfl, (HBA.out.trans (FrC.later HBT.out (Nat.le_of_lt bl))).trans (HC2.out.keptR hk), v9, HC2.out.reply hB9 ho9 hk⟩

set_option maxRecDepth 100000 in
set_option maxHeartbeats 8000000 in
theorem answer_full (B : Nat) (span : Int) (c : Ct) (vc vt vw vr : Value) (wh : Ws) (w : World) (h : CtAt w B span c vc vt vw vr) (hsp : 4 ≤ span ∧ span ≤ 1000000) (hwho : 0 ≤ wh.who ∧ wh.who < 8) (hsent : 0 ≤ wh.sent ∧ wh.sent ≤ 900000000) (h0 : 0 ≤ wh.ep) (hf : (heardF c.lease wh c.now span).1 = 0) (hl : c.replies.length = 100) :
    Calls Try.prog 75 #[.pointer (some ⟨B, 0, none⟩), .agg #[.int .i64 wh.who, .int .i64 wh.sent, .int .i64 wh.ep]] w fun e w' => e = .returned (.int .i64 9) ∧ FrC B vc w w' := by
  have hask := asked_any B span c vc vt vw vr wh (w.alloc (.cells #[.int .i64 wh.who, .int .i64 wh.sent, .int .i64 wh.ep] 105)) (h.below (below_allocG _ _)) hwho h0
  have HT := hide (fun W => trusted_any span W (by omega) hsp.2)
  have hw2 : IntKind.i64.wrap (wh.sent + trustD span) = wh.sent + trustD span := by rw [IntKind.wrap_i64]; unfold trustD; omega
  have HH := hide h
  have HBL := hide h.blk.lt
  rw [heardF_ok hf] at hask
  have HL := hide hl
  generalize hGL : heardL c.lease wh c.now span = GL at *
  obtain ⟨ga, gb, gc⟩ := GL
  obtain ⟨who, sent, ep⟩ := wh
  simp only at hask hw2 ⊢
  unfold lsV flt at hask
  have HA := hide hask
  clear hask h hf hGL hl hwho hsent h0 hsp
  go_enter Try.func75, Try.ntmps75
  go_wp2_with fail
  refine HA.out.mono ?_
  rintro e w1 ⟨rfl, hb1⟩
  have hbw1 := (below_allocG w (.cells #[.int .i64 who, .int .i64 sent, .int .i64 ep] 105)).trans (hb1.mono (by simp))
  have hW1 := (Blk.new w 105 #[.int .i64 who, .int .i64 sent, .int .i64 ep]).later hb1
  have hC1 := HH.out.below hbw1
  have HC1 := hide hC1
  have HW1 := hide hW1
  have hs1 : w.heap.size < w1.heap.size := hW1.lt
  have hB1 : B < w.heap.size := HBL.out
  obtain ⟨q0, q1, q2, qz0, qz1, qz2, ql⟩ := hW1.three
  have b1 := hC1.blk.cell 1
  have b2 := hC1.blk.cell 2
  have b3 := hC1.blk.cell 3
  have b8 := hC1.blk.cell 8
  have bz1 := hC1.blk.frozen 1
  have bz2 := hC1.blk.frozen 2
  have bz3 := hC1.blk.frozen 3
  have bl := hC1.blk.lt
  simp at b1 b2 b3 b8
  clear hb1 hW1 hC1
  go_upto_region 5 with fail
  have hCL := HC1.out.setLease ⟨ga, gb, gc⟩
  have hsA : ((((w1.setCell ⟨B, 1, none⟩ (.int .i64 ga)).setCell ⟨B, 2, none⟩ (.int .i64 gb)).setCell ⟨B, 3, none⟩ (.int .i64 gc))).heap.size = w1.heap.size := by simp
  have hWL := ((HW1.out.other (p := ⟨B, 1, none⟩) (show w.heap.size ≠ B by omega) (.int .i64 ga)).other (p := ⟨B, 2, none⟩) (show w.heap.size ≠ B by omega) (.int .i64 gb)).other (p := ⟨B, 3, none⟩) (show w.heap.size ≠ B by omega) (.int .i64 gc)
  have hbB : FrC B vc w (((w1.setCell ⟨B, 1, none⟩ (.int .i64 ga)).setCell ⟨B, 2, none⟩ (.int .i64 gb)).setCell ⟨B, 3, none⟩ (.int .i64 gc)) := (FrC.later hbw1 (Nat.le_of_lt hB1)).trans (HC1.out.frLease _ _ _)
  simp only at hCL
  clear q0 q1 q2 qz0 qz1 qz2 ql b1 b2 b3 b8 bz1 bz2 bz3 bl HC1 HW1 hbw1
  generalize ((w1.setCell ⟨B, 1, none⟩ (.int .i64 ga)).setCell ⟨B, 2, none⟩ (.int .i64 gb)).setCell ⟨B, 3, none⟩ (.int .i64 gc) = wL at hCL hsA hWL hbB ⊢
  have hbA := below_alloc2 wL (.cells #[.int .i64 ga, .int .i64 gb, .int .i64 gc] 47) (.cells #[.int .i64 0, .int .i64 0] 26)
  have hLA := Blk.at0of2 wL (.cells #[.int .i64 0, .int .i64 0] 26) 47 #[.int .i64 ga, .int .i64 gb, .int .i64 gc]
  have hszA : ((wL.alloc (.cells #[.int .i64 ga, .int .i64 gb, .int .i64 gc] 47)).alloc (.cells #[.int .i64 0, .int .i64 0] 26)).heap.size = w1.heap.size + 2 := by simp [hsA]
  rw [hsA] at hLA
  have hCA := hCL.below hbA
  have hWA := hWL.later hbA
  have hbBA := hbB.trans (FrC.later hbA (by rw [hsA]; omega))
  clear hCL hWL hbB hbA hsA
  generalize (wL.alloc (.cells #[.int .i64 ga, .int .i64 gb, .int .i64 gc] 47)).alloc (.cells #[.int .i64 0, .int .i64 0] 26) = wA at hCA hWA hLA hszA hbBA ⊢
  obtain ⟨q0, q1, q2, qz0, qz1, qz2, ql⟩ := hWA.three
  obtain ⟨l0, l1, l2, lz0, lz1, lz2, ll⟩ := hLA.three
  have b8 := hCA.blk.cell 8
  have bl := hCA.blk.lt
  simp at b8
  have HKEEP : Hid (∀ W, Below wA.heap.size wA W → W.cell? ⟨w1.heap.size, 1, none⟩ = some (.int .i64 gb) ∧ W.cell? ⟨w.heap.size, 1, none⟩ = some (.int .i64 sent) ∧ W.cell? ⟨B, 8, none⟩ = some (.int .i64 span)) := hide fun W hW => ⟨cell_belowG l1 hW, cell_belowG q1 hW, cell_belowG b8 hW⟩
  have HCA := hide hCA
  have HWA := hide hWA
  have HSZ := hide hszA
  have HBA := hide hbBA
  clear hCA hWA hLA hszA hbBA
  go_region_held3 (fun W => W.cell? ⟨w1.heap.size, 1, none⟩ = some (.int .i64 gb) ∧ W.cell? ⟨w.heap.size, 1, none⟩ = some (.int .i64 sent) ∧ W.cell? ⟨B, 8, none⟩ = some (.int .i64 span)) (exact HKEEP.out _ (by go_grown)) (first
    | (go_at_call 47; refine (HT.out _).mono ?_; rintro e w9 ⟨rfl, rfl⟩))
  all_goals
    clear l0 l1 l2 lz0 lz1 lz2 ll b8 q1 q2 qz0 qz1 qz2 HKEEP
    have hbT := below_allocG wA (.cells #[.int .i64 gb, .int .i64 (sent + trustD span)] 80)
    have hC2 := HCA.out.below hbT
    have HC2 := hide hC2
    have HBT := hide hbT
    obtain ⟨wo9, wc9, hv9⟩ := owns_shapeK hC2.rp
    rw [show ({ c with lease := ⟨ga, gb, gc⟩ } : Ct).replies.length = 100 from HL.out] at hv9
    have HP := hide (putR_full B 7 116 _ wo9 wc9 ⟨who, gb, sent + trustD span⟩ (wA.alloc (.cells #[.int .i64 gb, .int .i64 (sent + trustD span)] 80)).drew.drew hC2.blk (by rw [hv9]; rfl))
    clear hC2 hbT
    go_upto_region 6 with fail
    go_region_with (go_at_call 85; refine HP.out.mono ?_; rintro e w9 ⟨rfl, hb9⟩)
    all_goals
      go_wp2_with fail
      go_ret
      exact ⟨rfl, HBA.out.trans (FrC.later (HBT.out.trans (show Below wA.heap.size (wA.alloc (.cells #[.int .i64 gb, .int .i64 (sent + trustD span)] 80)) w9 from ⟨hb9.os, hb9.tape, hb9.output, hb9.size, fun k hk => hb9.block k (by simp; omega)⟩)) (Nat.le_of_lt bl))⟩

end Go.Proofs.Ytfmoniabpinceaf
