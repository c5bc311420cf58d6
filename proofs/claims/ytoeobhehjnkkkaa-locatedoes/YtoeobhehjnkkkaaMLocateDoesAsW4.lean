/-
  Texts joined: AsW4.
-/
import Derived.Test.YtoeobhehjnkkkaaMLocateDoesAsW3
/-
  The walk over assign.Check. (Written by as4.py.)
-/
namespace Go.Proofs.Ytoeobhehjnkkkaa
open Go.RowKit Go.Maps
set_option linter.unusedVariables false

theorem nmF_z {b : Bd} (h : (nmF b).1 = 0) : nmF b = (0, 0) := by
  unfold nmF at h ⊢
  split
  · rename_i q; rw [if_pos q] at h; cases h
  · rfl

theorem nmF_tu {b : Bd} (h : (nmF b).1 = 0) : b.tu ≤ 1000000000 := by
  unfold nmF at h
  by_cases q : numB b.tu = false ∨ oneB b.nx = false
  · rw [if_pos q] at h; cases h
  · have : numB b.tu = true := by simpa using fun q2 => q (.inl q2)
    unfold numB at this
    simp only [decide_eq_true_eq] at this
    exact this.2

theorem chkB_def (b : Bd) : chkB b = if (chkH b.hs).1 ≠ 0 then chkH b.hs else if (nmF b).1 ≠ 0 then nmF b else if (chkQ b.sl).1 ≠ 0 then chkQ b.sl else chkSGo b b.sl.length 0 := by
  unfold chkB nmF
  by_cases c : (chkH b.hs).1 ≠ 0
  · rw [if_pos c, if_pos c]
  · rw [if_neg c, if_neg c]
    by_cases q : numB b.tu = false ∨ oneB b.nx = false
    · rw [if_pos q, if_pos q, if_pos (by decide)]
    · rw [if_neg q, if_neg q]
      rfl

set_option maxRecDepth 100000 in
set_option maxHeartbeats 4000000 in
theorem ACheck_any (b : Bd) (hv sv : Value) (w : World) (hh : RdG hoE w hv b.hs) (hs : RdG slE w sv b.sl) (hl : b.sl.length ≤ 1000) (hwp : WfP (parts b.sl)) (hwf : ∀ s ∈ b.sl, (Lit.int .i64 s.ho).wf = true) :
    Calls Try.prog 35 #[bdV hv sv b] w fun e w' => e = .returned (flt (chkB b)) ∧ Below w.heap.size w w' := by
  have HH := hide (fun W (h : Below w.heap.size w W) => hostsByID_any hv b.hs W (hh.below h))
  have HN := hide (fun W (h : Below w.heap.size w W) => numbersFaultA_any b hv sv W (hh.below h) (hs.below h))
  have HP := hide (fun W (h : Below w.heap.size w W) => partsFault_any sv b.sl W (hs.below h) hl hwp)
  have HS := hide (fun B n W (h : Below w.heap.size w W) (hm : MpI W B n (hoM b.hs b.hs.length)) (htu : b.tu ≤ 1000000000) => slotsFault_any B n b hv sv W hm hwf (hh.below h) (hs.below h) hl htu)
  have HD := hide (chkB_def b)
  have HZ1 := hide (fun h => chkH_z (l := b.hs) h)
  have HZ2 := hide (fun h => nmF_z (b := b) h)
  have HZ3 := hide (fun h => chkQ_z (l := b.sl) h)
  have HT := hide (fun h => nmF_tu (b := b) h)
  obtain ⟨ah, ch, rfl, _, _⟩ := hh.shape
  obtain ⟨as_, cs, rfl, _, _⟩ := hs.shape
  obtain ⟨hB, hR, hA⟩ := two_atA w #[.slice ah b.hs.length ch, .slice as_ b.sl.length cs, .int .i64 b.tu, .int .i64 b.nx] #[.int .i64 0, .int .i64 0] 27 30
  have HB0 := hide hB
  have HR0 := hide hR
  have HA0 := hide hA
  generalize chkSGo b b.sl.length 0 = K4 at *
  generalize chkQ b.sl = K3 at *
  generalize nmF b = K2 at *
  generalize chkH b.hs = K1 at *
  obtain ⟨x1, y1⟩ := K1
  obtain ⟨x2, y2⟩ := K2
  obtain ⟨x3, y3⟩ := K3
  obtain ⟨x4, y4⟩ := K4
  clear hh hs hl hwp hwf hB hR hA
  unfold bdV at HN HS
  unfold bdV
  unfold flt at HN HP HS HH
  dsimp only at HD HZ1 HZ2 HZ3 HT
  go_enter Try.func35, Try.ntmps35
  go_upto_region 1 with fail
  generalize hWW : ((w.alloc (.cells #[.slice ah b.hs.length ch, .slice as_ b.sl.length cs, .int .i64 b.tu, .int .i64 b.nx] 27)).alloc (.cells #[.int .i64 0, .int .i64 0] 30)) = W0 at HB0 HR0 HA0 ⊢
  clear hWW
  have b0 := HB0.out.cell 0
  have bl := HB0.out.lt
  simp at b0
  have HH0 := hide (HH.out _ HA0.out)
  clear HH
  go_upto_region 2 with (go_at_call 70; refine HH0.out.mono ?_; rintro e w1 ⟨m, rfl, hb1, hm1⟩; have HB1 := hide hb1; have HM1 := hide hm1; clear hb1 hm1)
  have hbT := below_allocG w1 (.cells #[.int .i64 x1, .int .i64 y1] 30)
  have hbX := HB1.out.trans (hbT.mono HB1.out.size)
  have HR1 := hide (HR0.out.later hbX)
  have HC1 := hide (HB0.out.later hbX)
  have HA1 := hide (HA0.out.trans (hbX.mono HA0.out.size))
  have HT1 := hide (Blk.new w1 30 #[.int .i64 x1, .int .i64 y1])
  generalize hwX : w1.alloc (.cells #[.int .i64 x1, .int .i64 y1] 30) = X1 at HR1 HC1 HA1 HT1 hbT ⊢
  clear HR0 HB0 HA0 HH0 b0 bl hbX
  by_cases h1 : x1 ≠ 0
  · have q1 : (x1 == 0) = false := beq_eq_false_iff_ne.2 h1
    have q2 : (x1 != 0) = true := by simp [h1]
    have HE := hide (HD.out.trans (if_pos h1))
    clear h1 hwX hbT
    go_wp2_with (first
      | (refine wpList_load_blk HT1.out Try.underlying30 rfl Try.sizeFaultA rfl rfl rfl ?_)
      | (refine wpList_store_blk rfl rfl rfl rfl HR1.out rfl Try.sizeFaultA rfl ?_; intro w8 hR8 hg8; have HR8 := hide hR8; have HA8 := hide (below_grownO HA1.out hg8 (fun k hk => by cases hk; omega) HA1.out.size); clear hR8 hg8))
    refine bodyPost_ret (v := .agg #[.int .i64 x1, .int .i64 y1]) (results1_cell Try.results35 rfl (run_loadVar_blk HR8.out Try.underlying30 rfl Try.sizeFaultA)) rfl ?_
    exact ⟨by rw [HE.out]; rfl, HA8.out⟩
  have HD1 := hide (HD.out.trans (if_neg h1))
  obtain rfl : x1 = 0 := Decidable.not_not.1 h1
  obtain rfl : y1 = 0 := by have := HZ1.out rfl; simpa using this
  obtain ⟨rfl, hM⟩ : m = .map (some (W0.heap.size + 1)) ∧ MpI X1 (W0.heap.size + 1) b.hs.length (hoM b.hs b.hs.length) := by
    rcases HM1.out with ⟨_, h⟩ | ⟨h, _, hm⟩
    · exact absurd rfl h
    · exact ⟨h, by rw [← hwX]; exact hm.later (below_allocG _ _)⟩
  have HM := hide hM
  clear h1 HD HZ1 HM1 hM hwX hbT HB1
  have HN1 := hide (HN.out _ HA1.out)
  clear HN
  go_upto_region 5 with (first
    | (refine wpList_load_blk HT1.out Try.underlying30 rfl Try.sizeFaultA rfl rfl rfl ?_)
    | (refine wpList_load_blk HC1.out Try.underlying27 rfl Try.sizeBoard rfl rfl rfl ?_)
    | (go_at_call 71; refine HN1.out.mono ?_; rintro e w2 ⟨rfl, hb2⟩; have HB2 := hide hb2; clear hb2))
  have hbT := below_allocG w2 (.cells #[.int .i64 x2, .int .i64 y2] 30)
  have hbX := HB2.out.trans (hbT.mono HB2.out.size)
  have HR2 := hide (HR1.out.later hbX)
  have HC2 := hide (HC1.out.later hbX)
  have HA2 := hide (HA1.out.trans (hbX.mono HA1.out.size))
  have HT2 := hide (Blk.new w2 30 #[.int .i64 x2, .int .i64 y2])
  have HM2 := hide (HM.out.later hbX)
  generalize hwX : w2.alloc (.cells #[.int .i64 x2, .int .i64 y2] 30) = X2 at HR2 HC2 HA2 HT2 HM2 ⊢
  clear HR1 HC1 HA1 HT1 HM HN1 hbT hbX HB2 hwX
  by_cases h2 : x2 ≠ 0
  · have q1 : (x2 == 0) = false := beq_eq_false_iff_ne.2 h2
    have q2 : (x2 != 0) = true := by simp [h2]
    have HE := hide (HD1.out.trans (if_pos h2))
    clear h2
    go_wp2_with (first
      | (refine wpList_load_blk HT2.out Try.underlying30 rfl Try.sizeFaultA rfl rfl rfl ?_)
      | (refine wpList_store_blk rfl rfl rfl rfl HR2.out rfl Try.sizeFaultA rfl ?_; intro w8 hR8 hg8; have HR8 := hide hR8; have HA8 := hide (below_grownO HA2.out hg8 (fun k hk => by cases hk; omega) HA2.out.size); clear hR8 hg8))
    refine bodyPost_ret (v := .agg #[.int .i64 x2, .int .i64 y2]) (results1_cell Try.results35 rfl (run_loadVar_blk HR8.out Try.underlying30 rfl Try.sizeFaultA)) rfl ?_
    exact ⟨by rw [HE.out]; rfl, HA8.out⟩
  have HD2 := hide (HD1.out.trans (if_neg h2))
  obtain rfl : x2 = 0 := Decidable.not_not.1 h2
  obtain rfl : y2 = 0 := by have := HZ2.out rfl; simpa using this
  have htu := HT.out rfl
  have HTU := hide htu
  clear h2 HD1 HZ2 HT htu
  have HP2 := hide (HP.out _ HA2.out)
  have b1 := HC2.out.cell 1
  have bl := HC2.out.lt
  simp at b1
  clear HP
  go_upto_region 8 with (first
    | (refine wpList_load_blk HT2.out Try.underlying30 rfl Try.sizeFaultA rfl rfl rfl ?_)
    | (go_at_call 72; refine HP2.out.mono ?_; rintro e w3 ⟨rfl, hb3⟩; have HB3 := hide hb3; clear hb3))
  have hbT := below_allocG w3 (.cells #[.int .i64 x3, .int .i64 y3] 30)
  have hbX := HB3.out.trans (hbT.mono HB3.out.size)
  have HR3 := hide (HR2.out.later hbX)
  have HC3 := hide (HC2.out.later hbX)
  have HA3 := hide (HA2.out.trans (hbX.mono HA2.out.size))
  have HT3 := hide (Blk.new w3 30 #[.int .i64 x3, .int .i64 y3])
  have HM3 := hide (HM2.out.later hbX)
  generalize hwX : w3.alloc (.cells #[.int .i64 x3, .int .i64 y3] 30) = X3 at HR3 HC3 HA3 HT3 HM3 ⊢
  clear HR2 HC2 HA2 HT2 HM2 HP2 hbT hbX HB3 hwX b1 bl
  by_cases h3 : x3 ≠ 0
  · have q1 : (x3 == 0) = false := beq_eq_false_iff_ne.2 h3
    have q2 : (x3 != 0) = true := by simp [h3]
    have HE := hide (HD2.out.trans (if_pos h3))
    clear h3
    go_wp2_with (first
      | (refine wpList_load_blk HT3.out Try.underlying30 rfl Try.sizeFaultA rfl rfl rfl ?_)
      | (refine wpList_store_blk rfl rfl rfl rfl HR3.out rfl Try.sizeFaultA rfl ?_; intro w8 hR8 hg8; have HR8 := hide hR8; have HA8 := hide (below_grownO HA3.out hg8 (fun k hk => by cases hk; omega) HA3.out.size); clear hR8 hg8))
    refine bodyPost_ret (v := .agg #[.int .i64 x3, .int .i64 y3]) (results1_cell Try.results35 rfl (run_loadVar_blk HR8.out Try.underlying30 rfl Try.sizeFaultA)) rfl ?_
    exact ⟨by rw [HE.out]; rfl, HA8.out⟩
  have HE := hide (HD2.out.trans (if_neg h3))
  obtain rfl : x3 = 0 := Decidable.not_not.1 h3
  obtain rfl : y3 = 0 := by have := HZ3.out rfl; simpa using this
  have HS3 := hide (HS.out _ _ _ HA3.out HM3.out HTU.out)
  clear h3 HD2 HZ3 HS
  go_wp2_with (first
    | (refine wpList_load_blk HT3.out Try.underlying30 rfl Try.sizeFaultA rfl rfl rfl ?_)
    | (refine wpList_load_blk HC3.out Try.underlying27 rfl Try.sizeBoard rfl rfl rfl ?_)
    | (go_at_call 73; refine HS3.out.mono ?_; rintro e w4 ⟨rfl, hb4⟩; have HR4 := hide (HR3.out.later hb4); have HA4 := hide (HA3.out.trans (hb4.mono HA3.out.size)); clear hb4)
    | (refine wpList_store_blk rfl rfl rfl rfl HR4.out rfl Try.sizeFaultA rfl ?_; intro w8 hR8 hg8; have HR8 := hide hR8; have HA8 := hide (below_grownO HA4.out hg8 (fun k hk => by cases hk; omega) HA4.out.size); clear hR8 hg8))
  refine bodyPost_ret (v := .agg #[.int .i64 x4, .int .i64 y4]) (results1_cell Try.results35 rfl (run_loadVar_blk HR8.out Try.underlying30 rfl Try.sizeFaultA)) rfl ?_
  exact ⟨by rw [HE.out]; rfl, HA8.out⟩

end Go.Proofs.Ytoeobhehjnkkkaa
