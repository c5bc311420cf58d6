/-
  The walk over lease.played, as Play calls it; Play.
-/
import Derived.Test.YtfmoniabpinceafLeaseC11
import Derived.Test.YtfmoniabpinceafLeaseC10
namespace Go.Proofs.Ytfmoniabpinceaf
open Go.RowKit
set_option linter.unusedVariables false

/-- A court's lists lie in new memory. -/
def NewC (B : Nat) (vc vt vw vr : Value) : Prop := New B vc ∧ New B vt ∧ New B vw ∧ New B vr

theorem RdG.ten {α : Type} {K : Nat} {E : En α K} {w : World} {v : Value} {cs : List α} {B R F : Nat} (h : RdG E w v cs) (hn : New (B + 1) v) (hR : R < B) (hF : F < B) (a0 a1 a2 a3 a4 a5 a6 a7 b0 b1 : Value) :
    RdG E ((((((((((w.setCell ⟨R, 0, none⟩ a0).setCell ⟨R, 1, none⟩ a1).setCell ⟨R, 2, none⟩ a2).setCell ⟨R, 3, none⟩ a3).setCell ⟨R, 4, none⟩ a4).setCell ⟨R, 5, none⟩ a5).setCell ⟨R, 6, none⟩ a6).setCell ⟨R, 7, none⟩ a7).setCell ⟨F, 0, none⟩ b0).setCell ⟨F, 1, none⟩ b1) v cs := by
  have r : ∀ {W : World} (k : Nat) (u : Value), RdG E W v cs → RdG E (W.setCell ⟨R, k, none⟩ u) v cs := fun k u q => q.setNew hn (p := ⟨R, k, none⟩) (show R < B + 1 by omega) u
  have f : ∀ {W : World} (k : Nat) (u : Value), RdG E W v cs → RdG E (W.setCell ⟨F, k, none⟩ u) v cs := fun k u q => q.setNew hn (p := ⟨F, k, none⟩) (show F < B + 1 by omega) u
  exact f 1 b1 (f 0 b0 (r 7 a7 (r 6 a6 (r 5 a5 (r 4 a4 (r 3 a3 (r 2 a2 (r 1 a1 (r 0 a0 h)))))))))

theorem CtRd.two8 {w : World} {c : Ct} {vc vt vw vr : Value} {B R F : Nat} (h : CtRd w c vc vt vw vr) (n1 : New (B + 1) vc) (n2 : New (B + 1) vt) (n3 : New (B + 1) vw) (n4 : New (B + 1) vr) (hR : R < B) (hF : F < B) (a0 a1 a2 a3 a4 a5 a6 a7 b0 b1 : Value) :
    CtRd ((((((((((w.setCell ⟨R, 0, none⟩ a0).setCell ⟨R, 1, none⟩ a1).setCell ⟨R, 2, none⟩ a2).setCell ⟨R, 3, none⟩ a3).setCell ⟨R, 4, none⟩ a4).setCell ⟨R, 5, none⟩ a5).setCell ⟨R, 6, none⟩ a6).setCell ⟨R, 7, none⟩ a7).setCell ⟨F, 0, none⟩ b0).setCell ⟨F, 1, none⟩ b1) c vc vt vw vr :=
  ⟨h.1.ten n1 hR hF _ _ _ _ _ _ _ _ _ _, h.2.1.ten n2 hR hF _ _ _ _ _ _ _ _ _ _, h.2.2.1.ten n3 hR hF _ _ _ _ _ _ _ _ _ _, h.2.2.2.ten n4 hR hF _ _ _ _ _ _ _ _ _ _⟩

set_option maxRecDepth 100000 in
theorem play1_any (c : Ct) (vc vt vw vr : Value) (w : World) : Calls Try.prog 50 #[ctV c vc vt vw vr] w fun e w' => e = .returned (.tuple #[]) ∧ Below w.heap.size w w' := by
  unfold ctV
  go_enter Try.func50, Try.ntmps50
  go_wp2_with fail
  refine bodyPost_end (v := .tuple #[]) (by simp [results, Try.results50]) rfl ?_
  exact ⟨rfl, by go_grown⟩

set_option maxRecDepth 100000 in
set_option maxHeartbeats 16000000 in
theorem playedP_ok (span : Int) (n : Nat) (v : Value) (ds : List Dd) (w : World) (hv : RdG ddE w v ds) (hp : (playF span n ds.length).1 = 0) :
    Calls Try.prog 49 #[.int .i64 span, .int .i64 n, v, .func (.func 50) #[] #[]] w fun e w' => ∃ vc vt vw vr, e = .returned (.tuple #[ctV (playC span n ds) vc vt vw vr, flt (playR span n ds)]) ∧ CtRd w' (playC span n ds) vc vt vw vr ∧ NewC w.heap.size vc vt vw vr ∧ Below w.heap.size w w' := by
  obtain ⟨hp0, hsp, hcl, hnd⟩ := playF_ok hp
  have HR : Hid (playR span n ds = badAt span (court0 n) ds 0) := hide (by unfold playR; rw [if_neg (by simp [hp]), Int.toNat_natCast])
  have HPC : Hid (playC span n ds = if (playR span n ds).1 = 0 then runC span n ds ds.length else noCt) := hide rfl
  have hpf := fun W => playFault_any span n ds.length W
  rw [hp0] at hpf
  have HPF := hide hpf
  have hmk1 := mkInts n (by omega)
  have hmk2 := mkTrusts n (by omega)
  have HV := hide hv
  have HWF := hide (WfC.begin hsp (show n ≤ 8 by omega))
  have hn8 : n ≤ 8 := by omega
  obtain ⟨ao, cap, rfl, hc1, hc2⟩ := hv.shape
  unfold maxLen at hc2
  clear hv hpf hp0 hp hcl
  go_enter Try.func49, Try.ntmps49
  go_wp2_with fail
  refine (HPF.out _).mono ?_
  rintro e w1 ⟨rfl, hb1⟩
  have hbw1 := (below_alloc2 w (.cells #[.int .i64 0, .int .i64 0, .int .i64 0, .int .i64 0, .slice none 0 0, .slice none 0 0, .slice none 0 0, .slice none 0 0] 64) (.cells #[.int .i64 0, .int .i64 0] 26)).trans (hb1.mono (by simp; omega))
  have hR1 := (Blk.at0of2 w (.cells #[.int .i64 0, .int .i64 0] 26) 64 #[.int .i64 0, .int .i64 0, .int .i64 0, .int .i64 0, .slice none 0 0, .slice none 0 0, .slice none 0 0, .slice none 0 0]).later hb1
  have hF1 := (Blk.at1 w (.cells #[.int .i64 0, .int .i64 0, .int .i64 0, .int .i64 0, .slice none 0 0, .slice none 0 0, .slice none 0 0, .slice none 0 0] 64) 26 #[.int .i64 0, .int .i64 0]).later hb1
  have hC0 := ct0_at (w1.alloc (.cells #[.int .i64 0, .int .i64 0] 26)) n hn8 span (w1.heap.size + 1) (by simp)
  have hbA := below_alloc3 (w1.alloc (.cells #[.int .i64 0, .int .i64 0] 26)) (.cells #[.int .i64 0, .int .i64 0, .int .i64 0, .int .i64 0, .slice (some ⟨w1.heap.size + 1 + 1, 0, none⟩) n n, .slice (some ⟨w1.heap.size + 1 + 1 + 1, 0, none⟩) n n, .slice none 0 0, .slice none 0 0, .int .i64 span] 116) (.cells (madeCells #[.int .i64 0] n) 3) (.cells (madeCells #[.int .i64 0, .int .i64 0] (n * 2)) 80)
  have hbA1 := (below_allocG w1 (.cells #[.int .i64 0, .int .i64 0] 26)).trans (hbA.mono (by simp))
  have HC0 := hide hC0
  have HBA1 := hide hbA1
  have HR1 := hide hR1
  have HF1 := hide hF1
  have hs1 : w.heap.size + 1 < w1.heap.size := hF1.lt
  clear hb1 hC0 hbA hbA1 hR1 hF1
  unfold flt
  go_wp2_with fail
  refine (play1_any (court0 n) _ _ _ _ _).mono ?_
  rintro e w2 ⟨rfl, hb2⟩
  have hC2 := HC0.out.below hb2
  have hb12 := HBA1.out.trans (hb2.mono HBA1.out.size)
  have hR2 := HR1.out.later hb12
  have hF2 := HF1.out.later hb12
  have hbw2 := hbw1.trans (hb12.mono hbw1.size)
  have HR2 := hide hR2
  have HF2 := hide hF2
  have HBW2 := hide hbw2
  have hs2 : w1.heap.size + 1 < w2.heap.size := hC2.blk.lt
  generalize hB : w1.heap.size + 1 = B at *
  obtain ⟨vc, hvc⟩ : ∃ u, u = Value.slice (some ⟨B + 1, 0, none⟩) n n := ⟨_, rfl⟩
  rw [← hvc] at hC2
  have HC2 := hide hC2
  have hwB : w.heap.size + 1 < B := by omega
  clear hC2 hb2 hb12 HC0 HBA1 HR1 HF1 hR2 hF2 hbw1 hbw2 hB hs1 hvc
  go_wp2_with fail
  go_loopw [41] (fun iv wr => ∃ (j : Nat) (vt vw vr : Value), j ≤ ds.length ∧ iv = .int .i64 j ∧ CtAt wr B span (runC span n ds j) vc vt vw vr ∧ WfC (runC span n ds j) span n ∧ badAt span (runC span n ds j) (ds.drop j) j = badAt span (court0 n) ds 0 ∧ Below B w2 wr)
    (fun iv _ => ds.length - (intOf iv).toNat)
  case atStart => exact ⟨0, _, _, _, by omega, rfl, HC2.out, HWF.out, rfl, Below.refl _ _⟩
  case round =>
    obtain ⟨j, vt, vw, vr, hj, rfl, hCr, hWr, hgo, hbr⟩ := hrel
    have HCR := hide hCr
    have HWR := hide hWr
    have HGO := hide hgo
    have hRr := HR2.out.below hbr (by omega)
    have hFr := HF2.out.below hbr (by omega)
    have hbwr := HBW2.out.trans (hbr.mono (show w.heap.size ≤ B by omega))
    have HRR := hide hRr
    have HFR := hide hFr
    have HBWR := hide hbwr
    have HBR := hide hbr
    have hBr := hCr.blk.lt
    clear hgo hWr
    by_cases hlt : j < ds.length
    · obtain ⟨d, hd⟩ : ∃ d, ds[j]? = some d := ⟨_, List.getElem?_eq_getElem hlt⟩
      obtain ⟨b, off, rfl, hb, hat⟩ := HV.out.here hd
      have q0 := cell_belowG (hat 0 _ rfl) hbwr
      have q1 := cell_belowG (hat 1 _ rfl) hbwr
      have q2 := cell_belowG (hat 2 _ rfl) hbwr
      simp only [Nat.add_zero] at q0
      have hb' : b < wr.heap.size := Nat.lt_of_lt_of_le hb hbwr.size
      have hk1 : (0 : Int) ≤ (j : Int) := by omega
      have hk2 : (j : Int) < (ds.length : Int) := by omega
      rw [drop_consD hd] at HGO
      have HD := hide (runC_get (span := span) (n := n) hd)
      have HDO := hide (do_any B span (runC span n ds j) vc vt vw vr d n (wr.alloc (.cells #[.int .i64 d.kind, .int .i64 d.who, .int .i64 d.n] 70)) (HCR.out.below (below_allocG _ _)) HWR.out)
      have HBL := hide (show B ≤ wr.heap.size by omega)
      obtain ⟨dk, dw, dn⟩ := d
      clear hat hd hCr hRr hFr hbwr hbr
      have hfin : ∀ w3, FrC B vc (wr.alloc (.cells #[.int .i64 dk, .int .i64 dw, .int .i64 dn] 70)) w3 → Below B wr w3 := fun w3 h => ((below_allocG _ _).mono HBL.out).trans h.low
      have HFIN := hide hfin
      clear hfin
      go_wp2_with fail
      refine HDO.out.mono ?_
      rintro e w3 ⟨rfl, hf3, hok3⟩
      have hbB3 := HFIN.out w3 hf3
      have hR3 := HRR.out.below hbB3 (by omega)
      have hF3 := HFR.out.below hbB3 (by omega)
      have hbw3 := HBWR.out.trans (hbB3.mono (show w.heap.size ≤ B by omega))
      have HB23 := hide (HBR.out.trans hbB3)
      have HBW3 := hide hbw3
      clear hf3 hbB3 hbw3 q0 q1 q2
      by_cases hs : stepC (runC span n ds j) span ⟨dk, dw, dn⟩ = 0
      · obtain ⟨vt3, vw3, vr3, hC3⟩ := hok3 hs
        rw [hs]
        have HG2 := hide (HGO.out.symm.trans (badAt_on hs))
        have HW3 := hide (HWR.out.step hs)
        rw [← HD.out] at hC3 HG2 HW3
        have HC3 := hide hC3
        have bc0 := hC3.blk.cell 0
        have bc1 := hC3.blk.cell 1
        have bc2 := hC3.blk.cell 2
        have bc3 := hC3.blk.cell 3
        have bc4 := hC3.blk.cell 4
        have bc5 := hC3.blk.cell 5
        have bc6 := hC3.blk.cell 6
        have bc7 := hC3.blk.cell 7
        have bc8 := hC3.blk.cell 8
        have bl := hC3.blk.lt
        simp at bc0 bc1 bc2 bc3 bc4 bc5 bc6 bc7 bc8
        clear hC3 hR3 hF3 hok3 hs
        go_wp2_with fail
        refine (play1_any (runC span n ds (j + 1)) vc vt3 vw3 vr3 _).mono ?_
        rintro e w4 ⟨rfl, hb4⟩
        have hB3 := HC3.out.blk.lt
        go_wp2_with fail
        go_roundw
        case rel => exact ⟨j + 1, vt3, vw3, vr3, by omega, by go_num, HC3.out.below hb4, HW3.out, HG2.out.symm, HB23.out.trans (hb4.mono (Nat.le_of_lt hB3))⟩
        case measure => simp [intOf]; omega
      · have HE2 := hide (show playR span n ds = (stepC (runC span n ds j) span ⟨dk, dw, dn⟩, (j : Int)) by rw [HR.out, ← HGO.out]; exact badAt_stop hs)
        have HE1 := hide (show playC span n ds = noCt by rw [HPC.out, HE2.out, if_neg hs])
        generalize stepC (runC span n ds j) span ⟨dk, dw, dn⟩ = S at *
        have hq : (S == 0) = false := beq_eq_false_iff_ne.2 hs
        have hq2 : (S != 0) = true := by simp [hs]
        have rc0 := hR3.cell 0
        have rc1 := hR3.cell 1
        have rc2 := hR3.cell 2
        have rc3 := hR3.cell 3
        have rc4 := hR3.cell 4
        have rc5 := hR3.cell 5
        have rc6 := hR3.cell 6
        have rc7 := hR3.cell 7
        have rz0 := hR3.frozen 0
        have rz1 := hR3.frozen 1
        have rz2 := hR3.frozen 2
        have rz3 := hR3.frozen 3
        have rz4 := hR3.frozen 4
        have rz5 := hR3.frozen 5
        have rz6 := hR3.frozen 6
        have rz7 := hR3.frozen 7
        have rl := hR3.lt
        simp at rc0 rc1 rc2 rc3 rc4 rc5 rc6 rc7
        have fc0 := hF3.cell 0
        have fc1 := hF3.cell 1
        have fz0 := hF3.frozen 0
        have fz1 := hF3.frozen 1
        have fl := hF3.lt
        simp at fc0 fc1
        have hsz := HBW3.out.size
        clear hR3 hF3 hok3 hs
        go_wp2_with fail
        exact bodyPost_ret (v := .tuple #[ctV noCt (.slice none 0 0) (.slice none 0 0) (.slice none 0 0) (.slice none 0 0), flt (S, j)]) (by simp [results, Try.results49, go_sem, flt, ctV, noCt, zeroLs, rc0, rc1, rc2, rc3, rc4, rc5, rc6, rc7, fc0, fc1]) rfl ⟨_, _, _, _, by rw [HE1.out, HE2.out], by rw [HE1.out]; exact ⟨RdG.nil _, RdG.nil _, RdG.nil _, RdG.nil _⟩, ⟨New.nil _, New.nil _, New.nil _, New.nil _⟩, HBW3.out.trans (by go_grown)⟩
    · have hje : j = ds.length := by omega
      subst hje
      rw [List.drop_length, badAt] at HGO
      have HE2 := hide (HR.out.trans HGO.out.symm)
      have HE1 := hide (show playC span n ds = runC span n ds ds.length by rw [HPC.out, HE2.out, if_pos rfl])
      obtain ⟨co, cc9, rfl⟩ := owns_shapeK hCr.cl
      obtain ⟨to_, tc9, rfl⟩ := owns_shapeK hCr.tr
      obtain ⟨wo, wc9, rfl⟩ := owns_shapeK hCr.ws
      obtain ⟨ro, rc9, rfl⟩ := owns_shapeK hCr.rp
      have HRD : Hid (CtRd wr (runC span n ds ds.length) _ _ _ _) := hide ⟨RdG.ofOwns hCr.cl, RdG.ofOwns hCr.tr, RdG.ofOwns hCr.ws, RdG.ofOwns hCr.rp⟩
      have HNW := hide (New.owns hCr.cl)
      have HNT := hide (New.owns hCr.tr)
      have HNWS := hide (New.owns hCr.ws)
      have HNR := hide (New.owns hCr.rp)
      have bc0 := hCr.blk.cell 0
      have bc1 := hCr.blk.cell 1
      have bc2 := hCr.blk.cell 2
      have bc3 := hCr.blk.cell 3
      have bc4 := hCr.blk.cell 4
      have bc5 := hCr.blk.cell 5
      have bc6 := hCr.blk.cell 6
      have bc7 := hCr.blk.cell 7
      have bc8 := hCr.blk.cell 8
      have bl := hCr.blk.lt
      simp at bc0 bc1 bc2 bc3 bc4 bc5 bc6 bc7 bc8
      have rc0 := hRr.cell 0
      have rc1 := hRr.cell 1
      have rc2 := hRr.cell 2
      have rc3 := hRr.cell 3
      have rc4 := hRr.cell 4
      have rc5 := hRr.cell 5
      have rc6 := hRr.cell 6
      have rc7 := hRr.cell 7
      have rz0 := hRr.frozen 0
      have rz1 := hRr.frozen 1
      have rz2 := hRr.frozen 2
      have rz3 := hRr.frozen 3
      have rz4 := hRr.frozen 4
      have rz5 := hRr.frozen 5
      have rz6 := hRr.frozen 6
      have rz7 := hRr.frozen 7
      have rl := hRr.lt
      simp at rc0 rc1 rc2 rc3 rc4 rc5 rc6 rc7
      have fc0 := hFr.cell 0
      have fc1 := hFr.cell 1
      have fz0 := hFr.frozen 0
      have fz1 := hFr.frozen 1
      have fl := hFr.lt
      simp at fc0 fc1
      have hRB : w.heap.size ≠ B := by omega
      have hFB : w.heap.size + 1 ≠ B := by omega
      have hsz := hbwr.size
      clear hCr hRr hFr hbwr hbr
      generalize runC span n ds ds.length = C at *
      go_wp2_with fail
      exact bodyPost_ret (v := .tuple #[ctV C (.slice co C.clocks.length cc9) (.slice to_ C.trusts.length tc9) (.slice wo C.wishes.length wc9) (.slice ro C.replies.length rc9), flt (0, 0)]) (by simp [results, Try.results49, go_sem, flt, ctV, rc0, rc1, rc2, rc3, rc4, rc5, rc6, rc7, fc0, fc1]) rfl ⟨_, _, _, _, by rw [HE1.out, HE2.out], by rw [HE1.out]; exact HRD.out.two8 HNW.out HNT.out HNWS.out HNR.out (by omega) (by omega) _ _ _ _ _ _ _ _ _ _, ⟨HNW.out.mono (by omega), HNT.out.mono (by omega), HNWS.out.mono (by omega), HNR.out.mono (by omega)⟩, HBWR.out.trans (by go_grown)⟩

end Go.Proofs.Ytfmoniabpinceaf
