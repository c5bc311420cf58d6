/-
  The walk over lease.played, as Fair calls it. (Written by lf4.py.)
-/
import Derived.Test.YtfmoniabpinceafLeaseC12
import Derived.Test.YtfmoniabpinceafLeaseF3
namespace Go.Proofs.Ytfmoniabpinceaf
open Go.RowKit
set_option linter.unusedVariables false

/-- What lies below B is as it was, but M. -/
structure LowM (B M : Nat) (w w' : World) : Prop where
  os : w'.os = w.os
  tape : w'.tape = w.tape
  output : w'.output = w.output
  size : w.heap.size ≤ w'.heap.size
  block : ∀ k, k < B → k ≠ M → w'.heap[k]? = w.heap[k]?

theorem LowM.refl (B M : Nat) (w : World) : LowM B M w w := ⟨rfl, rfl, rfl, Nat.le_refl _, fun _ _ _ => rfl⟩
theorem LowM.trans {B M : Nat} {a b c : World} (h : LowM B M a b) (k : LowM B M b c) : LowM B M a c :=
  ⟨k.os.trans h.os, k.tape.trans h.tape, k.output.trans h.output, Nat.le_trans h.size k.size, fun j hj hM => (k.block j hj hM).trans (h.block j hj hM)⟩
theorem LowM.ofBelow {B M : Nat} {a b : World} (h : Below B a b) : LowM B M a b := ⟨h.os, h.tape, h.output, h.size, fun j hj _ => h.block j hj⟩
theorem LowM.ofKp {B M : Nat} {o : Option Nat} {a b : World} (h : Kp2 a b M o) (hB : B ≤ a.heap.size) (ho : ∀ k, o = some k → B ≤ k) : LowM B M a b :=
  ⟨h.os, h.tape, h.output, h.size, fun j hj hM => h.block j (by omega) hM (fun q => by have := ho j q.symm; omega)⟩
theorem LowM.below {B M C : Nat} {a b : World} (h : LowM B M a b) (hC : C ≤ M) (hB : C ≤ B) : Below C a b := ⟨h.os, h.tape, h.output, h.size, fun j hj => h.block j (by omega) (by omega)⟩
theorem Blk.lowM {B M C : Nat} {w w' : World} {t : TypeId} {xs : Array Value} (h : Blk w C t xs) (hl : LowM B M w w') (hC : C < B) (hM : C ≠ M) : Blk w' C t xs := by
  unfold Blk
  rw [hl.block C hC hM]
  exact h

/-- A court, while moments are put down. -/
theorem CtAt.mo {w w' : World} {B M base : Nat} {span : Int} {c : Ct} {vc vt vw vr vm : Value} {L : List (Int × List Int)} {ps : List Mo} (h : CtAt w B span c vc vt vw vr) (hm : MoAt w M base vc vm L ps) (hk : Kp2 w w' M vm.ownBlock) (hB : B ≠ M) : CtAt w' B span c vc vt vw vr :=
  ⟨hk.blk h.blk hB (fun q => owns_off hm.row h.blk (by decide) q.symm), hk.owns h.cl (owns_off h.cl hm.blk (by decide)) (owns_ne h.cl hm.row (by decide)), hk.owns h.tr (owns_off h.tr hm.blk (by decide)) (owns_ne h.tr hm.row (by decide)), hk.owns h.ws (owns_off h.ws hm.blk (by decide)) (owns_ne h.ws hm.row (by decide)), hk.owns h.rp (owns_off h.rp hm.blk (by decide)) (owns_ne h.rp hm.row (by decide))⟩

theorem MoAt.set {w : World} {M base : Nat} {vc v : Value} {L : List (Int × List Int)} {ps : List Mo} (h : MoAt w M base vc v L ps) {p : Addr} (hp : p.block < base) (hM : M ≠ p.block) (u : Value) : MoAt (w.setCell p u) M base vc v L ps := by
  have off : ∀ {e : TypeId} {K n : Nat} {x : Value} {xs : List Value}, w.ownsRow base e K x n xs → x.ownBlock ≠ some p.block := fun hx q => by have := (hx.lt _ q).1; omega
  exact ⟨h.blk.other hM u, owns_setOther h.row (off h.row) u, fun i p' m hp' hm => ⟨(h.each i p' m hp' hm).1, owns_setOther (h.each i p' m hp' hm).2.1 (off (h.each i p' m hp' hm).2.1) u, (h.each i p' m hp' hm).2.2⟩⟩

theorem MoAt.ten {w : World} {M base R F : Nat} {vc v : Value} {L : List (Int × List Int)} {ps : List Mo} (h : MoAt w M base vc v L ps) (hR : R < base) (hF : F < base) (hRM : M ≠ R) (hFM : M ≠ F) (a0 a1 a2 a3 a4 a5 a6 a7 b0 b1 : Value) :
    MoAt ((((((((((w.setCell ⟨R, 0, none⟩ a0).setCell ⟨R, 1, none⟩ a1).setCell ⟨R, 2, none⟩ a2).setCell ⟨R, 3, none⟩ a3).setCell ⟨R, 4, none⟩ a4).setCell ⟨R, 5, none⟩ a5).setCell ⟨R, 6, none⟩ a6).setCell ⟨R, 7, none⟩ a7).setCell ⟨F, 0, none⟩ b0).setCell ⟨F, 1, none⟩ b1) M base vc v L ps := by
  have r : ∀ {W : World} (k : Nat) (u : Value), MoAt W M base vc v L ps → MoAt (W.setCell ⟨R, k, none⟩ u) M base vc v L ps := fun k u q => q.set (p := ⟨R, k, none⟩) hR hRM u
  have f : ∀ {W : World} (k : Nat) (u : Value), MoAt W M base vc v L ps → MoAt (W.setCell ⟨F, k, none⟩ u) M base vc v L ps := fun k u q => q.set (p := ⟨F, k, none⟩) hF hFM u
  exact f 1 b1 (f 0 b0 (r 7 a7 (r 6 a6 (r 5 a5 (r 4 a4 (r 3 a3 (r 2 a2 (r 1 a1 (r 0 a0 h)))))))))

/-- A slice. -/
def IsSl (v : Value) : Prop := ∃ ao n c, v = .slice ao n c

theorem momO_0 (span : Int) (n : Nat) (ds : List Dd) : momO span n ds 0 = [((court0 n).now, (court0 n).clocks)] := rfl

set_option maxRecDepth 100000 in
set_option maxHeartbeats 16000000 in
theorem playedF_ok (span : Int) (n : Nat) (v : Value) (ds : List Dd) (M : Nat) (w0 w : World) (hv : RdG ddE w0 v ds) (hb0 : Below w0.heap.size w0 w) (hM0 : w0.heap.size ≤ M) (hMb : Blk w M 96 #[.slice none 0 0]) (hp : (playF span n ds.length).1 = 0) :
    Calls Try.prog 49 #[.int .i64 span, .int .i64 n, v, .func (.func 51) #[] #[.pointer (some ⟨M, 0, none⟩)]] w fun e w' => ∃ vc vt vw vr, e = .returned (.tuple #[ctV (playC span n ds) vc vt vw vr, flt (playR span n ds)]) ∧ LowM w.heap.size M w w' ∧ (IsSl vc ∧ IsSl vt ∧ IsSl vw ∧ IsSl vr) ∧ ((playR span n ds).1 = 0 → ∃ vm ps base, MoAt w' M base vc vm (momO span n ds ds.length) ps) := by
  obtain ⟨hp0, hsp, hcl, hnd⟩ := playF_ok hp
  have HR : Hid (playR span n ds = badAt span (court0 n) ds 0) := hide (by unfold playR; rw [if_neg (by simp [hp]), Int.toNat_natCast])
  have HPC : Hid (playC span n ds = if (playR span n ds).1 = 0 then runC span n ds ds.length else noCt) := hide rfl
  have hpf := fun W => playFault_any span n ds.length W
  rw [hp0] at hpf
  have HPF := hide hpf
  have hmk1 := mkInts n (by omega)
  have hmk2 := mkTrusts n (by omega)
  have HV := hide hv
  have HB0 := hide hb0
  have HMB := hide hMb
  have hMw : M < w.heap.size := hMb.lt
  have HWF := hide (WfC.begin hsp (show n ≤ 8 by omega))
  have hn8 : n ≤ 8 := by omega
  obtain ⟨ao, cap, rfl, hc1, hc2⟩ := hv.shape
  unfold maxLen at hc2
  clear hv hpf hp0 hp hb0 hMb
  go_enter Try.func49, Try.ntmps49
  go_wp2_with fail
  refine (HPF.out _).mono ?_
  rintro e w1 ⟨rfl, hb1⟩
  have hbw1 := (below_alloc2 w (.cells #[.int .i64 0, .int .i64 0, .int .i64 0, .int .i64 0, .slice none 0 0, .slice none 0 0, .slice none 0 0, .slice none 0 0] 64) (.cells #[.int .i64 0, .int .i64 0] 26)).trans (hb1.mono (by simp; omega))
  have hR1 := (Blk.at0of2 w (.cells #[.int .i64 0, .int .i64 0] 26) 64 #[.int .i64 0, .int .i64 0, .int .i64 0, .int .i64 0, .slice none 0 0, .slice none 0 0, .slice none 0 0, .slice none 0 0]).later hb1
  have hF1 := (Blk.at1 w (.cells #[.int .i64 0, .int .i64 0, .int .i64 0, .int .i64 0, .slice none 0 0, .slice none 0 0, .slice none 0 0, .slice none 0 0] 64) 26 #[.int .i64 0, .int .i64 0]).later hb1
  have hC0 := ct0_at (w1.alloc (.cells #[.int .i64 0, .int .i64 0] 26)) n hn8 span (w1.heap.size + 1) (by simp)
  have hbA := below_alloc3 (w1.alloc (.cells #[.int .i64 0, .int .i64 0] 26)) (.cells #[.int .i64 0, .int .i64 0, .int .i64 0, .int .i64 0, .slice (some ⟨w1.heap.size + 1 + 1, 0, none⟩) n n, .slice (some ⟨w1.heap.size + 1 + 1 + 1, 0, none⟩) n n, .slice none 0 0, .slice none 0 0, .int .i64 span] 116) (.cells (madeCells #[.int .i64 0] n) 3) (.cells (madeCells #[.int .i64 0, .int .i64 0] (n * 2)) 80)
  have hbA1 := (below_allocG w1 (.cells #[.int .i64 0, .int .i64 0] 26)).trans (hbA.mono (by simp))
  have HC0 := hide hC0
  have HBA1 := hide hbA1
  have HR1 := hide hR1
  have HF1 := hide hF1
  have hs1 : w.heap.size + 1 < w1.heap.size := hF1.lt
  clear hb1 hC0 hbA hbA1 hR1 hF1
  unfold flt
  go_wp2_with fail
  have hMA := (HMB.out.later hbw1).later HBA1.out
  have hMo0 : MoAt _ M (w1.heap.size + 1 + 1) (.slice (some ⟨w1.heap.size + 1 + 1, 0, none⟩) n n) (.slice none 0 0) [] [] := ⟨hMA, World.ownsRow_nil _ _ _ _, fun i p m hp => by simp at hp⟩
  have hlc : (court0 n).clocks.length = n := by simp [court0]
  have hszA : w1.heap.size + 1 + 1 ≤ (((((w1.alloc (.cells #[.int .i64 0, .int .i64 0] 26)).alloc (.cells #[.int .i64 0, .int .i64 0, .int .i64 0, .int .i64 0, .slice (some ⟨w1.heap.size + 1 + 1, 0, none⟩) n n, .slice (some ⟨w1.heap.size + 1 + 1 + 1, 0, none⟩) n n, .slice none 0 0, .slice none 0 0, .int .i64 span] 116)).alloc (.cells (madeCells #[.int .i64 0] n) 3)).alloc (.cells (madeCells #[.int .i64 0, .int .i64 0] (n * 2)) 80))).heap.size := by simp
  have HLOOK := hide (fair1_any (court0 n) _ (.slice (some ⟨w1.heap.size + 1 + 1 + 1, 0, none⟩) n n) (.slice none 0 0) (.slice none 0 0) _ M (w1.heap.size + 1 + 1) [] [] _ hMo0 (RdG.ofOwns HC0.out.cl) ⟨_, _, by rw [hlc], by simp⟩ (by omega) (by omega) (by simp) hszA)
  have HMO0 := hide hMo0
  clear hMA hMo0 hszA
  refine HLOOK.out.mono ?_
  rintro e w2 ⟨rfl, vm2, ps2, hMo2, hk2⟩
  have hC2 := HC0.out.mo HMO0.out hk2 (by omega)
  have hl2 : LowM w1.heap.size M w1 w2 := (LowM.ofBelow HBA1.out).trans (LowM.ofKp hk2 HBA1.out.size (fun k q => by simp [Value.ownBlock] at q))
  have hR2 := HR1.out.lowM hl2 (by omega) (by omega)
  have hF2 := HF1.out.lowM hl2 (by omega) (by omega)
  have hlw2 : LowM w.heap.size M w w2 := (LowM.ofBelow hbw1).trans ⟨hl2.os, hl2.tape, hl2.output, hl2.size, fun k hk hM => hl2.block k (by omega) hM⟩
  have HR2 := hide hR2
  have HF2 := hide hF2
  have HLW2 := hide hlw2
  have hs2 : w1.heap.size + 1 < w2.heap.size := hC2.blk.lt
  rw [List.nil_append] at hMo2
  have HMO2 := hide hMo2
  generalize hB : w1.heap.size + 1 = B at *
  obtain ⟨vc, hvc⟩ : ∃ u, u = Value.slice (some ⟨B + 1, 0, none⟩) n n := ⟨_, rfl⟩
  rw [← hvc] at hC2 HMO2
  have HVC := hide hvc
  have HC2 := hide hC2
  have hwB : w.heap.size + 1 < B := by omega
  clear hC2 hk2 hMo2 HC0 HBA1 HR1 HF1 hR2 hF2 hbw1 hlw2 hl2 hB hs1 hvc HLOOK HMO0 HMB
  go_wp2_with fail
  go_loopw [41] (fun iv wr => ∃ (j : Nat) (vt vw vr vm : Value) (ps : List Mo), j ≤ ds.length ∧ iv = .int .i64 j ∧ CtAt wr B span (runC span n ds j) vc vt vw vr ∧ WfC (runC span n ds j) span n ∧ badAt span (runC span n ds j) (ds.drop j) j = badAt span (court0 n) ds 0 ∧ MoAt wr M (B + 1) vc vm (momO span n ds j) ps ∧ LowM B M w2 wr)
    (fun iv _ => ds.length - (intOf iv).toNat)
  case atStart => exact ⟨0, _, _, _, _, _, by omega, rfl, HC2.out, HWF.out, rfl, HMO2.out, LowM.refl _ _ _⟩
  case round =>
    obtain ⟨j, vt, vw, vr, vm, ps, hj, rfl, hCr, hWr, hgo, hMr, hlr⟩ := hrel
    have HCR := hide hCr
    have HWR := hide hWr
    have HGO := hide hgo
    have HMR := hide hMr
    have HLR := hide hlr
    have hRr := HR2.out.lowM hlr (by omega) (by omega)
    have hFr := HF2.out.lowM hlr (by omega) (by omega)
    have hlwr : LowM w.heap.size M w wr := HLW2.out.trans ⟨hlr.os, hlr.tape, hlr.output, hlr.size, fun k hk hM => hlr.block k (by omega) hM⟩
    have HRR := hide hRr
    have HFR := hide hFr
    have HLWR := hide hlwr
    have hBr := hCr.blk.lt
    clear hgo hWr
    by_cases hlt : j < ds.length
    · obtain ⟨d, hd⟩ : ∃ d, ds[j]? = some d := ⟨_, List.getElem?_eq_getElem hlt⟩
      obtain ⟨b, off, rfl, hb, hat⟩ := HV.out.here hd
      have hb0r : Below w0.heap.size w0 wr := HB0.out.trans (hlwr.below hM0 (by omega))
      have q0 := cell_belowG (hat 0 _ rfl) hb0r
      have q1 := cell_belowG (hat 1 _ rfl) hb0r
      have q2 := cell_belowG (hat 2 _ rfl) hb0r
      simp only [Nat.add_zero] at q0
      have hb' : b < wr.heap.size := Nat.lt_of_lt_of_le hb hb0r.size
      have hk1 : (0 : Int) ≤ (j : Int) := by omega
      have hk2 : (j : Int) < (ds.length : Int) := by omega
      rw [drop_consD hd] at HGO
      have HD := hide (runC_get (span := span) (n := n) hd)
      have HDO := hide (do_any B span (runC span n ds j) vc vt vw vr d n (wr.alloc (.cells #[.int .i64 d.kind, .int .i64 d.who, .int .i64 d.n] 70)) (HCR.out.below (below_allocG _ _)) HWR.out)
      obtain ⟨dk, dw, dn⟩ := d
      have hfin : ∀ w3, FrC B vc (wr.alloc (.cells #[.int .i64 dk, .int .i64 dw, .int .i64 dn] 70)) w3 → LowM B M wr w3 ∧ MoAt w3 M (B + 1) vc vm (momO span n ds j) ps := fun w3 h => by
        have h1 : FrC B vc wr w3 := (FrC.later (below_allocG _ _) (by omega)).trans h
        exact ⟨LowM.ofBelow h1.low, HMR.out.frC h1 (by omega) (owns_ne HMR.out.row HCR.out.cl (by decide))⟩
      have HFIN := hide hfin
      clear hat hd hCr hRr hFr hlwr hlr hMr hfin hb0r
      go_wp2_with fail
      refine HDO.out.mono ?_
      rintro e w3 ⟨rfl, hf3, hok3⟩
      obtain ⟨hl3, hM3⟩ := HFIN.out w3 hf3
      have hR3 := HRR.out.lowM hl3 (by omega) (by omega)
      have hF3 := HFR.out.lowM hl3 (by omega) (by omega)
      have HL3 := hide (HLR.out.trans hl3)
      have HLW3 : Hid (LowM w.heap.size M w w3) := hide (HLWR.out.trans ⟨hl3.os, hl3.tape, hl3.output, hl3.size, fun k hk hM => hl3.block k (by omega) hM⟩)
      clear hf3 hl3 q0 q1 q2
      by_cases hs : stepC (runC span n ds j) span ⟨dk, dw, dn⟩ = 0
      · obtain ⟨vt3, vw3, vr3, hC3⟩ := hok3 hs
        rw [hs]
        have HG2 := hide (HGO.out.symm.trans (badAt_on hs))
        have HW3 := hide (HWR.out.step hs)
        rw [← HD.out] at hC3 HG2 HW3
        have HC3 := hide hC3
        have HM3 := hide hM3
        have hlen : (momO span n ds j).length ≤ 1000000 := by rw [momO_length]; omega
        have hcl3 : (runC span n ds (j + 1)).clocks.length = n := HW3.out.cl
        have hB3 := HC3.out.blk.lt
        have HLOOK := hide (fair1_any (runC span n ds (j + 1)) vc vt3 vw3 vr3 vm M (B + 1) (momO span n ds j) ps w3 hM3 (RdG.ofOwns hC3.cl) ⟨B + 1, n, by rw [HVC.out, hcl3], (hC3.cl.lt (B + 1) (by rw [HVC.out]; rfl)).2⟩ (by omega) (by omega) hlen (by omega))
        have bc0 := hC3.blk.cell 0
        have bc1 := hC3.blk.cell 1
        have bc2 := hC3.blk.cell 2
        have bc3 := hC3.blk.cell 3
        have bc4 := hC3.blk.cell 4
        have bc5 := hC3.blk.cell 5
        have bc6 := hC3.blk.cell 6
        have bc7 := hC3.blk.cell 7
        have bc8 := hC3.blk.cell 8
        have bl := hC3.blk.lt
        simp at bc0 bc1 bc2 bc3 bc4 bc5 bc6 bc7 bc8
        clear hC3 hM3 hR3 hF3 hok3 hs
        go_wp2_with fail
        refine HLOOK.out.mono ?_
        rintro e w4 ⟨rfl, vm4, ps4, hM4, hk4⟩
        have hC4 := HC3.out.mo HM3.out hk4 (by omega)
        have hl4 : LowM B M w3 w4 := LowM.ofKp hk4 (by omega) (fun k q => by have := (HM3.out.row.lt k q).1; omega)
        rw [← momO_succ] at hM4
        go_wp2_with fail
        go_roundw
        case rel => exact ⟨j + 1, vt3, vw3, vr3, vm4, ps4, by omega, by go_num, hC4, HW3.out, HG2.out.symm, hM4, HL3.out.trans hl4⟩
        case measure => simp [intOf]; omega
      · have HE2 := hide (show playR span n ds = (stepC (runC span n ds j) span ⟨dk, dw, dn⟩, (j : Int)) by rw [HR.out, ← HGO.out]; exact badAt_stop hs)
        have HE1 := hide (show playC span n ds = noCt by rw [HPC.out, HE2.out, if_neg hs])
        generalize stepC (runC span n ds j) span ⟨dk, dw, dn⟩ = S at *
        have hq : (S == 0) = false := beq_eq_false_iff_ne.2 hs
        have hq2 : (S != 0) = true := by simp [hs]
        have HNS := hide hs
        have rc0 := hR3.cell 0
        have rc1 := hR3.cell 1
        have rc2 := hR3.cell 2
        have rc3 := hR3.cell 3
        have rc4 := hR3.cell 4
        have rc5 := hR3.cell 5
        have rc6 := hR3.cell 6
        have rc7 := hR3.cell 7
        have rz0 := hR3.frozen 0
        have rz1 := hR3.frozen 1
        have rz2 := hR3.frozen 2
        have rz3 := hR3.frozen 3
        have rz4 := hR3.frozen 4
        have rz5 := hR3.frozen 5
        have rz6 := hR3.frozen 6
        have rz7 := hR3.frozen 7
        have rl := hR3.lt
        simp at rc0 rc1 rc2 rc3 rc4 rc5 rc6 rc7
        have fc0 := hF3.cell 0
        have fc1 := hF3.cell 1
        have fz0 := hF3.frozen 0
        have fz1 := hF3.frozen 1
        have fl := hF3.lt
        simp at fc0 fc1
        have hsz := HLW3.out.size
        clear hR3 hF3 hok3 hs hM3
        go_wp2_with fail
        exact bodyPost_ret (v := .tuple #[ctV noCt (.slice none 0 0) (.slice none 0 0) (.slice none 0 0) (.slice none 0 0), flt (S, j)]) (by simp [results, Try.results49, go_sem, flt, ctV, noCt, zeroLs, rc0, rc1, rc2, rc3, rc4, rc5, rc6, rc7, fc0, fc1]) rfl ⟨_, _, _, _, by rw [HE1.out, HE2.out], HLW3.out.trans (LowM.ofBelow (by go_grown)), ⟨⟨_, _, _, rfl⟩, ⟨_, _, _, rfl⟩, ⟨_, _, _, rfl⟩, ⟨_, _, _, rfl⟩⟩, fun q => absurd (by rw [HE2.out] at q; exact q) HNS.out⟩
    · have hje : j = ds.length := by omega
      subst hje
      rw [List.drop_length, badAt] at HGO
      have HE2 := hide (HR.out.trans HGO.out.symm)
      have HE1 := hide (show playC span n ds = runC span n ds ds.length by rw [HPC.out, HE2.out, if_pos rfl])
      have HCL := hide HWR.out.cl
      obtain ⟨co, cc9, hco⟩ := owns_shapeK hCr.cl
      obtain ⟨to_, tc9, rfl⟩ := owns_shapeK hCr.tr
      obtain ⟨wo, wc9, rfl⟩ := owns_shapeK hCr.ws
      obtain ⟨ro, rc9, rfl⟩ := owns_shapeK hCr.rp
      subst hco
      have bc0 := hCr.blk.cell 0
      have bc1 := hCr.blk.cell 1
      have bc2 := hCr.blk.cell 2
      have bc3 := hCr.blk.cell 3
      have bc4 := hCr.blk.cell 4
      have bc5 := hCr.blk.cell 5
      have bc6 := hCr.blk.cell 6
      have bc7 := hCr.blk.cell 7
      have bc8 := hCr.blk.cell 8
      have bl := hCr.blk.lt
      simp at bc0 bc1 bc2 bc3 bc4 bc5 bc6 bc7 bc8
      have rc0 := hRr.cell 0
      have rc1 := hRr.cell 1
      have rc2 := hRr.cell 2
      have rc3 := hRr.cell 3
      have rc4 := hRr.cell 4
      have rc5 := hRr.cell 5
      have rc6 := hRr.cell 6
      have rc7 := hRr.cell 7
      have rz0 := hRr.frozen 0
      have rz1 := hRr.frozen 1
      have rz2 := hRr.frozen 2
      have rz3 := hRr.frozen 3
      have rz4 := hRr.frozen 4
      have rz5 := hRr.frozen 5
      have rz6 := hRr.frozen 6
      have rz7 := hRr.frozen 7
      have rl := hRr.lt
      simp at rc0 rc1 rc2 rc3 rc4 rc5 rc6 rc7
      have fc0 := hFr.cell 0
      have fc1 := hFr.cell 1
      have fz0 := hFr.frozen 0
      have fz1 := hFr.frozen 1
      have fl := hFr.lt
      simp at fc0 fc1
      have hRB : w.heap.size ≠ B := by omega
      have hFB : w.heap.size + 1 ≠ B := by omega
      have hsz := hlwr.size
      clear hCr hRr hFr hlwr hlr hMr
      generalize runC span n ds ds.length = C at *
      go_wp2_with fail
      exact bodyPost_ret (v := .tuple #[ctV C (.slice co C.clocks.length cc9) (.slice to_ C.trusts.length tc9) (.slice wo C.wishes.length wc9) (.slice ro C.replies.length rc9), flt (0, 0)]) (by simp [results, Try.results49, go_sem, flt, ctV, rc0, rc1, rc2, rc3, rc4, rc5, rc6, rc7, fc0, fc1]) rfl ⟨_, _, _, _, by rw [HE1.out, HE2.out], HLWR.out.trans (LowM.ofBelow (by go_grown)), ⟨⟨_, _, _, rfl⟩, ⟨_, _, _, rfl⟩, ⟨_, _, _, rfl⟩, ⟨_, _, _, rfl⟩⟩, fun _ => ⟨_, _, _, HMR.out.ten (by omega) (by omega) (by omega) (by omega) _ _ _ _ _ _ _ _ _ _⟩⟩


end Go.Proofs.Ytfmoniabpinceaf
