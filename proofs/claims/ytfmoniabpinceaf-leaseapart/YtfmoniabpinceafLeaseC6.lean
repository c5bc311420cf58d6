/-
  The walk over the court's do.
-/
import Derived.Test.YtfmoniabpinceafLeaseC5
namespace Go.Proofs.Ytfmoniabpinceaf
open Go.RowKit
set_option linter.unusedVariables false

/-- What a deed leaves: its code, and the court behind it. -/
def DoneC (B : Nat) (span : Int) (c : Ct) (d : Dd) (vc : Value) (w : World) (e : Ending) (w' : World) : Prop :=
  e = .returned (.int .i64 (stepC c span d)) ∧ FrC B vc w w' ∧ (stepC c span d = 0 → ∃ vt vw vr, CtAt w' B span (doC c span d) vc vt vw vr)

theorem DoneC.much {B : Nat} {span : Int} {c : Ct} {d : Dd} {vc : Value} {w : World} {e : Ending} {w' : World} (hm : mayC c d = 0) (ho : overC (doC c span d) = true) (he : e = .returned (.int .i64 9)) (hb : FrC B vc w w') : DoneC B span c d vc w e w' :=
  ⟨by rw [stepC_much hm ho]; exact he, hb, fun q => by rw [stepC_much hm ho] at q; cases q⟩

theorem DoneC.ok {B : Nat} {span : Int} {c : Ct} {d : Dd} {w : World} {e : Ending} {w' : World} {vc vt vw vr : Value} (hm : mayC c d = 0) (ho : overC (doC c span d) = false) (he : e = .returned (.int .i64 0)) (hb : FrC B vc w w') (hc : CtAt w' B span (doC c span d) vc vt vw vr) : DoneC B span c d vc w e w' :=
  ⟨by rw [stepC_ok hm ho]; exact he, hb, fun _ => ⟨vt, vw, vr, hc⟩⟩

set_option maxRecDepth 100000 in
set_option maxHeartbeats 1000000 in
theorem do_bad (B : Nat) (span : Int) (c : Ct) (vc vt vw vr : Value) (d : Dd) (w : World) (h : CtAt w B span c vc vt vw vr) (hm : mayC c d ≠ 0) :
    Calls Try.prog 64 #[.pointer (some ⟨B, 0, none⟩), .agg #[.int .i64 d.kind, .int .i64 d.who, .int .i64 d.n]] w fun e w' => DoneC B span c d vc w e w' := by
  obtain ⟨k, who, n⟩ := d
  have hcode := codeOf_any B span c vc vt vw vr ⟨k, who, n⟩ (w.alloc (.cells #[.int .i64 k, .int .i64 who, .int .i64 n] 70)) (h.below (below_allocG _ _))
  have HST := hide (stepC_may (span := span) hm)
  have hB0 := h.blk.lt
  have HM := hide hm
  generalize mayC c ⟨k, who, n⟩ = M at *
  have hq : (M == 0) = false := beq_eq_false_iff_ne.2 hm
  have hq2 : (M != 0) = true := by simp [hm]
  simp only at hcode ⊢
  have HCODE := hide hcode
  clear hcode h hm
  go_enter Try.func64, Try.ntmps64
  go_wp2_with fail
  refine HCODE.out.mono ?_
  rintro e w1 ⟨rfl, hb1⟩
  have hbw1 := (below_allocG w (.cells #[.int .i64 k, .int .i64 who, .int .i64 n] 70)).trans (hb1.mono (by simp))
  clear hb1
  go_wp2_with fail
  go_ret
  exact ⟨by rw [HST.out]; rfl, FrC.later hbw1 (Nat.le_of_lt hB0), fun q => absurd (HST.out.symm.trans q) HM.out⟩

set_option maxRecDepth 100000 in
set_option maxHeartbeats 8000000 in
theorem do_0 (B : Nat) (span : Int) (c : Ct) (vc vt vw vr : Value) (who n : Int) (m : Nat) (w : World) (h : CtAt w B span c vc vt vw vr) (hwf : WfC c span m) (hm : mayC c ⟨0, who, n⟩ = 0) :
    Calls Try.prog 64 #[.pointer (some ⟨B, 0, none⟩), .agg #[.int .i64 0, .int .i64 who, .int .i64 n]] w fun e w' => DoneC B span c ⟨0, who, n⟩ vc w e w' := by
  have hcode := codeOf_any B span c vc vt vw vr ⟨0, who, n⟩ (w.alloc (.cells #[.int .i64 0, .int .i64 who, .int .i64 n] 70)) (h.below (below_allocG _ _))
  rw [hm] at hcode
  have HCODE := hide hcode
  have HM := hide hm
  have HWF := hide hwf
  have HH := hide h
  have hB0 := h.blk.lt
  clear hcode h hwf hm
  go_enter Try.func64, Try.ntmps64
  go_wp2_with fail
  refine HCODE.out.mono ?_
  rintro e w1 ⟨rfl, hb1⟩
  have hbw1 := (below_allocG w (.cells #[.int .i64 0, .int .i64 who, .int .i64 n] 70)).trans (hb1.mono (by simp))
  have hD1 := (Blk.new w 70 #[.int .i64 0, .int .i64 who, .int .i64 n]).later hb1
  obtain ⟨d0, d1, d2, dz0, dz1, dz2, dl⟩ := hD1.three
  have hC1 := HH.out.below hbw1
  have HC1 := hide hC1
  have hbB : FrC B vc w w1 := FrC.later hbw1 (Nat.le_of_lt hB0)
  have HBB := hide hbB
  have HBW := hide hbw1
  have bl := hC1.blk.lt
  have HOW := hide (show 0 ≤ n ∧ n ≤ 1000000 from by
    have := HM.out
    rw [mayC_0] at this
    cases q : stepN n
    · rw [q] at this; cases this
    · exact of_decide_eq_true q)
  have hgo := goOn_any B 0 c.now n w1.drew (hC1.blk.cell 0) (hC1.blk.frozen 0) HWF.out.now HOW.out
  by_cases hov : 900000000 < c.now + n
  · rw [show goOnC c.now n = 9 from if_pos hov, show goOnW w1.drew B 0 c.now n = w1.drew from if_pos hov] at hgo
    have HGO := hide hgo
    have HOV := hide (show overC (doC c span ⟨0, who, n⟩) = true from overC_tt (by rw [doC_0]; simp only; omega))
    clear hgo hb1 hD1 hC1 hbw1 hbB
    go_wp2_with fail
    go_region_with (go_at_call 73; refine HGO.out.mono ?_; rintro e w9 ⟨rfl, rfl⟩)
    all_goals
      go_wp2_with fail
      go_ret
      exact .much HM.out HOV.out rfl (HBB.out.trans (FrC.later (by go_grown) (Nat.le_of_lt bl)))
  · rw [show goOnC c.now n = 0 from if_neg hov, show goOnW w1.drew B 0 c.now n = w1.drew.setCell ⟨B, 0, none⟩ (.int .i64 (c.now + n)) from if_neg hov] at hgo
    have HGO := hide hgo
    have HOV := hide (show overC (doC c span ⟨0, who, n⟩) = false from overC_iff.2 (by
      rw [doC_0]
      exact ⟨by simp only; omega, HWF.out.wl, HWF.out.rl, fun x hx => (HWF.out.clk x hx).2⟩))
    clear hgo hb1 hD1 hC1 hbw1 hbB
    go_wp2_with fail
    go_region_with (go_at_call 73; refine HGO.out.mono ?_; rintro e w9 ⟨rfl, rfl⟩)
    all_goals
      go_wp2_with fail
      go_ret
      exact .ok HM.out HOV.out rfl ((HBB.out.trans (HC1.out.frB 0 (.int .i64 (c.now + n)))).trans (FrC.later (by go_grown) (by simp; omega))) ((HC1.out.setNow (c.now + n)).below (by go_grown))

end Go.Proofs.Ytfmoniabpinceaf
