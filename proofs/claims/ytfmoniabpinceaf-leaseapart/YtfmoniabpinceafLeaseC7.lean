/-
  The walk over the court's do: clocks, wishes that are sent, trust that is forgotten.
-/
import Derived.Test.YtfmoniabpinceafLeaseC6
namespace Go.Proofs.Ytfmoniabpinceaf
open Go.RowKit
set_option linter.unusedVariables false

theorem lget_at {α : Type} {l : List α} {i : Nat} {x d : α} (h : l[i]? = some x) : lget l (i : Int) d = x := by
  unfold lget
  rw [Int.toNat_natCast, List.getD_eq_getElem?_getD, h]
  rfl

theorem lset_at {α : Type} (l : List α) (i : Nat) (x : α) : lset l (i : Int) x = l.set i x := by unfold lset; rw [Int.toNat_natCast]

theorem ldel_at {α : Type} (l : List α) (i : Nat) : ldel l (i : Int) = l.eraseIdx i := by unfold ldel; rw [Int.toNat_natCast]

set_option maxRecDepth 100000 in
set_option maxHeartbeats 8000000 in
theorem do_1 (B : Nat) (span : Int) (c : Ct) (vc vt vw vr : Value) (i : Nat) (x n : Int) (m : Nat) (w : World) (h : CtAt w B span c vc vt vw vr) (hwf : WfC c span m) (hm : mayC c ⟨1, i, n⟩ = 0) (hx : c.clocks[i]? = some x) :
    Calls Try.prog 64 #[.pointer (some ⟨B, 0, none⟩), .agg #[.int .i64 1, .int .i64 i, .int .i64 n]] w fun e w' => DoneC B span c ⟨1, i, n⟩ vc w e w' := by
  have hcode := codeOf_any B span c vc vt vw vr ⟨1, i, n⟩ (w.alloc (.cells #[.int .i64 1, .int .i64 i, .int .i64 n] 70)) (h.below (below_allocG _ _))
  rw [hm] at hcode
  have HCODE := hide hcode
  have HM := hide hm
  have HWF := hide hwf
  have HH := hide h
  have hB0 := h.blk.lt
  clear hcode h hwf hm
  go_enter Try.func64, Try.ntmps64
  go_wp2_with fail
  refine HCODE.out.mono ?_
  rintro e w1 ⟨rfl, hb1⟩
  have hbw1 := (below_allocG w (.cells #[.int .i64 1, .int .i64 i, .int .i64 n] 70)).trans (hb1.mono (by simp))
  have hD1 := (Blk.new w 70 #[.int .i64 1, .int .i64 i, .int .i64 n]).later hb1
  obtain ⟨d0, d1, d2, dz0, dz1, dz2, dl⟩ := hD1.three
  have hC1 := HH.out.below hbw1
  have HC1 := hide hC1
  have HBB : Hid (FrC B vc w w1) := hide (FrC.later hbw1 (Nat.le_of_lt hB0))
  have bl := hC1.blk.lt
  have hE : doC c span ⟨1, i, n⟩ = { c with clocks := c.clocks.set i (x + n) } := by rw [doC_1, lget_at hx, lset_at]
  have HOW := hide (show 0 ≤ n ∧ n ≤ 1000000 from by
    have := HM.out
    rw [mayC_1] at this
    cases q : stepN n
    · rw [q, Bool.and_false] at this; cases this
    · exact of_decide_eq_true q)
  have HXB := hide (HWF.out.clk x (List.mem_of_getElem? hx))
  have hi1 := (List.getElem?_eq_some_iff.1 hx).1
  obtain ⟨g, cap, rfl, c0, cz, cg, cB⟩ := hC1.clockAt hx
  have b4 := hC1.blk.cell 4
  simp at b4
  have hk1 : (0 : Int) ≤ (i : Int) := by omega
  have hk2 : (i : Int) < (c.clocks.length : Int) := by omega
  have hgo := goOn_any g i x n w1.drew c0 cz HXB.out HOW.out
  have HE := hide hE
  by_cases hov : 900000000 < x + n
  · rw [show goOnC x n = 9 from if_pos hov, show goOnW w1.drew g i x n = w1.drew from if_pos hov] at hgo
    have HGO := hide hgo
    have HOV := hide (show overC (doC c span ⟨1, i, n⟩) = true from overC_tt (by
      rw [HE.out]
      rintro ⟨_, _, _, q⟩
      have := q (x + n) (List.mem_of_getElem? (i := i) (by simp [hi1]))
      omega))
    clear hgo hb1 hD1 hC1 hbw1 hE hx
    go_wp2_with fail
    go_region_with (go_at_call 73; refine HGO.out.mono ?_; rintro e w9 ⟨rfl, rfl⟩)
    all_goals
      go_wp2_with fail
      go_ret
      exact .much HM.out HOV.out rfl (HBB.out.trans (FrC.later (by go_grown) (Nat.le_of_lt bl)))
  · rw [show goOnC x n = 0 from if_neg hov, show goOnW w1.drew g i x n = w1.drew.setCell ⟨g, i, none⟩ (.int .i64 (x + n)) from if_neg hov] at hgo
    have HGO := hide hgo
    have HOV := hide (show overC (doC c span ⟨1, i, n⟩) = false from overC_iff.2 (by
      rw [HE.out]
      refine ⟨HWF.out.now.2, HWF.out.wl, HWF.out.rl, fun y hy => ?_⟩
      rcases List.mem_or_eq_of_mem_set hy with q | q
      · exact (HWF.out.clk y q).2
      · omega))
    clear hgo hb1 hD1 hC1 hbw1 hE hx
    go_wp2_with fail
    go_region_with (go_at_call 73; refine HGO.out.mono ?_; rintro e w9 ⟨rfl, rfl⟩)
    all_goals
      go_wp2_with fail
      go_ret
      exact .ok HM.out HOV.out rfl ((HBB.out.trans (HC1.out.frC i (.int .i64 (x + n)))).trans (FrC.later (by go_grown) (by simp; omega))) (by rw [HE.out]; exact (HC1.out.setClock i (x + n)).below (by go_grown))

set_option maxRecDepth 100000 in
set_option maxHeartbeats 8000000 in
theorem do_2 (B : Nat) (span : Int) (c : Ct) (vc vt vw vr : Value) (i : Nat) (x : Int) (t : Tr) (n : Int) (m : Nat) (w : World) (h : CtAt w B span c vc vt vw vr) (hwf : WfC c span m) (hm : mayC c ⟨2, i, n⟩ = 0) (hx : c.clocks[i]? = some x) (ht : c.trusts[i]? = some t) :
    Calls Try.prog 64 #[.pointer (some ⟨B, 0, none⟩), .agg #[.int .i64 2, .int .i64 i, .int .i64 n]] w fun e w' => DoneC B span c ⟨2, i, n⟩ vc w e w' := by
  have hcode := codeOf_any B span c vc vt vw vr ⟨2, i, n⟩ (w.alloc (.cells #[.int .i64 2, .int .i64 i, .int .i64 n] 70)) (h.below (below_allocG _ _))
  rw [hm] at hcode
  have HCODE := hide hcode
  have HM := hide hm
  have HWF := hide hwf
  have HH := hide h
  have hB0 := h.blk.lt
  clear hcode h hwf hm
  go_enter Try.func64, Try.ntmps64
  go_wp2_with fail
  refine HCODE.out.mono ?_
  rintro e w1 ⟨rfl, hb1⟩
  have hbw1 := (below_allocG w (.cells #[.int .i64 2, .int .i64 i, .int .i64 n] 70)).trans (hb1.mono (by simp))
  have hD1 := (Blk.new w 70 #[.int .i64 2, .int .i64 i, .int .i64 n]).later hb1
  obtain ⟨d0, d1, d2, dz0, dz1, dz2, dl⟩ := hD1.three
  have hC1 := HH.out.below hbw1
  have HC1 := hide hC1
  have HBB : Hid (FrC B vc w w1) := hide (FrC.later hbw1 (Nat.le_of_lt hB0))
  have bl := hC1.blk.lt
  have HE := hide (show doC c span ⟨2, i, n⟩ = { c with wishes := c.wishes ++ [⟨i, x, if x < t.til then t.ep else 0⟩] } by rw [doC_2, lget_at hx, lget_at ht])
  by_cases hl : c.wishes.length = 100
  · have HOV := hide (show overC (doC c span ⟨2, i, n⟩) = true from overC_tt (by rw [HE.out]; simp; omega))
    have HS := hide (send_full B span c vc vt vw vr i x t w1 hC1 hx ht hl)
    clear hb1 hD1 hC1 hbw1 hx ht
    go_wp2_with fail
    refine HS.out.mono ?_
    rintro e w9 ⟨rfl, hb9⟩
    go_wp2_with fail
    go_ret
    exact .much HM.out HOV.out rfl (HBB.out.trans hb9)
  · have hl2 : c.wishes.length < 100 := by have := HWF.out.wl; omega
    have HOV := hide (show overC (doC c span ⟨2, i, n⟩) = false from overC_iff.2 (by
      rw [HE.out]
      exact ⟨HWF.out.now.2, by simp; omega, HWF.out.rl, fun y hy => (HWF.out.clk y hy).2⟩))
    have HS := hide (send_any B span c vc vt vw vr i x t w1 hC1 hx ht hl2)
    clear hb1 hD1 hC1 hbw1 hx ht
    go_wp2_with fail
    refine HS.out.mono ?_
    rintro e w9 ⟨rfl, hb9, v9, hC9⟩
    go_wp2_with fail
    go_ret
    exact .ok HM.out HOV.out rfl (HBB.out.trans hb9) (by rw [HE.out]; exact hC9)

set_option maxRecDepth 100000 in
set_option maxHeartbeats 8000000 in
theorem do_5 (B : Nat) (span : Int) (c : Ct) (vc vt vw vr : Value) (i : Nat) (t : Tr) (n : Int) (m : Nat) (w : World) (h : CtAt w B span c vc vt vw vr) (hwf : WfC c span m) (hm : mayC c ⟨5, i, n⟩ = 0) (ht : c.trusts[i]? = some t) :
    Calls Try.prog 64 #[.pointer (some ⟨B, 0, none⟩), .agg #[.int .i64 5, .int .i64 i, .int .i64 n]] w fun e w' => DoneC B span c ⟨5, i, n⟩ vc w e w' := by
  have hcode := codeOf_any B span c vc vt vw vr ⟨5, i, n⟩ (w.alloc (.cells #[.int .i64 5, .int .i64 i, .int .i64 n] 70)) (h.below (below_allocG _ _))
  rw [hm] at hcode
  have HCODE := hide hcode
  have HM := hide hm
  have HWF := hide hwf
  have HH := hide h
  have hB0 := h.blk.lt
  clear hcode h hwf hm
  go_enter Try.func64, Try.ntmps64
  go_wp2_with fail
  refine HCODE.out.mono ?_
  rintro e w1 ⟨rfl, hb1⟩
  have hbw1 := (below_allocG w (.cells #[.int .i64 5, .int .i64 i, .int .i64 n] 70)).trans (hb1.mono (by simp))
  have hD1 := (Blk.new w 70 #[.int .i64 5, .int .i64 i, .int .i64 n]).later hb1
  obtain ⟨d0, d1, d2, dz0, dz1, dz2, dl⟩ := hD1.three
  have hC1 := HH.out.below hbw1
  have HC1 := hide hC1
  have HBB : Hid (FrC B vc w w1) := hide (FrC.later hbw1 (Nat.le_of_lt hB0))
  have bl := hC1.blk.lt
  have HE := hide (show doC c span ⟨5, i, n⟩ = { c with trusts := c.trusts.set i ⟨0, 0⟩ } by rw [doC_5, lset_at])
  have HOV := hide (show overC (doC c span ⟨5, i, n⟩) = false from overC_iff.2 (by rw [HE.out]; exact ⟨HWF.out.now.2, HWF.out.wl, HWF.out.rl, fun y hy => (HWF.out.clk y hy).2⟩))
  have hi2 := (List.getElem?_eq_some_iff.1 ht).1
  obtain ⟨g2, cap2, rfl, t0, t1, tz0, tz1, tg, tB⟩ := hC1.trustAt ht
  have b5 := hC1.blk.cell 5
  simp at b5
  have hk1 : (0 : Int) ≤ (i : Int) := by omega
  have hk3 : (i : Int) < (c.trusts.length : Int) := by omega
  have HI := hide hi2
  clear hb1 hD1 hC1 hbw1 ht hi2
  go_wp2_with fail
  go_region
  all_goals
    go_wp2_with fail
    go_ret
    exact .ok HM.out HOV.out rfl ((HBB.out.trans (HC1.out.frT (i * 2) (i * 2 + 1) (.int .i64 0) (.int .i64 0))).trans (FrC.later (by go_grown) (by simp; omega))) (by rw [HE.out]; exact (HC1.out.setTrust HI.out 0 0).below (by go_grown))

end Go.Proofs.Ytfmoniabpinceaf
