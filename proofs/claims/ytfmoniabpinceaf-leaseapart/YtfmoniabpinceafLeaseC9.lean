/-
  The walk over the court's do: wishes that arrive.
-/
import Derived.Test.YtfmoniabpinceafLeaseC7
namespace Go.Proofs.Ytfmoniabpinceaf
open Go.RowKit
set_option linter.unusedVariables false

set_option maxRecDepth 100000 in
set_option maxHeartbeats 8000000 in
theorem do_3bad (B : Nat) (span : Int) (c : Ct) (vc vt vw vr : Value) (who : Int) (j : Nat) (x : Ws) (m : Nat) (w : World) (h : CtAt w B span c vc vt vw vr) (hwf : WfC c span m) (hm : mayC c ⟨3, who, j⟩ = 0) (hx : c.wishes[j]? = some x) (hf : (heardF c.lease x c.now span).1 ≠ 0) :
    Calls Try.prog 64 #[.pointer (some ⟨B, 0, none⟩), .agg #[.int .i64 3, .int .i64 who, .int .i64 j]] w fun e w' => DoneC B span c ⟨3, who, j⟩ vc w e w' := by
  have hcode := codeOf_any B span c vc vt vw vr ⟨3, who, j⟩ (w.alloc (.cells #[.int .i64 3, .int .i64 who, .int .i64 j] 70)) (h.below (below_allocG _ _))
  rw [hm] at hcode
  have HCODE := hide hcode
  have HM := hide hm
  have HWF := hide hwf
  have HH := hide h
  have hB0 := h.blk.lt
  clear hcode h hwf hm
  go_enter Try.func64, Try.ntmps64
  go_wp2_with fail
  refine HCODE.out.mono ?_
  rintro e w1 ⟨rfl, hb1⟩
  have hbw1 := (below_allocG w (.cells #[.int .i64 3, .int .i64 who, .int .i64 j] 70)).trans (hb1.mono (by simp))
  have hD1 := (Blk.new w 70 #[.int .i64 3, .int .i64 who, .int .i64 j]).later hb1
  obtain ⟨d0, d1, d2, dz0, dz1, dz2, dl⟩ := hD1.three
  have hC1 := HH.out.below hbw1
  have HC1 := hide hC1
  have HBB : Hid (FrC B vc w w1) := hide (FrC.later hbw1 (Nat.le_of_lt hB0))
  have bl := hC1.blk.lt
  have HE := hide (show doC c span ⟨3, who, j⟩ = { c with wishes := c.wishes.eraseIdx j } by rw [doC_3, lget_at hx, if_neg hf, ldel_at])
  have HOV := hide (show overC (doC c span ⟨3, who, j⟩) = false from overC_iff.2 (by
    rw [HE.out]
    exact ⟨HWF.out.now.2, Nat.le_trans (List.length_eraseIdx_le c.wishes j) HWF.out.wl, HWF.out.rl, fun y hy => (HWF.out.clk y hy).2⟩))
  have hT := takeW_any B 6 116 _ vw c.wishes.length j (B + 1) c.wishes x w1.drew hC1.blk rfl (by decide) hC1.ws hx (by have := HWF.out.wl; omega)
  have hws := HWF.out.ws x (List.mem_of_getElem? hx)
  have hn8 := HWF.out.n8
  have HAN := hide (fun (W : World) (v : Value) (hW : CtAt W B span { c with wishes := c.wishes.eraseIdx j } vc vt v vr) => answer_bad B span { c with wishes := c.wishes.eraseIdx j } vc vt v vr x W hW HWF.out.sp ⟨hws.1, by omega⟩ hws.2.2.1 hws.2.2.2 hf )
  have HUP : Hid (∀ (w9 : World) (v9 : Value), Blk w9 B 116 (#[.int .i64 c.now, .int .i64 c.lease.hold, .int .i64 c.lease.ep, .int .i64 c.lease.til, vc, vt, vw, vr, .int .i64 span].setIfInBounds 6 v9) → w9.ownsRow (B + 1) 105 3 v9 (c.wishes.length - 1) (wsE.vs (c.wishes.eraseIdx j)) → Kp2 w1.drew w9 B vw.ownBlock → CtAt w9 B span { c with wishes := c.wishes.eraseIdx j } vc vt v9 vr ∧ FrC B vc w1 w9) :=
    hide fun w9 v9 hB9 ho9 hk9 => ⟨HC1.out.wish hB9 ho9 ⟨hk9.os, hk9.tape, hk9.output, hk9.size, hk9.block⟩, HC1.out.keptW ⟨hk9.os, hk9.tape, hk9.output, hk9.size, hk9.block⟩⟩
  obtain ⟨x0, x1, x2⟩ := x
  have HT : Hid (Calls Try.prog 76 #[.pointer (some ⟨B, 6, none⟩), .int .i64 j] w1.drew fun e w' => ∃ v', e = .returned (.agg #[.int .i64 x0, .int .i64 x1, .int .i64 x2]) ∧ Blk w' B 116 (#[.int .i64 c.now, .int .i64 c.lease.hold, .int .i64 c.lease.ep, .int .i64 c.lease.til, vc, vt, vw, vr, .int .i64 span].setIfInBounds 6 v') ∧ w'.ownsRow (B + 1) 105 3 v' (c.wishes.length - 1) (wsE.vs (c.wishes.eraseIdx j)) ∧ Kp2 w1.drew w' B vw.ownBlock) := hide hT
  clear hT hws hn8 hb1 hD1 hC1 hbw1 hx hf 
  go_wp2_with fail
  go_region_with (first | (go_at_call 76; refine HT.out.mono ?_; rintro e w9 ⟨v9, rfl, hB9, ho9, hk9⟩; have hC9 := HUP.out w9 v9 hB9 ho9 hk9) | (go_at_call 75; refine (HAN.out w9 v9 hC9.1).mono ?_; rintro e w8 ⟨rfl, hb8, hC8⟩))
  all_goals
    go_wp2_with fail
    go_ret
    exact .ok HM.out HOV.out rfl (HBB.out.trans (hC9.2.trans hb8)) (by rw [HE.out]; exact hC8)

set_option maxRecDepth 100000 in
set_option maxHeartbeats 8000000 in
theorem do_3ok (B : Nat) (span : Int) (c : Ct) (vc vt vw vr : Value) (who : Int) (j : Nat) (x : Ws) (m : Nat) (w : World) (h : CtAt w B span c vc vt vw vr) (hwf : WfC c span m) (hm : mayC c ⟨3, who, j⟩ = 0) (hx : c.wishes[j]? = some x) (hf : (heardF c.lease x c.now span).1 = 0) (hl : c.replies.length < 100) :
    Calls Try.prog 64 #[.pointer (some ⟨B, 0, none⟩), .agg #[.int .i64 3, .int .i64 who, .int .i64 j]] w fun e w' => DoneC B span c ⟨3, who, j⟩ vc w e w' := by
  have hcode := codeOf_any B span c vc vt vw vr ⟨3, who, j⟩ (w.alloc (.cells #[.int .i64 3, .int .i64 who, .int .i64 j] 70)) (h.below (below_allocG _ _))
  rw [hm] at hcode
  have HCODE := hide hcode
  have HM := hide hm
  have HWF := hide hwf
  have HH := hide h
  have hB0 := h.blk.lt
  clear hcode h hwf hm
  go_enter Try.func64, Try.ntmps64
  go_wp2_with fail
  refine HCODE.out.mono ?_
  rintro e w1 ⟨rfl, hb1⟩
  have hbw1 := (below_allocG w (.cells #[.int .i64 3, .int .i64 who, .int .i64 j] 70)).trans (hb1.mono (by simp))
  have hD1 := (Blk.new w 70 #[.int .i64 3, .int .i64 who, .int .i64 j]).later hb1
  obtain ⟨d0, d1, d2, dz0, dz1, dz2, dl⟩ := hD1.three
  have hC1 := HH.out.below hbw1
  have HC1 := hide hC1
  have HBB : Hid (FrC B vc w w1) := hide (FrC.later hbw1 (Nat.le_of_lt hB0))
  have bl := hC1.blk.lt
  have HE := hide (show doC c span ⟨3, who, j⟩ = { c with wishes := c.wishes.eraseIdx j, lease := heardL c.lease x c.now span, replies := c.replies ++ [⟨x.who, (heardL c.lease x c.now span).ep, x.sent + trustD span⟩] } by rw [doC_3, lget_at hx, if_pos hf, ldel_at])
  have HOV := hide (show overC (doC c span ⟨3, who, j⟩) = false from overC_iff.2 (by
    rw [HE.out]
    exact ⟨HWF.out.now.2, Nat.le_trans (List.length_eraseIdx_le c.wishes j) HWF.out.wl, by simp; omega, fun y hy => (HWF.out.clk y hy).2⟩))
  have hT := takeW_any B 6 116 _ vw c.wishes.length j (B + 1) c.wishes x w1.drew hC1.blk rfl (by decide) hC1.ws hx (by have := HWF.out.wl; omega)
  have hws := HWF.out.ws x (List.mem_of_getElem? hx)
  have hn8 := HWF.out.n8
  have HAN := hide (fun (W : World) (v : Value) (hW : CtAt W B span { c with wishes := c.wishes.eraseIdx j } vc vt v vr) => answer_ok B span { c with wishes := c.wishes.eraseIdx j } vc vt v vr x W hW HWF.out.sp ⟨hws.1, by omega⟩ hws.2.2.1 hws.2.2.2 hf hl)
  have HUP : Hid (∀ (w9 : World) (v9 : Value), Blk w9 B 116 (#[.int .i64 c.now, .int .i64 c.lease.hold, .int .i64 c.lease.ep, .int .i64 c.lease.til, vc, vt, vw, vr, .int .i64 span].setIfInBounds 6 v9) → w9.ownsRow (B + 1) 105 3 v9 (c.wishes.length - 1) (wsE.vs (c.wishes.eraseIdx j)) → Kp2 w1.drew w9 B vw.ownBlock → CtAt w9 B span { c with wishes := c.wishes.eraseIdx j } vc vt v9 vr ∧ FrC B vc w1 w9) :=
    hide fun w9 v9 hB9 ho9 hk9 => ⟨HC1.out.wish hB9 ho9 ⟨hk9.os, hk9.tape, hk9.output, hk9.size, hk9.block⟩, HC1.out.keptW ⟨hk9.os, hk9.tape, hk9.output, hk9.size, hk9.block⟩⟩
  obtain ⟨x0, x1, x2⟩ := x
  have HT : Hid (Calls Try.prog 76 #[.pointer (some ⟨B, 6, none⟩), .int .i64 j] w1.drew fun e w' => ∃ v', e = .returned (.agg #[.int .i64 x0, .int .i64 x1, .int .i64 x2]) ∧ Blk w' B 116 (#[.int .i64 c.now, .int .i64 c.lease.hold, .int .i64 c.lease.ep, .int .i64 c.lease.til, vc, vt, vw, vr, .int .i64 span].setIfInBounds 6 v') ∧ w'.ownsRow (B + 1) 105 3 v' (c.wishes.length - 1) (wsE.vs (c.wishes.eraseIdx j)) ∧ Kp2 w1.drew w' B vw.ownBlock) := hide hT
  clear hT hws hn8 hb1 hD1 hC1 hbw1 hx hf hl
  go_wp2_with fail
  go_region_with (first | (go_at_call 76; refine HT.out.mono ?_; rintro e w9 ⟨v9, rfl, hB9, ho9, hk9⟩; have hC9 := HUP.out w9 v9 hB9 ho9 hk9) | (go_at_call 75; refine (HAN.out w9 v9 hC9.1).mono ?_; rintro e w8 ⟨rfl, hb8, v8, hC8⟩))
  all_goals
    go_wp2_with fail
    go_ret
    exact .ok HM.out HOV.out rfl (HBB.out.trans (hC9.2.trans hb8)) (by rw [HE.out]; exact hC8)

set_option maxRecDepth 100000 in
set_option maxHeartbeats 8000000 in
theorem do_3full (B : Nat) (span : Int) (c : Ct) (vc vt vw vr : Value) (who : Int) (j : Nat) (x : Ws) (m : Nat) (w : World) (h : CtAt w B span c vc vt vw vr) (hwf : WfC c span m) (hm : mayC c ⟨3, who, j⟩ = 0) (hx : c.wishes[j]? = some x) (hf : (heardF c.lease x c.now span).1 = 0) (hl : c.replies.length = 100) :
    Calls Try.prog 64 #[.pointer (some ⟨B, 0, none⟩), .agg #[.int .i64 3, .int .i64 who, .int .i64 j]] w fun e w' => DoneC B span c ⟨3, who, j⟩ vc w e w' := by
  have hcode := codeOf_any B span c vc vt vw vr ⟨3, who, j⟩ (w.alloc (.cells #[.int .i64 3, .int .i64 who, .int .i64 j] 70)) (h.below (below_allocG _ _))
  rw [hm] at hcode
  have HCODE := hide hcode
  have HM := hide hm
  have HWF := hide hwf
  have HH := hide h
  have hB0 := h.blk.lt
  clear hcode h hwf hm
  go_enter Try.func64, Try.ntmps64
  go_wp2_with fail
  refine HCODE.out.mono ?_
  rintro e w1 ⟨rfl, hb1⟩
  have hbw1 := (below_allocG w (.cells #[.int .i64 3, .int .i64 who, .int .i64 j] 70)).trans (hb1.mono (by simp))
  have hD1 := (Blk.new w 70 #[.int .i64 3, .int .i64 who, .int .i64 j]).later hb1
  obtain ⟨d0, d1, d2, dz0, dz1, dz2, dl⟩ := hD1.three
  have hC1 := HH.out.below hbw1
  have HC1 := hide hC1
  have HBB : Hid (FrC B vc w w1) := hide (FrC.later hbw1 (Nat.le_of_lt hB0))
  have bl := hC1.blk.lt
  have HE := hide (show doC c span ⟨3, who, j⟩ = { c with wishes := c.wishes.eraseIdx j, lease := heardL c.lease x c.now span, replies := c.replies ++ [⟨x.who, (heardL c.lease x c.now span).ep, x.sent + trustD span⟩] } by rw [doC_3, lget_at hx, if_pos hf, ldel_at])
  have HOV := hide (show overC (doC c span ⟨3, who, j⟩) = true from overC_tt (by rw [HE.out]; simp; omega))
  have hT := takeW_any B 6 116 _ vw c.wishes.length j (B + 1) c.wishes x w1.drew hC1.blk rfl (by decide) hC1.ws hx (by have := HWF.out.wl; omega)
  have hws := HWF.out.ws x (List.mem_of_getElem? hx)
  have hn8 := HWF.out.n8
  have HAN := hide (fun (W : World) (v : Value) (hW : CtAt W B span { c with wishes := c.wishes.eraseIdx j } vc vt v vr) => answer_full B span { c with wishes := c.wishes.eraseIdx j } vc vt v vr x W hW HWF.out.sp ⟨hws.1, by omega⟩ hws.2.2.1 hws.2.2.2 hf hl)
  have HUP : Hid (∀ (w9 : World) (v9 : Value), Blk w9 B 116 (#[.int .i64 c.now, .int .i64 c.lease.hold, .int .i64 c.lease.ep, .int .i64 c.lease.til, vc, vt, vw, vr, .int .i64 span].setIfInBounds 6 v9) → w9.ownsRow (B + 1) 105 3 v9 (c.wishes.length - 1) (wsE.vs (c.wishes.eraseIdx j)) → Kp2 w1.drew w9 B vw.ownBlock → CtAt w9 B span { c with wishes := c.wishes.eraseIdx j } vc vt v9 vr ∧ FrC B vc w1 w9) :=
    hide fun w9 v9 hB9 ho9 hk9 => ⟨HC1.out.wish hB9 ho9 ⟨hk9.os, hk9.tape, hk9.output, hk9.size, hk9.block⟩, HC1.out.keptW ⟨hk9.os, hk9.tape, hk9.output, hk9.size, hk9.block⟩⟩
  obtain ⟨x0, x1, x2⟩ := x
  have HT : Hid (Calls Try.prog 76 #[.pointer (some ⟨B, 6, none⟩), .int .i64 j] w1.drew fun e w' => ∃ v', e = .returned (.agg #[.int .i64 x0, .int .i64 x1, .int .i64 x2]) ∧ Blk w' B 116 (#[.int .i64 c.now, .int .i64 c.lease.hold, .int .i64 c.lease.ep, .int .i64 c.lease.til, vc, vt, vw, vr, .int .i64 span].setIfInBounds 6 v') ∧ w'.ownsRow (B + 1) 105 3 v' (c.wishes.length - 1) (wsE.vs (c.wishes.eraseIdx j)) ∧ Kp2 w1.drew w' B vw.ownBlock) := hide hT
  clear hT hws hn8 hb1 hD1 hC1 hbw1 hx hf hl
  go_wp2_with fail
  go_region_with (first | (go_at_call 76; refine HT.out.mono ?_; rintro e w9 ⟨v9, rfl, hB9, ho9, hk9⟩; have hC9 := HUP.out w9 v9 hB9 ho9 hk9) | (go_at_call 75; refine (HAN.out w9 v9 hC9.1).mono ?_; rintro e w8 ⟨rfl, hb8⟩))
  all_goals
    go_wp2_with fail
    go_ret
    exact .much HM.out HOV.out rfl (HBB.out.trans (hC9.2.trans hb8))

end Go.Proofs.Ytfmoniabpinceaf
