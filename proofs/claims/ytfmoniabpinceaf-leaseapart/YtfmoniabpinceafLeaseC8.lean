/-
  The walk over the court's do: wishes and replies that are doubled and lost.
-/
import Derived.Test.YtfmoniabpinceafLeaseC7
namespace Go.Proofs.Ytfmoniabpinceaf
open Go.RowKit
set_option linter.unusedVariables false

set_option maxRecDepth 100000 in
set_option maxHeartbeats 8000000 in
theorem do_7 (B : Nat) (span : Int) (c : Ct) (vc vt vw vr : Value) (who : Int) (j : Nat) (x : Ws) (m : Nat) (w : World) (h : CtAt w B span c vc vt vw vr) (hwf : WfC c span m) (hm : mayC c ⟨7, who, j⟩ = 0) (hx : c.wishes[j]? = some x) :
    Calls Try.prog 64 #[.pointer (some ⟨B, 0, none⟩), .agg #[.int .i64 7, .int .i64 who, .int .i64 j]] w fun e w' => DoneC B span c ⟨7, who, j⟩ vc w e w' := by
  have hcode := codeOf_any B span c vc vt vw vr ⟨7, who, j⟩ (w.alloc (.cells #[.int .i64 7, .int .i64 who, .int .i64 j] 70)) (h.below (below_allocG _ _))
  rw [hm] at hcode
  have HCODE := hide hcode
  have HM := hide hm
  have HWF := hide hwf
  have HH := hide h
  have hB0 := h.blk.lt
  clear hcode h hwf hm
  go_enter Try.func64, Try.ntmps64
  go_wp2_with fail
  refine HCODE.out.mono ?_
  rintro e w1 ⟨rfl, hb1⟩
  have hbw1 := (below_allocG w (.cells #[.int .i64 7, .int .i64 who, .int .i64 j] 70)).trans (hb1.mono (by simp))
  have hD1 := (Blk.new w 70 #[.int .i64 7, .int .i64 who, .int .i64 j]).later hb1
  obtain ⟨d0, d1, d2, dz0, dz1, dz2, dl⟩ := hD1.three
  have hC1 := HH.out.below hbw1
  have HC1 := hide hC1
  have HBB : Hid (FrC B vc w w1) := hide (FrC.later hbw1 (Nat.le_of_lt hB0))
  have bl := hC1.blk.lt
  have HE := hide (show doC c span ⟨7, who, j⟩ = { c with wishes := c.wishes.eraseIdx j } by rw [doC_7, ldel_at])
  have HOV := hide (show overC (doC c span ⟨7, who, j⟩) = false from overC_iff.2 (by
    rw [HE.out]
    have hl := List.length_eraseIdx_le c.wishes j
    exact ⟨HWF.out.now.2, Nat.le_trans hl HWF.out.wl, HWF.out.rl, fun y hy => (HWF.out.clk y hy).2⟩))
  have HT := hide (takeW_any B 6 116 _ vw c.wishes.length j (B + 1) c.wishes x w1.drew hC1.blk rfl (by decide) hC1.ws hx (by have := HWF.out.wl; omega))
  clear hb1 hD1 hC1 hbw1 hx
  go_wp2_with fail
  go_region_with (go_at_call 76; refine HT.out.mono ?_; rintro e w9 ⟨v9, rfl, hB9, ho9, hk9⟩)
  all_goals
    go_wp2_with fail
    go_ret
    have hk : Kp2 w1 w9 B vw.ownBlock := ⟨hk9.os, hk9.tape, hk9.output, hk9.size, hk9.block⟩
    exact .ok HM.out HOV.out rfl (HBB.out.trans (HC1.out.keptW hk)) (by rw [HE.out]; exact HC1.out.wish hB9 ho9 hk)

set_option maxRecDepth 100000 in
set_option maxHeartbeats 8000000 in
theorem do_8 (B : Nat) (span : Int) (c : Ct) (vc vt vw vr : Value) (who : Int) (j : Nat) (x : Rp) (m : Nat) (w : World) (h : CtAt w B span c vc vt vw vr) (hwf : WfC c span m) (hm : mayC c ⟨8, who, j⟩ = 0) (hx : c.replies[j]? = some x) :
    Calls Try.prog 64 #[.pointer (some ⟨B, 0, none⟩), .agg #[.int .i64 8, .int .i64 who, .int .i64 j]] w fun e w' => DoneC B span c ⟨8, who, j⟩ vc w e w' := by
  have hcode := codeOf_any B span c vc vt vw vr ⟨8, who, j⟩ (w.alloc (.cells #[.int .i64 8, .int .i64 who, .int .i64 j] 70)) (h.below (below_allocG _ _))
  rw [hm] at hcode
  have HCODE := hide hcode
  have HM := hide hm
  have HWF := hide hwf
  have HH := hide h
  have hB0 := h.blk.lt
  clear hcode h hwf hm
  go_enter Try.func64, Try.ntmps64
  go_wp2_with fail
  refine HCODE.out.mono ?_
  rintro e w1 ⟨rfl, hb1⟩
  have hbw1 := (below_allocG w (.cells #[.int .i64 8, .int .i64 who, .int .i64 j] 70)).trans (hb1.mono (by simp))
  have hD1 := (Blk.new w 70 #[.int .i64 8, .int .i64 who, .int .i64 j]).later hb1
  obtain ⟨d0, d1, d2, dz0, dz1, dz2, dl⟩ := hD1.three
  have hC1 := HH.out.below hbw1
  have HC1 := hide hC1
  have HBB : Hid (FrC B vc w w1) := hide (FrC.later hbw1 (Nat.le_of_lt hB0))
  have bl := hC1.blk.lt
  have HE := hide (show doC c span ⟨8, who, j⟩ = { c with replies := c.replies.eraseIdx j } by rw [doC_8, ldel_at])
  have HOV := hide (show overC (doC c span ⟨8, who, j⟩) = false from overC_iff.2 (by
    rw [HE.out]
    have hl := List.length_eraseIdx_le c.replies j
    exact ⟨HWF.out.now.2, HWF.out.wl, Nat.le_trans hl HWF.out.rl, fun y hy => (HWF.out.clk y hy).2⟩))
  have HT := hide (takeR_any B 7 116 _ vr c.replies.length j (B + 1) c.replies x w1.drew hC1.blk rfl (by decide) hC1.rp hx (by have := HWF.out.rl; omega))
  clear hb1 hD1 hC1 hbw1 hx
  go_wp2_with fail
  go_region_with (go_at_call 78; refine HT.out.mono ?_; rintro e w9 ⟨v9, rfl, hB9, ho9, hk9⟩)
  all_goals
    go_wp2_with fail
    go_ret
    have hk : Kp2 w1 w9 B vr.ownBlock := ⟨hk9.os, hk9.tape, hk9.output, hk9.size, hk9.block⟩
    exact .ok HM.out HOV.out rfl (HBB.out.trans (HC1.out.keptR hk)) (by rw [HE.out]; exact HC1.out.reply hB9 ho9 hk)

set_option maxRecDepth 100000 in
set_option maxHeartbeats 8000000 in
theorem do_6full (B : Nat) (span : Int) (c : Ct) (vc vt vw vr : Value) (who : Int) (j : Nat) (x : Ws) (m : Nat) (w : World) (h : CtAt w B span c vc vt vw vr) (hwf : WfC c span m) (hm : mayC c ⟨6, who, j⟩ = 0) (hx : c.wishes[j]? = some x) (hl : c.wishes.length = 100) :
    Calls Try.prog 64 #[.pointer (some ⟨B, 0, none⟩), .agg #[.int .i64 6, .int .i64 who, .int .i64 j]] w fun e w' => DoneC B span c ⟨6, who, j⟩ vc w e w' := by
  have hcode := codeOf_any B span c vc vt vw vr ⟨6, who, j⟩ (w.alloc (.cells #[.int .i64 6, .int .i64 who, .int .i64 j] 70)) (h.below (below_allocG _ _))
  rw [hm] at hcode
  have HCODE := hide hcode
  have HM := hide hm
  have HWF := hide hwf
  have HH := hide h
  have hB0 := h.blk.lt
  clear hcode h hwf hm
  go_enter Try.func64, Try.ntmps64
  go_wp2_with fail
  refine HCODE.out.mono ?_
  rintro e w1 ⟨rfl, hb1⟩
  have hbw1 := (below_allocG w (.cells #[.int .i64 6, .int .i64 who, .int .i64 j] 70)).trans (hb1.mono (by simp))
  have hD1 := (Blk.new w 70 #[.int .i64 6, .int .i64 who, .int .i64 j]).later hb1
  obtain ⟨d0, d1, d2, dz0, dz1, dz2, dl⟩ := hD1.three
  have hC1 := HH.out.below hbw1
  have HC1 := hide hC1
  have HBB : Hid (FrC B vc w w1) := hide (FrC.later hbw1 (Nat.le_of_lt hB0))
  have bl := hC1.blk.lt
  have HE := hide (show doC c span ⟨6, who, j⟩ = { c with wishes := c.wishes ++ [x] } by rw [doC_6, lget_at hx])
  have hrd := RdG.ofOwns hC1.ws
  obtain ⟨wo9, wc9, hv9⟩ := owns_shapeK hC1.ws
  rw [hv9] at hrd
  obtain ⟨b9, off9, rfl, hb9, hat⟩ := hrd.here hx
  subst hv9
  have c0 := hat 0 _ rfl
  have c1 := hat 1 _ rfl
  have c2 := hat 2 _ rfl
  simp only [Nat.add_zero] at c0
  have b6 := hC1.blk.cell 6
  simp at b6
  have hi1 := (List.getElem?_eq_some_iff.1 hx).1
  have hk1 : (0 : Int) ≤ (j : Int) := by omega
  have hk2 : (j : Int) < (c.wishes.length : Int) := by omega
  obtain ⟨x0, x1, x2⟩ := x
  have HOV := hide (show overC (doC c span ⟨6, who, j⟩) = true from overC_tt (by rw [HE.out]; simp; omega))
  have HP := hide (putW_full B 6 116 _ (some ⟨b9, off9, none⟩) wc9 ⟨x0, x1, x2⟩ w1.drew hC1.blk (by rw [hl]; rfl))
  clear hb1 hD1 hC1 hbw1 hx hat hrd
  go_wp2_with fail
  go_region_with (go_at_call 79; refine HP.out.mono ?_; rintro e w9 ⟨rfl, hb8⟩)
  all_goals
    go_wp2_with fail
    go_ret
    exact .much HM.out HOV.out rfl (HBB.out.trans (FrC.later (show Below w1.heap.size w1 w9 from ⟨hb8.os, hb8.tape, hb8.output, hb8.size, fun k hk => hb8.block k hk⟩) (Nat.le_of_lt bl)))

set_option maxRecDepth 100000 in
set_option maxHeartbeats 8000000 in
theorem do_6room (B : Nat) (span : Int) (c : Ct) (vc vt vw vr : Value) (who : Int) (j : Nat) (x : Ws) (m : Nat) (w : World) (h : CtAt w B span c vc vt vw vr) (hwf : WfC c span m) (hm : mayC c ⟨6, who, j⟩ = 0) (hx : c.wishes[j]? = some x) (hl : c.wishes.length < 100) :
    Calls Try.prog 64 #[.pointer (some ⟨B, 0, none⟩), .agg #[.int .i64 6, .int .i64 who, .int .i64 j]] w fun e w' => DoneC B span c ⟨6, who, j⟩ vc w e w' := by
  have hcode := codeOf_any B span c vc vt vw vr ⟨6, who, j⟩ (w.alloc (.cells #[.int .i64 6, .int .i64 who, .int .i64 j] 70)) (h.below (below_allocG _ _))
  rw [hm] at hcode
  have HCODE := hide hcode
  have HM := hide hm
  have HWF := hide hwf
  have HH := hide h
  have hB0 := h.blk.lt
  clear hcode h hwf hm
  go_enter Try.func64, Try.ntmps64
  go_wp2_with fail
  refine HCODE.out.mono ?_
  rintro e w1 ⟨rfl, hb1⟩
  have hbw1 := (below_allocG w (.cells #[.int .i64 6, .int .i64 who, .int .i64 j] 70)).trans (hb1.mono (by simp))
  have hD1 := (Blk.new w 70 #[.int .i64 6, .int .i64 who, .int .i64 j]).later hb1
  obtain ⟨d0, d1, d2, dz0, dz1, dz2, dl⟩ := hD1.three
  have hC1 := HH.out.below hbw1
  have HC1 := hide hC1
  have HBB : Hid (FrC B vc w w1) := hide (FrC.later hbw1 (Nat.le_of_lt hB0))
  have bl := hC1.blk.lt
  have HE := hide (show doC c span ⟨6, who, j⟩ = { c with wishes := c.wishes ++ [x] } by rw [doC_6, lget_at hx])
  have hrd := RdG.ofOwns hC1.ws
  obtain ⟨wo9, wc9, hv9⟩ := owns_shapeK hC1.ws
  rw [hv9] at hrd
  obtain ⟨b9, off9, rfl, hb9, hat⟩ := hrd.here hx
  subst hv9
  have c0 := hat 0 _ rfl
  have c1 := hat 1 _ rfl
  have c2 := hat 2 _ rfl
  simp only [Nat.add_zero] at c0
  have b6 := hC1.blk.cell 6
  simp at b6
  have hi1 := (List.getElem?_eq_some_iff.1 hx).1
  have hk1 : (0 : Int) ≤ (j : Int) := by omega
  have hk2 : (j : Int) < (c.wishes.length : Int) := by omega
  obtain ⟨x0, x1, x2⟩ := x
  have HOV := hide (show overC (doC c span ⟨6, who, j⟩) = false from overC_iff.2 (by
    rw [HE.out]
    exact ⟨HWF.out.now.2, by simp; omega, HWF.out.rl, fun y hy => (HWF.out.clk y hy).2⟩))
  have HP := hide (putW_any B 6 116 _ _ c.wishes.length (B + 1) c.wishes ⟨x0, x1, x2⟩ w1.drew hC1.blk rfl (by decide) hC1.ws (show B + 1 ≤ w1.heap.size by omega) hl)
  clear hb1 hD1 hC1 hbw1 hx hat hrd
  go_wp2_with fail
  go_region_with (go_at_call 79; refine HP.out.mono ?_; rintro e w9 ⟨v9, rfl, hB9, ho9, hk9⟩)
  all_goals
    go_wp2_with fail
    go_ret
    have hk := (⟨hk9.os, hk9.tape, hk9.output, hk9.size, hk9.block⟩ : Kp2 w1 w9 B _)
    exact .ok HM.out HOV.out rfl (HBB.out.trans (HC1.out.keptW hk)) (by rw [HE.out]; exact HC1.out.wish hB9 ho9 hk)

end Go.Proofs.Ytfmoniabpinceaf
