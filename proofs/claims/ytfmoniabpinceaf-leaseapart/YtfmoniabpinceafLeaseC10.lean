/-
  The walk over the court's do: replies that arrive; do.
-/
import Derived.Test.YtfmoniabpinceafLeaseC9
import Derived.Test.YtfmoniabpinceafLeaseC8
namespace Go.Proofs.Ytfmoniabpinceaf
open Go.RowKit
set_option linter.unusedVariables false

set_option maxRecDepth 100000 in
set_option maxHeartbeats 8000000 in
theorem do_4gt (B : Nat) (span : Int) (c : Ct) (vc vt vw vr : Value) (who : Int) (i j : Nat) (x : Rp) (t : Tr) (m : Nat) (w : World) (h : CtAt w B span c vc vt vw vr) (hwf : WfC c span m) (hm : mayC c ⟨4, who, j⟩ = 0) (hx : c.replies[j]? = some x) (hi : x.who = i) (ht : c.trusts[i]? = some t) (h1 : t.ep < x.ep) :
    Calls Try.prog 64 #[.pointer (some ⟨B, 0, none⟩), .agg #[.int .i64 4, .int .i64 who, .int .i64 j]] w fun e w' => DoneC B span c ⟨4, who, j⟩ vc w e w' := by
  have hcode := codeOf_any B span c vc vt vw vr ⟨4, who, j⟩ (w.alloc (.cells #[.int .i64 4, .int .i64 who, .int .i64 j] 70)) (h.below (below_allocG _ _))
  rw [hm] at hcode
  have HCODE := hide hcode
  have HM := hide hm
  have HWF := hide hwf
  have HH := hide h
  have hB0 := h.blk.lt
  clear hcode h hwf hm
  go_enter Try.func64, Try.ntmps64
  go_wp2_with fail
  refine HCODE.out.mono ?_
  rintro e w1 ⟨rfl, hb1⟩
  have hbw1 := (below_allocG w (.cells #[.int .i64 4, .int .i64 who, .int .i64 j] 70)).trans (hb1.mono (by simp))
  have hD1 := (Blk.new w 70 #[.int .i64 4, .int .i64 who, .int .i64 j]).later hb1
  obtain ⟨d0, d1, d2, dz0, dz1, dz2, dl⟩ := hD1.three
  have hC1 := HH.out.below hbw1
  have HC1 := hide hC1
  have HBB : Hid (FrC B vc w w1) := hide (FrC.later hbw1 (Nat.le_of_lt hB0))
  have bl := hC1.blk.lt
  have HE := hide (show doC c span ⟨4, who, j⟩ = { c with replies := c.replies.eraseIdx j, trusts := c.trusts.set i ⟨x.ep, x.til⟩ } by rw [doC_4, lget_at hx, hi, lget_at ht, if_pos (.inl h1), ldel_at, lset_at])
  have HOV := hide (show overC (doC c span ⟨4, who, j⟩) = false from overC_iff.2 (by
    rw [HE.out]
    exact ⟨HWF.out.now.2, HWF.out.wl, Nat.le_trans (List.length_eraseIdx_le c.replies j) HWF.out.rl, fun y hy => (HWF.out.clk y hy).2⟩))
  have hT := takeR_any B 7 116 _ vr c.replies.length j (B + 1) c.replies x w1.drew hC1.blk rfl (by decide) hC1.rp hx (by have := HWF.out.rl; omega)
  have HAN := hide (fun (W : World) (v : Value) (hW : CtAt W B span { c with replies := c.replies.eraseIdx j } vc vt vw v) => believe_gt B span { c with replies := c.replies.eraseIdx j } vc vt vw v i x t W hW hi ht h1 )
  have HUP : Hid (∀ (w9 : World) (v9 : Value), Blk w9 B 116 (#[.int .i64 c.now, .int .i64 c.lease.hold, .int .i64 c.lease.ep, .int .i64 c.lease.til, vc, vt, vw, vr, .int .i64 span].setIfInBounds 7 v9) → w9.ownsRow (B + 1) 107 3 v9 (c.replies.length - 1) (rpE.vs (c.replies.eraseIdx j)) → Kp2 w1.drew w9 B vr.ownBlock → CtAt w9 B span { c with replies := c.replies.eraseIdx j } vc vt vw v9 ∧ FrC B vc w1 w9) :=
    hide fun w9 v9 hB9 ho9 hk9 => ⟨HC1.out.reply hB9 ho9 ⟨hk9.os, hk9.tape, hk9.output, hk9.size, hk9.block⟩, HC1.out.keptR ⟨hk9.os, hk9.tape, hk9.output, hk9.size, hk9.block⟩⟩
  obtain ⟨x0, x1, x2⟩ := x
  have HT : Hid (Calls Try.prog 78 #[.pointer (some ⟨B, 7, none⟩), .int .i64 j] w1.drew fun e w' => ∃ v', e = .returned (.agg #[.int .i64 x0, .int .i64 x1, .int .i64 x2]) ∧ Blk w' B 116 (#[.int .i64 c.now, .int .i64 c.lease.hold, .int .i64 c.lease.ep, .int .i64 c.lease.til, vc, vt, vw, vr, .int .i64 span].setIfInBounds 7 v') ∧ w'.ownsRow (B + 1) 107 3 v' (c.replies.length - 1) (rpE.vs (c.replies.eraseIdx j)) ∧ Kp2 w1.drew w' B vr.ownBlock) := hide hT
  clear hT hb1 hD1 hC1 hbw1 hx hi ht h1 
  go_wp2_with fail
  go_region_with (first | (go_at_call 78; refine HT.out.mono ?_; rintro e w9 ⟨v9, rfl, hB9, ho9, hk9⟩; have hC9 := HUP.out w9 v9 hB9 ho9 hk9) | (go_at_call 77; refine (HAN.out w9 v9 hC9.1).mono ?_; rintro e w8 ⟨rfl, hb8, hC8⟩))
  all_goals
    go_wp2_with fail
    go_ret
    exact .ok HM.out HOV.out rfl (HBB.out.trans (hC9.2.trans hb8)) (by rw [HE.out]; exact hC8)

set_option maxRecDepth 100000 in
set_option maxHeartbeats 8000000 in
theorem do_4eqgt (B : Nat) (span : Int) (c : Ct) (vc vt vw vr : Value) (who : Int) (i j : Nat) (x : Rp) (t : Tr) (m : Nat) (w : World) (h : CtAt w B span c vc vt vw vr) (hwf : WfC c span m) (hm : mayC c ⟨4, who, j⟩ = 0) (hx : c.replies[j]? = some x) (hi : x.who = i) (ht : c.trusts[i]? = some t) (h1 : x.ep = t.ep) (h2 : t.til < x.til) :
    Calls Try.prog 64 #[.pointer (some ⟨B, 0, none⟩), .agg #[.int .i64 4, .int .i64 who, .int .i64 j]] w fun e w' => DoneC B span c ⟨4, who, j⟩ vc w e w' := by
  have hcode := codeOf_any B span c vc vt vw vr ⟨4, who, j⟩ (w.alloc (.cells #[.int .i64 4, .int .i64 who, .int .i64 j] 70)) (h.below (below_allocG _ _))
  rw [hm] at hcode
  have HCODE := hide hcode
  have HM := hide hm
  have HWF := hide hwf
  have HH := hide h
  have hB0 := h.blk.lt
  clear hcode h hwf hm
  go_enter Try.func64, Try.ntmps64
  go_wp2_with fail
  refine HCODE.out.mono ?_
  rintro e w1 ⟨rfl, hb1⟩
  have hbw1 := (below_allocG w (.cells #[.int .i64 4, .int .i64 who, .int .i64 j] 70)).trans (hb1.mono (by simp))
  have hD1 := (Blk.new w 70 #[.int .i64 4, .int .i64 who, .int .i64 j]).later hb1
  obtain ⟨d0, d1, d2, dz0, dz1, dz2, dl⟩ := hD1.three
  have hC1 := HH.out.below hbw1
  have HC1 := hide hC1
  have HBB : Hid (FrC B vc w w1) := hide (FrC.later hbw1 (Nat.le_of_lt hB0))
  have bl := hC1.blk.lt
  have HE := hide (show doC c span ⟨4, who, j⟩ = { c with replies := c.replies.eraseIdx j, trusts := c.trusts.set i ⟨x.ep, x.til⟩ } by rw [doC_4, lget_at hx, hi, lget_at ht, if_pos (.inr ⟨h1, h2⟩), ldel_at, lset_at])
  have HOV := hide (show overC (doC c span ⟨4, who, j⟩) = false from overC_iff.2 (by
    rw [HE.out]
    exact ⟨HWF.out.now.2, HWF.out.wl, Nat.le_trans (List.length_eraseIdx_le c.replies j) HWF.out.rl, fun y hy => (HWF.out.clk y hy).2⟩))
  have hT := takeR_any B 7 116 _ vr c.replies.length j (B + 1) c.replies x w1.drew hC1.blk rfl (by decide) hC1.rp hx (by have := HWF.out.rl; omega)
  have HAN := hide (fun (W : World) (v : Value) (hW : CtAt W B span { c with replies := c.replies.eraseIdx j } vc vt vw v) => believe_eqgt B span { c with replies := c.replies.eraseIdx j } vc vt vw v i x t W hW hi ht h1 h2)
  have HUP : Hid (∀ (w9 : World) (v9 : Value), Blk w9 B 116 (#[.int .i64 c.now, .int .i64 c.lease.hold, .int .i64 c.lease.ep, .int .i64 c.lease.til, vc, vt, vw, vr, .int .i64 span].setIfInBounds 7 v9) → w9.ownsRow (B + 1) 107 3 v9 (c.replies.length - 1) (rpE.vs (c.replies.eraseIdx j)) → Kp2 w1.drew w9 B vr.ownBlock → CtAt w9 B span { c with replies := c.replies.eraseIdx j } vc vt vw v9 ∧ FrC B vc w1 w9) :=
    hide fun w9 v9 hB9 ho9 hk9 => ⟨HC1.out.reply hB9 ho9 ⟨hk9.os, hk9.tape, hk9.output, hk9.size, hk9.block⟩, HC1.out.keptR ⟨hk9.os, hk9.tape, hk9.output, hk9.size, hk9.block⟩⟩
  obtain ⟨x0, x1, x2⟩ := x
  have HT : Hid (Calls Try.prog 78 #[.pointer (some ⟨B, 7, none⟩), .int .i64 j] w1.drew fun e w' => ∃ v', e = .returned (.agg #[.int .i64 x0, .int .i64 x1, .int .i64 x2]) ∧ Blk w' B 116 (#[.int .i64 c.now, .int .i64 c.lease.hold, .int .i64 c.lease.ep, .int .i64 c.lease.til, vc, vt, vw, vr, .int .i64 span].setIfInBounds 7 v') ∧ w'.ownsRow (B + 1) 107 3 v' (c.replies.length - 1) (rpE.vs (c.replies.eraseIdx j)) ∧ Kp2 w1.drew w' B vr.ownBlock) := hide hT
  clear hT hb1 hD1 hC1 hbw1 hx hi ht h1 h2
  go_wp2_with fail
  go_region_with (first | (go_at_call 78; refine HT.out.mono ?_; rintro e w9 ⟨v9, rfl, hB9, ho9, hk9⟩; have hC9 := HUP.out w9 v9 hB9 ho9 hk9) | (go_at_call 77; refine (HAN.out w9 v9 hC9.1).mono ?_; rintro e w8 ⟨rfl, hb8, hC8⟩))
  all_goals
    go_wp2_with fail
    go_ret
    exact .ok HM.out HOV.out rfl (HBB.out.trans (hC9.2.trans hb8)) (by rw [HE.out]; exact hC8)

set_option maxRecDepth 100000 in
set_option maxHeartbeats 8000000 in
theorem do_4eq (B : Nat) (span : Int) (c : Ct) (vc vt vw vr : Value) (who : Int) (i j : Nat) (x : Rp) (t : Tr) (m : Nat) (w : World) (h : CtAt w B span c vc vt vw vr) (hwf : WfC c span m) (hm : mayC c ⟨4, who, j⟩ = 0) (hx : c.replies[j]? = some x) (hi : x.who = i) (ht : c.trusts[i]? = some t) (h1 : x.ep = t.ep) (h2 : ¬ t.til < x.til) :
    Calls Try.prog 64 #[.pointer (some ⟨B, 0, none⟩), .agg #[.int .i64 4, .int .i64 who, .int .i64 j]] w fun e w' => DoneC B span c ⟨4, who, j⟩ vc w e w' := by
  have hcode := codeOf_any B span c vc vt vw vr ⟨4, who, j⟩ (w.alloc (.cells #[.int .i64 4, .int .i64 who, .int .i64 j] 70)) (h.below (below_allocG _ _))
  rw [hm] at hcode
  have HCODE := hide hcode
  have HM := hide hm
  have HWF := hide hwf
  have HH := hide h
  have hB0 := h.blk.lt
  clear hcode h hwf hm
  go_enter Try.func64, Try.ntmps64
  go_wp2_with fail
  refine HCODE.out.mono ?_
  rintro e w1 ⟨rfl, hb1⟩
  have hbw1 := (below_allocG w (.cells #[.int .i64 4, .int .i64 who, .int .i64 j] 70)).trans (hb1.mono (by simp))
  have hD1 := (Blk.new w 70 #[.int .i64 4, .int .i64 who, .int .i64 j]).later hb1
  obtain ⟨d0, d1, d2, dz0, dz1, dz2, dl⟩ := hD1.three
  have hC1 := HH.out.below hbw1
  have HC1 := hide hC1
  have HBB : Hid (FrC B vc w w1) := hide (FrC.later hbw1 (Nat.le_of_lt hB0))
  have bl := hC1.blk.lt
  have HE := hide (show doC c span ⟨4, who, j⟩ = { c with replies := c.replies.eraseIdx j } by rw [doC_4, lget_at hx, hi, lget_at ht, if_neg (by omega), ldel_at])
  have HOV := hide (show overC (doC c span ⟨4, who, j⟩) = false from overC_iff.2 (by
    rw [HE.out]
    exact ⟨HWF.out.now.2, HWF.out.wl, Nat.le_trans (List.length_eraseIdx_le c.replies j) HWF.out.rl, fun y hy => (HWF.out.clk y hy).2⟩))
  have hT := takeR_any B 7 116 _ vr c.replies.length j (B + 1) c.replies x w1.drew hC1.blk rfl (by decide) hC1.rp hx (by have := HWF.out.rl; omega)
  have HAN := hide (fun (W : World) (v : Value) (hW : CtAt W B span { c with replies := c.replies.eraseIdx j } vc vt vw v) => believe_eq B span { c with replies := c.replies.eraseIdx j } vc vt vw v i x t W hW hi ht h1 (by omega))
  have HUP : Hid (∀ (w9 : World) (v9 : Value), Blk w9 B 116 (#[.int .i64 c.now, .int .i64 c.lease.hold, .int .i64 c.lease.ep, .int .i64 c.lease.til, vc, vt, vw, vr, .int .i64 span].setIfInBounds 7 v9) → w9.ownsRow (B + 1) 107 3 v9 (c.replies.length - 1) (rpE.vs (c.replies.eraseIdx j)) → Kp2 w1.drew w9 B vr.ownBlock → CtAt w9 B span { c with replies := c.replies.eraseIdx j } vc vt vw v9 ∧ FrC B vc w1 w9) :=
    hide fun w9 v9 hB9 ho9 hk9 => ⟨HC1.out.reply hB9 ho9 ⟨hk9.os, hk9.tape, hk9.output, hk9.size, hk9.block⟩, HC1.out.keptR ⟨hk9.os, hk9.tape, hk9.output, hk9.size, hk9.block⟩⟩
  obtain ⟨x0, x1, x2⟩ := x
  have HT : Hid (Calls Try.prog 78 #[.pointer (some ⟨B, 7, none⟩), .int .i64 j] w1.drew fun e w' => ∃ v', e = .returned (.agg #[.int .i64 x0, .int .i64 x1, .int .i64 x2]) ∧ Blk w' B 116 (#[.int .i64 c.now, .int .i64 c.lease.hold, .int .i64 c.lease.ep, .int .i64 c.lease.til, vc, vt, vw, vr, .int .i64 span].setIfInBounds 7 v') ∧ w'.ownsRow (B + 1) 107 3 v' (c.replies.length - 1) (rpE.vs (c.replies.eraseIdx j)) ∧ Kp2 w1.drew w' B vr.ownBlock) := hide hT
  clear hT hb1 hD1 hC1 hbw1 hx hi ht h1 h2
  go_wp2_with fail
  go_region_with (first | (go_at_call 78; refine HT.out.mono ?_; rintro e w9 ⟨v9, rfl, hB9, ho9, hk9⟩; have hC9 := HUP.out w9 v9 hB9 ho9 hk9) | (go_at_call 77; refine (HAN.out w9 v9 hC9.1).mono ?_; rintro e w8 ⟨rfl, hb8, hC8⟩))
  all_goals
    go_wp2_with fail
    go_ret
    exact .ok HM.out HOV.out rfl (HBB.out.trans (hC9.2.trans hb8)) (by rw [HE.out]; exact hC8)

set_option maxRecDepth 100000 in
set_option maxHeartbeats 8000000 in
theorem do_4lt (B : Nat) (span : Int) (c : Ct) (vc vt vw vr : Value) (who : Int) (i j : Nat) (x : Rp) (t : Tr) (m : Nat) (w : World) (h : CtAt w B span c vc vt vw vr) (hwf : WfC c span m) (hm : mayC c ⟨4, who, j⟩ = 0) (hx : c.replies[j]? = some x) (hi : x.who = i) (ht : c.trusts[i]? = some t) (h1 : ¬ t.ep < x.ep) (h2 : x.ep ≠ t.ep) :
    Calls Try.prog 64 #[.pointer (some ⟨B, 0, none⟩), .agg #[.int .i64 4, .int .i64 who, .int .i64 j]] w fun e w' => DoneC B span c ⟨4, who, j⟩ vc w e w' := by
  have hcode := codeOf_any B span c vc vt vw vr ⟨4, who, j⟩ (w.alloc (.cells #[.int .i64 4, .int .i64 who, .int .i64 j] 70)) (h.below (below_allocG _ _))
  rw [hm] at hcode
  have HCODE := hide hcode
  have HM := hide hm
  have HWF := hide hwf
  have HH := hide h
  have hB0 := h.blk.lt
  clear hcode h hwf hm
  go_enter Try.func64, Try.ntmps64
  go_wp2_with fail
  refine HCODE.out.mono ?_
  rintro e w1 ⟨rfl, hb1⟩
  have hbw1 := (below_allocG w (.cells #[.int .i64 4, .int .i64 who, .int .i64 j] 70)).trans (hb1.mono (by simp))
  have hD1 := (Blk.new w 70 #[.int .i64 4, .int .i64 who, .int .i64 j]).later hb1
  obtain ⟨d0, d1, d2, dz0, dz1, dz2, dl⟩ := hD1.three
  have hC1 := HH.out.below hbw1
  have HC1 := hide hC1
  have HBB : Hid (FrC B vc w w1) := hide (FrC.later hbw1 (Nat.le_of_lt hB0))
  have bl := hC1.blk.lt
  have HE := hide (show doC c span ⟨4, who, j⟩ = { c with replies := c.replies.eraseIdx j } by rw [doC_4, lget_at hx, hi, lget_at ht, if_neg (by omega), ldel_at])
  have HOV := hide (show overC (doC c span ⟨4, who, j⟩) = false from overC_iff.2 (by
    rw [HE.out]
    exact ⟨HWF.out.now.2, HWF.out.wl, Nat.le_trans (List.length_eraseIdx_le c.replies j) HWF.out.rl, fun y hy => (HWF.out.clk y hy).2⟩))
  have hT := takeR_any B 7 116 _ vr c.replies.length j (B + 1) c.replies x w1.drew hC1.blk rfl (by decide) hC1.rp hx (by have := HWF.out.rl; omega)
  have HAN := hide (fun (W : World) (v : Value) (hW : CtAt W B span { c with replies := c.replies.eraseIdx j } vc vt vw v) => believe_lt B span { c with replies := c.replies.eraseIdx j } vc vt vw v i x t W hW hi ht (by omega) h2)
  have HUP : Hid (∀ (w9 : World) (v9 : Value), Blk w9 B 116 (#[.int .i64 c.now, .int .i64 c.lease.hold, .int .i64 c.lease.ep, .int .i64 c.lease.til, vc, vt, vw, vr, .int .i64 span].setIfInBounds 7 v9) → w9.ownsRow (B + 1) 107 3 v9 (c.replies.length - 1) (rpE.vs (c.replies.eraseIdx j)) → Kp2 w1.drew w9 B vr.ownBlock → CtAt w9 B span { c with replies := c.replies.eraseIdx j } vc vt vw v9 ∧ FrC B vc w1 w9) :=
    hide fun w9 v9 hB9 ho9 hk9 => ⟨HC1.out.reply hB9 ho9 ⟨hk9.os, hk9.tape, hk9.output, hk9.size, hk9.block⟩, HC1.out.keptR ⟨hk9.os, hk9.tape, hk9.output, hk9.size, hk9.block⟩⟩
  obtain ⟨x0, x1, x2⟩ := x
  have HT : Hid (Calls Try.prog 78 #[.pointer (some ⟨B, 7, none⟩), .int .i64 j] w1.drew fun e w' => ∃ v', e = .returned (.agg #[.int .i64 x0, .int .i64 x1, .int .i64 x2]) ∧ Blk w' B 116 (#[.int .i64 c.now, .int .i64 c.lease.hold, .int .i64 c.lease.ep, .int .i64 c.lease.til, vc, vt, vw, vr, .int .i64 span].setIfInBounds 7 v') ∧ w'.ownsRow (B + 1) 107 3 v' (c.replies.length - 1) (rpE.vs (c.replies.eraseIdx j)) ∧ Kp2 w1.drew w' B vr.ownBlock) := hide hT
  clear hT hb1 hD1 hC1 hbw1 hx hi ht h1 h2
  go_wp2_with fail
  go_region_with (first | (go_at_call 78; refine HT.out.mono ?_; rintro e w9 ⟨v9, rfl, hB9, ho9, hk9⟩; have hC9 := HUP.out w9 v9 hB9 ho9 hk9) | (go_at_call 77; refine (HAN.out w9 v9 hC9.1).mono ?_; rintro e w8 ⟨rfl, hb8, hC8⟩))
  all_goals
    go_wp2_with fail
    go_ret
    exact .ok HM.out HOV.out rfl (HBB.out.trans (hC9.2.trans hb8)) (by rw [HE.out]; exact hC8)

theorem cond_zero {b : Bool} (h : cond b (0 : Int) 3 = 0) : b = true := by
  cases b
  · cases h
  · rfl

theorem hasN_at {α : Type} {l : List α} {n : Int} (h : hasN l.length n = true) : ∃ (j : Nat) (x : α), n = j ∧ l[j]? = some x := by
  have := of_decide_eq_true h
  exact ⟨n.toNat, l[n.toNat]'(by omega), by omega, List.getElem?_eq_getElem _⟩

theorem do_any (B : Nat) (span : Int) (c : Ct) (vc vt vw vr : Value) (d : Dd) (m : Nat) (w : World) (h : CtAt w B span c vc vt vw vr) (hwf : WfC c span m) :
    Calls Try.prog 64 #[.pointer (some ⟨B, 0, none⟩), .agg #[.int .i64 d.kind, .int .i64 d.who, .int .i64 d.n]] w fun e w' => DoneC B span c d vc w e w' := by
  by_cases hm : mayC c d ≠ 0
  · exact do_bad B span c vc vt vw vr d w h hm
  have hm := Decidable.not_not.1 hm
  obtain ⟨k, who, n⟩ := d
  have hk : 0 ≤ k ∧ k ≤ 8 := by
    rw [mayC_eq] at hm
    by_cases q : k < 0 ∨ 8 < k
    · rw [if_pos q] at hm; cases hm
    · omega
  have htl := hwf.tl
  have hcl := hwf.cl
  have tr : ∀ i : Nat, i < m → ∃ t, c.trusts[i]? = some t := fun i hi => ⟨_, List.getElem?_eq_getElem (by omega)⟩
  obtain rfl | rfl | rfl | rfl | rfl | rfl | rfl | rfl | rfl : k = 0 ∨ k = 1 ∨ k = 2 ∨ k = 3 ∨ k = 4 ∨ k = 5 ∨ k = 6 ∨ k = 7 ∨ k = 8 := by omega
  · exact do_0 B span c vc vt vw vr who n m w h hwf hm
  · have q := hm
    rw [mayC_1] at q
    have q2 := cond_zero q
    rw [Bool.and_eq_true] at q2
    obtain ⟨i, x, rfl, hx⟩ := hasN_at q2.1
    exact do_1 B span c vc vt vw vr i x n m w h hwf hm hx
  · have q := hm
    rw [mayC_2] at q
    obtain ⟨i, x, rfl, hx⟩ := hasN_at (cond_zero q)
    obtain ⟨t, ht⟩ := tr i (by have := (List.getElem?_eq_some_iff.1 hx).1; omega)
    exact do_2 B span c vc vt vw vr i x t n m w h hwf hm hx ht
  · have q := hm
    rw [mayC_3] at q
    obtain ⟨j, x, rfl, hx⟩ := hasN_at (cond_zero q)
    by_cases hf : (heardF c.lease x c.now span).1 = 0
    · by_cases hl : c.replies.length = 100
      · exact do_3full B span c vc vt vw vr who j x m w h hwf hm hx hf hl
      · exact do_3ok B span c vc vt vw vr who j x m w h hwf hm hx hf (by have := hwf.rl; omega)
    · exact do_3bad B span c vc vt vw vr who j x m w h hwf hm hx hf
  · have q := hm
    rw [mayC_4] at q
    obtain ⟨j, x, rfl, hx⟩ := hasN_at (cond_zero q)
    have hr := hwf.rs x (List.mem_of_getElem? hx)
    obtain ⟨i, hi⟩ : ∃ i : Nat, x.who = i := ⟨x.who.toNat, by omega⟩
    obtain ⟨t, ht⟩ := tr i (by omega)
    by_cases h1 : t.ep < x.ep
    · exact do_4gt B span c vc vt vw vr who i j x t m w h hwf hm hx hi ht h1
    · by_cases h2 : x.ep = t.ep
      · by_cases h3 : t.til < x.til
        · exact do_4eqgt B span c vc vt vw vr who i j x t m w h hwf hm hx hi ht h2 h3
        · exact do_4eq B span c vc vt vw vr who i j x t m w h hwf hm hx hi ht h2 h3
      · exact do_4lt B span c vc vt vw vr who i j x t m w h hwf hm hx hi ht h1 h2
  · have q := hm
    rw [mayC_5] at q
    obtain ⟨i, x, rfl, hx⟩ := hasN_at (cond_zero q)
    obtain ⟨t, ht⟩ := tr i (by have := (List.getElem?_eq_some_iff.1 hx).1; omega)
    exact do_5 B span c vc vt vw vr i t n m w h hwf hm ht
  · have q := hm
    rw [mayC_6] at q
    obtain ⟨j, x, rfl, hx⟩ := hasN_at (cond_zero q)
    by_cases hl : c.wishes.length = 100
    · exact do_6full B span c vc vt vw vr who j x m w h hwf hm hx hl
    · exact do_6room B span c vc vt vw vr who j x m w h hwf hm hx (by have := hwf.wl; omega)
  · have q := hm
    rw [mayC_7] at q
    obtain ⟨j, x, rfl, hx⟩ := hasN_at (cond_zero q)
    exact do_7 B span c vc vt vw vr who j x m w h hwf hm hx
  · have q := hm
    rw [mayC_8] at q
    obtain ⟨j, x, rfl, hx⟩ := hasN_at (cond_zero q)
    exact do_8 B span c vc vt vw vr who j x m w h hwf hm hx

end Go.Proofs.Ytfmoniabpinceaf
