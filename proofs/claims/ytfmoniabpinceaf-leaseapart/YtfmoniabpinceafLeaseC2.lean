/-
  The walks over the court: codeOf.
-/
import Derived.Test.YtfmoniabpinceafLeaseC1
namespace Go.Proofs.Ytfmoniabpinceaf
open Go.RowKit
set_option linter.unusedVariables false

/-- A court in memory: its block, and its four lists. -/
structure CtAt (w : World) (B : Nat) (span : Int) (c : Ct) (vc vt vw vr : Value) : Prop where
  blk : Blk w B 116 #[.int .i64 c.now, .int .i64 c.lease.hold, .int .i64 c.lease.ep, .int .i64 c.lease.til, vc, vt, vw, vr, .int .i64 span]
  cl : w.ownsRow (B + 1) 3 1 vc c.clocks.length (iE.vs c.clocks)
  tr : w.ownsRow (B + 1) 80 2 vt c.trusts.length (tE.vs c.trusts)
  ws : w.ownsRow (B + 1) 105 3 vw c.wishes.length (wsE.vs c.wishes)
  rp : w.ownsRow (B + 1) 107 3 vr c.replies.length (rpE.vs c.replies)

theorem CtAt.below {w w' : World} {B : Nat} {span : Int} {c : Ct} {vc vt vw vr : Value} (h : CtAt w B span c vc vt vw vr) (hb : Below w.heap.size w w') : CtAt w' B span c vc vt vw vr :=
  ⟨h.blk.later hb, owns_below h.cl hb, owns_below h.tr hb, owns_below h.ws hb, owns_below h.rp hb⟩

theorem mayC_eq (c : Ct) (k who n : Int) : mayC c ⟨k, who, n⟩ = if k < 0 ∨ 8 < k then 4
  else if (k = 1 ∨ k = 2 ∨ k = 5) ∧ (who < 0 ∨ (c.clocks.length : Int) ≤ who) then 3
  else if k < 2 ∧ (n < 0 ∨ 1000000 < n) then 3
  else if (k = 3 ∨ k = 6 ∨ k = 7) ∧ (n < 0 ∨ (c.wishes.length : Int) ≤ n) then 3
  else if (k = 4 ∨ k = 8) ∧ (n < 0 ∨ (c.replies.length : Int) ≤ n) then 3
  else 0 := rfl

/-- What is wrong with a deed, by its kind. -/
theorem mayC_0 (c : Ct) (who n : Int) : mayC c ⟨0, who, n⟩ = cond (stepN n) 0 3 := by
  rw [mayC_eq]
  unfold stepN
  by_cases h : 0 ≤ n ∧ n ≤ 1000000
  · rw [if_neg (by omega), if_neg (by omega), if_neg (by omega), if_neg (by omega), if_neg (by omega), decide_eq_true h]; rfl
  · rw [if_neg (by omega), if_neg (by omega), if_pos (by omega), decide_eq_false h]; rfl

theorem mayC_1 (c : Ct) (who n : Int) : mayC c ⟨1, who, n⟩ = cond (hasN c.clocks.length who && stepN n) 0 3 := by
  rw [mayC_eq]
  unfold stepN hasN
  by_cases h0 : 0 ≤ who ∧ who < c.clocks.length
  · by_cases h : 0 ≤ n ∧ n ≤ 1000000
    · rw [if_neg (by omega), if_neg (by omega), if_neg (by omega), if_neg (by omega), if_neg (by omega), decide_eq_true h, decide_eq_true h0]; rfl
    · rw [if_neg (by omega), if_neg (by omega), if_pos (by omega), decide_eq_false h, decide_eq_true h0]; rfl
  · rw [if_neg (by omega), if_pos (by omega), decide_eq_false h0]; rfl

theorem mayC_2 (c : Ct) (who n : Int) : mayC c ⟨2, who, n⟩ = cond (hasN c.clocks.length who) 0 3 := by
  rw [mayC_eq]
  unfold hasN
  by_cases h0 : 0 ≤ who ∧ who < c.clocks.length
  · rw [if_neg (by omega), if_neg (by omega), if_neg (by omega), if_neg (by omega), if_neg (by omega), decide_eq_true h0]; rfl
  · rw [if_neg (by omega), if_pos (by omega), decide_eq_false h0]; rfl

theorem mayC_5 (c : Ct) (who n : Int) : mayC c ⟨5, who, n⟩ = cond (hasN c.clocks.length who) 0 3 := by
  rw [mayC_eq]
  unfold hasN
  by_cases h0 : 0 ≤ who ∧ who < c.clocks.length
  · rw [if_neg (by omega), if_neg (by omega), if_neg (by omega), if_neg (by omega), if_neg (by omega), decide_eq_true h0]; rfl
  · rw [if_neg (by omega), if_pos (by omega), decide_eq_false h0]; rfl

theorem mayC_3 (c : Ct) (who n : Int) : mayC c ⟨3, who, n⟩ = cond (hasN c.wishes.length n) 0 3 := by
  rw [mayC_eq]
  unfold hasN
  by_cases h0 : 0 ≤ n ∧ n < c.wishes.length
  · rw [if_neg (by omega), if_neg (by omega), if_neg (by omega), if_neg (by omega), if_neg (by omega), decide_eq_true h0]; rfl
  · rw [if_neg (by omega), if_neg (by omega), if_neg (by omega), if_pos (by omega), decide_eq_false h0]; rfl

theorem mayC_6 (c : Ct) (who n : Int) : mayC c ⟨6, who, n⟩ = cond (hasN c.wishes.length n) 0 3 := by
  rw [mayC_eq]
  unfold hasN
  by_cases h0 : 0 ≤ n ∧ n < c.wishes.length
  · rw [if_neg (by omega), if_neg (by omega), if_neg (by omega), if_neg (by omega), if_neg (by omega), decide_eq_true h0]; rfl
  · rw [if_neg (by omega), if_neg (by omega), if_neg (by omega), if_pos (by omega), decide_eq_false h0]; rfl

theorem mayC_7 (c : Ct) (who n : Int) : mayC c ⟨7, who, n⟩ = cond (hasN c.wishes.length n) 0 3 := by
  rw [mayC_eq]
  unfold hasN
  by_cases h0 : 0 ≤ n ∧ n < c.wishes.length
  · rw [if_neg (by omega), if_neg (by omega), if_neg (by omega), if_neg (by omega), if_neg (by omega), decide_eq_true h0]; rfl
  · rw [if_neg (by omega), if_neg (by omega), if_neg (by omega), if_pos (by omega), decide_eq_false h0]; rfl

theorem mayC_4 (c : Ct) (who n : Int) : mayC c ⟨4, who, n⟩ = cond (hasN c.replies.length n) 0 3 := by
  rw [mayC_eq]
  unfold hasN
  by_cases h0 : 0 ≤ n ∧ n < c.replies.length
  · rw [if_neg (by omega), if_neg (by omega), if_neg (by omega), if_neg (by omega), if_neg (by omega), decide_eq_true h0]; rfl
  · rw [if_neg (by omega), if_neg (by omega), if_neg (by omega), if_neg (by omega), if_pos (by omega), decide_eq_false h0]; rfl

theorem mayC_8 (c : Ct) (who n : Int) : mayC c ⟨8, who, n⟩ = cond (hasN c.replies.length n) 0 3 := by
  rw [mayC_eq]
  unfold hasN
  by_cases h0 : 0 ≤ n ∧ n < c.replies.length
  · rw [if_neg (by omega), if_neg (by omega), if_neg (by omega), if_neg (by omega), if_neg (by omega), decide_eq_true h0]; rfl
  · rw [if_neg (by omega), if_neg (by omega), if_neg (by omega), if_neg (by omega), if_pos (by omega), decide_eq_false h0]; rfl

set_option maxRecDepth 100000 in
set_option maxHeartbeats 1000000 in
theorem codeOf_0 (B : Nat) (span : Int) (c : Ct) (vc vt vw vr : Value) (who n : Int) (w : World) (h : CtAt w B span c vc vt vw vr) :
    Calls Try.prog 72 #[.pointer (some ⟨B, 0, none⟩), .agg #[.int .i64 0, .int .i64 who, .int .i64 n]] w fun e w' => e = .returned (.int .i64 (mayC c ⟨0, who, n⟩)) ∧ Below w.heap.size w w' := by
  have HE := hide (mayC_0 c who n)
  obtain ⟨co, cc9, hc9⟩ := owns_shapeK h.cl
  obtain ⟨wo, wc9, hw9⟩ := owns_shapeK h.ws
  obtain ⟨ro, rc9, hr9⟩ := owns_shapeK h.rp
  subst hc9 hw9 hr9
  have b4 := h.blk.cell 4
  have b6 := h.blk.cell 6
  have b7 := h.blk.cell 7
  have bl := h.blk.lt
  simp at b4 b6 b7
  clear h
  cases hs : stepN n
  all_goals
    rw [hs] at HE
    go_enter Try.func72, Try.ntmps72
    go_wp2_with (go_at_call 80; refine (isStep_any _ _).mono ?_; rintro e w' ⟨rfl, rfl⟩; rw [hs])
    go_ret
    exact ⟨by rw [HE.out]; rfl, by go_grown⟩

set_option maxRecDepth 100000 in
set_option maxHeartbeats 1000000 in
theorem codeOf_1 (B : Nat) (span : Int) (c : Ct) (vc vt vw vr : Value) (who n : Int) (w : World) (h : CtAt w B span c vc vt vw vr) :
    Calls Try.prog 72 #[.pointer (some ⟨B, 0, none⟩), .agg #[.int .i64 1, .int .i64 who, .int .i64 n]] w fun e w' => e = .returned (.int .i64 (mayC c ⟨1, who, n⟩)) ∧ Below w.heap.size w w' := by
  have HE := hide (mayC_1 c who n)
  obtain ⟨co, cc9, hc9⟩ := owns_shapeK h.cl
  obtain ⟨wo, wc9, hw9⟩ := owns_shapeK h.ws
  obtain ⟨ro, rc9, hr9⟩ := owns_shapeK h.rp
  subst hc9 hw9 hr9
  have b4 := h.blk.cell 4
  have b6 := h.blk.cell 6
  have b7 := h.blk.cell 7
  have bl := h.blk.lt
  simp at b4 b6 b7
  clear h
  have hhi := fun W => hasI_any co c.clocks.length cc9 who W
  have hst := fun W => isStep_any n W
  cases hh : hasN c.clocks.length who
  · rw [hh] at hhi HE
    have HHI := hide hhi
    clear hhi hh hst
    go_enter Try.func72, Try.ntmps72
    go_wp2_with fail
    go_quiet (first | (go_at_call 81; exact Calls.quiet_of_same (HHI.out _)))
    go_wp2_with fail
    go_ret
    exact ⟨by rw [HE.out]; rfl, below_drewN (by go_grown) _⟩
  · cases hs : stepN n
    all_goals
      rw [hh, hs] at HE
      rw [hh] at hhi
      rw [hs] at hst
      have HHI := hide hhi
      have HST := hide hst
      clear hhi hh hst hs
      go_enter Try.func72, Try.ntmps72
      go_wp2_with fail
      go_quiet (first | (go_at_call 81; exact Calls.quiet_of_same (HHI.out _)) | (go_at_call 80; exact Calls.quiet_of_same (HST.out _)) | (go_at_call 80; exact quiet_addG ((HST.out _).mono fun _ _ ⟨h, h'⟩ => ⟨h, 0, h'⟩)))
      go_wp2_with fail
      go_ret
      exact ⟨by rw [HE.out]; rfl, below_drewN (by go_grown) _⟩

set_option maxRecDepth 100000 in
set_option maxHeartbeats 1000000 in
theorem codeOf_2 (B : Nat) (span : Int) (c : Ct) (vc vt vw vr : Value) (who n : Int) (w : World) (h : CtAt w B span c vc vt vw vr) :
    Calls Try.prog 72 #[.pointer (some ⟨B, 0, none⟩), .agg #[.int .i64 2, .int .i64 who, .int .i64 n]] w fun e w' => e = .returned (.int .i64 (mayC c ⟨2, who, n⟩)) ∧ Below w.heap.size w w' := by
  have HE := hide (mayC_2 c who n)
  obtain ⟨co, cc9, hc9⟩ := owns_shapeK h.cl
  obtain ⟨wo, wc9, hw9⟩ := owns_shapeK h.ws
  obtain ⟨ro, rc9, hr9⟩ := owns_shapeK h.rp
  subst hc9 hw9 hr9
  have b4 := h.blk.cell 4
  have b6 := h.blk.cell 6
  have b7 := h.blk.cell 7
  have bl := h.blk.lt
  simp at b4 b6 b7
  clear h
  have hhi := fun W => hasI_any co c.clocks.length cc9 who W
  cases hh : hasN c.clocks.length who
  all_goals
    rw [hh] at hhi HE
    have HHI := hide hhi
    clear hhi hh
    go_enter Try.func72, Try.ntmps72
    go_wp2_with fail
    go_quiet (first | (go_at_call 81; exact Calls.quiet_of_same (HHI.out _)))
    go_wp2_with fail
    go_ret
    exact ⟨by rw [HE.out]; rfl, below_drewN (by go_grown) _⟩

set_option maxRecDepth 100000 in
set_option maxHeartbeats 1000000 in
theorem codeOf_5 (B : Nat) (span : Int) (c : Ct) (vc vt vw vr : Value) (who n : Int) (w : World) (h : CtAt w B span c vc vt vw vr) :
    Calls Try.prog 72 #[.pointer (some ⟨B, 0, none⟩), .agg #[.int .i64 5, .int .i64 who, .int .i64 n]] w fun e w' => e = .returned (.int .i64 (mayC c ⟨5, who, n⟩)) ∧ Below w.heap.size w w' := by
  have HE := hide (mayC_5 c who n)
  obtain ⟨co, cc9, hc9⟩ := owns_shapeK h.cl
  obtain ⟨wo, wc9, hw9⟩ := owns_shapeK h.ws
  obtain ⟨ro, rc9, hr9⟩ := owns_shapeK h.rp
  subst hc9 hw9 hr9
  have b4 := h.blk.cell 4
  have b6 := h.blk.cell 6
  have b7 := h.blk.cell 7
  have bl := h.blk.lt
  simp at b4 b6 b7
  clear h
  have hhi := fun W => hasI_any co c.clocks.length cc9 who W
  cases hh : hasN c.clocks.length who
  all_goals
    rw [hh] at hhi HE
    have HHI := hide hhi
    clear hhi hh
    go_enter Try.func72, Try.ntmps72
    go_wp2_with fail
    go_quiet (first | (go_at_call 81; exact Calls.quiet_of_same (HHI.out _)))
    go_wp2_with fail
    go_ret
    exact ⟨by rw [HE.out]; rfl, below_drewN (by go_grown) _⟩

set_option maxRecDepth 100000 in
set_option maxHeartbeats 1000000 in
theorem codeOf_3 (B : Nat) (span : Int) (c : Ct) (vc vt vw vr : Value) (who n : Int) (w : World) (h : CtAt w B span c vc vt vw vr) :
    Calls Try.prog 72 #[.pointer (some ⟨B, 0, none⟩), .agg #[.int .i64 3, .int .i64 who, .int .i64 n]] w fun e w' => e = .returned (.int .i64 (mayC c ⟨3, who, n⟩)) ∧ Below w.heap.size w w' := by
  have HE := hide (mayC_3 c who n)
  obtain ⟨co, cc9, hc9⟩ := owns_shapeK h.cl
  obtain ⟨wo, wc9, hw9⟩ := owns_shapeK h.ws
  obtain ⟨ro, rc9, hr9⟩ := owns_shapeK h.rp
  subst hc9 hw9 hr9
  have b4 := h.blk.cell 4
  have b6 := h.blk.cell 6
  have b7 := h.blk.cell 7
  have bl := h.blk.lt
  simp at b4 b6 b7
  clear h
  have hhi := fun W => hasW_any wo c.wishes.length wc9 n W
  cases hh : hasN c.wishes.length n
  all_goals
    rw [hh] at hhi HE
    have HHI := hide hhi
    clear hhi hh
    go_enter Try.func72, Try.ntmps72
    go_wp2_with fail
    go_quiet (first | (go_at_call 82; exact Calls.quiet_of_same (HHI.out _)))
    go_wp2_with fail
    go_ret
    exact ⟨by rw [HE.out]; rfl, below_drewN (by go_grown) _⟩

set_option maxRecDepth 100000 in
set_option maxHeartbeats 1000000 in
theorem codeOf_6 (B : Nat) (span : Int) (c : Ct) (vc vt vw vr : Value) (who n : Int) (w : World) (h : CtAt w B span c vc vt vw vr) :
    Calls Try.prog 72 #[.pointer (some ⟨B, 0, none⟩), .agg #[.int .i64 6, .int .i64 who, .int .i64 n]] w fun e w' => e = .returned (.int .i64 (mayC c ⟨6, who, n⟩)) ∧ Below w.heap.size w w' := by
  have HE := hide (mayC_6 c who n)
  obtain ⟨co, cc9, hc9⟩ := owns_shapeK h.cl
  obtain ⟨wo, wc9, hw9⟩ := owns_shapeK h.ws
  obtain ⟨ro, rc9, hr9⟩ := owns_shapeK h.rp
  subst hc9 hw9 hr9
  have b4 := h.blk.cell 4
  have b6 := h.blk.cell 6
  have b7 := h.blk.cell 7
  have bl := h.blk.lt
  simp at b4 b6 b7
  clear h
  have hhi := fun W => hasW_any wo c.wishes.length wc9 n W
  cases hh : hasN c.wishes.length n
  all_goals
    rw [hh] at hhi HE
    have HHI := hide hhi
    clear hhi hh
    go_enter Try.func72, Try.ntmps72
    go_wp2_with fail
    go_quiet (first | (go_at_call 82; exact Calls.quiet_of_same (HHI.out _)))
    go_wp2_with fail
    go_ret
    exact ⟨by rw [HE.out]; rfl, below_drewN (by go_grown) _⟩

set_option maxRecDepth 100000 in
set_option maxHeartbeats 1000000 in
theorem codeOf_7 (B : Nat) (span : Int) (c : Ct) (vc vt vw vr : Value) (who n : Int) (w : World) (h : CtAt w B span c vc vt vw vr) :
    Calls Try.prog 72 #[.pointer (some ⟨B, 0, none⟩), .agg #[.int .i64 7, .int .i64 who, .int .i64 n]] w fun e w' => e = .returned (.int .i64 (mayC c ⟨7, who, n⟩)) ∧ Below w.heap.size w w' := by
  have HE := hide (mayC_7 c who n)
  obtain ⟨co, cc9, hc9⟩ := owns_shapeK h.cl
  obtain ⟨wo, wc9, hw9⟩ := owns_shapeK h.ws
  obtain ⟨ro, rc9, hr9⟩ := owns_shapeK h.rp
  subst hc9 hw9 hr9
  have b4 := h.blk.cell 4
  have b6 := h.blk.cell 6
  have b7 := h.blk.cell 7
  have bl := h.blk.lt
  simp at b4 b6 b7
  clear h
  have hhi := fun W => hasW_any wo c.wishes.length wc9 n W
  cases hh : hasN c.wishes.length n
  all_goals
    rw [hh] at hhi HE
    have HHI := hide hhi
    clear hhi hh
    go_enter Try.func72, Try.ntmps72
    go_wp2_with fail
    go_quiet (first | (go_at_call 82; exact Calls.quiet_of_same (HHI.out _)))
    go_wp2_with fail
    go_ret
    exact ⟨by rw [HE.out]; rfl, below_drewN (by go_grown) _⟩

set_option maxRecDepth 100000 in
set_option maxHeartbeats 1000000 in
theorem codeOf_4 (B : Nat) (span : Int) (c : Ct) (vc vt vw vr : Value) (who n : Int) (w : World) (h : CtAt w B span c vc vt vw vr) :
    Calls Try.prog 72 #[.pointer (some ⟨B, 0, none⟩), .agg #[.int .i64 4, .int .i64 who, .int .i64 n]] w fun e w' => e = .returned (.int .i64 (mayC c ⟨4, who, n⟩)) ∧ Below w.heap.size w w' := by
  have HE := hide (mayC_4 c who n)
  obtain ⟨co, cc9, hc9⟩ := owns_shapeK h.cl
  obtain ⟨wo, wc9, hw9⟩ := owns_shapeK h.ws
  obtain ⟨ro, rc9, hr9⟩ := owns_shapeK h.rp
  subst hc9 hw9 hr9
  have b4 := h.blk.cell 4
  have b6 := h.blk.cell 6
  have b7 := h.blk.cell 7
  have bl := h.blk.lt
  simp at b4 b6 b7
  clear h
  have hhi := fun W => hasR_any ro c.replies.length rc9 n W
  cases hh : hasN c.replies.length n
  all_goals
    rw [hh] at hhi HE
    have HHI := hide hhi
    clear hhi hh
    go_enter Try.func72, Try.ntmps72
    go_wp2_with fail
    go_quiet (first | (go_at_call 83; exact Calls.quiet_of_same (HHI.out _)))
    go_wp2_with fail
    go_ret
    exact ⟨by rw [HE.out]; rfl, below_drewN (by go_grown) _⟩

set_option maxRecDepth 100000 in
set_option maxHeartbeats 1000000 in
theorem codeOf_8 (B : Nat) (span : Int) (c : Ct) (vc vt vw vr : Value) (who n : Int) (w : World) (h : CtAt w B span c vc vt vw vr) :
    Calls Try.prog 72 #[.pointer (some ⟨B, 0, none⟩), .agg #[.int .i64 8, .int .i64 who, .int .i64 n]] w fun e w' => e = .returned (.int .i64 (mayC c ⟨8, who, n⟩)) ∧ Below w.heap.size w w' := by
  have HE := hide (mayC_8 c who n)
  obtain ⟨co, cc9, hc9⟩ := owns_shapeK h.cl
  obtain ⟨wo, wc9, hw9⟩ := owns_shapeK h.ws
  obtain ⟨ro, rc9, hr9⟩ := owns_shapeK h.rp
  subst hc9 hw9 hr9
  have b4 := h.blk.cell 4
  have b6 := h.blk.cell 6
  have b7 := h.blk.cell 7
  have bl := h.blk.lt
  simp at b4 b6 b7
  clear h
  have hhi := fun W => hasR_any ro c.replies.length rc9 n W
  cases hh : hasN c.replies.length n
  all_goals
    rw [hh] at hhi HE
    have HHI := hide hhi
    clear hhi hh
    go_enter Try.func72, Try.ntmps72
    go_wp2_with fail
    go_quiet (first | (go_at_call 83; exact Calls.quiet_of_same (HHI.out _)))
    go_wp2_with fail
    go_ret
    exact ⟨by rw [HE.out]; rfl, below_drewN (by go_grown) _⟩

set_option maxRecDepth 100000 in
set_option maxHeartbeats 1000000 in
theorem codeOf_any (B : Nat) (span : Int) (c : Ct) (vc vt vw vr : Value) (d : Dd) (w : World) (h : CtAt w B span c vc vt vw vr) :
    Calls Try.prog 72 #[.pointer (some ⟨B, 0, none⟩), .agg #[.int .i64 d.kind, .int .i64 d.who, .int .i64 d.n]] w fun e w' => e = .returned (.int .i64 (mayC c d)) ∧ Below w.heap.size w w' := by
  obtain ⟨k, who, n⟩ := d
  by_cases h0 : k = 0
  · subst h0; exact codeOf_0 B span c vc vt vw vr who n w h
  by_cases h1 : k = 1
  · subst h1; exact codeOf_1 B span c vc vt vw vr who n w h
  by_cases h2 : k = 2
  · subst h2; exact codeOf_2 B span c vc vt vw vr who n w h
  by_cases h3 : k = 3
  · subst h3; exact codeOf_3 B span c vc vt vw vr who n w h
  by_cases h4 : k = 4
  · subst h4; exact codeOf_4 B span c vc vt vw vr who n w h
  by_cases h5 : k = 5
  · subst h5; exact codeOf_5 B span c vc vt vw vr who n w h
  by_cases h6 : k = 6
  · subst h6; exact codeOf_6 B span c vc vt vw vr who n w h
  by_cases h7 : k = 7
  · subst h7; exact codeOf_7 B span c vc vt vw vr who n w h
  by_cases h8 : k = 8
  · subst h8; exact codeOf_8 B span c vc vt vw vr who n w h
  have HE : Hid (mayC c ⟨k, who, n⟩ = 4) := hide (by unfold mayC; simp only; rw [if_pos (by omega)])
  have q0 : (k == 0) = false := beq_eq_false_iff_ne.2 h0
  have q1 : (k == 1) = false := beq_eq_false_iff_ne.2 h1
  have q2 : (k == 2) = false := beq_eq_false_iff_ne.2 h2
  have q3 : (k == 3) = false := beq_eq_false_iff_ne.2 h3
  have q4 : (k == 4) = false := beq_eq_false_iff_ne.2 h4
  have q5 : (k == 5) = false := beq_eq_false_iff_ne.2 h5
  have q6 : (k == 6) = false := beq_eq_false_iff_ne.2 h6
  have q7 : (k == 7) = false := beq_eq_false_iff_ne.2 h7
  have q8 : (k == 8) = false := beq_eq_false_iff_ne.2 h8
  clear h h0 h1 h2 h3 h4 h5 h6 h7 h8
  simp only
  go_enter Try.func72, Try.ntmps72
  go_wp2_with fail
  go_ret
  exact ⟨by rw [HE.out]; rfl, by go_grown⟩

end Go.Proofs.Ytfmoniabpinceaf
