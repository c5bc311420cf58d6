/-
  The walks over the court: believe and asked.
-/
import Derived.Test.YtfmoniabpinceafLeaseC3
import Derived.Test.YtfmoniabpinceafLeaseW4b
namespace Go.Proofs.Ytfmoniabpinceaf
open Go.RowKit
set_option linter.unusedVariables false

theorem Blk.three {w : World} {B : Nat} {t : TypeId} {a b c : Value} (h : Blk w B t #[a, b, c]) : w.cell? ⟨B, 0, none⟩ = some a ∧ w.cell? ⟨B, 1, none⟩ = some b ∧ w.cell? ⟨B, 2, none⟩ = some c ∧ w.frozen? ⟨B, 0, none⟩ = false ∧ w.frozen? ⟨B, 1, none⟩ = false ∧ w.frozen? ⟨B, 2, none⟩ = false ∧ B < w.heap.size :=
  ⟨h.cell 0, h.cell 1, h.cell 2, h.frozen 0, h.frozen 1, h.frozen 2, h.lt⟩

theorem Blk.two {w : World} {B : Nat} {t : TypeId} {a b : Value} (h : Blk w B t #[a, b]) : w.cell? ⟨B, 0, none⟩ = some a ∧ w.cell? ⟨B, 1, none⟩ = some b ∧ w.frozen? ⟨B, 0, none⟩ = false ∧ w.frozen? ⟨B, 1, none⟩ = false ∧ B < w.heap.size :=
  ⟨h.cell 0, h.cell 1, h.frozen 0, h.frozen 1, h.lt⟩

/-- Does a client believe in a reply? -/
def belB (r : Rp) (t : Tr) : Bool := decide (t.ep < r.ep ∨ (r.ep = t.ep ∧ t.til < r.til))

set_option maxRecDepth 100000 in
set_option maxHeartbeats 4000000 in
theorem believe_gt (B : Nat) (span : Int) (c : Ct) (vc vt vw vr : Value) (i : Nat) (r : Rp) (t : Tr) (w : World) (h : CtAt w B span c vc vt vw vr) (hr : r.who = i) (hti : c.trusts[i]? = some t) (h1 : t.ep < r.ep) :
    Calls Try.prog 77 #[.pointer (some ⟨B, 0, none⟩), .agg #[.int .i64 r.who, .int .i64 r.ep, .int .i64 r.til]] w fun e w' => e = .returned (.tuple #[]) ∧ FrC B vc w w' ∧ CtAt w' B span { c with trusts := c.trusts.set i ⟨r.ep, r.til⟩ } vc vt vw vr := by
  have HH := hide h
  obtain ⟨g2, cap2, rfl, t0, t1, tz0, tz1, tg, tB⟩ := h.trustAt hti
  have hi2 := (List.getElem?_eq_some_iff.1 hti).1
  have hk1 : (0 : Int) ≤ (i : Int) := by omega
  have hk3 : (i : Int) < (c.trusts.length : Int) := by omega
  have b5 := h.blk.cell 5
  have bl := h.blk.lt
  simp at b5
  obtain ⟨rw0, re, rt⟩ := r
  simp only at hr
  subst hr
  obtain ⟨te, tt⟩ := t
  simp only at t0 t1 h1  ⊢
  have HA := hide (below_alloc2 w (.cells #[.int .i64 i, .int .i64 re, .int .i64 rt] 107) (.cells #[.int .i64 te, .int .i64 tt] 80))
  have HI2 := hide hi2
  clear h hti hi2
  go_enter Try.func77, Try.ntmps77
  go_wp2_with fail
  go_region
  all_goals
    go_wp2_with fail
    go_region
    all_goals
      go_wp2_with fail
      refine bodyPost_end (v := .tuple #[]) (by simp [results, Try.results77]) rfl ?_
      exact ⟨rfl, (HH.out.frT (i * 2) (i * 2 + 1) (.int .i64 re) (.int .i64 rt)).trans (FrC.later (by go_grown) (by simp; omega)), (HH.out.setTrust HI2.out re rt).below (by go_grown)⟩

set_option maxRecDepth 100000 in
set_option maxHeartbeats 4000000 in
theorem believe_eqgt (B : Nat) (span : Int) (c : Ct) (vc vt vw vr : Value) (i : Nat) (r : Rp) (t : Tr) (w : World) (h : CtAt w B span c vc vt vw vr) (hr : r.who = i) (hti : c.trusts[i]? = some t) (h1 : r.ep = t.ep) (h2 : t.til < r.til) :
    Calls Try.prog 77 #[.pointer (some ⟨B, 0, none⟩), .agg #[.int .i64 r.who, .int .i64 r.ep, .int .i64 r.til]] w fun e w' => e = .returned (.tuple #[]) ∧ FrC B vc w w' ∧ CtAt w' B span { c with trusts := c.trusts.set i ⟨r.ep, r.til⟩ } vc vt vw vr := by
  have HH := hide h
  obtain ⟨g2, cap2, rfl, t0, t1, tz0, tz1, tg, tB⟩ := h.trustAt hti
  have hi2 := (List.getElem?_eq_some_iff.1 hti).1
  have hk1 : (0 : Int) ≤ (i : Int) := by omega
  have hk3 : (i : Int) < (c.trusts.length : Int) := by omega
  have b5 := h.blk.cell 5
  have bl := h.blk.lt
  simp at b5
  obtain ⟨rw0, re, rt⟩ := r
  simp only at hr
  subst hr
  obtain ⟨te, tt⟩ := t
  simp only at t0 t1 h1 h2 ⊢
  have HA := hide (below_alloc2 w (.cells #[.int .i64 i, .int .i64 re, .int .i64 rt] 107) (.cells #[.int .i64 te, .int .i64 tt] 80))
  have HI2 := hide hi2
  clear h hti hi2
  subst h1
  go_enter Try.func77, Try.ntmps77
  go_wp2_with fail
  go_region
  all_goals
    go_wp2_with fail
    go_region
    all_goals
      go_wp2_with fail
      refine bodyPost_end (v := .tuple #[]) (by simp [results, Try.results77]) rfl ?_
      exact ⟨rfl, (HH.out.frT (i * 2) (i * 2 + 1) (.int .i64 re) (.int .i64 rt)).trans (FrC.later (by go_grown) (by simp; omega)), (HH.out.setTrust HI2.out re rt).below (by go_grown)⟩

set_option maxRecDepth 100000 in
set_option maxHeartbeats 4000000 in
theorem believe_eq (B : Nat) (span : Int) (c : Ct) (vc vt vw vr : Value) (i : Nat) (r : Rp) (t : Tr) (w : World) (h : CtAt w B span c vc vt vw vr) (hr : r.who = i) (hti : c.trusts[i]? = some t) (h1 : r.ep = t.ep) (h2 : ¬ t.til < r.til) :
    Calls Try.prog 77 #[.pointer (some ⟨B, 0, none⟩), .agg #[.int .i64 r.who, .int .i64 r.ep, .int .i64 r.til]] w fun e w' => e = .returned (.tuple #[]) ∧ FrC B vc w w' ∧ CtAt w' B span c vc vt vw vr := by
  have HH := hide h
  obtain ⟨g2, cap2, rfl, t0, t1, tz0, tz1, tg, tB⟩ := h.trustAt hti
  have hi2 := (List.getElem?_eq_some_iff.1 hti).1
  have hk1 : (0 : Int) ≤ (i : Int) := by omega
  have hk3 : (i : Int) < (c.trusts.length : Int) := by omega
  have b5 := h.blk.cell 5
  have bl := h.blk.lt
  simp at b5
  obtain ⟨rw0, re, rt⟩ := r
  simp only at hr
  subst hr
  obtain ⟨te, tt⟩ := t
  simp only at t0 t1 h1 h2 ⊢
  have HA := hide (below_alloc2 w (.cells #[.int .i64 i, .int .i64 re, .int .i64 rt] 107) (.cells #[.int .i64 te, .int .i64 tt] 80))
  have HI2 := hide hi2
  clear h hti hi2
  subst h1
  go_enter Try.func77, Try.ntmps77
  go_wp2_with fail
  go_region
  all_goals
    go_wp2_with fail
    refine bodyPost_end (v := .tuple #[]) (by simp [results, Try.results77]) rfl ?_
    exact ⟨rfl, FrC.later (by go_grown) (Nat.le_of_lt bl), HH.out.below (by go_grown)⟩

set_option maxRecDepth 100000 in
set_option maxHeartbeats 4000000 in
theorem believe_lt (B : Nat) (span : Int) (c : Ct) (vc vt vw vr : Value) (i : Nat) (r : Rp) (t : Tr) (w : World) (h : CtAt w B span c vc vt vw vr) (hr : r.who = i) (hti : c.trusts[i]? = some t) (h1 : ¬ t.ep < r.ep) (h2 : r.ep ≠ t.ep) :
    Calls Try.prog 77 #[.pointer (some ⟨B, 0, none⟩), .agg #[.int .i64 r.who, .int .i64 r.ep, .int .i64 r.til]] w fun e w' => e = .returned (.tuple #[]) ∧ FrC B vc w w' ∧ CtAt w' B span c vc vt vw vr := by
  have HH := hide h
  obtain ⟨g2, cap2, rfl, t0, t1, tz0, tz1, tg, tB⟩ := h.trustAt hti
  have hi2 := (List.getElem?_eq_some_iff.1 hti).1
  have hk1 : (0 : Int) ≤ (i : Int) := by omega
  have hk3 : (i : Int) < (c.trusts.length : Int) := by omega
  have b5 := h.blk.cell 5
  have bl := h.blk.lt
  simp at b5
  obtain ⟨rw0, re, rt⟩ := r
  simp only at hr
  subst hr
  obtain ⟨te, tt⟩ := t
  simp only at t0 t1 h1 h2 ⊢
  have HA := hide (below_alloc2 w (.cells #[.int .i64 i, .int .i64 re, .int .i64 rt] 107) (.cells #[.int .i64 te, .int .i64 tt] 80))
  have HI2 := hide hi2
  clear h hti hi2
  have hq : (re == te) = false := beq_eq_false_iff_ne.2 h2
  clear h2
  go_enter Try.func77, Try.ntmps77
  go_wp2_with fail
  go_region
  all_goals
    go_wp2_with fail
    refine bodyPost_end (v := .tuple #[]) (by simp [results, Try.results77]) rfl ?_
    exact ⟨rfl, FrC.later (by go_grown) (Nat.le_of_lt bl), HH.out.below (by go_grown)⟩

set_option maxRecDepth 100000 in
set_option maxHeartbeats 4000000 in
theorem asked_grant (B : Nat) (span : Int) (c : Ct) (vc vt vw vr : Value) (wh : Ws) (w : World) (h : CtAt w B span c vc vt vw vr) (hwho : 0 ≤ wh.who ∧ wh.who < 8) (h0 : wh.ep = 0) :
    Calls Try.prog 84 #[.pointer (some ⟨B, 0, none⟩), .agg #[.int .i64 wh.who, .int .i64 wh.sent, .int .i64 wh.ep]] w fun e w' => e = .returned (.tuple #[lsV (heardL c.lease wh c.now span), flt (heardF c.lease wh c.now span)]) ∧ Below w.heap.size w w' := by
  have hg := fun W => Grant_any ⟨c.lease.hold, c.lease.ep, c.lease.til⟩ (wh.who + 1) c.now span W
  have e1 : heardL c.lease wh c.now span = grantL c.lease (wh.who + 1) c.now span := by unfold heardL; rw [if_neg (by omega)]
  have e2 : heardF c.lease wh c.now span = grantF c.lease (wh.who + 1) c.now span := by unfold heardF; rw [if_neg (by omega)]
  rw [e1, e2]
  clear e1 e2
  generalize hGL : grantL c.lease (wh.who + 1) c.now span = GL at *
  generalize hGF : grantF c.lease (wh.who + 1) c.now span = GF at *
  obtain ⟨ga, gb, gc⟩ := GL
  obtain ⟨gx, gy⟩ := GF
  have hw1 : IntKind.i64.wrap (wh.who + 1) = wh.who + 1 := by rw [IntKind.wrap_i64]; omega
  obtain ⟨who, sent, ep⟩ := wh
  simp only at hw1 h0 hg ⊢
  unfold lsV flt at hg
  have HG := hide hg
  have b0 := h.blk.cell 0
  have b1 := h.blk.cell 1
  have b2 := h.blk.cell 2
  have b3 := h.blk.cell 3
  have b8 := h.blk.cell 8
  have bl := h.blk.lt
  simp at b0 b1 b2 b3 b8
  have hkeep : ∀ W, Below (w.heap.size + 1) (((w.alloc (.cells #[.int .i64 who, .int .i64 sent, .int .i64 ep] 105)).alloc (.cells #[.int .i64 0, .int .i64 0, .int .i64 0] 47)).alloc (.cells #[.int .i64 0, .int .i64 0] 26)) W → W.cell? ⟨B, 0, none⟩ = some (.int .i64 c.now) ∧ W.cell? ⟨B, 1, none⟩ = some (.int .i64 c.lease.hold) ∧ W.cell? ⟨B, 2, none⟩ = some (.int .i64 c.lease.ep) ∧ W.cell? ⟨B, 3, none⟩ = some (.int .i64 c.lease.til) ∧ W.cell? ⟨B, 8, none⟩ = some (.int .i64 span) ∧ W.cell? ⟨w.heap.size, 0, none⟩ = some (.int .i64 who) ∧ W.cell? ⟨w.heap.size, 2, none⟩ = some (.int .i64 ep) := fun W hW => by
    have q : ∀ k v, w.cell? ⟨B, k, none⟩ = some v → W.cell? ⟨B, k, none⟩ = some v := fun k v hv => by
      rw [hW.cell (p := ⟨B, k, none⟩) (by simp only; omega)]
      exact cell_belowG hv (below_alloc3 _ _ _ _)
    have r := (Blk.at0of3 w (.cells #[.int .i64 0, .int .i64 0, .int .i64 0] 47) (.cells #[.int .i64 0, .int .i64 0] 26) 105 #[.int .i64 who, .int .i64 sent, .int .i64 ep]).below hW (by omega)
    exact ⟨q 0 _ b0, q 1 _ b1, q 2 _ b2, q 3 _ b3, q 8 _ b8, r.cell 0, r.cell 2⟩
  have HKEEP := hide hkeep
  clear h hg hGL hGF hkeep hwho
  have hq : (ep == 0) = true := by simp [h0]
  clear h0
  go_enter Try.func84, Try.ntmps84
  go_wp2_with fail
  go_region_held3 (fun W => W.cell? ⟨B, 0, none⟩ = some (.int .i64 c.now) ∧ W.cell? ⟨B, 1, none⟩ = some (.int .i64 c.lease.hold) ∧ W.cell? ⟨B, 2, none⟩ = some (.int .i64 c.lease.ep) ∧ W.cell? ⟨B, 3, none⟩ = some (.int .i64 c.lease.til) ∧ W.cell? ⟨B, 8, none⟩ = some (.int .i64 span) ∧ W.cell? ⟨w.heap.size, 0, none⟩ = some (.int .i64 who) ∧ W.cell? ⟨w.heap.size, 2, none⟩ = some (.int .i64 ep)) (exact HKEEP.out _ (by go_grown)) (first
    | (go_at_call 21; refine (HG.out _).mono ?_; rintro e w9 ⟨rfl, hb9⟩; have hb93 : Below (w.heap.size + 3) (((w.alloc (.cells #[.int .i64 who, .int .i64 sent, .int .i64 ep] 105)).alloc (.cells #[.int .i64 0, .int .i64 0, .int .i64 0] 47)).alloc (.cells #[.int .i64 0, .int .i64 0] 26)) w9 := Below.trans (by go_grown) (hb9.mono (by simp)); have hb9' : Below (w.heap.size + 1) (((w.alloc (.cells #[.int .i64 who, .int .i64 sent, .int .i64 ep] 105)).alloc (.cells #[.int .i64 0, .int .i64 0, .int .i64 0] 47)).alloc (.cells #[.int .i64 0, .int .i64 0] 26)) w9 := hb93.mono (by omega); have hR9 := (Blk.at1of3 w (.cells #[.int .i64 who, .int .i64 sent, .int .i64 ep] 105) (.cells #[.int .i64 0, .int .i64 0] 26) 47 #[.int .i64 0, .int .i64 0, .int .i64 0]).below hb93 (by omega); have hF9 := (Blk.at2 w (.cells #[.int .i64 who, .int .i64 sent, .int .i64 ep] 105) (.cells #[.int .i64 0, .int .i64 0, .int .i64 0] 47) 26 #[.int .i64 0, .int .i64 0]).below hb93 (by omega); obtain ⟨r0, r1, r2, rz0, rz1, rz2, rl⟩ := hR9.three; obtain ⟨f0, f1, fz0, fz1, fl⟩ := hF9.two))
  all_goals
    have hbw9 := (below_alloc3 w (.cells #[.int .i64 who, .int .i64 sent, .int .i64 ep] 105) (.cells #[.int .i64 0, .int .i64 0, .int .i64 0] 47) (.cells #[.int .i64 0, .int .i64 0] 26)).trans (hb93.mono (by omega))
    have hsz := hbw9.size
    clear hb9 hb93 hb9' hR9 hF9
    go_wp2_with fail
    exact bodyPost_ret (v := .tuple #[lsV ⟨ga, gb, gc⟩, flt (gx, gy)]) (by simp [results, Try.results84, go_sem, flt, lsV, r0, r1, r2, f0, f1]) rfl ⟨rfl, by go_grown⟩

set_option maxRecDepth 100000 in
set_option maxHeartbeats 4000000 in
theorem asked_renew (B : Nat) (span : Int) (c : Ct) (vc vt vw vr : Value) (wh : Ws) (w : World) (h : CtAt w B span c vc vt vw vr) (hwho : 0 ≤ wh.who ∧ wh.who < 8) (h0 : 0 < wh.ep) :
    Calls Try.prog 84 #[.pointer (some ⟨B, 0, none⟩), .agg #[.int .i64 wh.who, .int .i64 wh.sent, .int .i64 wh.ep]] w fun e w' => e = .returned (.tuple #[lsV (heardL c.lease wh c.now span), flt (heardF c.lease wh c.now span)]) ∧ Below w.heap.size w w' := by
  have hg := fun W => Renew_any ⟨c.lease.hold, c.lease.ep, c.lease.til⟩ (wh.who + 1) wh.ep c.now span W
  have e1 : heardL c.lease wh c.now span = renewL c.lease (wh.who + 1) wh.ep c.now span := by unfold heardL; rw [if_pos h0]
  have e2 : heardF c.lease wh c.now span = renewF c.lease (wh.who + 1) wh.ep c.now span := by unfold heardF; rw [if_pos h0]
  rw [e1, e2]
  clear e1 e2
  generalize hGL : renewL c.lease (wh.who + 1) wh.ep c.now span = GL at *
  generalize hGF : renewF c.lease (wh.who + 1) wh.ep c.now span = GF at *
  obtain ⟨ga, gb, gc⟩ := GL
  obtain ⟨gx, gy⟩ := GF
  have hw1 : IntKind.i64.wrap (wh.who + 1) = wh.who + 1 := by rw [IntKind.wrap_i64]; omega
  obtain ⟨who, sent, ep⟩ := wh
  simp only at hw1 h0 hg ⊢
  unfold lsV flt at hg
  have HG := hide hg
  have b0 := h.blk.cell 0
  have b1 := h.blk.cell 1
  have b2 := h.blk.cell 2
  have b3 := h.blk.cell 3
  have b8 := h.blk.cell 8
  have bl := h.blk.lt
  simp at b0 b1 b2 b3 b8
  have hkeep : ∀ W, Below (w.heap.size + 1) (((w.alloc (.cells #[.int .i64 who, .int .i64 sent, .int .i64 ep] 105)).alloc (.cells #[.int .i64 0, .int .i64 0, .int .i64 0] 47)).alloc (.cells #[.int .i64 0, .int .i64 0] 26)) W → W.cell? ⟨B, 0, none⟩ = some (.int .i64 c.now) ∧ W.cell? ⟨B, 1, none⟩ = some (.int .i64 c.lease.hold) ∧ W.cell? ⟨B, 2, none⟩ = some (.int .i64 c.lease.ep) ∧ W.cell? ⟨B, 3, none⟩ = some (.int .i64 c.lease.til) ∧ W.cell? ⟨B, 8, none⟩ = some (.int .i64 span) ∧ W.cell? ⟨w.heap.size, 0, none⟩ = some (.int .i64 who) ∧ W.cell? ⟨w.heap.size, 2, none⟩ = some (.int .i64 ep) := fun W hW => by
    have q : ∀ k v, w.cell? ⟨B, k, none⟩ = some v → W.cell? ⟨B, k, none⟩ = some v := fun k v hv => by
      rw [hW.cell (p := ⟨B, k, none⟩) (by simp only; omega)]
      exact cell_belowG hv (below_alloc3 _ _ _ _)
    have r := (Blk.at0of3 w (.cells #[.int .i64 0, .int .i64 0, .int .i64 0] 47) (.cells #[.int .i64 0, .int .i64 0] 26) 105 #[.int .i64 who, .int .i64 sent, .int .i64 ep]).below hW (by omega)
    exact ⟨q 0 _ b0, q 1 _ b1, q 2 _ b2, q 3 _ b3, q 8 _ b8, r.cell 0, r.cell 2⟩
  have HKEEP := hide hkeep
  clear h hg hGL hGF hkeep hwho
  have hq : (ep == 0) = false := beq_eq_false_iff_ne.2 (by omega)
  clear h0
  go_enter Try.func84, Try.ntmps84
  go_wp2_with fail
  go_region_held3 (fun W => W.cell? ⟨B, 0, none⟩ = some (.int .i64 c.now) ∧ W.cell? ⟨B, 1, none⟩ = some (.int .i64 c.lease.hold) ∧ W.cell? ⟨B, 2, none⟩ = some (.int .i64 c.lease.ep) ∧ W.cell? ⟨B, 3, none⟩ = some (.int .i64 c.lease.til) ∧ W.cell? ⟨B, 8, none⟩ = some (.int .i64 span) ∧ W.cell? ⟨w.heap.size, 0, none⟩ = some (.int .i64 who) ∧ W.cell? ⟨w.heap.size, 2, none⟩ = some (.int .i64 ep)) (exact HKEEP.out _ (by go_grown)) (first
    | (go_at_call 22; refine (HG.out _).mono ?_; rintro e w9 ⟨rfl, hb9⟩; have hb93 : Below (w.heap.size + 3) (((w.alloc (.cells #[.int .i64 who, .int .i64 sent, .int .i64 ep] 105)).alloc (.cells #[.int .i64 0, .int .i64 0, .int .i64 0] 47)).alloc (.cells #[.int .i64 0, .int .i64 0] 26)) w9 := Below.trans (by go_grown) (hb9.mono (by simp)); have hb9' : Below (w.heap.size + 1) (((w.alloc (.cells #[.int .i64 who, .int .i64 sent, .int .i64 ep] 105)).alloc (.cells #[.int .i64 0, .int .i64 0, .int .i64 0] 47)).alloc (.cells #[.int .i64 0, .int .i64 0] 26)) w9 := hb93.mono (by omega); have hR9 := (Blk.at1of3 w (.cells #[.int .i64 who, .int .i64 sent, .int .i64 ep] 105) (.cells #[.int .i64 0, .int .i64 0] 26) 47 #[.int .i64 0, .int .i64 0, .int .i64 0]).below hb93 (by omega); have hF9 := (Blk.at2 w (.cells #[.int .i64 who, .int .i64 sent, .int .i64 ep] 105) (.cells #[.int .i64 0, .int .i64 0, .int .i64 0] 47) 26 #[.int .i64 0, .int .i64 0]).below hb93 (by omega); obtain ⟨r0, r1, r2, rz0, rz1, rz2, rl⟩ := hR9.three; obtain ⟨f0, f1, fz0, fz1, fl⟩ := hF9.two))
  all_goals
    have hbw9 := (below_alloc3 w (.cells #[.int .i64 who, .int .i64 sent, .int .i64 ep] 105) (.cells #[.int .i64 0, .int .i64 0, .int .i64 0] 47) (.cells #[.int .i64 0, .int .i64 0] 26)).trans (hb93.mono (by omega))
    have hsz := hbw9.size
    clear hb9 hb93 hb9' hR9 hF9
    go_wp2_with fail
    exact bodyPost_ret (v := .tuple #[lsV ⟨ga, gb, gc⟩, flt (gx, gy)]) (by simp [results, Try.results84, go_sem, flt, lsV, r0, r1, r2, f0, f1]) rfl ⟨rfl, by go_grown⟩

theorem asked_any (B : Nat) (span : Int) (c : Ct) (vc vt vw vr : Value) (wh : Ws) (w : World) (h : CtAt w B span c vc vt vw vr) (hwho : 0 ≤ wh.who ∧ wh.who < 8) (h0 : 0 ≤ wh.ep) :
    Calls Try.prog 84 #[.pointer (some ⟨B, 0, none⟩), .agg #[.int .i64 wh.who, .int .i64 wh.sent, .int .i64 wh.ep]] w fun e w' => e = .returned (.tuple #[lsV (heardL c.lease wh c.now span), flt (heardF c.lease wh c.now span)]) ∧ Below w.heap.size w w' := by
  by_cases q : wh.ep = 0
  · exact asked_grant B span c vc vt vw vr wh w h hwho q
  · exact asked_renew B span c vc vt vw vr wh w h hwho (by omega)

end Go.Proofs.Ytfmoniabpinceaf
