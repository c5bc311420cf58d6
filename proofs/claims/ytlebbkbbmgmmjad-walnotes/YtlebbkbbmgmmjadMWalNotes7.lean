/-
  Texts joined: LawFrames, DiskW2, DiskW3, DiskW4, DiskW5, KeepsMath, RecMath.
-/
import Derived.Test.YtlebbkbbmgmmjadMWalNotes6
import Derived.Maps.AppendAt
/-
  The law WireFrames: its walk.
-/
namespace Go.Proofs.Ytlebbkbbmgmmjad
open Go.RowKit

theorem flatF_length : ∀ (l : List (List UInt8)), (flatF l).length = lsum l + 6 * l.length
  | [] => rfl
  | b :: l => by
    rw [flatF_cons, List.length_append, framed_length, flatF_length l]
    simp only [lsum, List.length_cons]
    omega

theorem openR_big {bs : List UInt8} (h : 60000 < bs.length) : openR bs = ([], 0, 8) := by rw [openR, if_pos h]
theorem openR_un {bs : List UInt8} (h : ¬ 60000 < bs.length) : openR bs = if 1000 < (unGo (bs.length + 1) bs [] 0).1.length then ([], 0, 2) else ((unGo (bs.length + 1) bs [] 0).1, ((unGo (bs.length + 1) bs [] 0).2 : Int), 0) := by
  rw [openR, if_neg h]
  exact open_un _ _ _ _ (Nat.le_refl _) (by simp)

theorem RdBN.below {w w' : World} {B : Nat} {v : Value} {bb : List (List UInt8)} (h : RdBN w B v bb) (hb : Below w.heap.size w w') : RdBN w' B v bb := by
  obtain ⟨vs, h1, hn, h2, h3⟩ := h
  exact ⟨vs, h1.below hb, hn, h2, fun i u b hu hb' => ⟨(h3 i u b hu hb').1.below hb, (h3 i u b hu hb').2⟩⟩


end Go.Proofs.Ytlebbkbbmgmmjad

/-
  The walks over package disk: its functions.
-/
namespace Go.Proofs.Ytlebbkbbmgmmjad
open Go.RowKit

/-- A disk, as a value. -/
def dsk (v : Value) (k : Int) : Value := .agg #[v, .int .i64 k]

/-- What Check says. -/
def checkR (bs : List UInt8) (k : Int) : Int := if 60000 < bs.length then 8 else if k < 0 ∨ (bs.length : Int) < k then 3 else 0
theorem checkR_big {bs : List UInt8} {k : Int} (h : 60000 < bs.length) : checkR bs k = 8 := by rw [checkR, if_pos h]
theorem checkR_out {bs : List UInt8} {k : Int} (h : ¬ 60000 < bs.length) (h2 : k < 0 ∨ (bs.length : Int) < k) : checkR bs k = 3 := by rw [checkR, if_neg h, if_pos h2]
theorem checkR_ok {bs : List UInt8} {k : Int} (h : ¬ 60000 < bs.length) (h2 : 0 ≤ k) (h3 : k ≤ (bs.length : Int)) : checkR bs k = 0 := by rw [checkR, if_neg h, if_neg (by omega)]
theorem checkR_zero {bs : List UInt8} {k : Int} (h : checkR bs k = 0) : bs.length ≤ 60000 ∧ 0 ≤ k ∧ k ≤ (bs.length : Int) := by
  unfold checkR at h
  split at h
  · cases h
  · split at h
    · cases h
    · omega

set_option maxRecDepth 100000 in
set_option maxHeartbeats 400000 in
theorem Check_any (v : Value) (bs : List UInt8) (k : Int) (w : World) (h : Rd w v (bc bs)) :
    Calls Try.prog 75 #[dsk v k] w fun e w' => e = .returned (flt (checkR bs k) 0) ∧ Below w.heap.size w w' := by
  obtain ⟨ao, cap, hu, hc1, hc2⟩ := h.shape
  rw [bc_length] at hc1 hu
  subst hu
  unfold maxLen at hc2
  unfold dsk
  clear h
  by_cases h1 : 60000 < bs.length
  · have HE := hide (@checkR_big bs k h1)
    go_enter Try.func75, Try.ntmps75
    go_wp2_with fail
    exact bodyPost_ret (v := flt 8 0) (by simp [results, Try.results75, go_sem, flt]) rfl ⟨by rw [HE.out], by go_grown⟩
  · by_cases h2 : k < 0
    · have HE := hide (@checkR_out bs k h1 (by omega))
      go_enter Try.func75, Try.ntmps75
      go_wp2_with fail
      exact bodyPost_ret (v := flt 3 0) (by simp [results, Try.results75, go_sem, flt]) rfl ⟨by rw [HE.out], by go_grown⟩
    · by_cases h3 : (bs.length : Int) < k
      · have HE := hide (@checkR_out bs k h1 (by omega))
        go_enter Try.func75, Try.ntmps75
        go_wp2_with fail
        exact bodyPost_ret (v := flt 3 0) (by simp [results, Try.results75, go_sem, flt]) rfl ⟨by rw [HE.out], by go_grown⟩
      · have HE := hide (@checkR_ok bs k h1 (by omega) (by omega))
        go_enter Try.func75, Try.ntmps75
        go_wp2_with fail
        exact bodyPost_ret (v := flt 0 0) (by simp [results, Try.results75, go_sem, flt]) rfl ⟨by rw [HE.out], by go_grown⟩

/-- A block of two cells. -/
def Tb (w : World) (B : Nat) (t : TypeId) (x y : Value) : Prop := w.heap[B]? = some (.cells #[x, y] t (0, 0))
theorem Tb.facts {w : World} {B : Nat} {t : TypeId} {x y : Value} (h : Tb w B t x y) : w.cell? ⟨B, 0, none⟩ = some x ∧ w.cell? ⟨B, 1, none⟩ = some y ∧ w.frozen? ⟨B, 0, none⟩ = false ∧ w.frozen? ⟨B, 1, none⟩ = false ∧ B < w.heap.size := by
  refine ⟨?_, ?_, frozen_of_row _ _ _ _ _ h, frozen_of_row _ _ _ _ _ h, (Array.getElem?_eq_some_iff.1 h).1⟩
  · rw [cell_of_row _ _ _ _ _ _ h]; rfl
  · rw [cell_of_row _ _ _ _ _ _ h]; rfl

theorem Tb.below {w w' : World} {B : Nat} {t : TypeId} {x y : Value} (h : Tb w B t x y) (hb : Below w.heap.size w w') : Tb w' B t x y := by
  unfold Tb
  rw [hb.block _ h.facts.2.2.2.2]
  exact h

theorem Tb.new (w : World) (t : TypeId) (x y : Value) : Tb (w.alloc (.cells #[x, y] t)) w.heap.size t x y := heap_alloc_new _ _
theorem below_alloc (w : World) (o : Obj) : Below w.heap.size w (w.alloc o) := (Below.refl _ _).alloc (Nat.le_refl _) o

/-- Three blocks of two cells that the call laid first, later on. -/
theorem three_later {w w1 : World} {x1 y1 x2 y2 x3 y3 : Value} {t1 t2 t3 : TypeId}
    (hb : Below (((w.alloc (.cells #[x1, y1] t1)).alloc (.cells #[x2, y2] t2)).alloc (.cells #[x3, y3] t3)).heap.size (((w.alloc (.cells #[x1, y1] t1)).alloc (.cells #[x2, y2] t2)).alloc (.cells #[x3, y3] t3)) w1) :
    Tb w1 w.heap.size t1 x1 y1 ∧ Tb w1 (w.heap.size + 1) t2 x2 y2 ∧ Tb w1 (w.heap.size + 1 + 1) t3 x3 y3 ∧ Below w.heap.size w w1 ∧ w.heap.size + 3 ≤ w1.heap.size := by
  have e2 : (w.alloc (.cells #[x1, y1] t1)).heap.size = w.heap.size + 1 := by simp
  have e3 : ((w.alloc (.cells #[x1, y1] t1)).alloc (.cells #[x2, y2] t2)).heap.size = w.heap.size + 1 + 1 := by simp
  have h1 := (((Tb.new w t1 x1 y1).below (below_alloc _ _)).below (below_alloc _ _)).below hb
  have h2 := ((Tb.new (w.alloc (.cells #[x1, y1] t1)) t2 x2 y2).below (below_alloc _ _)).below hb
  have h3 := (Tb.new ((w.alloc (.cells #[x1, y1] t1)).alloc (.cells #[x2, y2] t2)) t3 x3 y3).below hb
  rw [e2] at h2
  rw [e3] at h3
  refine ⟨h1, h2, h3, ?_, ?_⟩
  · exact (below_alloc _ _).trans (((below_alloc _ _).mono (by simp)).trans (((below_alloc _ _).mono (by simp; omega)).trans (hb.mono (by simp; omega))))
  · have := hb.size
    simp at this
    omega

/-- A call of a Go function of two arguments, as a step of a region that draws its order. -/
theorem step_call2 {P : Program} {w : World} {ops : Array Oper} {o : Oper} {a : Act} {K : Act → World → Prop} {Q : Exit → Act → World → Prop} {E : Prop} {f : FuncId} {x y : Operand} {ats : Array TypeId} {v v2 : Value} {R : Value → World → Prop}
    (hc : Calls P f #[v, v2] w fun e w' => ∃ u, e = .returned u ∧ R u w') (hcf : ∀ args W, (callFunc f args).run P W = .ok (.enter f args) W)
    (hgd : o.guard = none) (ho : o.op = .call { callee := .value (.func f), args := #[x, y], argTypes := ats }) (hx : a.eval x = v) (hy : a.eval y = v2)
    (h : ∀ u w', R u w' → K (a.put o.dst u) w') :
    if Region.wanted o (yielded ops a.tmps) = true then Oper.wp P o a w K Q else E := by
  have hw : Region.wanted o (yielded ops a.tmps) = true := by simp [Region.wanted, hgd]
  rw [if_pos hw]
  have he : execOp a.eval o = callFunc f #[v, v2] := by
    cases o
    simp only at ho
    subst ho
    rw [execOp_call_go]
    simp [hx, hy]
  unfold Oper.wp
  rw [he, hcf, Oper.upon_enter]
  exact hc.mono (by rintro e w' ⟨u, rfl, hr⟩; exact h u w' hr)

theorem enters108 (args : Array Value) (W : World) : (callFunc 108 args).run Try.prog W = .ok (.enter 108 args) W := by kernel_rfl

/-- What Append comes to: bytes, Kept, code. -/
def appendR (bs : List UInt8) (k : Int) (ys : List UInt8) : List UInt8 × Int × Int :=
  if checkR bs k ≠ 0 then ([], 0, checkR bs k) else if 60000 < bs.length + ys.length then ([], 0, 9) else (bs ++ ys, k, 0)
theorem appendR_bad {bs ys : List UInt8} {k : Int} (h : checkR bs k ≠ 0) : appendR bs k ys = ([], 0, checkR bs k) := by rw [appendR, if_pos h]
theorem appendR_much {bs ys : List UInt8} {k : Int} (h : checkR bs k = 0) (h2 : 60000 < bs.length + ys.length) : appendR bs k ys = ([], 0, 9) := by rw [appendR, if_neg (by omega), if_pos h2]
theorem appendR_ok {bs ys : List UInt8} {k : Int} (h : checkR bs k = 0) (h2 : ¬ 60000 < bs.length + ys.length) : appendR bs k ys = (bs ++ ys, k, 0) := by rw [appendR, if_neg (by omega), if_neg h2]

set_option maxRecDepth 100000 in
set_option maxHeartbeats 400000 in
theorem Append_any (v : Value) (bs : List UInt8) (k : Int) (x : Value) (ys : List UInt8) (w : World) (h : Rd w v (bc bs)) (hx : Rd w x (bc ys)) :
    Calls Try.prog 78 #[dsk v k, x] w fun e w' => ∃ v', e = .returned (.tuple #[dsk v' (appendR bs k ys).2.1, flt (appendR bs k ys).2.2 0]) ∧ Rd w' v' (bc (appendR bs k ys).1) ∧ Below w.heap.size w w' ∧ New w.heap.size v' := by
  obtain ⟨ao, cap, hu, hc1, hc2⟩ := h.shape
  obtain ⟨bo, cbp, hv, hd1, hd2⟩ := hx.shape
  rw [bc_length] at hc1 hu hd1 hv
  subst hu hv
  unfold maxLen at hc2 hd2
  unfold dsk
  go_enter Try.func78, Try.ntmps78
  go_wp2_with fail
  refine (Check_any _ bs k _ (by exact h.below (by go_grown))).mono ?_
  rintro e w1 ⟨rfl, hb1⟩
  obtain ⟨hD, hR, hF, hbw, hsz⟩ := three_later hb1
  obtain ⟨d0, d1, d2, d3, d4⟩ := hD.facts
  obtain ⟨r0, r1, r2, r3, r4⟩ := hR.facts
  obtain ⟨f0, f1, f2, f3, f4⟩ := hF.facts
  have h1 := h.below hbw
  have hx1 := hx.below hbw
  clear hb1 h hx
  by_cases hc : checkR bs k = 0
  · obtain ⟨hk1, hk2, hk3⟩ := checkR_zero hc
    by_cases hm : 60000 < bs.length + ys.length
    · have HE := hide (@appendR_much bs ys k hc hm)
      rw [hc]
      clear hc hD hR hF
      unfold flt
      go_wp2_with fail
      exact bodyPost_ret (v := .tuple #[dsk (.slice none 0 0) 0, flt 9 0]) (by simp [results, Try.results78, go_sem, flt, dsk, r0, r1, f0, f1, r4, f4]) rfl ⟨_, by rw [HE.out]; rfl, by rw [HE.out]; exact Rd.nil _, by go_grown, New.nil _⟩
    · have HE := hide (@appendR_ok bs ys k hc hm)
      rw [hc]
      clear hc d0 d1 d2 d3 d4 r0 r1 r2 r3 r4 f0 f1 f2 f3 f4
      obtain ⟨d0, d1, d2, d3, d4⟩ := hD.facts
      unfold flt
      go_upto_region 6 with fail
      have hbA := below_alloc w1 (.cells #[.int .i64 0, .int .i64 0] 28)
      have hD2 := hD.below hbA
      have hR2 := hR.below hbA
      have hF2 := hF.below hbA
      have h2 := h1.below hbA
      have hx2 := hx1.below hbA
      have hbw2 := hbw.trans (hbA.mono (by omega))
      have hsz2 : w1.heap.size < (w1.alloc (.cells #[.int .i64 0, .int .i64 0] 28)).heap.size := by simp
      generalize w1.alloc (.cells #[.int .i64 0, .int .i64 0] 28) = w2 at *
      clear hbA hD hR hF h1 hx1 hbw d0 d1 d2 d3 d4
      obtain ⟨d0, d1, d2, d3, d4⟩ := hD2.facts
      have hjl : bs.length + ys.length ≤ 1000000000 := by omega
      go_region_law (refine step_call2 (joined_any _ _ bs ys _ (by exact h2) (by exact hx2) hjl) enters108 (by rfl) (by rfl) (by rfl) (by rfl) ?_; rintro v3 w3 ⟨ho3, hb3⟩; obtain ⟨q0, q1, q2, q3, q4⟩ := (Tb.below (w := w2.drew) hD2 hb3).facts; obtain ⟨r0, r1, r2, r3, r4⟩ := (Tb.below (w := w2.drew) hR2 hb3).facts; obtain ⟨f0, f1, f2, f3, f4⟩ := (Tb.below (w := w2.drew) hF2 hb3).facts; obtain ⟨ao3, cap3, rfl⟩ := owns_shape ho3)
      all_goals
        have hz2 : w2.drew.heap.size = w2.heap.size := rfl
        have hbw3 : Below w.heap.size w w3 := Below.trans hbw2.drew (hb3.mono (by omega))
        go_wp2_with fail
        exact bodyPost_ret (v := .tuple #[dsk (.slice ao3 (bs.length + ys.length) cap3) k, flt 0 0]) (by simp [results, Try.results78, go_sem, flt, dsk, r0, r1, f0, f1]) rfl ⟨_, by rw [HE.out]; rfl, by rw [HE.out]; exact Rd.ofOwns (ownsRow_setCell_below (ownsRow_setCell_below (ownsRow_setCell_below (ownsRow_setCell_below ho3 (by simp only; omega) _) (by simp only; omega) _) (by simp only; omega) _) (by simp only; omega) _), by go_grown, (New.owns ho3).mono (by omega)⟩
  · have HE := hide (@appendR_bad bs ys k hc)
    have hcb : (checkR bs k == 0) = false := beq_eq_false_iff_ne.2 hc
    have hcb2 : (checkR bs k != 0) = true := by simp [hc]
    clear hc
    generalize checkR bs k = c at *
    unfold flt
    go_wp2_with fail
    go_region
    all_goals
      go_wp2_with fail
      exact bodyPost_ret (v := .tuple #[dsk (.slice none 0 0) 0, flt c 0]) (by simp [results, Try.results78, go_sem, flt, dsk, r0, r1, f0, f1, r4, f4]) rfl ⟨_, by rw [HE.out]; rfl, by rw [HE.out]; exact Rd.nil _, by go_grown, New.nil _⟩

end Go.Proofs.Ytlebbkbbmgmmjad

/-
  The walks over package disk: Trim, Sync, Crash.
-/
namespace Go.Proofs.Ytlebbkbbmgmmjad
open Go.RowKit

/-- What Trim comes to: bytes, Kept, code, place. -/
def trimR (bs : List UInt8) (k n : Int) : List UInt8 × Int × Int × Int :=
  if checkR bs k ≠ 0 then ([], 0, checkR bs k, 0) else if n < 0 ∨ (bs.length : Int) < n then ([], 0, 3, -1) else (bs.take n.toNat, n, 0, 0)
theorem trimR_bad {bs : List UInt8} {k n : Int} (h : checkR bs k ≠ 0) : trimR bs k n = ([], 0, checkR bs k, 0) := by rw [trimR, if_pos h]
theorem trimR_out {bs : List UInt8} {k n : Int} (h : checkR bs k = 0) (h2 : n < 0 ∨ (bs.length : Int) < n) : trimR bs k n = ([], 0, 3, -1) := by rw [trimR, if_neg (by omega), if_pos h2]
theorem trimR_ok {bs : List UInt8} {k : Int} {m : Nat} (h : checkR bs k = 0) (h2 : m ≤ bs.length) : trimR bs k (m : Int) = (bs.take m, (m : Int), 0, 0) := by rw [trimR, if_neg (by omega), if_neg (by omega)]; simp

set_option maxRecDepth 100000 in
set_option maxHeartbeats 400000 in
theorem Trim_any (v : Value) (bs : List UInt8) (k n : Int) (w : World) (h : Rd w v (bc bs)) :
    Calls Try.prog 80 #[dsk v k, .int .i64 n] w fun e w' => ∃ v', e = .returned (.tuple #[dsk v' (trimR bs k n).2.1, flt (trimR bs k n).2.2.1 (trimR bs k n).2.2.2]) ∧ Rd w' v' (bc (trimR bs k n).1) ∧ Below w.heap.size w w' ∧ New w.heap.size v' := by
  obtain ⟨ao, cap, hu, hc1, hc2⟩ := h.shape
  rw [bc_length] at hc1 hu
  subst hu
  unfold maxLen at hc2
  unfold dsk
  go_enter Try.func80, Try.ntmps80
  go_wp2_with fail
  refine (Check_any _ bs k _ (by exact h.below (by go_grown))).mono ?_
  rintro e w1 ⟨rfl, hb1⟩
  obtain ⟨hD, hR, hF, hbw, hsz⟩ := three_later hb1
  obtain ⟨d0, d1, d2, d3, d4⟩ := hD.facts
  obtain ⟨r0, r1, r2, r3, r4⟩ := hR.facts
  obtain ⟨f0, f1, f2, f3, f4⟩ := hF.facts
  have h1 := h.below hbw
  clear hb1 h
  by_cases hc : checkR bs k = 0
  · obtain ⟨hk1, hk2, hk3⟩ := checkR_zero hc
    by_cases hm : n < 0
    · have HE := hide (@trimR_out bs k n hc (by omega))
      rw [hc]
      clear hc hD hR hF
      unfold flt
      go_wp2_with fail
      exact bodyPost_ret (v := .tuple #[dsk (.slice none 0 0) 0, flt 3 (-1)]) (by simp [results, Try.results80, go_sem, flt, dsk, r0, r1, f0, f1, r4, f4]) rfl ⟨_, by rw [HE.out]; rfl, by rw [HE.out]; exact Rd.nil _, by go_grown, New.nil _⟩
    by_cases hm2 : (bs.length : Int) < n
    · have HE := hide (@trimR_out bs k n hc (by omega))
      rw [hc]
      clear hc hD hR hF
      unfold flt
      go_wp2_with fail
      exact bodyPost_ret (v := .tuple #[dsk (.slice none 0 0) 0, flt 3 (-1)]) (by simp [results, Try.results80, go_sem, flt, dsk, r0, r1, f0, f1, r4, f4]) rfl ⟨_, by rw [HE.out]; rfl, by rw [HE.out]; exact Rd.nil _, by go_grown, New.nil _⟩
    · obtain ⟨m, rfl⟩ : ∃ m : Nat, n = (m : Int) := ⟨n.toNat, by omega⟩
      have HE := hide (@trimR_ok bs k m hc (by omega))
      rw [hc]
      clear hc
      unfold flt
      have hs7 := run_slice_upto (P := Try.prog) Try.underlying42 (by kernel_rfl) Try.info5 ao bs.length cap m (m : Int) rfl (by omega)
      have hV7 := h1.upto (hi := m) (by omega)
      rw [bc_take] at hV7
      generalize Go.sliced ao 0 m cap 1 = V7 at hs7 hV7
      have hl7 : (bs.take m).length = m := by simp; omega
      generalize bs.take m = ts at *
      go_wp2_with fail
      refine (joined_any _ _ ts [] _ (hV7.alloc _) (Rd.nil _) (by simp; omega)).mono ?_
      rintro e w3 ⟨v3, rfl, ho3, hb3⟩
      have hbA := below_alloc w1 (.cells #[.int .i64 0, .int .i64 0] 28)
      obtain ⟨q0, q1, q2, q3, q4⟩ := ((hD.below hbA).below hb3).facts
      obtain ⟨s0, s1, s2, s3, s4⟩ := ((hR.below hbA).below hb3).facts
      obtain ⟨g0, g1, g2, g3, g4⟩ := ((hF.below hbA).below hb3).facts
      rw [List.append_nil, List.length_nil, Nat.add_zero, hl7] at ho3
      have hbw2 := hbw.trans (hbA.mono (by omega))
      have hbw3 : Below w.heap.size w w3 := Below.trans hbw2 (hb3.mono (by simp; omega))
      have hz2 : (w1.alloc (.cells #[.int .i64 0, .int .i64 0] 28)).heap.size = w1.heap.size + 1 := by simp
      rw [hz2] at ho3
      obtain ⟨ao3, cap3, rfl⟩ := owns_shape ho3
      clear hD hR hF h1 hV7 hbA hb3 hbw2 hz2 d0 d1 d2 d3 r0 r1 r2 r3 f0 f1 f2 f3 hs7
      go_wp2_with fail
      exact bodyPost_ret (v := .tuple #[dsk (.slice ao3 m cap3) m, flt 0 0]) (by simp [results, Try.results80, go_sem, flt, dsk, s0, s1, g0, g1]) rfl ⟨_, by rw [HE.out]; rfl, by rw [HE.out]; exact Rd.ofOwns (ownsRow_setCell_below (ownsRow_setCell_below (ownsRow_setCell_below (ownsRow_setCell_below ho3 (by simp only; omega) _) (by simp only; omega) _) (by simp only; omega) _) (by simp only; omega) _), by go_grown, (New.owns ho3).mono (by omega)⟩
  · have HE := hide (@trimR_bad bs k n hc)
    have hcb : (checkR bs k == 0) = false := beq_eq_false_iff_ne.2 hc
    have hcb2 : (checkR bs k != 0) = true := by simp [hc]
    clear hc hD hR hF
    generalize checkR bs k = c at *
    unfold flt
    go_wp2_with fail
    go_region
    all_goals
      go_wp2_with fail
      exact bodyPost_ret (v := .tuple #[dsk (.slice none 0 0) 0, flt c 0]) (by simp [results, Try.results80, go_sem, flt, dsk, r0, r1, f0, f1, r4, f4]) rfl ⟨_, by rw [HE.out]; rfl, by rw [HE.out]; exact Rd.nil _, by go_grown, New.nil _⟩

set_option maxRecDepth 100000 in
set_option maxHeartbeats 400000 in
theorem Sync_any (v : Value) (bs : List UInt8) (k : Int) (w : World) (h : Rd w v (bc bs)) :
    Calls Try.prog 50 #[dsk v k] w fun e w' => ∃ v', e = .returned (.tuple #[dsk v' (trimR bs k bs.length).2.1, flt (trimR bs k bs.length).2.2.1 (trimR bs k bs.length).2.2.2]) ∧ Rd w' v' (bc (trimR bs k bs.length).1) ∧ Below w.heap.size w w' ∧ New w.heap.size v' := by
  obtain ⟨ao, cap, hu, hc1, hc2⟩ := h.shape
  rw [bc_length] at hc1 hu
  subst hu
  unfold maxLen at hc2
  unfold dsk
  go_enter Try.func50, Try.ntmps50
  go_wp2_with fail
  refine (Trim_any _ bs k bs.length _ (by exact h.below (by go_grown))).mono ?_
  rintro e w1 ⟨v1, rfl, hr1, hb1, hn1⟩
  obtain ⟨hD, hR, hF, hbw, hsz⟩ := three_later hb1
  obtain ⟨r0, r1, r2, r3, r4⟩ := hR.facts
  obtain ⟨f0, f1, f2, f3, f4⟩ := hF.facts
  simp only [World.size_alloc] at hn1
  clear hb1 h hD hR hF
  generalize hT : trimR bs k bs.length = T at hr1 hn1 ⊢
  obtain ⟨bv, kv, cv, av⟩ := T
  have HT := hide hT
  clear hT
  obtain ⟨ao1, cap1, hu, hc3, hc4⟩ := hr1.shape
  rw [bc_length] at hc3 hu
  subst hu
  simp only [dsk, flt] at hr1 hc3 ⊢
  go_wp2_with fail
  exact bodyPost_ret (v := .tuple #[dsk (.slice ao1 bv.length cap1) kv, flt cv av]) (by simp [results, Try.results50, go_sem, flt, dsk, r0, r1, f0, f1]) rfl ⟨_, by rw [HT.out]; rfl, by rw [HT.out]; exact (((hr1.setNew hn1 (by simp only; omega) _).setNew hn1 (by simp only; omega) _).setNew hn1 (by simp only; omega) _).setNew hn1 (by simp only; omega) _, by go_grown, hn1.mono (by omega)⟩

/-- What Crash comes to: bytes, Kept, code, place. -/
def crashR (bs : List UInt8) (k n : Int) : List UInt8 × Int × Int × Int :=
  if checkR bs k ≠ 0 then ([], 0, checkR bs k, 0) else if n < 0 ∨ (bs.length : Int) - k < n then ([], 0, 3, -1) else (bs.take (k + n).toNat, k + n, 0, 0)
theorem crashR_bad {bs : List UInt8} {k n : Int} (h : checkR bs k ≠ 0) : crashR bs k n = ([], 0, checkR bs k, 0) := by rw [crashR, if_pos h]
theorem crashR_out {bs : List UInt8} {k n : Int} (h : checkR bs k = 0) (h2 : n < 0 ∨ (bs.length : Int) - k < n) : crashR bs k n = ([], 0, 3, -1) := by rw [crashR, if_neg (by omega), if_pos h2]
theorem crashR_ok {bs : List UInt8} {k n : Int} (h : checkR bs k = 0) (h2 : 0 ≤ n) (h3 : n ≤ (bs.length : Int) - k) : crashR bs k n = trimR bs k (k + n) := by
  have := checkR_zero h
  rw [crashR, if_neg (by omega), if_neg (by omega), trimR, if_neg (by omega), if_neg (by omega)]

set_option maxRecDepth 100000 in
set_option maxHeartbeats 400000 in
theorem Crash_any (v : Value) (bs : List UInt8) (k n : Int) (w : World) (h : Rd w v (bc bs)) :
    Calls Try.prog 51 #[dsk v k, .int .i64 n] w fun e w' => ∃ v', e = .returned (.tuple #[dsk v' (crashR bs k n).2.1, flt (crashR bs k n).2.2.1 (crashR bs k n).2.2.2]) ∧ Rd w' v' (bc (crashR bs k n).1) ∧ Below w.heap.size w w' ∧ New w.heap.size v' := by
  obtain ⟨ao, cap, hu, hc1, hc2⟩ := h.shape
  rw [bc_length] at hc1 hu
  subst hu
  unfold maxLen at hc2
  unfold dsk
  go_enter Try.func51, Try.ntmps51
  go_wp2_with fail
  refine (Check_any _ bs k _ (by exact h.below (by go_grown))).mono ?_
  rintro e w1 ⟨rfl, hb1⟩
  obtain ⟨hD, hR, hF, hbw, hsz⟩ := three_later hb1
  obtain ⟨d0, d1, d2, d3, d4⟩ := hD.facts
  obtain ⟨r0, r1, r2, r3, r4⟩ := hR.facts
  obtain ⟨f0, f1, f2, f3, f4⟩ := hF.facts
  have h1 := h.below hbw
  clear hb1 h
  by_cases hc : checkR bs k = 0
  · obtain ⟨hk1, hk2, hk3⟩ := checkR_zero hc
    by_cases hm : n < 0
    · have HE := hide (@crashR_out bs k n hc (by omega))
      rw [hc]
      clear hc hD hR hF
      unfold flt
      go_wp2_with fail
      exact bodyPost_ret (v := .tuple #[dsk (.slice none 0 0) 0, flt 3 (-1)]) (by simp [results, Try.results51, go_sem, flt, dsk, r0, r1, f0, f1, r4, f4]) rfl ⟨_, by rw [HE.out]; rfl, by rw [HE.out]; exact Rd.nil _, by go_grown, New.nil _⟩
    by_cases hm2 : (bs.length : Int) - k < n
    · have HE := hide (@crashR_out bs k n hc (by omega))
      rw [hc]
      clear hc hD hR hF
      unfold flt
      go_wp2_with fail
      exact bodyPost_ret (v := .tuple #[dsk (.slice none 0 0) 0, flt 3 (-1)]) (by simp [results, Try.results51, go_sem, flt, dsk, r0, r1, f0, f1, r4, f4]) rfl ⟨_, by rw [HE.out]; rfl, by rw [HE.out]; exact Rd.nil _, by go_grown, New.nil _⟩
    · have HE := hide (@crashR_ok bs k n hc (by omega) (by omega))
      rw [hc]
      clear hc
      unfold flt
      go_wp2_with fail
      refine (Trim_any _ bs k (k + n) _ (h1.alloc _)).mono ?_
      rintro e w3 ⟨v3, rfl, hr3, hb3, hn3⟩
      have hbA := below_alloc w1 (.cells #[.int .i64 0, .int .i64 0] 28)
      obtain ⟨s0, s1, s2, s3, s4⟩ := ((hR.below hbA).below hb3).facts
      obtain ⟨g0, g1, g2, g3, g4⟩ := ((hF.below hbA).below hb3).facts
      have hbw2 := hbw.trans (hbA.mono (by omega))
      have hbw3 : Below w.heap.size w w3 := Below.trans hbw2 (hb3.mono (by simp; omega))
      simp only [World.size_alloc] at hn3
      clear hD hR hF h1 hbA hb3 hbw2 d0 d1 d2 d3 r0 r1 r2 r3 f0 f1 f2 f3
      generalize hT : trimR bs k (k + n) = T at hr3 hn3 ⊢
      obtain ⟨bv, kv, cv, av⟩ := T
      have HT := hide (HE.out.trans hT)
      clear hT HE
      obtain ⟨ao1, cap1, hu, hc3, hc4⟩ := hr3.shape
      rw [bc_length] at hc3 hu
      subst hu
      simp only [dsk, flt] at hr3 hc3 ⊢
      go_wp2_with fail
      exact bodyPost_ret (v := .tuple #[dsk (.slice ao1 bv.length cap1) kv, flt cv av]) (by simp [results, Try.results51, go_sem, flt, dsk, s0, s1, g0, g1]) rfl ⟨_, by rw [HT.out]; rfl, by rw [HT.out]; exact (((hr3.setNew hn3 (by simp only; omega) _).setNew hn3 (by simp only; omega) _).setNew hn3 (by simp only; omega) _).setNew hn3 (by simp only; omega) _, by go_grown, hn3.mono (by omega)⟩
  · have HE := hide (@crashR_bad bs k n hc)
    have hcb : (checkR bs k == 0) = false := beq_eq_false_iff_ne.2 hc
    have hcb2 : (checkR bs k != 0) = true := by simp [hc]
    clear hc hD hR hF
    generalize checkR bs k = c at *
    unfold flt
    go_wp2_with fail
    go_region
    all_goals
      go_wp2_with fail
      exact bodyPost_ret (v := .tuple #[dsk (.slice none 0 0) 0, flt c 0]) (by simp [results, Try.results51, go_sem, flt, dsk, r0, r1, f0, f1, r4, f4]) rfl ⟨_, by rw [HE.out]; rfl, by rw [HE.out]; exact Rd.nil _, by go_grown, New.nil _⟩

end Go.Proofs.Ytlebbkbbmgmmjad

/-
  The walks over package disk: Recover; the document's comparison of disks; the example.
-/
namespace Go.Proofs.Ytlebbkbbmgmmjad
open Go.RowKit

theorem openGo_le : ∀ (f k : Nat) (bs : List UInt8) (acc : List (List UInt8)), bs.length ≤ f → (openGo (f + 1) bs acc k).2.2 = 0 → 0 ≤ (openGo (f + 1) bs acc k).2.1 ∧ (openGo (f + 1) bs acc k).2.1 ≤ (k + bs.length : Nat)
  | 0, k, bs, acc, h, _ => by
    have : frameAt bs = none := frameAt_short (by omega)
    rw [openGo_end this]
    simp only
    omega
  | f + 1, k, bs, acc, h, hz => by
    cases hn : frameAt bs with
    | none => rw [openGo_end hn]; simp only; omega
    | some body =>
      have hl := frameAt_len hn
      by_cases hm : acc.length = 1000
      · rw [openGo_many hn hm] at hz
        cases hz
      · rw [openGo_step hn hm] at hz ⊢
        have := openGo_le f (k + (body.length + 6)) (bs.drop (body.length + 6)) _ (by rw [List.length_drop]; omega) hz
        rw [List.length_drop] at this
        omega

theorem openR_le {bs : List UInt8} (h : (openR bs).2.2 = 0) : 0 ≤ (openR bs).2.1 ∧ (openR bs).2.1 ≤ (bs.length : Int) := by
  unfold openR at h ⊢
  split at h
  · cases h
  · rename_i hb
    rw [if_neg hb]
    have := openGo_le _ 0 bs [] (Nat.le_refl _) h
    omega

/-- What Recover comes to: bytes, Kept, bodies, code. -/
def recoverR (bs : List UInt8) (k : Int) : List UInt8 × Int × List (List UInt8) × Int :=
  if checkR bs k ≠ 0 then ([], 0, [], checkR bs k) else if (openR bs).2.2 ≠ 0 then ([], 0, [], (openR bs).2.2) else (bs.take (openR bs).2.1.toNat, (openR bs).2.1, (openR bs).1, 0)
theorem recoverR_bad {bs : List UInt8} {k : Int} (h : checkR bs k ≠ 0) : recoverR bs k = ([], 0, [], checkR bs k) := by rw [recoverR, if_pos h]
theorem recoverR_out {bs : List UInt8} {k : Int} (h : checkR bs k = 0) (h2 : (openR bs).2.2 ≠ 0) : recoverR bs k = ([], 0, [], (openR bs).2.2) := by rw [recoverR, if_neg (by omega), if_pos h2]
theorem recoverR_ok {bs : List UInt8} {k : Int} (h : checkR bs k = 0) (h2 : (openR bs).2.2 = 0) : recoverR bs k = (bs.take (openR bs).2.1.toNat, (openR bs).2.1, (openR bs).1, 0) := by rw [recoverR, if_neg (by omega), if_neg (by omega)]
theorem trimR_open {bs : List UInt8} {k : Int} (h : checkR bs k = 0) (h2 : (openR bs).2.2 = 0) : trimR bs k (openR bs).2.1 = (bs.take (openR bs).2.1.toNat, (openR bs).2.1, 0, 0) := by
  have := openR_le h2
  rw [trimR, if_neg (by omega), if_neg (by omega)]

theorem Tb.set {w : World} {B : Nat} {t : TypeId} {x y : Value} (h : Tb w B t x y) (x' y' : Value) : Tb ((w.setCell ⟨B, 0, none⟩ x').setCell ⟨B, 1, none⟩ y') B t x' y' := by
  unfold Tb
  rw [heap_setCell_same _ B 1 #[x', y] _ y']
  · rfl
  · rw [heap_setCell_same _ B 0 _ _ x' h]
    rfl

theorem Tb.far {w : World} {B : Nat} {t : TypeId} {x y : Value} (h : Tb w B t x y) {p : Addr} (hp : B ≠ p.block) (u : Value) : Tb (w.setCell p u) B t x y := by
  unfold Tb
  rw [heap_setCell_other w p _ u hp]
  exact h

theorem RdBN.mono {w : World} {B B' : Nat} {v : Value} {bb : List (List UInt8)} (h : RdBN w B v bb) (hb : B' ≤ B) : RdBN w B' v bb := by
  obtain ⟨vs, h1, h2, h3, h4⟩ := h
  exact ⟨vs, h1, h2.mono hb, h3, fun i u b hu hb' => ⟨(h4 i u b hu hb').1, (h4 i u b hu hb').2.mono hb⟩⟩

theorem RdBN.shape {w : World} {B : Nat} {v : Value} {bb : List (List UInt8)} (h : RdBN w B v bb) : ∃ ao cap, v = .slice ao bb.length cap ∧ bb.length ≤ cap ∧ cap ≤ maxLen := by
  obtain ⟨vs, h1, h2, h3, h4⟩ := h
  rw [← h3]
  exact h1.shape


set_option maxRecDepth 100000 in
set_option maxHeartbeats 400000 in
theorem SameDisk_any (u v : Value) (xs ys : List UInt8) (k m : Int) (w : World) (h1 : Rd w u (bc xs)) (h2 : Rd w v (bc ys)) :
    Calls Try.prog 34 #[dsk u k, dsk v m] w fun e w' => e = .returned (.bool (k == m && xs == ys)) ∧ Below w.heap.size w w' := by
  obtain ⟨ao, cap, hu, hc1, hc2⟩ := h1.shape
  obtain ⟨bo, cbp, hv, hd1, hd2⟩ := h2.shape
  rw [bc_length] at hc1 hu hd1 hv
  subst hu hv
  unfold dsk
  go_enter Try.func34, Try.ntmps34
  by_cases hk : k = m
  · have hkb : (k == m) = true := beq_iff_eq.2 hk
    clear hk
    go_wp2_with fail
    refine (Same_any _ _ xs ys _ ((h1.alloc _).alloc _) ((h2.alloc _).alloc _)).mono ?_
    rintro e w1 ⟨rfl, rfl⟩
    go_wp2_with fail
    go_ret
    exact ⟨by rw [hkb]; rfl, by go_grown⟩
  · have hkb : (k == m) = false := beq_eq_false_iff_ne.2 hk
    clear hk
    go_wp2_with fail
    go_ret
    exact ⟨by rw [hkb]; rfl, by go_grown⟩

end Go.Proofs.Ytlebbkbbmgmmjad

/-
  The document's example of a disk.
-/
namespace Go.Proofs.Ytlebbkbbmgmmjad
open Go.RowKit

theorem rd_lit (w : World) (xs : List Value) (e : TypeId) (h : xs.length ≤ maxLen) : Rd (w.alloc (.cells xs.toArray e)) (.slice (some ⟨w.heap.size, 0, none⟩) xs.length xs.length) xs :=
  Rd.ofOwns (by simpa using World.ownsRow_lit (base := w.heap.size) (size := 1) (e := e) w xs.toArray xs.length (Nat.le_refl _) h (by simp))


end Go.Proofs.Ytlebbkbbmgmmjad

/-
  Slices that lie apart from a row that is appended to; a step of the law DiskKeeps.
-/
namespace Go.Proofs.Ytlebbkbbmgmmjad
open Go.RowKit

/-- v holds nothing of al's block. -/
def Apart (al v : Value) : Prop := ∀ g, al.ownBlock = some g → ∀ a l c, v = .slice (some a) l c → 0 < l → a.block ≠ g

theorem Apart.nil (v : Value) : Apart (.slice none 0 0) v := fun g h => by simp [Value.ownBlock] at h
theorem Apart.new {w : World} {base : Nat} {e : TypeId} {size n : Nat} {al v : Value} {xs : List Value} (h : w.ownsRow base e size al n xs) (hn : New w.heap.size v) : Apart al v := by
  intro g hg a l c hv _
  have := (h.lt g hg).2
  have := hn a l c hv
  omega

theorem Apart.step {w : World} {al al' v : Value} {xs : List Value} (h : Apart al v) (hr : Rd w v xs) (hp : al'.ownBlock = al.ownBlock ∨ al'.ownBlock = some w.heap.size) : Apart al' v := by
  intro g hg a l c hv hl
  rcases hp with hp | hp
  · exact h g (by rw [← hp]; exact hg) a l c hv hl
  · have hx : 0 < xs.length := by
      subst hv
      have := hr.len.1
      omega
    have := hr.lt a l c hv hx
    rw [hp] at hg
    cases hg
    omega

theorem Rd.apart {w w' : World} {al v : Value} {xs : List Value} (h : Rd w v xs) (ha : Apart al v) (hg : w.grownBy w' al.ownBlock) : Rd w' v xs := by
  obtain ⟨ao, cap, hv, h1, h2, h3, h4⟩ := h
  refine ⟨ao, cap, hv, h1, h2, h3, fun a haa j u hu => ?_⟩
  have e : (a.add j).block = a.block := by unfold Addr.add; split <;> rfl
  refine hg.cell (h4 a haa j u hu) ?_
  rw [e]
  intro he
  exact ha a.block he.symm a _ _ (by rw [hv, haa]) (by have := (List.getElem?_eq_some_iff.1 hu).1; omega) rfl

/-- 'append(out, xs...)', and where it lies then. -/
theorem wpList_append_at {P : Program} {w : World} {ops : Array Oper} {rest : List Oper} {o : Oper} {a : Act} {Q : Exit → Act → World → Prop} {s x : Operand} {t : TypeId} {base : Nat} {e : TypeId} {z : Value} {bytes : Nat}
    {v : Value} {n : Nat} {xs : List Value} {vx : Value} {news : List Value}
    (hown : w.ownsRow base e 1 v n xs) (hrd : Rd w vx news)
    (ht : P.underlying t = some (.slice e)) (hinf : (P.info? e).map (fun i => (i.zero, i.size, i.bytes)) = some (some z, 1, bytes)) (hzs : z.cells.size = 1)
    (hgd : o.guard = none) (ho : o.op = .call { callee := .builtin .append, args := #[s, x], argTypes := #[t, t] })
    (hs : a.eval s = v) (hx : a.eval x = vx) (h1 : ∀ u ∈ news, u.oneCell' = true)
    (h63 : n + news.length ≤ 2000000000000) (hbytes : bytes ≤ 64) (hbase : base ≤ w.heap.size)
    (h : ∀ v' w', w'.ownsRow base e 1 v' (n + news.length) (xs ++ news) → Below base w w' → w.grownBy w' v.ownBlock → (v'.ownBlock = v.ownBlock ∨ v'.ownBlock = some w.heap.size) → wpList P ops Q rest (a.put o.dst v') w') : wpList P ops Q (o :: rest) a w := by
  obtain ⟨i, hi, hz, hsize, hby⟩ := info_parts hinf
  have hlt := hown.lt
  have hbytes' : (n + news.length) * bytes ≤ 2000000000000 * 64 := Nat.mul_le_mul h63 hbytes
  obtain ⟨ao, cap, hvx, h2, h3, h4, h5⟩ := hrd
  cases ao with
  | none =>
    have hc := h4 rfl
    have hnews : news = [] := List.eq_nil_of_length_eq_zero (by omega)
    subst hnews
    subst hc
    refine wpList_append_own_none hgd s x t ho base e i 1 ht hi v n xs hs hown (hx.trans hvx) ?_
    exact h v w (by simpa using hown) (Below.refl _ _) (World.grownBy.refl _ _) (.inl rfl)
  | some ad =>
    refine wpList_append_own_at w hgd s x t ho base e i z 1 bytes ht hi hz hsize hby hzs (by decide) v n xs hs hown ad news.length cap news (hx.trans hvx) (by simp) (h5 ad rfl) h1 (by simp [maxLen]; omega) (by omega) hbase ?_
    intro v' w' ho' hg' _ hp
    exact h v' w' ho' ((Below.refl _ _).grown hg' hbase (fun k hk => (hlt k hk).1)) hg' hp

/-- 'out[:hi]' of a row of one's own. -/
theorem owns_upto {w : World} {base : Nat} {e : TypeId} {ao : Option Addr} {n cap hi : Nat} {xs : List Value} (h : w.ownsRow base e 1 (.slice ao n cap) n xs) (hh : hi ≤ n) :
    w.ownsRow base e 1 (Go.sliced ao 0 hi cap 1) hi (xs.take hi) ∧ (Go.sliced ao 0 hi cap 1).ownBlock = (Value.slice ao n cap).ownBlock ∧ Go.sliced ao 0 hi cap 1 = .slice ao hi cap := by
  have hl : xs.length = n := by simpa using h.1
  have hs : Go.sliced ao 0 hi cap 1 = .slice ao hi cap := by
    rcases h.2 with ⟨hv, hn⟩ | ⟨g, cap', cur, hv, _⟩
    · simp only [Value.slice.injEq] at hv
      obtain ⟨rfl, rfl, rfl⟩ := hv
      have : hi = 0 := by omega
      subst this
      rfl
    · simp only [Value.slice.injEq] at hv
      obtain ⟨rfl, _, rfl⟩ := hv
      unfold Go.sliced
      simp only [Option.map_some, Addr.add_lit, Nat.zero_mul, Nat.add_zero, ite_self, Nat.sub_zero]
  refine ⟨?_, ?_, hs⟩
  rotate_left
  · rw [hs]
    cases ao <;> rfl
  rw [hs]
  refine ⟨by simp; omega, ?_⟩
  · rcases h.2 with ⟨hv, hn⟩ | ⟨g, cap', cur, hv, hb, hg, h1, h2, h3, h4⟩
    · simp only [Value.slice.injEq] at hv
      obtain ⟨rfl, rfl, rfl⟩ := hv
      have : hi = 0 := by omega
      subst this
      exact .inl ⟨rfl, rfl⟩
    · simp only [Value.slice.injEq] at hv
      obtain ⟨rfl, _, rfl⟩ := hv
      refine .inr ⟨g, cap, cur, rfl, hb, hg, by omega, h2, h3, ?_⟩
      rw [← h4, List.take_take, Nat.min_eq_left (by omega), Nat.mul_one]

/-- Two blocks of two cells that a round laid, the second call's results stored in them. -/
theorem store_two {wr w2 : World} {z : Nat} {D F : TypeId} {x y c a : Value} (hb : Below z wr w2) (hT : Tb w2 z D x y) (hU : Tb w2 (z + 1) F c a) (x' y' c' a' : Value) :
    let wE := (((w2.setCell ⟨z, 0, none⟩ x').setCell ⟨z, 1, none⟩ y').setCell ⟨z + 1, 0, none⟩ c').setCell ⟨z + 1, 1, none⟩ a'
    Below z wr wE ∧ Tb wE z D x' y' ∧ Tb wE (z + 1) F c' a' ∧ wE.heap.size = w2.heap.size ∧ ∀ (v : Value) (xs : List Value), Rd w2 v xs → New (z + 2) v → Rd wE v xs := by
  refine ⟨(((hb.setCell (Nat.le_refl _) _).setCell (Nat.le_refl _) _).setCell (by simp) _).setCell (by simp) _, ?_, ?_, by simp, fun v xs h hn => ?_⟩
  · exact ((hT.set x' y').far (by simp) c').far (by simp) a'
  · exact ((hU.far (by simp) x').far (by simp) y').set c' a'
  · exact (((h.setNew hn (by simp) x').setNew hn (by simp) y').setNew hn (by simp) c').setNew hn (by simp) a'

theorem enters78 (args : Array Value) (W : World) : (callFunc 78 args).run Try.prog W = .ok (.enter 78 args) W := by kernel_rfl
theorem Append_u (v : Value) (bs : List UInt8) (k : Int) (x : Value) (ys : List UInt8) (w : World) (h : Rd w v (bc bs)) (hx : Rd w x (bc ys)) :
    Calls Try.prog 78 #[.agg #[v, .int .i64 k], x] w fun e w' => ∃ u, e = .returned u ∧ ∃ v', u = .tuple #[dsk v' (appendR bs k ys).2.1, flt (appendR bs k ys).2.2 0] ∧ Rd w' v' (bc (appendR bs k ys).1) ∧ Below w.heap.size w w' ∧ New w.heap.size v' :=
  (Append_any v bs k x ys w h hx).mono fun _ _ ⟨v', he, r⟩ => ⟨_, he, v', rfl, r⟩

theorem Tb.grown {w w' : World} {B : Nat} {t : TypeId} {x y : Value} {row : Option Nat} (h : Tb w B t x y) (hg : w.grownBy w' row) (hR : some B ≠ row) : Tb w' B t x y := by
  unfold Tb
  rw [hg.block _ h.facts.2.2.2.2 hR]
  exact h

theorem crashR_in {bs : List UInt8} {k q : Nat} (h : checkR bs (k : Int) = 0) (h2 : k + q ≤ bs.length) : crashR bs (k : Int) (q : Int) = (bs.take (k + q), ((k + q : Nat) : Int), 0, 0) := by
  rw [crashR_ok h (by omega) (by omega), show (k : Int) + (q : Int) = ((k + q : Nat) : Int) by omega, trimR_ok h h2]

theorem trimR_all {bs : List UInt8} {k : Int} (h : checkR bs k = 0) : trimR bs k (bs.length : Int) = (bs, (bs.length : Int), 0, 0) := by
  rw [trimR_ok h (Nat.le_refl _), List.take_length]

end Go.Proofs.Ytlebbkbbmgmmjad

/-
  The mathematics of the law DiskRecovers.
-/
namespace Go.Proofs.Ytlebbkbbmgmmjad
open Go.RowKit

theorem flatF_mono (l : List (List UInt8)) (a b : Nat) (h : a ≤ b) : (flatF (l.take a)).length ≤ (flatF (l.take b)).length := by
  have e : l.take a = (l.take b).take a := by rw [List.take_take, Nat.min_eq_left h]
  rw [e]
  conv => rhs; rw [flatF_split (l.take b) a]
  rw [List.length_append]
  omega

theorem flatF_next (l : List (List UInt8)) (k : Nat) (h : k < l.length) : (flatF (l.take (k + 1))).length = (flatF (l.take k)).length + l[k].length + 6 := by
  rw [flatF_snoc l k h, List.length_append, framed_length]
  omega

/-- How many frames are whole in the first t bytes. -/
theorem whole_k : ∀ (l : List (List UInt8)) (t : Nat), ∃ k, k ≤ l.length ∧ (flatF (l.take k)).length ≤ t ∧ ∀ h : k < l.length, t < (flatF (l.take k)).length + l[k].length + 6
  | [], t => ⟨0, by simp, by simp [flatF], fun h => by simp at h⟩
  | b :: l, t => by
    by_cases hb : t < b.length + 6
    · exact ⟨0, by simp, by simp [flatF], fun h => by simp [flatF]; omega⟩
    · obtain ⟨k, h1, h2, h3⟩ := whole_k l (t - (b.length + 6))
      refine ⟨k + 1, by simp; omega, ?_, fun h => ?_⟩
      · rw [List.take_succ_cons, flatF_cons, List.length_append, framed_length]; omega
      · rw [List.take_succ_cons, flatF_cons, List.length_append, framed_length]
        have := h3 (by simpa using h)
        simp only [List.getElem_cons_succ]
        omega

theorem whole_ge {l : List (List UInt8)} {t k s : Nat} (hk : k ≤ l.length) (hs : s ≤ l.length) (hend : ∀ h : k < l.length, t < (flatF (l.take k)).length + l[k].length + 6) (hst : (flatF (l.take s)).length ≤ t) : s ≤ k := by
  rcases Nat.lt_or_ge k s with h | h
  · have h1 := flatF_next l k (by omega)
    have h2 := flatF_mono l (k + 1) s (by omega)
    have h3 := hend (by omega)
    omega
  · exact h

theorem checkR_full {bs : List UInt8} (h : bs.length ≤ 60000) : checkR bs (bs.length : Int) = 0 := checkR_ok (by omega) (by omega) (by omega)

theorem frameAt_nil : frameAt [] = none := frameAt_short (by simp)

/-- Recover of what a Crash left. -/
theorem recover_cut (l : List (List UInt8)) (t k : Nat) (hl : l.length ≤ 1000) (hs : (flatF l).length ≤ 60000) (ht : t ≤ (flatF l).length) (hk : k ≤ l.length) (hn : (flatF (l.take k)).length ≤ t)
    (hend : ∀ h : k < l.length, t < (flatF (l.take k)).length + l[k].length + 6) :
    recoverR ((flatF l).take t) (t : Int) = (flatF (l.take k), ((flatF (l.take k)).length : Int), l.take k, 0) := by
  have hto := torn_cut l t k hl hs ht hk hn hend
  have hlen : ((flatF l).take t).length = t := by rw [List.length_take]; omega
  have hc : checkR ((flatF l).take t) (t : Int) = 0 := by
    have := checkR_full (bs := (flatF l).take t) (by omega)
    rwa [hlen] at this
  rw [recoverR_ok hc (by rw [hto]), hto]
  simp only [Int.toNat_natCast, Prod.mk.injEq, and_true]
  rw [List.take_take, Nat.min_eq_left hn]
  conv => lhs; rw [flatF_split l k]
  rw [List.take_left]

/-- Recover of whole frames. -/
theorem recover_whole (l : List (List UInt8)) (hl : l.length ≤ 1000) (hs : (flatF l).length ≤ 60000) :
    recoverR (flatF l) ((flatF l).length : Int) = (flatF l, ((flatF l).length : Int), l, 0) := by
  have h := recover_cut l (flatF l).length l.length hl hs (Nat.le_refl _) (Nat.le_refl _) (by rw [List.take_length]; exact Nat.le_refl _) (fun h => by omega)
  rwa [List.take_length, List.take_length] at h

/-- How many bytes are kept ahead of frame j. -/
def keptAt (l : List (List UInt8)) (s j : Nat) : Nat := if s < j then (flatF (l.take s)).length else 0
theorem keptAt_le (l : List (List UInt8)) (s j : Nat) : keptAt l s j ≤ (flatF (l.take j)).length := by
  unfold keptAt
  split
  · exact flatF_mono l s j (by omega)
  · omega

end Go.Proofs.Ytlebbkbbmgmmjad
