/-
  The walks over package disk: its functions.
-/
import Derived.Test.YtlebbkbbmgmmjabDiskW1
import Derived.Test.YtlebbkbbmgmmjabLawFrames
namespace Go.Proofs.Ytlebbkbbmgmmjab
open Go.RowKit

/-- A disk, as a value. -/
def dsk (v : Value) (k : Int) : Value := .agg #[v, .int .i64 k]

/-- What Check says. -/
def checkR (bs : List UInt8) (k : Int) : Int := if 60000 < bs.length then 8 else if k < 0 ∨ (bs.length : Int) < k then 3 else 0
theorem checkR_big {bs : List UInt8} {k : Int} (h : 60000 < bs.length) : checkR bs k = 8 := by rw [checkR, if_pos h]
theorem checkR_out {bs : List UInt8} {k : Int} (h : ¬ 60000 < bs.length) (h2 : k < 0 ∨ (bs.length : Int) < k) : checkR bs k = 3 := by rw [checkR, if_neg h, if_pos h2]
theorem checkR_ok {bs : List UInt8} {k : Int} (h : ¬ 60000 < bs.length) (h2 : 0 ≤ k) (h3 : k ≤ (bs.length : Int)) : checkR bs k = 0 := by rw [checkR, if_neg h, if_neg (by omega)]
theorem checkR_zero {bs : List UInt8} {k : Int} (h : checkR bs k = 0) : bs.length ≤ 60000 ∧ 0 ≤ k ∧ k ≤ (bs.length : Int) := by
  unfold checkR at h
  split at h
  · cases h
  · split at h
    · cases h
    · omega

set_option maxRecDepth 100000 in
set_option maxHeartbeats 400000 in
theorem Check_any (v : Value) (bs : List UInt8) (k : Int) (w : World) (h : Rd w v (bc bs)) :
    Calls Try.prog 43 #[dsk v k] w fun e w' => e = .returned (flt (checkR bs k) 0) ∧ Below w.heap.size w w' := by
  obtain ⟨ao, cap, hu, hc1, hc2⟩ := h.shape
  rw [bc_length] at hc1 hu
  subst hu
  unfold maxLen at hc2
  unfold dsk
  clear h
  by_cases h1 : 60000 < bs.length
  · have HE := hide (@checkR_big bs k h1)
    go_enter Try.func43, Try.ntmps43
    go_wp2_with fail
    exact bodyPost_ret (v := flt 8 0) (by simp [results, Try.results43, go_sem, flt]) rfl ⟨by rw [HE.out], by go_grown⟩
  · by_cases h2 : k < 0
    · have HE := hide (@checkR_out bs k h1 (by omega))
      go_enter Try.func43, Try.ntmps43
      go_wp2_with fail
      exact bodyPost_ret (v := flt 3 0) (by simp [results, Try.results43, go_sem, flt]) rfl ⟨by rw [HE.out], by go_grown⟩
    · by_cases h3 : (bs.length : Int) < k
      · have HE := hide (@checkR_out bs k h1 (by omega))
        go_enter Try.func43, Try.ntmps43
        go_wp2_with fail
        exact bodyPost_ret (v := flt 3 0) (by simp [results, Try.results43, go_sem, flt]) rfl ⟨by rw [HE.out], by go_grown⟩
      · have HE := hide (@checkR_ok bs k h1 (by omega) (by omega))
        go_enter Try.func43, Try.ntmps43
        go_wp2_with fail
        exact bodyPost_ret (v := flt 0 0) (by simp [results, Try.results43, go_sem, flt]) rfl ⟨by rw [HE.out], by go_grown⟩

/-- A block of two cells. -/
def Tb (w : World) (B : Nat) (t : TypeId) (x y : Value) : Prop := w.heap[B]? = some (.cells #[x, y] t (0, 0))
theorem Tb.facts {w : World} {B : Nat} {t : TypeId} {x y : Value} (h : Tb w B t x y) : w.cell? ⟨B, 0, none⟩ = some x ∧ w.cell? ⟨B, 1, none⟩ = some y ∧ w.frozen? ⟨B, 0, none⟩ = false ∧ w.frozen? ⟨B, 1, none⟩ = false ∧ B < w.heap.size := by
  refine ⟨?_, ?_, frozen_of_row _ _ _ _ _ h, frozen_of_row _ _ _ _ _ h, (Array.getElem?_eq_some_iff.1 h).1⟩
  · rw [cell_of_row _ _ _ _ _ _ h]; rfl
  · rw [cell_of_row _ _ _ _ _ _ h]; rfl

theorem Tb.below {w w' : World} {B : Nat} {t : TypeId} {x y : Value} (h : Tb w B t x y) (hb : Below w.heap.size w w') : Tb w' B t x y := by
  unfold Tb
  rw [hb.block _ h.facts.2.2.2.2]
  exact h

theorem Tb.new (w : World) (t : TypeId) (x y : Value) : Tb (w.alloc (.cells #[x, y] t)) w.heap.size t x y := heap_alloc_new _ _
theorem below_alloc (w : World) (o : Obj) : Below w.heap.size w (w.alloc o) := (Below.refl _ _).alloc (Nat.le_refl _) o

/-- Three blocks of two cells that the call laid first, later on. -/
theorem three_later {w w1 : World} {x1 y1 x2 y2 x3 y3 : Value} {t1 t2 t3 : TypeId}
    (hb : Below (((w.alloc (.cells #[x1, y1] t1)).alloc (.cells #[x2, y2] t2)).alloc (.cells #[x3, y3] t3)).heap.size (((w.alloc (.cells #[x1, y1] t1)).alloc (.cells #[x2, y2] t2)).alloc (.cells #[x3, y3] t3)) w1) :
    Tb w1 w.heap.size t1 x1 y1 ∧ Tb w1 (w.heap.size + 1) t2 x2 y2 ∧ Tb w1 (w.heap.size + 1 + 1) t3 x3 y3 ∧ Below w.heap.size w w1 ∧ w.heap.size + 3 ≤ w1.heap.size := by
  have e2 : (w.alloc (.cells #[x1, y1] t1)).heap.size = w.heap.size + 1 := by simp
  have e3 : ((w.alloc (.cells #[x1, y1] t1)).alloc (.cells #[x2, y2] t2)).heap.size = w.heap.size + 1 + 1 := by simp
  have h1 := (((Tb.new w t1 x1 y1).below (below_alloc _ _)).below (below_alloc _ _)).below hb
  have h2 := ((Tb.new (w.alloc (.cells #[x1, y1] t1)) t2 x2 y2).below (below_alloc _ _)).below hb
  have h3 := (Tb.new ((w.alloc (.cells #[x1, y1] t1)).alloc (.cells #[x2, y2] t2)) t3 x3 y3).below hb
  rw [e2] at h2
  rw [e3] at h3
  refine ⟨h1, h2, h3, ?_, ?_⟩
  · exact (below_alloc _ _).trans (((below_alloc _ _).mono (by simp)).trans (((below_alloc _ _).mono (by simp; omega)).trans (hb.mono (by simp; omega))))
  · have := hb.size
    simp at this
    omega

/-- A call of a Go function of two arguments, as a step of a region that draws its order. -/
theorem step_call2 {P : Program} {w : World} {ops : Array Oper} {o : Oper} {a : Act} {K : Act → World → Prop} {Q : Exit → Act → World → Prop} {E : Prop} {f : FuncId} {x y : Operand} {ats : Array TypeId} {v v2 : Value} {R : Value → World → Prop}
    (hc : Calls P f #[v, v2] w fun e w' => ∃ u, e = .returned u ∧ R u w') (hcf : ∀ args W, (callFunc f args).run P W = .ok (.enter f args) W)
    (hgd : o.guard = none) (ho : o.op = .call { callee := .value (.func f), args := #[x, y], argTypes := ats }) (hx : a.eval x = v) (hy : a.eval y = v2)
    (h : ∀ u w', R u w' → K (a.put o.dst u) w') :
    if Region.wanted o (yielded ops a.tmps) = true then Oper.wp P o a w K Q else E := by
  have hw : Region.wanted o (yielded ops a.tmps) = true := by simp [Region.wanted, hgd]
  rw [if_pos hw]
  have he : execOp a.eval o = callFunc f #[v, v2] := by
    cases o
    simp only at ho
    subst ho
    rw [execOp_call_go]
    simp [hx, hy]
  unfold Oper.wp
  rw [he, hcf, Oper.upon_enter]
  exact hc.mono (by rintro e w' ⟨u, rfl, hr⟩; exact h u w' hr)

theorem enters44 (args : Array Value) (W : World) : (callFunc 44 args).run Try.prog W = .ok (.enter 44 args) W := by kernel_rfl

/-- What Append comes to: bytes, Kept, code. -/
def appendR (bs : List UInt8) (k : Int) (ys : List UInt8) : List UInt8 × Int × Int :=
  if checkR bs k ≠ 0 then ([], 0, checkR bs k) else if 60000 < bs.length + ys.length then ([], 0, 9) else (bs ++ ys, k, 0)
theorem appendR_bad {bs ys : List UInt8} {k : Int} (h : checkR bs k ≠ 0) : appendR bs k ys = ([], 0, checkR bs k) := by rw [appendR, if_pos h]
theorem appendR_much {bs ys : List UInt8} {k : Int} (h : checkR bs k = 0) (h2 : 60000 < bs.length + ys.length) : appendR bs k ys = ([], 0, 9) := by rw [appendR, if_neg (by omega), if_pos h2]
theorem appendR_ok {bs ys : List UInt8} {k : Int} (h : checkR bs k = 0) (h2 : ¬ 60000 < bs.length + ys.length) : appendR bs k ys = (bs ++ ys, k, 0) := by rw [appendR, if_neg (by omega), if_neg h2]

set_option maxRecDepth 100000 in
set_option maxHeartbeats 400000 in
theorem Append_any (v : Value) (bs : List UInt8) (k : Int) (x : Value) (ys : List UInt8) (w : World) (h : Rd w v (bc bs)) (hx : Rd w x (bc ys)) :
    Calls Try.prog 10 #[dsk v k, x] w fun e w' => ∃ v', e = .returned (.tuple #[dsk v' (appendR bs k ys).2.1, flt (appendR bs k ys).2.2 0]) ∧ Rd w' v' (bc (appendR bs k ys).1) ∧ Below w.heap.size w w' ∧ New w.heap.size v' := by
  obtain ⟨ao, cap, hu, hc1, hc2⟩ := h.shape
  obtain ⟨bo, cbp, hv, hd1, hd2⟩ := hx.shape
  rw [bc_length] at hc1 hu hd1 hv
  subst hu hv
  unfold maxLen at hc2 hd2
  unfold dsk
  go_enter Try.func10, Try.ntmps10
  go_wp2_with fail
  refine (Check_any _ bs k _ (by exact h.below (by go_grown))).mono ?_
  rintro e w1 ⟨rfl, hb1⟩
  obtain ⟨hD, hR, hF, hbw, hsz⟩ := three_later hb1
  obtain ⟨d0, d1, d2, d3, d4⟩ := hD.facts
  obtain ⟨r0, r1, r2, r3, r4⟩ := hR.facts
  obtain ⟨f0, f1, f2, f3, f4⟩ := hF.facts
  have h1 := h.below hbw
  have hx1 := hx.below hbw
  clear hb1 h hx
  by_cases hc : checkR bs k = 0
  · obtain ⟨hk1, hk2, hk3⟩ := checkR_zero hc
    by_cases hm : 60000 < bs.length + ys.length
    · have HE := hide (@appendR_much bs ys k hc hm)
      rw [hc]
      clear hc hD hR hF
      unfold flt
      go_wp2_with fail
      exact bodyPost_ret (v := .tuple #[dsk (.slice none 0 0) 0, flt 9 0]) (by simp [results, Try.results10, go_sem, flt, dsk, r0, r1, f0, f1, r4, f4]) rfl ⟨_, by rw [HE.out]; rfl, by rw [HE.out]; exact Rd.nil _, by go_grown, New.nil _⟩
    · have HE := hide (@appendR_ok bs ys k hc hm)
      rw [hc]
      clear hc d0 d1 d2 d3 d4 r0 r1 r2 r3 r4 f0 f1 f2 f3 f4
      obtain ⟨d0, d1, d2, d3, d4⟩ := hD.facts
      unfold flt
      go_upto_region 6 with fail
      have hbA := below_alloc w1 (.cells #[.int .i64 0, .int .i64 0] 29)
      have hD2 := hD.below hbA
      have hR2 := hR.below hbA
      have hF2 := hF.below hbA
      have h2 := h1.below hbA
      have hx2 := hx1.below hbA
      have hbw2 := hbw.trans (hbA.mono (by omega))
      have hsz2 : w1.heap.size < (w1.alloc (.cells #[.int .i64 0, .int .i64 0] 29)).heap.size := by simp
      generalize w1.alloc (.cells #[.int .i64 0, .int .i64 0] 29) = w2 at *
      clear hbA hD hR hF h1 hx1 hbw d0 d1 d2 d3 d4
      obtain ⟨d0, d1, d2, d3, d4⟩ := hD2.facts
      have hjl : bs.length + ys.length ≤ 1000000000 := by omega
      go_region_law (refine step_call2 (joined_any _ _ bs ys _ (by exact h2) (by exact hx2) hjl) enters44 (by rfl) (by rfl) (by rfl) (by rfl) ?_; rintro v3 w3 ⟨ho3, hb3⟩; obtain ⟨q0, q1, q2, q3, q4⟩ := (Tb.below (w := w2.drew) hD2 hb3).facts; obtain ⟨r0, r1, r2, r3, r4⟩ := (Tb.below (w := w2.drew) hR2 hb3).facts; obtain ⟨f0, f1, f2, f3, f4⟩ := (Tb.below (w := w2.drew) hF2 hb3).facts; obtain ⟨ao3, cap3, rfl⟩ := owns_shape ho3)
      all_goals
        have hz2 : w2.drew.heap.size = w2.heap.size := rfl
        have hbw3 : Below w.heap.size w w3 := Below.trans hbw2.drew (hb3.mono (by omega))
        go_wp2_with fail
        exact bodyPost_ret (v := .tuple #[dsk (.slice ao3 (bs.length + ys.length) cap3) k, flt 0 0]) (by simp [results, Try.results10, go_sem, flt, dsk, r0, r1, f0, f1]) rfl ⟨_, by rw [HE.out]; rfl, by rw [HE.out]; exact Rd.ofOwns (ownsRow_setCell_below (ownsRow_setCell_below (ownsRow_setCell_below (ownsRow_setCell_below ho3 (by simp only; omega) _) (by simp only; omega) _) (by simp only; omega) _) (by simp only; omega) _), by go_grown, (New.owns ho3).mono (by omega)⟩
  · have HE := hide (@appendR_bad bs ys k hc)
    have hcb : (checkR bs k == 0) = false := beq_eq_false_iff_ne.2 hc
    have hcb2 : (checkR bs k != 0) = true := by simp [hc]
    clear hc
    generalize checkR bs k = c at *
    unfold flt
    go_wp2_with fail
    go_region
    all_goals
      go_wp2_with fail
      exact bodyPost_ret (v := .tuple #[dsk (.slice none 0 0) 0, flt c 0]) (by simp [results, Try.results10, go_sem, flt, dsk, r0, r1, f0, f1, r4, f4]) rfl ⟨_, by rw [HE.out]; rfl, by rw [HE.out]; exact Rd.nil _, by go_grown, New.nil _⟩

end Go.Proofs.Ytlebbkbbmgmmjab
