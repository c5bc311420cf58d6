/-
  The walks over parts.having, Find and Meet.
-/
import Derived.Test.YtahgddbladfemafPartW6
import Derived.Test.YtahgddbladfemafPartMath2
namespace Go.Proofs.Ytahgddbladfemaf
open Go.RowKit
set_option linter.unusedVariables false

set_option maxRecDepth 100000 in
set_option maxHeartbeats 400000 in
theorem having1_any (A : Nat) (r : ByteArray) (p : Pt) (w : World) (hA : Blk w A 9 #[.string r]) :
    Calls Try.prog 24 #[.agg #[.string p.fr, .string p.to_, .int .i64 p.id], .pointer (some ⟨A, 0, none⟩)] w fun e w' => e = .returned (.bool (inB r p.fr p.to_)) ∧ Below w.heap.size w w' := by
  have a0 := hA.cell 0
  simp at a0
  have al := hA.lt
  go_enter Try.func24, Try.ntmps24
  go_wp2_with (go_at_call 16; refine (vIsBetween_any _ _ _ _).mono ?_; rintro e w' ⟨rfl, rfl⟩)
  go_ret
  exact ⟨rfl, by go_grown⟩

set_option maxRecDepth 100000 in
set_option maxHeartbeats 1000000 in
theorem IndexFuncP_any (v : Value) (l : List Pt) (A : Nat) (r : ByteArray) (w : World) (hv : RdG pE w v l) (hA : Blk w A 9 #[.string r]) :
    Calls Try.prog 23 #[v, .func (.func 24) #[] #[.pointer (some ⟨A, 0, none⟩)]] w fun e w' => e = .returned (.int .i64 (hvP r l)) ∧ Below w.heap.size w w' := by
  obtain ⟨ao, cap, hvv, hc1, hc2⟩ := hv.shape
  subst hvv
  unfold maxLen at hc2
  go_enter Try.func23, Try.ntmps23
  go_wp2_with fail
  go_loopw [8] (fun iv wr => ∃ (j : Nat), j ≤ l.length ∧ iv = .int .i64 j ∧ hvGo r (l.drop j) j = hvP r l ∧ Below w.heap.size w wr)
    (fun iv _ => l.length - (intOf iv).toNat)
  case atStart => exact ⟨0, by omega, rfl, rfl, Below.refl _ _⟩
  case round =>
    obtain ⟨j, hj, rfl, hgo, hbel⟩ := hrel
    have HG := hide hgo
    clear hgo
    by_cases hlt : j < l.length
    · obtain ⟨p, hp⟩ : ∃ c, l[j]? = some c := ⟨_, List.getElem?_eq_getElem hlt⟩
      rw [drop_consI hp] at HG
      obtain ⟨b, off, rfl, hbb, hat⟩ := hv.here hp
      obtain ⟨c0, c1, c2⟩ := (hat.below hbel).part
      have hk1 : (0 : Int) ≤ (j : Int) := by omega
      have hk2 : (j : Int) < (l.length : Int) := by omega
      have HIB := hide (having1_any A r p wr (hA.later hbel))
      clear hat hp
      go_wp2_with fail
      refine HIB.out.mono ?_
      rintro e w2 ⟨rfl, hb2⟩
      have hbel2 := hbel.trans (hb2.mono hbel.size)
      clear c0 c1 c2
      cases hq : inB r p.fr p.to_
      · have HE := hide (HG.out.symm.trans (hvGo_no hq))
        go_wp2_with fail
        go_roundw
        case rel => exact ⟨j + 1, by omega, by go_num, HE.out.symm, hbel2⟩
        case measure => simp [intOf]; omega
      · have HE := hide (HG.out.symm.trans (hvGo_yes hq))
        go_wp2_with fail
        go_ret
        exact ⟨by rw [HE.out]; rfl, hbel2⟩
    · have hje : j = l.length := by omega
      subst hje
      rw [List.drop_length] at HG
      have HE : Hid (hvP r l = -1) := hide HG.out.symm
      go_wp2_with fail
      go_ret
      exact ⟨by rw [HE.out]; rfl, hbel⟩

set_option maxRecDepth 100000 in
set_option maxHeartbeats 400000 in
theorem having_any (v : Value) (l : List Pt) (r : ByteArray) (w : World) (hv : RdG pE w v l) :
    Calls Try.prog 15 #[v, .string r] w fun e w' => e = .returned (.int .i64 (hvP r l)) ∧ Below w.heap.size w w' := by
  have HI := hide (IndexFuncP_any v l w.heap.size r _ (hv.alloc (.cells #[.string r] 9)) (Blk.new w _ _))
  obtain ⟨ao, cap, hvv, hc1, hc2⟩ := hv.shape
  subst hvv
  go_enter Try.func15, Try.ntmps15
  go_wp2_with fail
  refine HI.out.mono ?_
  rintro e w1 ⟨rfl, hb1⟩
  have hbw1 : Below w.heap.size w w1 := (below_allocG _ _).trans (hb1.mono (by simp))
  go_wp2_with fail
  go_ret
  exact ⟨rfl, hbw1⟩

/-- What Find tells. -/
def findR (l : List Pt) (r : ByteArray) : Int := if (chkP l).1 = 0 then hvP r l else 0

set_option maxRecDepth 100000 in
set_option maxHeartbeats 1000000 in
theorem Find_any (v : Value) (l : List Pt) (r : ByteArray) (w : World) (hv : RdG pE w v l) (hwf : WfP l) :
    Calls Try.prog 7 #[v, .string r] w fun e w' => e = .returned (.tuple #[.int .i64 (findR l r), flt (chkP l)]) ∧ Below w.heap.size w w' := by
  have HV := hide hv
  have HN := hide (PCheck_any v l _ (hv.alloc (.cells #[.int .i64 0, .int .i64 0] 26)) hwf)
  obtain ⟨ao, cap, hvv, hc1, hc2⟩ := hv.shape
  subst hvv
  go_enter Try.func7, Try.ntmps7
  go_wp2_with fail
  refine HN.out.mono ?_
  rintro e w1 ⟨rfl, hb1⟩
  have hF1 := (Blk.new w 26 #[.int .i64 0, .int .i64 0]).later hb1
  have hbw1 : Below w.heap.size w w1 := (below_allocG _ _).trans (hb1.mono (by simp))
  have f0 := hF1.cell 0
  have f1 := hF1.cell 1
  have g0 := hF1.frozen 0
  have g1 := hF1.frozen 1
  have hfl := hF1.lt
  simp at f0 f1
  by_cases hz : (chkP l).1 = 0
  · have HR := hide (show findR l r = hvP r l by simp [findR, hz])
    have HC := hide (chkP_ok (chkP_fine.1 hz))
    rw [HC.out]
    have hbA := below_allocG w1 (.cells #[.int .i64 0, .int .i64 0] 26)
    have HH := hide (having_any _ l r _ ((HV.out.below hbw1).below hbA))
    have HBA := hide hbA
    clear hz hbA
    unfold flt
    go_wp2_with fail
    refine HH.out.mono ?_
    rintro e w2 ⟨rfl, hb2⟩
    have hb12 : Below w1.heap.size w1 w2 := HBA.out.trans (hb2.mono (by simp))
    have hF2 := hF1.later hb12
    have hbw2 := hbw1.trans (hb12.mono hbw1.size)
    have q0 := hF2.cell 0
    have q1 := hF2.cell 1
    have r0 := hF2.frozen 0
    have r1 := hF2.frozen 1
    have hfl2 := hF2.lt
    simp at q0 q1
    generalize hvP r l = H at *
    go_wp2_with fail
    exact bodyPost_ret (v := .tuple #[.int .i64 H, flt (0, 0)]) (by simp [results, Try.results7, go_sem, flt, q0, q1]) rfl ⟨by rw [HR.out, HC.out], by go_grown⟩
  · have HR := hide (show findR l r = 0 by simp [findR, hz])
    generalize hC : chkP l = C at *
    have HC := hide hC
    clear hC
    obtain ⟨x, y⟩ := C
    have hne' : x ≠ 0 := hz
    have hcb : (x == 0) = false := beq_eq_false_iff_ne.2 hne'
    have hcb2 : (x != 0) = true := by simp [hne']
    clear hz hne'
    unfold flt
    go_wp2_with fail
    go_region
    all_goals
      go_wp2_with fail
      exact bodyPost_ret (v := .tuple #[.int .i64 0, flt (x, y)]) (by simp [results, Try.results7, go_sem, flt, f0, f1, hfl]) rfl ⟨by rw [HR.out, HC.out], by go_grown⟩

end Go.Proofs.Ytahgddbladfemaf
