/-
  The walks over lease.Trust and Admit.
-/
import Derived.Test.YtfmoniabpinceafLeaseW3
namespace Go.Proofs.Ytfmoniabpinceaf
open Go.RowKit
set_option linter.unusedVariables false

/-- Until when may be trusted. -/
def trustF (sent span : Int) : Int × Int := if numL sent = false then (3, 0) else spanF span
def trustV (sent span : Int) : Int := if (trustF sent span).1 = 0 then sent + trustD span else 0

theorem spanF_ok {span : Int} (h : (spanF span).1 = 0) : spanF span = (0, 0) ∧ 4 ≤ span ∧ span ≤ 1000000 := by
  unfold spanF at h ⊢
  split at h
  · rename_i q; rw [if_pos q]; exact ⟨rfl, q⟩
  · cases h

theorem spanF_bad {span : Int} (h : (spanF span).1 ≠ 0) : spanF span = (3, -3) := by
  unfold spanF at h ⊢
  split at h
  · exact absurd rfl h
  · rename_i q; rw [if_neg q]

set_option maxRecDepth 100000 in
set_option maxHeartbeats 1000000 in
theorem Trust_any (sent span : Int) (w : World) : Calls Try.prog 23 #[.int .i64 sent, .int .i64 span] w fun e w' => e = .returned (.tuple #[.int .i64 (trustV sent span), flt (trustF sent span)]) ∧ Below w.heap.size w w' := by
  cases h1 : numL sent
  · have HE2 : Hid (trustF sent span = (3, 0)) := hide (by unfold trustF; rw [if_pos h1])
    have HE1 : Hid (trustV sent span = 0) := hide (by unfold trustV; rw [HE2.out, if_neg (by decide)])
    go_enter Try.func23, Try.ntmps23
    go_wp2_with (go_at_call 42; refine (lIsNum_any _ _).mono ?_; rintro e w' ⟨rfl, rfl⟩; rw [h1])
    exact bodyPost_ret (v := .tuple #[.int .i64 0, flt (3, 0)]) (by simp [results, Try.results23, go_sem, flt]) rfl ⟨by rw [HE1.out, HE2.out], by go_grown⟩
  · have hp := numL_iff.1 h1
    have e2 : trustF sent span = spanF span := by unfold trustF; rw [if_neg (by rw [h1]; decide)]
    have hsp := fun W => spanFault_any span W
    by_cases h0 : (spanF span).1 = 0
    · obtain ⟨e3, h4, h5⟩ := spanF_ok h0
      have HE2 := hide (e2.trans e3)
      have HE1 : Hid (trustV sent span = sent + trustD span) := hide (by unfold trustV; rw [HE2.out, if_pos rfl])
      have HT := hide (fun W => trusted_any span W (by omega) h5)
      have hw2 : IntKind.i64.wrap (sent + trustD span) = sent + trustD span := by rw [IntKind.wrap_i64]; unfold trustD; omega
      rw [e3] at hsp
      have HSP := hide hsp
      clear hsp e2 e3 h0 hp h4 h5
      go_enter Try.func23, Try.ntmps23
      go_wp2_with (go_at_call 42; refine (lIsNum_any _ _).mono ?_; rintro e w' ⟨rfl, rfl⟩; rw [h1])
      refine (HSP.out _).mono ?_
      rintro e w1 ⟨rfl, hb1⟩
      have hbw1 := (below_allocG w (.cells #[.int .i64 0, .int .i64 0] 26)).trans (hb1.mono (by simp))
      have hF := (Blk.new w 26 #[.int .i64 0, .int .i64 0]).later hb1
      clear hb1
      have fc0 := hF.cell 0
      have fc1 := hF.cell 1
      have fz0 := hF.frozen 0
      have fz1 := hF.frozen 1
      have fl := hF.lt
      simp at fc0 fc1
      unfold flt
      go_wp2_with (go_at_call 47; refine (HT.out _).mono ?_; rintro e w' ⟨rfl, rfl⟩)
      exact bodyPost_ret (v := .tuple #[.int .i64 (sent + trustD span), flt (0, 0)]) (by simp [results, Try.results23, go_sem, flt, fc0, fc1, fl]) rfl ⟨by rw [HE1.out, HE2.out], by go_grown⟩
    · have HE2 := hide (e2.trans (spanF_bad h0))
      have HE1 : Hid (trustV sent span = 0) := hide (by unfold trustV; rw [HE2.out, if_neg (by decide)])
      rw [spanF_bad h0] at hsp
      have HSP := hide hsp
      clear hsp e2 h0 hp
      go_enter Try.func23, Try.ntmps23
      go_wp2_with (go_at_call 42; refine (lIsNum_any _ _).mono ?_; rintro e w' ⟨rfl, rfl⟩; rw [h1])
      refine (HSP.out _).mono ?_
      rintro e w1 ⟨rfl, hb1⟩
      have hbw1 := (below_allocG w (.cells #[.int .i64 0, .int .i64 0] 26)).trans (hb1.mono (by simp))
      have hF := (Blk.new w 26 #[.int .i64 0, .int .i64 0]).later hb1
      clear hb1
      have fc0 := hF.cell 0
      have fc1 := hF.cell 1
      have fz0 := hF.frozen 0
      have fz1 := hF.frozen 1
      have fl := hF.lt
      simp at fc0 fc1
      unfold flt
      go_wp2_with fail
      go_region
      all_goals
        go_wp2_with fail
        exact bodyPost_ret (v := .tuple #[.int .i64 0, flt (3, -3)]) (by simp [results, Try.results23, go_sem, flt, fc0, fc1, fl]) rfl ⟨by rw [HE1.out, HE2.out], by go_grown⟩

def admitF (seen ep : Int) : Int × Int := if numL seen = false ∨ numL ep = false then (3, 0) else if ep < seen then (12, 0) else (0, 0)
def admitV (seen ep : Int) : Int := if (admitF seen ep).1 = 0 then ep else 0

set_option maxRecDepth 100000 in
set_option maxHeartbeats 1000000 in
theorem Admit_any (seen ep : Int) (w : World) : Calls Try.prog 24 #[.int .i64 seen, .int .i64 ep] w fun e w' => e = .returned (.tuple #[.int .i64 (admitV seen ep), flt (admitF seen ep)]) ∧ Below w.heap.size w w' := by
  have HD : Hid (admitF seen ep = if numL seen = false ∨ numL ep = false then (3, 0) else if ep < seen then (12, 0) else (0, 0)) := hide rfl
  have HV : Hid (admitV seen ep = if (admitF seen ep).1 = 0 then ep else 0) := hide rfl
  cases h1 : numL seen <;> cases h2 : numL ep <;> by_cases h3 : ep < seen
  all_goals
    simp only [h1, h2, h3, or_false, or_true, if_true, if_false, reduceCtorEq] at HD
    rw [HD.out] at HV
    go_enter Try.func24, Try.ntmps24
    go_wp2_with (go_at_call 42; refine (lIsNum_any _ _).mono ?_; rintro e w' ⟨rfl, rfl⟩; first | rw [h1] | rw [h2])
    first
      | exact bodyPost_ret (v := .tuple #[.int .i64 0, flt (3, 0)]) (by simp [results, Try.results24, go_sem, flt]) rfl ⟨by rw [HV.out, HD.out]; rfl, by go_grown⟩
      | exact bodyPost_ret (v := .tuple #[.int .i64 0, flt (12, 0)]) (by simp [results, Try.results24, go_sem, flt]) rfl ⟨by rw [HV.out, HD.out]; rfl, by go_grown⟩
      | exact bodyPost_ret (v := .tuple #[.int .i64 ep, flt (0, 0)]) (by simp [results, Try.results24, go_sem, flt]) rfl ⟨by rw [HV.out, HD.out]; rfl, by go_grown⟩

end Go.Proofs.Ytfmoniabpinceaf
