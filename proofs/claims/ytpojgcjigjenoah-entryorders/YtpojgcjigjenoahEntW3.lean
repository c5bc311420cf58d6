/-
  The walks over entry.Older and entry.Agree.
-/
import Derived.Test.YtpojgcjigjenoahEntW2
import Derived.BigQuiet
namespace Go.Proofs.Ytpojgcjigjenoah
open Go.RowKit
set_option linter.unusedVariables false

/-- A block of two that is written, ahead of one that is laid. -/
theorem Blk.two {w : World} {B : Nat} {t : TypeId} {o : Obj} {a b x y : Value} (h : Blk w B t #[a, b]) : Blk (((w.setCell ⟨B, 0, none⟩ x).setCell ⟨B, 1, none⟩ y).alloc o) B t #[x, y] := by
  have := ((h.set 0 x).set 1 y).later (below_allocG _ o)
  simpa using this

/-- What Older tells. -/
def oldR (l : List Et) (n t : Int) : Bool := if (oldF l n t).1 ≠ 0 then false else oldB l n t

set_option maxRecDepth 100000 in
set_option maxHeartbeats 2000000 in
theorem Older_any (v : Value) (l : List Et) (n t : Int) (w : World) (hv : RdG eE w v l) :
    Calls Try.prog 7 #[v, .int .i64 n, .int .i64 t] w fun e w' => e = .returned (.tuple #[.bool (oldR l n t), flt (oldF l n t)]) ∧ Below w.heap.size w w' := by
  have HF : Hid (oldR l n t = if (oldF l n t).1 ≠ 0 then false else oldB l n t) := hide rfl
  have HI := hide (olderFault_any v l n t _ (hv.alloc (.cells #[.int .i64 0, .int .i64 0] 26)))
  have HV := hide hv
  obtain ⟨ao, cap, rfl, _, _⟩ := hv.shape
  have HR0 := hide (Blk.new w 26 #[.int .i64 0, .int .i64 0])
  have HB0 := hide (below_allocG w (.cells #[.int .i64 0, .int .i64 0] 26))
  have HZ := hide (oldF_z l n t)
  have HL := hide (fun W (h : RdG eE W (.slice ao l.length cap) l) => lastTerm_any _ l W h)
  generalize hK : oldF l n t = K at *
  obtain ⟨x, y⟩ := K
  have HO : Hid (oldB l n t = decide (lastT l < t ∨ (lastT l = t ∧ (l.length : Int) < n))) := hide rfl
  generalize lastT l = T at *
  clear hv hK
  go_enter Try.func7, Try.ntmps7
  go_wp2_with fail
  refine HI.out.mono ?_
  rintro e w1 ⟨rfl, hb1⟩
  have HBW := hide ((HB0.out.trans (hb1.mono HB0.out.size)).trans ((below_allocG w1 (.cells #[.int .i64 x, .int .i64 y] 26)).mono (HB0.out.trans (hb1.mono HB0.out.size)).size))
  have HR := hide ((HR0.out.later hb1).later (below_allocG w1 (.cells #[.int .i64 x, .int .i64 y] 26)))
  have HN1 := hide (Blk.new w1 26 #[.int .i64 x, .int .i64 y])
  have hrl := (HR0.out.later hb1).lt
  have HRw := hide (HR0.out.later hb1)
  have HBw := hide (HB0.out.trans (hb1.mono HB0.out.size))
  clear hb1 HI HR0 HB0
  unfold flt
  by_cases hx : x ≠ 0
  · have HE := hide (HF.out.trans (if_pos hx))
    have hq : (x == 0) = false := beq_eq_false_iff_ne.2 hx
    have hq2 : (x != 0) = true := by simp [hx]
    clear hx
    have r0 := HRw.out.cell 0
    have r1 := HRw.out.cell 1
    have z0 := HRw.out.frozen 0
    have z1 := HRw.out.frozen 1
    simp at r0 r1
    go_wp2_with fail
    go_region
    have hbw := HBw.out
    go_wp2_with fail
    refine bodyPost_ret (v := .tuple #[.bool false, .agg #[.int .i64 x, .int .i64 y]]) (results2_tc Try.results7 rfl rfl (run_loadVar_blk (xs := #[.int .i64 x, .int .i64 y]) (HRw.out.two) Try.underlying26 rfl Try.sizeFaultE)) rfl ?_
    exact ⟨by rw [HE.out]; rfl, by go_grown⟩
  · have HE := hide (HF.out.trans (if_neg hx))
    obtain rfl : x = 0 := Decidable.not_not.1 hx
    obtain rfl : y = 0 := by have := HZ.out rfl; simpa using this
    clear hx
    have HV2 := hide (HV.out.below HBW.out)
    by_cases h1 : T < t
    · have HE2 := hide (HE.out.trans (HO.out.trans (decide_eq_true (.inl h1))))
      have hd : decide (T < t) = true := decide_eq_true h1
      go_wp2_with (first
        | (go_at_call 13; refine (HL.out _ HV2.out).mono ?_; rintro e w2 ⟨rfl, rfl⟩)
        | (refine wpList_store_blk rfl rfl rfl rfl HR.out rfl Try.sizeFaultE rfl ?_; intro w8 hR8 hg8; have HR8 := hide hR8; have HG8 := hide hg8; clear hR8 hg8))
      refine bodyPost_ret (v := .tuple #[.bool true, .agg #[.int .i64 0, .int .i64 0]]) (results2_tc Try.results7 rfl rfl (run_loadVar_blk HR8.out Try.underlying26 rfl Try.sizeFaultE)) rfl ?_
      exact ⟨by rw [HE2.out]; rfl, below_grownO HBW.out HG8.out (fun k hk => by cases hk; omega) HBW.out.size⟩
    · have hd : decide (T < t) = false := decide_eq_false h1
      by_cases h2 : T = t
      · have HE2 := hide (show oldR l n t = decide ((l.length : Int) < n) by rw [HE.out, HO.out]; simp [h2])
        have hq : (T == t) = true := by simp [h2]
        clear h2 h1
        go_wp2_with (first
          | (go_at_call 13; refine (HL.out _ HV2.out).mono ?_; rintro e w2 ⟨rfl, rfl⟩)
          | (refine wpList_store_blk rfl rfl rfl rfl HR.out rfl Try.sizeFaultE rfl ?_; intro w8 hR8 hg8; have HR8 := hide hR8; have HG8 := hide hg8; clear hR8 hg8))
        refine bodyPost_ret (v := .tuple #[.bool (decide ((l.length : Int) < n)), .agg #[.int .i64 0, .int .i64 0]]) (results2_tc Try.results7 rfl rfl (run_loadVar_blk HR8.out Try.underlying26 rfl Try.sizeFaultE)) rfl ?_
        exact ⟨by rw [HE2.out]; rfl, below_grownO HBW.out HG8.out (fun k hk => by cases hk; omega) HBW.out.size⟩
      · have HE2 := hide (show oldR l n t = false by rw [HE.out, HO.out]; simp [h2]; omega)
        have hq : (T == t) = false := beq_eq_false_iff_ne.2 h2
        clear h2 h1
        go_wp2_with (first
          | (go_at_call 13; refine (HL.out _ HV2.out).mono ?_; rintro e w2 ⟨rfl, rfl⟩)
          | (refine wpList_store_blk rfl rfl rfl rfl HR.out rfl Try.sizeFaultE rfl ?_; intro w8 hR8 hg8; have HR8 := hide hR8; have HG8 := hide hg8; clear hR8 hg8))
        refine bodyPost_ret (v := .tuple #[.bool false, .agg #[.int .i64 0, .int .i64 0]]) (results2_tc Try.results7 rfl rfl (run_loadVar_blk HR8.out Try.underlying26 rfl Try.sizeFaultE)) rfl ?_
        exact ⟨by rw [HE2.out]; rfl, below_grownO HBW.out HG8.out (fun k hk => by cases hk; omega) HBW.out.size⟩


end Go.Proofs.Ytpojgcjigjenoah
