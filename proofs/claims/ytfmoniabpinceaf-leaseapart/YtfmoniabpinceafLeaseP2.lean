/-
  The walk over lease.Play.
-/
import Derived.Test.YtfmoniabpinceafLeaseP1
import Derived.Test.YtfmoniabpinceafGenV
namespace Go.Proofs.Ytfmoniabpinceaf
open Go.RowKit
set_option linter.unusedVariables false

theorem Try.sizeCourt : (Try.prog.info? 64).map (·.size) = some 8 := by kernel_rfl

theorem Try.sizeFault : (Try.prog.info? 26).map (·.size) = some 2 := by kernel_rfl

theorem CtRd.grown {w w' : World} {c : Ct} {vc vt vw vr : Value} {B R : Nat} (h : CtRd w c vc vt vw vr) (hn : NewC B vc vt vw vr) (hg : w.grownBy w' (some R)) (hR : R < B) : CtRd w' c vc vt vw vr := by
  have k : ∀ {α : Type} {K : Nat} {E : En α K} {v : Value} {xs : List α}, New B v → RdG E w v xs → RdG E w' v xs := by
    intro α K E v xs hv hr
    obtain ⟨ao, cap, rfl, h1, h2, h3, h4⟩ := hr
    refine ⟨ao, cap, rfl, h1, h2, h3, fun a ha j u hu => ?_⟩
    have hc := h4 a ha j u hu
    have hlt := World.block_lt_of_cell? w _ hc
    have e : (a.add j).block = a.block := by unfold Addr.add; split <;> rfl
    have hb := hv a _ _ (by rw [ha])
    rw [← hc]
    exact World.cell?_of_block (hg.block _ hlt (by rw [e]; intro q; cases q; omega))
  exact ⟨k hn.1 h.1, k hn.2.1 h.2.1, k hn.2.2.1 h.2.2.1, k hn.2.2.2 h.2.2.2⟩

theorem below_grown {w w1 w' : World} {C R : Nat} (h : Below C w w1) (hg : w1.grownBy w' (some R)) (hR : C ≤ R) (hC : C ≤ w1.heap.size) : Below C w w' :=
  ⟨hg.os.trans h.os, hg.tape.trans h.tape, hg.output.trans h.output, Nat.le_trans h.size hg.size, fun k hk => (hg.block k (by omega) (by intro q; cases q; omega)).trans (h.block k hk)⟩

set_option maxRecDepth 100000 in
set_option maxHeartbeats 4000000 in
theorem Play_any (span clients : Int) (v : Value) (ds : List Dd) (w : World) (hv : RdG ddE w v ds) :
    Calls Try.prog 30 #[.int .i64 span, .int .i64 clients, v] w fun e w' => ∃ vc vt vw vr, e = .returned (.tuple #[ctV (playC span clients ds) vc vt vw vr, flt (playR span clients ds)]) ∧ CtRd w' (playC span clients ds) vc vt vw vr ∧ NewC w.heap.size vc vt vw vr ∧ Below w.heap.size w w' := by
  have HP := hide (playedP_any span clients v ds _ (hv.below (below_alloc2 w (.cells #[.int .i64 0, .int .i64 0, .int .i64 0, .int .i64 0, .slice none 0 0, .slice none 0 0, .slice none 0 0, .slice none 0 0] 64) (.cells #[.int .i64 0, .int .i64 0] 26))))
  obtain ⟨ao, cap, rfl, hc1, hc2⟩ := hv.shape
  clear hv
  go_enter Try.func30, Try.ntmps30
  go_wp2_with fail
  refine HP.out.mono ?_
  rintro e w1 ⟨vc, vt, vw, vr, rfl, hrd, hnew, hb1⟩
  have hbw1 := (below_alloc2 w (.cells #[.int .i64 0, .int .i64 0, .int .i64 0, .int .i64 0, .slice none 0 0, .slice none 0 0, .slice none 0 0, .slice none 0 0] 64) (.cells #[.int .i64 0, .int .i64 0] 26)).trans (hb1.mono (by simp; omega))
  have hR := (Blk.at0of2 w (.cells #[.int .i64 0, .int .i64 0] 26) 64 #[.int .i64 0, .int .i64 0, .int .i64 0, .int .i64 0, .slice none 0 0, .slice none 0 0, .slice none 0 0, .slice none 0 0]).later hb1
  have hF := (Blk.at1 w (.cells #[.int .i64 0, .int .i64 0, .int .i64 0, .int .i64 0, .slice none 0 0, .slice none 0 0, .slice none 0 0, .slice none 0 0] 64) 26 #[.int .i64 0, .int .i64 0]).later hb1
  rw [show ((w.alloc (.cells #[.int .i64 0, .int .i64 0, .int .i64 0, .int .i64 0, .slice none 0 0, .slice none 0 0, .slice none 0 0, .slice none 0 0] 64)).alloc (.cells #[.int .i64 0, .int .i64 0] 26)).heap.size = w.heap.size + 1 + 1 by simp] at hnew
  generalize hPC : playC span clients ds = C at *
  generalize hPR : playR span clients ds = F at *
  obtain ⟨x, y⟩ := F
  obtain ⟨co, cc9, rfl, _, _⟩ := hrd.1.shape
  obtain ⟨to_, tc9, rfl, _, _⟩ := hrd.2.1.shape
  obtain ⟨wo, wc9, rfl, _, _⟩ := hrd.2.2.1.shape
  obtain ⟨ro, rc9, rfl, _, _⟩ := hrd.2.2.2.shape
  have HRD := hide hrd
  have HNEW := hide hnew
  have HR := hide hR
  have HF := hide hF
  have HBW := hide hbw1
  have HSZ := hide hbw1.size
  have hne : some (w.heap.size + 1) ≠ some w.heap.size := by simp
  clear hb1 hR hF hrd hnew hbw1 HP
  unfold flt ctV
  go_wp2_with (first
    | (refine wpList_store_blk rfl rfl rfl rfl HR.out rfl Try.sizeCourt rfl ?_
       intro w2 hR2 hg2
       have HR2 := hide hR2
       have HG2 := hide hg2
       have HF2 := hide (HF.out.grown hg2 hne)
       clear hR2 hg2)
    | (refine wpList_store_blk rfl rfl rfl rfl HF2.out rfl Try.sizeFault rfl ?_
       intro w3 hF3 hg3
       have HF3 := hide hF3
       have HG3 := hide hg3
       have HR3 := hide (HR2.out.grown hg3 hne.symm)
       clear hF3 hg3))
  refine bodyPost_ret (v := .tuple #[.agg #[.int .i64 C.now, .int .i64 C.lease.hold, .int .i64 C.lease.ep, .int .i64 C.lease.til, .slice co C.clocks.length cc9, .slice to_ C.trusts.length tc9, .slice wo C.wishes.length wc9, .slice ro C.replies.length rc9], .agg #[.int .i64 x, .int .i64 y]]) (results2_cells Try.results30 rfl rfl (run_loadVar_blk HR3.out Try.underlying64 rfl Try.sizeCourt) (run_loadVar_blk HF3.out Try.underlying26 rfl Try.sizeFault)) rfl ?_
  rw [hPC, hPR]
  refine ⟨_, _, _, _, rfl, (HRD.out.grown HNEW.out HG2.out (by omega)).grown HNEW.out HG3.out (by omega), ⟨HNEW.out.1.mono (by omega), HNEW.out.2.1.mono (by omega), HNEW.out.2.2.1.mono (by omega), HNEW.out.2.2.2.mono (by omega)⟩, ?_⟩
  exact below_grown (below_grown HBW.out HG2.out (by omega) HSZ.out) HG3.out (by omega) (Nat.le_trans HSZ.out HG2.out.size)

end Go.Proofs.Ytfmoniabpinceaf
