/-
  The walk over lease.Fair.
-/
import Derived.Test.YtfmoniabpinceafLeaseF4
import Derived.Test.YtfmoniabpinceafLeaseF2
import Derived.Test.YtfmoniabpinceafLeaseC12b
import Derived.Test.YtfmoniabpinceafLeaseMath6
import Derived.Test.YtfmoniabpinceafLeaseP2
namespace Go.Proofs.Ytfmoniabpinceaf
open Go.RowKit
set_option linter.unusedVariables false

/-- A place where a walk is to stop. -/
def Stop (p : Prop) : Prop := p ∧ True

theorem stopHere {p : Prop} (h : Stop p) : p := h.1

theorem goOnHere {p : Prop} (h : p) : Stop p := ⟨h, trivial⟩

/-- What Fair tells. -/
def fairR (span clients : Int) (ds : List Dd) : Bool := if (playR span clients ds).1 = 0 then fairB (momO span clients.toNat ds ds.length) span else false

theorem momOk_of {span : Int} {n : Nat} {ds : List Dd} (h : (badAt span (court0 n) ds 0).1 = 0) (hsp : 4 ≤ span ∧ span ≤ 1000000) (hn : n ≤ 8) : MomOk (momO span n ds ds.length) := by
  intro m hm
  unfold momO at hm
  obtain ⟨i, hi, rfl⟩ := List.mem_map.1 hm
  have hw := wf_of h hsp hn i (by have := List.mem_range.1 hi; omega)
  exact ⟨hw.now, hw.clk⟩

/-- played, as Fair calls it, whatever comes. -/
theorem playedF_any (span clients : Int) (v : Value) (ds : List Dd) (M : Nat) (w0 w : World) (hv : RdG ddE w0 v ds) (hb0 : Below w0.heap.size w0 w) (hM0 : w0.heap.size ≤ M) (hMb : Blk w M 96 #[.slice none 0 0]) :
    Calls Try.prog 49 #[.int .i64 span, .int .i64 clients, v, .func (.func 51) #[] #[.pointer (some ⟨M, 0, none⟩)]] w fun e w' => ∃ ao1 n1 c1 ao2 n2 c2 ao3 n3 c3 ao4 n4 c4, e = .returned (.tuple #[ctV (playC span clients ds) (.slice ao1 n1 c1) (.slice ao2 n2 c2) (.slice ao3 n3 c3) (.slice ao4 n4 c4), flt (playR span clients ds)]) ∧ LowM w.heap.size M w w' ∧ ((playR span clients ds).1 = 0 → ∃ ao n cap, Blk w' M 96 #[.slice ao n cap] ∧ RdM w' (.slice ao n cap) (momO span clients.toNat ds ds.length)) := by
  by_cases hp : (playF span clients ds.length).1 = 0
  · have h := (playF_ok hp).2.2.1
    obtain ⟨n, rfl⟩ : ∃ n : Nat, clients = n := ⟨clients.toNat, by omega⟩
    refine (playedF_ok span n v ds M w0 w hv hb0 hM0 hMb hp).mono ?_
    rintro e w' ⟨vc, vt, vw, vr, rfl, hlow, hsl, hmo⟩
    obtain ⟨⟨a1, n1, c1, rfl⟩, ⟨a2, n2, c2, rfl⟩, ⟨a3, n3, c3, rfl⟩, ⟨a4, n4, c4, rfl⟩⟩ := hsl
    refine ⟨_, _, _, _, _, _, _, _, _, _, _, _, rfl, hlow, fun h => ?_⟩
    obtain ⟨vm, ps, base, hm⟩ := hmo h
    obtain ⟨ao, cap, rfl, _, _⟩ := hm.rdM.shape
    rw [Int.toNat_natCast]
    exact ⟨_, _, _, hm.blk, hm.rdM⟩
  · have e2 : playR span clients ds = playF span clients ds.length := by unfold playR; rw [if_pos hp]
    have e1 : playC span clients ds = noCt := by unfold playC; rw [e2, if_neg hp]
    refine (played_bad span clients v ds _ ⟨_, _, _, rfl⟩ w (hv.below hb0) hp).mono ?_
    rintro e w1 ⟨rfl, hb⟩
    exact ⟨_, _, _, _, _, _, _, _, _, _, _, _, by rw [e1, e2], LowM.ofBelow hb, fun h => absurd (by rw [← e2]; exact h) hp⟩

set_option maxRecDepth 100000 in
set_option maxHeartbeats 4000000 in
theorem Fair_any (span clients : Int) (v : Value) (ds : List Dd) (w : World) (hv : RdG ddE w v ds) :
    Calls Try.prog 31 #[.int .i64 span, .int .i64 clients, v] w fun e w' => e = .returned (.tuple #[.bool (fairR span clients ds), flt (playR span clients ds)]) ∧ Below w.heap.size w w' := by
  have hb0 := below_alloc2 w (.cells #[.int .i64 0, .int .i64 0] 26) (.cells #[.slice none 0 0] 96)
  have hMb := Blk.at1 w (.cells #[.int .i64 0, .int .i64 0] 26) 96 #[.slice none 0 0]
  have HP := hide (playedF_any span clients v ds (w.heap.size + 1) w _ hv hb0 (by omega) hMb)
  have HR0 := hide (Blk.at0of2 w (.cells #[.slice none 0 0] 96) 26 #[.int .i64 0, .int .i64 0])
  have HB0 := hide hb0
  obtain ⟨ao, cap, rfl, hc1, hc2⟩ := hv.shape
  have HFR : Hid (fairR span clients ds = if (playR span clients ds).1 = 0 then fairB (momO span clients.toNat ds ds.length) span else false) := hide rfl
  have HOK := hide (fun h => play_ok (span := span) (clients := clients) (ds := ds) h)
  clear hv hb0 hMb
  go_enter Try.func31, Try.ntmps31
  go_wp2_with fail
  refine HP.out.mono ?_
  rintro e w1 ⟨a1, n1, c1, a2, n2, c2, a3, n3, c3, a4, n4, c4, rfl, hlow, hmo⟩
  have hsz2 : ((w.alloc (.cells #[.int .i64 0, .int .i64 0] 26)).alloc (.cells #[.slice none 0 0] 96)).heap.size = w.heap.size + 1 + 1 := by simp
  rw [hsz2] at hlow
  have hR1 := HR0.out.lowM hlow (by omega) (by omega)
  have hbw1 : Below w.heap.size w w1 := HB0.out.trans (hlow.below (by omega) (by omega))
  have hs1 : w.heap.size + 1 + 1 ≤ w1.heap.size := by have := hlow.size; rw [hsz2] at this; exact this
  have HC := hide (Blk.at0of2 w1 (.cells #[.int .i64 0, .int .i64 0] 26) 64 #[.int .i64 0, .int .i64 0, .int .i64 0, .int .i64 0, .slice none 0 0, .slice none 0 0, .slice none 0 0, .slice none 0 0])
  have HF := hide (Blk.at1 w1 (.cells #[.int .i64 0, .int .i64 0, .int .i64 0, .int .i64 0, .slice none 0 0, .slice none 0 0, .slice none 0 0, .slice none 0 0] 64) 26 #[.int .i64 0, .int .i64 0])
  have HA := hide (below_alloc2 w1 (.cells #[.int .i64 0, .int .i64 0, .int .i64 0, .int .i64 0, .slice none 0 0, .slice none 0 0, .slice none 0 0, .slice none 0 0] 64) (.cells #[.int .i64 0, .int .i64 0] 26))
  have HR1 := hide hR1
  have HBW := hide hbw1
  have HMO := hide hmo
  have HS := hide hs1
  generalize hPC : playC span clients ds = C at *
  generalize hPR : playR span clients ds = F at *
  obtain ⟨x, y⟩ := F
  have hne : some (w1.heap.size + 1) ≠ some w1.heap.size := by simp
  have HPR := hide hPR
  clear hR1 hbw1 hlow hmo hsz2 HP hPR hs1
  unfold flt ctV
  go_wp2_with (first
    | (refine wpList_store_blk rfl rfl rfl rfl HC.out rfl Try.sizeCourt rfl ?_
       intro w2 hC2 hg2
       have HG2 := hide hg2
       have HF2 := hide (HF.out.grown hg2 hne)
       clear hC2 hg2)
    | (refine wpList_store_blk rfl rfl rfl rfl HF2.out rfl Try.sizeFault rfl ?_
       intro w3 hF3 hg3
       have HF3 := hide hF3
       have HG3 := hide hg3
       have fc0 := hF3.cell 0
       have fc1 := hF3.cell 1
       have fl := hF3.lt
       simp at fc0 fc1
       clear hF3 hg3
       refine stopHere ?_))
  have hbA : Below w1.heap.size w1 w3 := below_grown (below_grown HA.out HG2.out (by omega) HA.out.size) HG3.out (by omega) (Nat.le_trans HA.out.size HG2.out.size)
  have hR3 := HR1.out.later hbA
  have rc0 := hR3.cell 0
  have rc1 := hR3.cell 1
  have rz0 := hR3.frozen 0
  have rz1 := hR3.frozen 1
  have rl := hR3.lt
  simp at rc0 rc1
  have HR3 := hide hR3
  have HB3 := hide (HBW.out.trans (hbA.mono HBW.out.size))
  have HBA := hide hbA
  have hsz := HB3.out.size
  clear hR3 hbA
  refine goOnHere ?_
  by_cases hx : x = 0
  · subst hx
    obtain ⟨n, hn, hn1, hn8, hsp, hlen, hbad, htk⟩ := HOK.out rfl
    have hy : y = 0 := by
      have := (htk ds.length (Nat.le_refl _)).1
      rw [List.take_length, HPR.out] at this
      simpa using this
    subst hy
    obtain ⟨vo, vn, vcap, hMB, hRdM⟩ := HMO.out rfl
    subst hn
    rw [Int.toNat_natCast] at hRdM HFR
    have hM3 := hMB.later HBA.out
    have m0 := hM3.cell 0
    have ml := hM3.lt
    simp at m0
    have HAF := hide (areFair_any _ _ span w3 (hRdM.below HBA.out) (momO_mono (ok_of hbad)) (momOk_of hbad hsp hn8) hsp (by rw [momO_length]; omega))
    have HE := hide (HFR.out.trans (if_pos rfl))
    clear hM3 hMB hRdM htk hbad hsp
    go_wp2_with fail
    refine HAF.out.mono ?_
    rintro e w4 ⟨rfl, hb4⟩
    have hR4 := HR3.out.later hb4
    have HB4 := hide (HB3.out.trans (hb4.mono hsz))
    have HR4 := hide hR4
    have HS4 := hide hb4.size
    clear rc0 rc1 rz0 rz1 rl hR4 fc0 fc1 fl hb4 m0 ml
    go_wp2_with (refine wpList_store_blk rfl rfl rfl rfl HR4.out rfl Try.sizeFault rfl ?_; intro w5 hR5 hg5; have HR5 := hide hR5; have HG5 := hide hg5; clear hR5 hg5)
    refine bodyPost_ret (v := .tuple #[.bool (fairB (momO span n ds ds.length) span), .agg #[.int .i64 0, .int .i64 0]]) (results2_tc Try.results31 rfl rfl (run_loadVar_blk HR5.out Try.underlying26 rfl Try.sizeFault)) rfl ?_
    rw [HPR.out, HE.out]
    exact ⟨rfl, below_grown HB4.out HG5.out (by omega) (Nat.le_trans hsz HS4.out)⟩
  · have hq : (x == 0) = false := beq_eq_false_iff_ne.2 hx
    have hq2 : (x != 0) = true := by simp [hx]
    have HE := hide (HFR.out.trans (if_neg hx))
    clear hx
    go_wp2_with fail
    go_region
    all_goals
      go_wp2_with fail
      refine bodyPost_ret (v := .tuple #[.bool false, .agg #[.int .i64 x, .int .i64 y]]) (by simp [results, Try.results31, go_sem, rc0, rc1]) rfl ?_
      rw [HPR.out, HE.out]
      exact ⟨rfl, HB3.out.trans (by go_grown)⟩

end Go.Proofs.Ytfmoniabpinceaf
