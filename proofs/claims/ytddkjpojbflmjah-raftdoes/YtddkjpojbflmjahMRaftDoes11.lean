/-
  Texts joined: RaftR11, LawRDoes, Frame, FrameG, FrameE, FrameNd.
-/
import Derived.Test.YtddkjpojbflmjahMRaftDoes10
import Derived.ProofKit
import Derived.OpenShut
import Derived.ShutString
import Derived.ChangeOld
import Derived.Below
import Derived.SliceStrings
import Derived.SizedLaws
import Derived.Deep.Slices
import Derived.Lib.SmallJoins
/-
  The walk over the document's StandNode. (Written by rr11.py.)
-/
namespace Go.Proofs.Ytddkjpojbflmjah
open Go.RowKit Go.Maps
set_option linter.unusedVariables false

theorem RdG.setL2 {α : Type} {K : Nat} {E : En α K} {w : World} {base R Q : Nat} {v : Value} {xs : List α} {vs us : List Value} (h : RdG E w v xs) (hn : New base v) (hR : R < base) (hQ : Q < base) : RdG E (setL (setL w R 0 vs) Q 0 us).drew v xs :=
  ((h.offB hn (setL_grown R vs w 0) hR).offB hn (setL_grown Q us _ 0) hQ).drew

theorem OwM.setL2 {w : World} {base R Q : Nat} {v : Value} {ms : List Ml} {vs us : List Value} (h : OwM w base v ms) (hR : R < base) (hQ : Q < base) : RdM (setL (setL w R 0 vs) Q 0 us).drew v ms :=
  (((h.offB (setL_grown R vs w 0) hR).offB (setL_grown Q us _ 0) hQ)).rd.below (Below.drew (Below.refl _ _))

set_option maxRecDepth 100000 in
set_option maxHeartbeats 8000000 in
theorem StandNode_any (x : Nd) (lv vv nv hv : Value) (w : World) (hx : RdNd w x lv vv nv hv) :
    Calls Try.prog 22 #[ndV x lv vv nv hv] w fun e w' => ∃ lv' vv' nv' hv' mv, e = .returned (.tuple #[ndV (stdN x) lv' vv' nv' hv', mv, flt (stdF x)]) ∧ RdNd w' (stdN x) lv' vv' nv' hv' ∧ RdM w' mv (stdM x) ∧ Below w.heap.size w w' := by
  have hwf : True := trivial
  have HOK := hide (@stdF_ok x)
  have hPR : stdF x = if (chkN x).1 ≠ 0 then chkN x else if x.role = 2 then (11, 0) else if x.term = 1000000000 then (9, 0) else (0, 0) := rfl
  have HPR := hide hPR
  have HTB := hide (fun h => (chkN_fine (x := x) h).t1)
  clear hPR
  have HX := hide hx
  have HZ := hide (chkN_z x)
  obtain ⟨n, id, te, vo, lo, ro, co, vs, ns, hs⟩ := x
  obtain ⟨h1, h2, h3, h4⟩ := hx
  simp only at h1 h2 h3 h4
  obtain ⟨ao, cap, rfl, hc1, hc2⟩ := h1.shape
  obtain ⟨bo, cap2, rfl, hd1, hd2⟩ := h2.shape
  obtain ⟨no, cap3, rfl, _, _⟩ := h3.shape
  obtain ⟨ho, cap4, rfl, _, _⟩ := h4.shape
  have hN3 := three_atR w #[.int .i64 n, .int .i64 id, .int .i64 te, .int .i64 vo, .slice ao lo.length cap, .int .i64 ro, .int .i64 co, .slice bo vs.length cap2, .slice no ns.length cap3, .slice ho hs.length cap4] #[.int .i64 0, .int .i64 0, .int .i64 0, .int .i64 0, .slice none 0 0, .int .i64 0, .int .i64 0, .slice none 0 0, .slice none 0 0, .slice none 0 0] #[.int .i64 0, .int .i64 0] 34 34 26
  obtain ⟨hP, hR, hQ, hA, hS⟩ := hN3
  have HC1 := hide (NodeFault_w ⟨n, id, te, vo, lo, ro, co, vs, ns, hs⟩ _ _ _ _ _ (HX.out.below hA) hwf)
  generalize hK : chkN ⟨n, id, te, vo, lo, ro, co, vs, ns, hs⟩ = F at *
  have HFK := hide hK
  obtain ⟨p, q⟩ := F
  unfold ndV ndA at HC1
  unfold ndV ndA
  have HP := hide hP
  have HR := hide hR
  have HQ := hide hQ
  have HA := hide hA
  have HS := hide hS
  clear h1 h2 h3 h4 hP hR hQ hA hS hK
  go_enter Try.func22, Try.ntmps22
  go_wp2_with (refine wpList_load_blk HP.out Try.underlying34 rfl Try.sizeNode rfl rfl rfl ?_)
  refine HC1.out.mono ?_
  rintro e w1 ⟨rfl, hb1⟩
  have hN := below_allocG w1 (.cells #[.int .i64 p, .int .i64 q] 26)
  have HP1 := hide ((HP.out.later hb1).later hN)
  have HR1 := hide ((HR.out.later hb1).later hN)
  have HQ1 := hide ((HQ.out.later hb1).later hN)
  have hAA := HA.out.trans (hb1.mono HA.out.size)
  have HA1 := hide (hAA.trans (hN.mono hAA.size))
  have HS1 := hide (show w.heap.size + 3 ≤ w1.heap.size by have := hb1.size; have := HS.out; omega)
  have hW1 := (Blk.new w1 26 #[.int .i64 p, .int .i64 q])
  have f0 := hW1.cell 0
  have f1 := hW1.cell 1
  simp at f0 f1
  clear hb1 hN hAA hW1 HC1 HP HR HQ HA HS
  unfold flt
  try simp only at HPR
  try simp only at HTB
  have HW1 := hide (Blk.new w1 26 #[.int .i64 p, .int .i64 q])
  have hw1S := HS1.out
  have hrq : w.heap.size + 1 ≠ w.heap.size + 1 + 1 := by omega
  have hqr : w.heap.size + 1 + 1 ≠ w.heap.size + 1 := by omega
  have hfr : w1.heap.size ≠ w.heap.size + 1 := by omega
  have hfq : w1.heap.size ≠ w.heap.size + 1 + 1 := by omega
  have g5 := HP1.out.cell 5
  have g2 := HP1.out.cell 2
  have gl := HP1.out.lt
  simp at g5 g2
  by_cases hp : p ≠ 0
  · have hq : (p == 0) = false := beq_eq_false_iff_ne.2 hp
    have hq2 : (p != 0) = true := by simp [hp]
    have HPF := hide (show stdF ⟨n, id, te, vo, lo, ro, co, vs, ns, hs⟩ = (p, q) by rw [HPR.out, if_pos hp])
    have HE := hide (show stdN ⟨n, id, te, vo, lo, ro, co, vs, ns, hs⟩ = noNd from if_neg (by rw [HPF.out]; exact hp))
    have HM := hide (show stdM ⟨n, id, te, vo, lo, ro, co, vs, ns, hs⟩ = [] from if_neg (by rw [HPF.out]; exact hp))
    clear hp
    go_upto_region 7 with fail
    have ra0 := HR1.out.cell 0
    have raz0 := HR1.out.frozen 0
    have ra1 := HR1.out.cell 1
    have raz1 := HR1.out.frozen 1
    have ra2 := HR1.out.cell 2
    have raz2 := HR1.out.frozen 2
    have ra3 := HR1.out.cell 3
    have raz3 := HR1.out.frozen 3
    have ra4 := HR1.out.cell 4
    have raz4 := HR1.out.frozen 4
    have ra5 := HR1.out.cell 5
    have raz5 := HR1.out.frozen 5
    have ra6 := HR1.out.cell 6
    have raz6 := HR1.out.frozen 6
    have ra7 := HR1.out.cell 7
    have raz7 := HR1.out.frozen 7
    have ra8 := HR1.out.cell 8
    have raz8 := HR1.out.frozen 8
    have ra9 := HR1.out.cell 9
    have raz9 := HR1.out.frozen 9
    have ral := HR1.out.lt
    simp at ra0 ra1 ra2 ra3 ra4 ra5 ra6 ra7 ra8 ra9
    have qa0 := HQ1.out.cell 0
    have qaz0 := HQ1.out.frozen 0
    have qa1 := HQ1.out.cell 1
    have qaz1 := HQ1.out.frozen 1
    have qal := HQ1.out.lt
    simp at qa0 qa1
    go_region
    all_goals
      obtain ⟨hR9, hQ9, hA9, _, _⟩ := setL_two (w := w) (C := w.heap.size) [.int .i64 0, .int .i64 0, .int .i64 0, .int .i64 0, .slice none 0 0, .int .i64 0, .int .i64 0, .slice none 0 0, .slice none 0 0, .slice none 0 0] [.int .i64 p, .int .i64 q] HR1.out HQ1.out hrq rfl rfl HA1.out (by omega) (by omega)
      have HR9 := hide hR9
      have HQ9 := hide hQ9
      have HA9 := hide hA9
      simp only [setL] at HR9 HQ9 HA9
      clear hR9 hQ9 hA9 ra0 raz0 ra1 raz1 ra2 raz2 ra3 raz3 ra4 raz4 ra5 raz5 ra6 raz6 ra7 raz7 ra8 raz8 ra9 raz9 ral qa0 qaz0 qa1 qaz1 qal f0 f1
      generalize (((((((((((((w1.alloc (.cells #[.int .i64 p, .int .i64 q] 26)).setCell ⟨w.heap.size + 1, 0, none⟩ (.int .i64 0)).setCell ⟨w.heap.size + 1, 1, none⟩ (.int .i64 0)).setCell ⟨w.heap.size + 1, 2, none⟩ (.int .i64 0)).setCell ⟨w.heap.size + 1, 3, none⟩ (.int .i64 0)).setCell ⟨w.heap.size + 1, 4, none⟩ (.slice none 0 0)).setCell ⟨w.heap.size + 1, 5, none⟩ (.int .i64 0)).setCell ⟨w.heap.size + 1, 6, none⟩ (.int .i64 0)).setCell ⟨w.heap.size + 1, 7, none⟩ (.slice none 0 0)).setCell ⟨w.heap.size + 1, 8, none⟩ (.slice none 0 0)).setCell ⟨w.heap.size + 1, 9, none⟩ (.slice none 0 0)).setCell ⟨w.heap.size + 1 + 1, 0, none⟩ (.int .i64 p)).setCell ⟨w.heap.size + 1 + 1, 1, none⟩ (.int .i64 q)).drew = wz at HR9 HQ9 HA9 ⊢
      go_wp2_with fail
      refine bodyPost_ret (results3_ctc Try.results22 rfl rfl rfl (run_loadVar_blk HR9.out Try.underlying34 rfl Try.sizeNode) (run_loadVar_blk HQ9.out Try.underlying26 rfl Try.sizeFaultR)) rfl ?_
      rw [HE.out, HM.out, HPF.out]
      exact ⟨_, _, _, _, _, rfl, RdNd.no _, (OwM.nil _ 0).rd, HA9.out⟩
  obtain rfl : p = 0 := Decidable.not_not.1 hp
  obtain rfl : q = 0 := by have := HZ.out rfl; simpa using this
  have HLE := hide (HPR.out.trans (if_neg hp))
  have HTE := hide (HTB.out rfl)
  clear hp
  by_cases hc : ro = 2
  · have e1 : (ro == 2) = true := by simp [hc]
    have HPF := hide (show stdF ⟨n, id, te, vo, lo, ro, co, vs, ns, hs⟩ = (11, 0) by rw [HLE.out, if_pos hc])
    have HE := hide (show stdN ⟨n, id, te, vo, lo, ro, co, vs, ns, hs⟩ = noNd from if_neg (by rw [HPF.out]; simp))
    have HM := hide (show stdM ⟨n, id, te, vo, lo, ro, co, vs, ns, hs⟩ = [] from if_neg (by rw [HPF.out]; simp))
    clear hc
    go_upto_region 7 with (first
      | (go_at_call 32; refine (lF_any _ _ _).mono ?_; rintro e w3 ⟨rfl, hb3⟩; have HR3 := hide (HR1.out.later hb3); have HQ3 := hide (HQ1.out.later hb3); have HW3 := hide (HW1.out.later hb3); have HA3 := hide (HA1.out.trans (hb3.mono HA1.out.size)); have hz3 := hb3.size; clear hb3; unfold flt)
      | (refine wpList_store_blk rfl rfl rfl rfl HW3.out rfl Try.sizeFaultR rfl ?_; intro w4 hW4 hg4; have HW4 := hide hW4; have HR4 := hide (HR3.out.grown hg4 (by simp; omega)); have HQ4 := hide (HQ3.out.grown hg4 (by simp; omega)); have HA4 := hide (below_grownO HA3.out hg4 (fun k hk => by cases hk; omega) HA3.out.size); have m0 := hW4.cell 0; have m1 := hW4.cell 1; have ml := hW4.lt; simp at m0 m1; clear hW4 hg4))
    clear f0 f1
    have ra0 := HR4.out.cell 0
    have raz0 := HR4.out.frozen 0
    have ra1 := HR4.out.cell 1
    have raz1 := HR4.out.frozen 1
    have ra2 := HR4.out.cell 2
    have raz2 := HR4.out.frozen 2
    have ra3 := HR4.out.cell 3
    have raz3 := HR4.out.frozen 3
    have ra4 := HR4.out.cell 4
    have raz4 := HR4.out.frozen 4
    have ra5 := HR4.out.cell 5
    have raz5 := HR4.out.frozen 5
    have ra6 := HR4.out.cell 6
    have raz6 := HR4.out.frozen 6
    have ra7 := HR4.out.cell 7
    have raz7 := HR4.out.frozen 7
    have ra8 := HR4.out.cell 8
    have raz8 := HR4.out.frozen 8
    have ra9 := HR4.out.cell 9
    have raz9 := HR4.out.frozen 9
    have ral := HR4.out.lt
    simp at ra0 ra1 ra2 ra3 ra4 ra5 ra6 ra7 ra8 ra9
    have qa0 := HQ4.out.cell 0
    have qaz0 := HQ4.out.frozen 0
    have qa1 := HQ4.out.cell 1
    have qaz1 := HQ4.out.frozen 1
    have qal := HQ4.out.lt
    simp at qa0 qa1
    go_region
    all_goals
      obtain ⟨hR9, hQ9, hA9, _, _⟩ := setL_two (w := w) (C := w.heap.size) [.int .i64 0, .int .i64 0, .int .i64 0, .int .i64 0, .slice none 0 0, .int .i64 0, .int .i64 0, .slice none 0 0, .slice none 0 0, .slice none 0 0] [.int .i64 11, .int .i64 0] HR4.out HQ4.out hrq rfl rfl HA4.out (by omega) (by omega)
      have HR9 := hide hR9
      have HQ9 := hide hQ9
      have HA9 := hide hA9
      simp only [setL] at HR9 HQ9 HA9
      clear hR9 hQ9 hA9 ra0 raz0 ra1 raz1 ra2 raz2 ra3 raz3 ra4 raz4 ra5 raz5 ra6 raz6 ra7 raz7 ra8 raz8 ra9 raz9 ral qa0 qaz0 qa1 qaz1 qal m0 m1
      generalize ((((((((((((w4.setCell ⟨w.heap.size + 1, 0, none⟩ (.int .i64 0)).setCell ⟨w.heap.size + 1, 1, none⟩ (.int .i64 0)).setCell ⟨w.heap.size + 1, 2, none⟩ (.int .i64 0)).setCell ⟨w.heap.size + 1, 3, none⟩ (.int .i64 0)).setCell ⟨w.heap.size + 1, 4, none⟩ (.slice none 0 0)).setCell ⟨w.heap.size + 1, 5, none⟩ (.int .i64 0)).setCell ⟨w.heap.size + 1, 6, none⟩ (.int .i64 0)).setCell ⟨w.heap.size + 1, 7, none⟩ (.slice none 0 0)).setCell ⟨w.heap.size + 1, 8, none⟩ (.slice none 0 0)).setCell ⟨w.heap.size + 1, 9, none⟩ (.slice none 0 0)).setCell ⟨w.heap.size + 1 + 1, 0, none⟩ (.int .i64 11)).setCell ⟨w.heap.size + 1 + 1, 1, none⟩ (.int .i64 0)).drew = wz at HR9 HQ9 HA9 ⊢
      go_wp2_with fail
      refine bodyPost_ret (results3_ctc Try.results22 rfl rfl rfl (run_loadVar_blk HR9.out Try.underlying34 rfl Try.sizeNode) (run_loadVar_blk HQ9.out Try.underlying26 rfl Try.sizeFaultR)) rfl ?_
      rw [HE.out, HM.out, HPF.out]
      exact ⟨_, _, _, _, _, rfl, RdNd.no _, (OwM.nil _ 0).rd, HA9.out⟩
  have e1 : (ro == 2) = false := by simp [hc]
  have hn11 := hc
  clear hc
  by_cases hc : te = 1000000000
  · have e2 : decide (1000000000 ≤ te) = true := decide_eq_true (by omega)
    have HPF := hide (show stdF ⟨n, id, te, vo, lo, ro, co, vs, ns, hs⟩ = (9, 0) by rw [HLE.out, if_neg hn11, if_pos hc])
    have HE := hide (show stdN ⟨n, id, te, vo, lo, ro, co, vs, ns, hs⟩ = noNd from if_neg (by rw [HPF.out]; simp))
    have HM := hide (show stdM ⟨n, id, te, vo, lo, ro, co, vs, ns, hs⟩ = [] from if_neg (by rw [HPF.out]; simp))
    clear hc
    go_upto_region 7 with (first
      | (go_at_call 32; refine (lF_any _ _ _).mono ?_; rintro e w3 ⟨rfl, hb3⟩; have HR3 := hide (HR1.out.later hb3); have HQ3 := hide (HQ1.out.later hb3); have HW3 := hide (HW1.out.later hb3); have HA3 := hide (HA1.out.trans (hb3.mono HA1.out.size)); have hz3 := hb3.size; clear hb3; unfold flt)
      | (refine wpList_store_blk rfl rfl rfl rfl HW3.out rfl Try.sizeFaultR rfl ?_; intro w4 hW4 hg4; have HW4 := hide hW4; have HR4 := hide (HR3.out.grown hg4 (by simp; omega)); have HQ4 := hide (HQ3.out.grown hg4 (by simp; omega)); have HA4 := hide (below_grownO HA3.out hg4 (fun k hk => by cases hk; omega) HA3.out.size); have m0 := hW4.cell 0; have m1 := hW4.cell 1; have ml := hW4.lt; simp at m0 m1; clear hW4 hg4))
    clear f0 f1
    have ra0 := HR4.out.cell 0
    have raz0 := HR4.out.frozen 0
    have ra1 := HR4.out.cell 1
    have raz1 := HR4.out.frozen 1
    have ra2 := HR4.out.cell 2
    have raz2 := HR4.out.frozen 2
    have ra3 := HR4.out.cell 3
    have raz3 := HR4.out.frozen 3
    have ra4 := HR4.out.cell 4
    have raz4 := HR4.out.frozen 4
    have ra5 := HR4.out.cell 5
    have raz5 := HR4.out.frozen 5
    have ra6 := HR4.out.cell 6
    have raz6 := HR4.out.frozen 6
    have ra7 := HR4.out.cell 7
    have raz7 := HR4.out.frozen 7
    have ra8 := HR4.out.cell 8
    have raz8 := HR4.out.frozen 8
    have ra9 := HR4.out.cell 9
    have raz9 := HR4.out.frozen 9
    have ral := HR4.out.lt
    simp at ra0 ra1 ra2 ra3 ra4 ra5 ra6 ra7 ra8 ra9
    have qa0 := HQ4.out.cell 0
    have qaz0 := HQ4.out.frozen 0
    have qa1 := HQ4.out.cell 1
    have qaz1 := HQ4.out.frozen 1
    have qal := HQ4.out.lt
    simp at qa0 qa1
    go_region
    all_goals
      obtain ⟨hR9, hQ9, hA9, _, _⟩ := setL_two (w := w) (C := w.heap.size) [.int .i64 0, .int .i64 0, .int .i64 0, .int .i64 0, .slice none 0 0, .int .i64 0, .int .i64 0, .slice none 0 0, .slice none 0 0, .slice none 0 0] [.int .i64 9, .int .i64 0] HR4.out HQ4.out hrq rfl rfl HA4.out (by omega) (by omega)
      have HR9 := hide hR9
      have HQ9 := hide hQ9
      have HA9 := hide hA9
      simp only [setL] at HR9 HQ9 HA9
      clear hR9 hQ9 hA9 ra0 raz0 ra1 raz1 ra2 raz2 ra3 raz3 ra4 raz4 ra5 raz5 ra6 raz6 ra7 raz7 ra8 raz8 ra9 raz9 ral qa0 qaz0 qa1 qaz1 qal m0 m1
      generalize ((((((((((((w4.setCell ⟨w.heap.size + 1, 0, none⟩ (.int .i64 0)).setCell ⟨w.heap.size + 1, 1, none⟩ (.int .i64 0)).setCell ⟨w.heap.size + 1, 2, none⟩ (.int .i64 0)).setCell ⟨w.heap.size + 1, 3, none⟩ (.int .i64 0)).setCell ⟨w.heap.size + 1, 4, none⟩ (.slice none 0 0)).setCell ⟨w.heap.size + 1, 5, none⟩ (.int .i64 0)).setCell ⟨w.heap.size + 1, 6, none⟩ (.int .i64 0)).setCell ⟨w.heap.size + 1, 7, none⟩ (.slice none 0 0)).setCell ⟨w.heap.size + 1, 8, none⟩ (.slice none 0 0)).setCell ⟨w.heap.size + 1, 9, none⟩ (.slice none 0 0)).setCell ⟨w.heap.size + 1 + 1, 0, none⟩ (.int .i64 9)).setCell ⟨w.heap.size + 1 + 1, 1, none⟩ (.int .i64 0)).drew = wz at HR9 HQ9 HA9 ⊢
      go_wp2_with fail
      refine bodyPost_ret (results3_ctc Try.results22 rfl rfl rfl (run_loadVar_blk HR9.out Try.underlying34 rfl Try.sizeNode) (run_loadVar_blk HQ9.out Try.underlying26 rfl Try.sizeFaultR)) rfl ?_
      rw [HE.out, HM.out, HPF.out]
      exact ⟨_, _, _, _, _, rfl, RdNd.no _, (OwM.nil _ 0).rd, HA9.out⟩
  have e2 : decide (1000000000 ≤ te) = false := decide_eq_false (by have := HTE.out; omega)
  have hn9 := hc
  clear hc
  have HPF := hide (show stdF ⟨n, id, te, vo, lo, ro, co, vs, ns, hs⟩ = (0, 0) by rw [HLE.out, if_neg hn11, if_neg hn9])
  obtain ⟨hfine, hrole, hte⟩ := HOK.out (by rw [HPF.out])
  have HE := hide (show stdN ⟨n, id, te, vo, lo, ro, co, vs, ns, hs⟩ = Nd.stand ⟨n, id, te, vo, lo, ro, co, vs, ns, hs⟩ from if_pos (by rw [HPF.out]))
  have HM := hide (show stdM ⟨n, id, te, vo, lo, ro, co, vs, ns, hs⟩ = (Nd.stand ⟨n, id, te, vo, lo, ro, co, vs, ns, hs⟩).asks from if_pos (by rw [HPF.out]))
  have HSE := hide (stand_eq (x := ⟨n, id, te, vo, lo, ro, co, vs, ns, hs⟩) hfine.n1)
  have HAS := hide (asks_stand (x := ⟨n, id, te, vo, lo, ro, co, vs, ns, hs⟩) hfine.n1)
  have HFI := hide hfine
  have hln := hfine.loglen
  have hte1 := HTE.out
  have hid0 := hfine.id0
  have hidn := hfine.idn
  have hn1 := hfine.n1
  have hn7 := hfine.n7
  have ht0 := hfine.t0
  try simp only at ht0
  try simp only at hte
  try simp only at hln
  try simp only at hid0
  try simp only at hidn
  try simp only at hn1
  try simp only at hn7
  have HSW := hide (show w.heap.size + 3 ≤ (w1.alloc (.cells #[.int .i64 0, .int .i64 0] 26)).heap.size by simp; omega)
  have HFO := hide (Follower_any ⟨n, id, te, vo, lo, ro, co, vs, ns, hs⟩ _ _ _ _ _ (HX.out.below HA1.out) (by simp only; omega))
  unfold ndV ndA Nd.follow at HFO
  dsimp only at HFO
  have hwt : IntKind.i64.wrap (te + 1) = te + 1 := by rw [IntKind.wrap_i64]; omega
  have hwi : IntKind.i64.wrap (id + 1) = id + 1 := by rw [IntKind.wrap_i64]; omega
  have HNUM := hide (And.intro hid0 (And.intro hidn (And.intro hn1 (And.intro hn7 hln))))
  clear hfine hrole hte hln hid0 hidn hn1 hn7 hte1 hn11 hn9 ht0
  go_upto_region 8 with fail
  generalize hWW : w1.alloc (.cells #[.int .i64 0, .int .i64 0] 26) = W at HP1 HR1 HQ1 HA1 HFO HSW HW1 f0 f1 g2 g5 gl ⊢
  clear hWW f0 f1
  go_wp2_with (refine wpList_load_blk HP1.out Try.underlying34 rfl Try.sizeNode rfl rfl rfl ?_)
  refine HFO.out.mono ?_
  rintro e w2 ⟨lv2, rfl, ho2, hb2⟩
  obtain ⟨lo2, lc2, hs1⟩ := owns_shapeK ho2
  subst hs1
  have hz2 := hb2.size
  have hNB := below_allocG w2 (.cells #[.int .i64 n, .int .i64 id, .int .i64 te, .int .i64 vo, .slice lo2 lo.length lc2, .int .i64 0, .int .i64 co, .slice none 0 0, .slice none 0 0, .slice none 0 0] 34)
  have HB3 := hide (hb2.trans (hNB.mono hb2.size))
  have HBB := hide (Blk.new w2 34 #[.int .i64 n, .int .i64 id, .int .i64 te, .int .i64 vo, .slice lo2 lo.length lc2, .int .i64 0, .int .i64 co, .slice none 0 0, .slice none 0 0, .slice none 0 0])
  have HLG := hide (owns_later ho2 hNB)
  have HSB := hide hz2
  go_upto_region 9 with fail
  generalize hWB : (w2.alloc (.cells #[.int .i64 n, .int .i64 id, .int .i64 te, .int .i64 vo, .slice lo2 lo.length lc2, .int .i64 0, .int .i64 co, .slice none 0 0, .slice none 0 0, .slice none 0 0] 34)) = WB at HBB HB3 HLG ⊢
  have p1 := (HP1.out.later HB3.out).cell 1
  have p2 := (HP1.out.later HB3.out).cell 2
  have pl := (HP1.out.later HB3.out).lt
  simp at p1 p2
  clear hWB hNB hb2 ho2 g2 g5 gl HFO
  go_upto_region 10 with (refine wpList_store_int (k := 2) rfl rfl rfl rfl HBB.out rfl Try.sizeIntR ?_; intro w9 hB9 hg9; have HB9 := hide hB9; have HG9 := hide hg9; clear hB9 hg9)
  have HW9 := hide (below_grownO HB3.out HG9.out (fun k hk => by cases hk; exact HSB.out) HB3.out.size)
  have HL9 := hide (owns_grownO HLG.out HG9.out (.inr (owns_off HLG.out HBB.out (by decide))))
  have p1 := (HP1.out.later HW9.out).cell 1
  have pl := (HP1.out.later HW9.out).lt
  simp at p1
  clear p2  HG9
  go_upto_region 11 with (refine wpList_store_int (k := 3) rfl rfl rfl rfl HB9.out rfl Try.sizeIntR ?_; intro w10 hB10 hg10; have HB10 := hide hB10; have HG10 := hide hg10; clear hB10 hg10)
  have HW10 := hide (below_grownO HW9.out HG10.out (fun k hk => by cases hk; exact HSB.out) HW9.out.size)
  have HL10 := hide (owns_grownO HL9.out HG10.out (.inr (owns_off HL9.out HB9.out (by decide))))
  have p1 := (HP1.out.later HW10.out).cell 1
  have pl := (HP1.out.later HW10.out).lt
  simp at p1
  clear HG10
  go_upto_region 12 with (refine wpList_store_int (k := 5) rfl rfl rfl rfl HB10.out rfl Try.sizeIntR ?_; intro w11 hB11 hg11; have HB11 := hide hB11; have HG11 := hide hg11; clear hB11 hg11)
  have HW11 := hide (below_grownO HW10.out HG11.out (fun k hk => by cases hk; exact HSB.out) HW10.out.size)
  have HL11 := hide (owns_grownO HL10.out HG11.out (.inr (owns_off HL10.out HB10.out (by decide))))
  have p1 := (HP1.out.later HW11.out).cell 1
  have pl := (HP1.out.later HW11.out).lt
  simp at p1
  clear HG11
  have hNV := below_allocG w11 (.cells #[.int .i64 id] 3)
  have HBv := hide (HB11.out.later hNV)
  have HWv := hide (HW11.out.trans (hNV.mono HW11.out.size))
  have HLv := hide (owns_later HL11.out hNV)
  clear hNV
  go_upto_region 13 with (refine wpList_store_slice (k := 7) rfl rfl rfl rfl HBv.out rfl Try.sizeIntsR ?_; intro w12 hB12 hg12; have HB12 := hide hB12; have HG12 := hide hg12; clear hB12 hg12)
  have HW12 := hide (below_grownO HWv.out HG12.out (fun k hk => by cases hk; exact HSB.out) HWv.out.size)
  have HL12 := hide (owns_grownO HLv.out HG12.out (.inr (owns_off HLv.out HBv.out (by decide))))
  have p1 := (HP1.out.later HW12.out).cell 1
  have pl := (HP1.out.later HW12.out).lt
  simp at p1
  have HVT := hide ((RdG.oneI w11 id).offB (base := w11.heap.size) (fun a n k h => by cases h; exact Nat.le_refl _) HG12.out HB11.out.lt)
  have HBS := hide (show Blk w12 w2.heap.size 34 #[.int .i64 n, .int .i64 id, .int .i64 (te + 1), .int .i64 (id + 1), .slice lo2 lo.length lc2, .int .i64 1, .int .i64 co, .slice (some ⟨w11.heap.size, 0, none⟩) 1 1, .slice none 0 0, .slice none 0 0] from HB12.out)
  obtain ⟨N, hN⟩ : ∃ N : Nat, n = N := ⟨n.toNat, by have := HNUM.out.2.2.1; omega⟩
  obtain ⟨X, hX⟩ : ∃ X, X = Nd.stand1 ⟨n, id, te, vo, lo, ro, co, vs, ns, hs⟩ := ⟨_, rfl⟩
  have HXD := hide hX
  have HXI := hide (show X.id = id by rw [hX]; rfl)
  have HAM := hide (show ∀ k : Nat, askM X k = ⟨1, id, k, te + 1, lo.length, lastT lo, 0, [], false⟩ by intro k; rw [hX]; rfl)
  have HNN := hide hN
  have hN7 : N ≤ 7 := by have := HNUM.out.2.2.2.1; omega
  have hln1 : lo.length ≤ 100 := HNUM.out.2.2.2.2
  have HZ11 := hide HW11.out.size
  clear hX hN p1 pl HG12 HB12 HBv HWv HLv HB9 HB10 HB11 HW9 HW10 HW11 HL9 HL10 HL11 HBB HB3 HLG hwt hwi
  go_wp2_with fail
  go_loopw [7, 8] (fun ov iv wr => ∃ k : Nat, k ≤ N ∧ iv = .int .i64 k ∧ OwM wr w12.heap.size ov (othGo X.id (askM X) k) ∧ Below w12.heap.size w12 wr)
    (fun _ iv _ => N - (intOf iv).toNat)
  case atStart => exact ⟨0, by omega, rfl, OwM.nil _ _, Below.refl _ _⟩
  case round =>
    obtain ⟨k, hk, rfl, how, hbr⟩ := hrel
    have HOW := hide how
    have HBR := hide hbr
    have HBr := hide (HBS.out.later hbr)
    have HWr := hide (HW12.out.trans (hbr.mono HW12.out.size))
    have HPr := hide (HP1.out.later HWr.out)
    have HAr := hide (HA1.out.trans (HWr.out.mono HA1.out.size))
    have HLr := hide (HX.out.1.below HAr.out)
    obtain ⟨fs, hrow, hmap, hents⟩ := how
    obtain ⟨oo, oc, hov⟩ := owns_shapeK hrow
    subst hov
    have d0 := HPr.out.cell 0
    have d1 := HPr.out.cell 1
    have d4 := HPr.out.cell 4
    have dl := HPr.out.lt
    have b2 := HBr.out.cell 2
    have bl := HBr.out.lt
    simp at d0 d1 d4 b2
    rw [HNN.out] at d0
    clear hbr
    by_cases hlt : k < N
    · have hd : decide ((k : Int) < (N : Int)) = true := decide_eq_true (by omega)
      by_cases hid : (k : Int) = id
      · have hq : ((k : Int) != id) = false := by simp [hid]
        have HS := hide (othGo_skip (f := askM X) (show (k : Int) = X.id by rw [HXI.out]; exact hid))
        clear hid hrow hmap hents
        go_wp2_with fail
        go_roundw
        case rel => exact ⟨k + 1, by omega, by go_num, by rw [HS.out]; exact HOW.out, HBR.out⟩
        case measure => simp [intOf]; omega
      · have hq : ((k : Int) != id) = true := by simp [hid]
        have HS := hide (othGo_one (f := askM X) (show ¬ (k : Int) = X.id by rw [HXI.out]; exact hid))
        have hfl : fs.length ≤ 100 := by
          have h1 : fs.length = (othGo X.id (askM X) k).length := by rw [← hmap, List.length_map]
          have h2 : ∀ j, (othGo X.id (askM X) j).length ≤ j := by
            intro j
            induction j with
            | zero => simp [othGo]
            | succ j ih => rw [othGo]; split <;> simp <;> omega
          have := h2 k
          omega
        have HLT := hide (fun W (hW : Below wr.heap.size wr W) => LastTerm_any _ lo W (HLr.out.below hW))
        have HDR := hide (show Below wr.heap.size wr wr.drew from Below.drew (Below.refl _ _))
        have HMV := hide (show mfE.v ⟨askM X k, ⟨none, 0, 0⟩⟩ = [.int .i64 1, .int .i64 id, .int .i64 k, .int .i64 (te + 1), .int .i64 lo.length, .int .i64 (lastT lo), .int .i64 0, .slice none 0 0, .bool false] by rw [HAM.out]; rfl)
        have HRA := hide (show (wr.drew.alloc (.cells #[.int .i64 1, .int .i64 id, .int .i64 k, .int .i64 (te + 1), .int .i64 lo.length, .int .i64 (lastT lo), .int .i64 0, .slice none 0 0, .bool false] 50)).ownsRow w12.heap.size 50 9 (.slice oo fs.length oc) fs.length (mfE.vs fs) from (owns_later hrow HDR.out).alloc _)
        have HRO := hide (show RdG mfE (wr.drew.alloc (.cells #[.int .i64 1, .int .i64 id, .int .i64 k, .int .i64 (te + 1), .int .i64 lo.length, .int .i64 (lastT lo), .int .i64 0, .slice none 0 0, .bool false] 50)) (.slice (some ⟨wr.drew.heap.size, 0, none⟩) 1 1) [⟨askM X k, ⟨none, 0, 0⟩⟩] from RdG.newL wr.drew [_] _ _ (by rw [vs_one1, HMV.out]) (by simp))
        have HSZ := hide (show w12.heap.size ≤ (wr.drew.alloc (.cells #[.int .i64 1, .int .i64 id, .int .i64 k, .int .i64 (te + 1), .int .i64 lo.length, .int .i64 (lastT lo), .int .i64 0, .slice none 0 0, .bool false] 50)).heap.size by have := HBR.out.size; have := HDR.out.size; simp at *; omega)
        have HLL := hide (show fs.length + [(⟨askM X k, ⟨none, 0, 0⟩⟩ : Mf)].length ≤ 1000000000 by simp; omega)
        have hbA := HDR.out.trans ((below_allocG wr.drew (.cells #[.int .i64 1, .int .i64 id, .int .i64 k, .int .i64 (te + 1), .int .i64 lo.length, .int .i64 (lastT lo), .int .i64 0, .slice none 0 0, .bool false] 50)).mono HDR.out.size)
        have HBA := hide hbA
        have HKEEP : Hid (∀ W, Below wr.heap.size wr W → W.cell? ⟨w.heap.size, 1, none⟩ = some (.int .i64 id) ∧ W.cell? ⟨w.heap.size, 4, none⟩ = some (.slice ao lo.length cap) ∧ W.cell? ⟨w2.heap.size, 2, none⟩ = some (.int .i64 (te + 1))) := hide (fun W hW => ⟨cell_belowG d1 hW, cell_belowG d4 hW, cell_belowG b2 hW⟩)
        have HKA := hide (show ∀ w5 : World, (wr.drew.alloc (.cells #[.int .i64 1, .int .i64 id, .int .i64 k, .int .i64 (te + 1), .int .i64 lo.length, .int .i64 (lastT lo), .int .i64 0, .slice none 0 0, .bool false] 50)).grownBy w5 (Value.slice oo fs.length oc).ownBlock → w5.cell? ⟨w.heap.size, 1, none⟩ = some (.int .i64 id) ∧ w5.cell? ⟨w.heap.size, 4, none⟩ = some (.slice ao lo.length cap) ∧ w5.cell? ⟨w2.heap.size, 2, none⟩ = some (.int .i64 (te + 1)) from fun w5 hg => by
          have h2 := (HPr.out.later HBA.out).grown hg (fun q => owns_off HRA.out (HPr.out.later HBA.out) (by decide) q.symm)
          have h3 := (HBr.out.later HBA.out).grown hg (fun q => owns_off HRA.out (HBr.out.later HBA.out) (by decide) q.symm)
          exact ⟨h2.cell 1, h2.cell 4, h3.cell 2⟩)
        have HMAP := hide hmap
        have HENT := hide hents
        clear hid hrow hmap hents hbA
        go_upto_region 18 with fail
        go_region_held3 (fun W => W.cell? ⟨w.heap.size, 1, none⟩ = some (.int .i64 id) ∧ W.cell? ⟨w.heap.size, 4, none⟩ = some (.slice ao lo.length cap) ∧ W.cell? ⟨w2.heap.size, 2, none⟩ = some (.int .i64 (te + 1))) (first | exact k5 | exact HKEEP.out _ (by go_grown)) (first
          | (refine step_append_rdAt (E := mfE) (cs := fs) (news := [⟨askM X k, ⟨none, 0, 0⟩⟩]) (by exact HRA.out) (by exact HRO.out) Try.underlying38 infoMail rfl (by rfl) (by rfl) (by rfl) (by rfl) (by exact HLL.out) (by decide) (by exact HSZ.out) ?_; intro v5 w5 ho5 hg5 hat5; obtain ⟨mo5, mc5, hv5⟩ := owns_shapeK ho5; subst hv5; have HO5 := hide ho5; have HG5 := hide hg5; have k5 := HKA.out w5 hg5)
          | (go_at_call 11; refine (HLT.out _ (by go_grown)).mono ?_; rintro e wl ⟨rfl, hwl⟩; rw [hwl]; clear hwl wl))
        all_goals
          go_wp2_with fail
          go_roundw
          case rel =>
            refine ⟨k + 1, by omega, by go_num, ⟨fs ++ [⟨askM X k, ⟨none, 0, 0⟩⟩], by rw [List.length_append]; exact HO5.out, by rw [List.map_append, HMAP.out, HS.out]; rfl, fun f hf => ?_⟩, ?_⟩
            · rcases List.mem_append.1 hf with hf | hf
              · have h := owns_later (HENT.out f hf) HBA.out
                exact owns_grownO h HG5.out (owns_ne h HRA.out (by decide))
              · obtain rfl := List.mem_singleton.1 hf
                show w5.ownsRow w12.heap.size 59 2 (.slice none 0 0) (askM X k).ents.length (eE.vs (askM X k).ents)
                rw [show (askM X k).ents = [] by rw [HAM.out]]
                exact World.ownsRow_nil _ _ _ _
            · have h8 := HBR.out.trans (HBA.out.mono HBR.out.size)
              exact below_grownO h8 HG5.out (fun j hj => (HRA.out.lt j hj).1) h8.size
          case measure => simp [intOf]; omega
    · have hd : decide ((k : Int) < (N : Int)) = false := decide_eq_false (by omega)
      obtain rfl : k = N := by omega
      have HSEE := HSE.out
      have HRr := hide (HR1.out.later HWr.out)
      have HQr := hide (HQ1.out.later HWr.out)
      have HFr := hide (HW1.out.later HWr.out)
      have hzw := HSW.out
      have hzr := HWr.out.size
      have hz12 := HW12.out.size
      have hz11 := HZ11.out
      have hbr2 : w2.heap.size ≠ w.heap.size + 1 := by have := HSB.out; omega
      have hbq2 : w2.heap.size ≠ w.heap.size + 1 + 1 := by have := HSB.out; omega
      have HASE := hide (show (Nd.stand ⟨n, id, te, vo, lo, ro, co, vs, ns, hs⟩).asks = othGo X.id (askM X) k by rw [HAS.out, HXI.out, HXD.out, HNN.out]; rfl)
      clear hrow hmap hents b2 bl
      by_cases h1 : n = 1
      · have hq1 : (n == 1) = true := by simp [h1]
        rw [HNN.out] at hq1
        obtain ⟨Y, hY⟩ : ∃ Y, Y = X.lead := ⟨_, rfl⟩
        have HEE := hide (show Nd.stand ⟨n, id, te, vo, lo, ro, co, vs, ns, hs⟩ = Y by rw [HSE.out, hY, HXD.out]; exact if_pos h1)
        have HLD := hide (Leader_any X (.slice lo2 lo.length lc2) (.slice (some ⟨w11.heap.size, 0, none⟩) 1 1) (.slice none 0 0) (.slice none 0 0) wr (by rw [HXD.out]; exact ⟨RdG.ofOwns (owns_later HL12.out HBR.out), HVT.out.below HBR.out, RdG.nil _, RdG.nil _⟩) (by rw [HXD.out]; exact HFI.out.n1) (by rw [HXD.out]; exact HFI.out.n7) (by rw [HXD.out]; exact HFI.out.id0) (by rw [HXD.out]; exact HFI.out.idn) (by rw [HXD.out]; show lo.length ≤ 1000; omega) (by rw [HXD.out]; exact HFI.out.c0) (by rw [HXD.out]; exact HFI.out.cl))
        rw [← hY, show ndV X (.slice lo2 lo.length lc2) (.slice (some ⟨w11.heap.size, 0, none⟩) 1 1) (.slice none 0 0) (.slice none 0 0) = .agg #[.int .i64 n, .int .i64 id, .int .i64 (te + 1), .int .i64 (id + 1), .slice lo2 lo.length lc2, .int .i64 1, .int .i64 co, .slice (some ⟨w11.heap.size, 0, none⟩) 1 1, .slice none 0 0, .slice none 0 0] by rw [HXD.out]; rfl] at HLD
        have HYV := hide (show Y.votes = [] by rw [hY]; rfl)
        clear h1 HSEE hY
        go_upto_region 20 with fail
        go_wp2_with (refine wpList_load_blk HBr.out Try.underlying34 rfl Try.sizeNode rfl rfl rfl ?_)
        refine HLD.out.mono ?_
        rintro e w3 ⟨lv3, nv3, hv3, rfl, han3, hb3⟩
        obtain ⟨lo3, lc3, hs1, _, _⟩ := han3.rd.log.shape
        obtain ⟨no3, nc3, hs2, _, _⟩ := han3.rd.next.shape
        obtain ⟨ho3, hc3, hs3, _, _⟩ := han3.rd.hav.shape
        subst hs1 hs2 hs3
        have HAN3 := hide han3
        have HB3 := hide hb3
        have hz3 := hb3.size
        clear han3 hb3
        unfold ndV ndA
        go_upto_region 21 with (refine wpList_store_blk rfl rfl rfl rfl (HBr.out.later HB3.out) rfl Try.sizeNode rfl ?_; intro w4 hB4 hg4; have HB4 := hide hB4; have HG4 := hide hg4; clear hB4 hg4)
        have HW4 := hide (below_grownO (HWr.out.trans (HB3.out.mono HWr.out.size)) HG4.out (fun k hk => by cases hk; exact HSB.out) (HWr.out.trans (HB3.out.mono HWr.out.size)).size)
        have HA4 := hide (HA1.out.trans (HW4.out.mono HA1.out.size))
        have HR4 := hide (HR1.out.later HW4.out)
        have HQ4 := hide (HQ1.out.later HW4.out)
        have HF4 := hide (HW1.out.later HW4.out)
        have HO4 := hide ((HOW.out.below HB3.out).offB HG4.out (by have := HBS.out.lt; omega))
        have hbw : w2.heap.size < wr.heap.size := by have := HBr.out.lt; omega
        have HL4 := hide (HAN3.out.rd.log.offB HAN3.out.n1 HG4.out hbw)
        have HN4 := hide (HAN3.out.rd.next.offB HAN3.out.n3 HG4.out hbw)
        have HH4 := hide (HAN3.out.rd.hav.offB HAN3.out.n4 HG4.out hbw)
        have pb0 := HB4.out.cell 0
        have pbz0 := HB4.out.frozen 0
        have pb1 := HB4.out.cell 1
        have pbz1 := HB4.out.frozen 1
        have pb2 := HB4.out.cell 2
        have pbz2 := HB4.out.frozen 2
        have pb3 := HB4.out.cell 3
        have pbz3 := HB4.out.frozen 3
        have pb4 := HB4.out.cell 4
        have pbz4 := HB4.out.frozen 4
        have pb5 := HB4.out.cell 5
        have pbz5 := HB4.out.frozen 5
        have pb6 := HB4.out.cell 6
        have pbz6 := HB4.out.frozen 6
        have pb7 := HB4.out.cell 7
        have pbz7 := HB4.out.frozen 7
        have pb8 := HB4.out.cell 8
        have pbz8 := HB4.out.frozen 8
        have pb9 := HB4.out.cell 9
        have pbz9 := HB4.out.frozen 9
        have pbl := HB4.out.lt
        simp at pb0 pb1 pb2 pb3 pb4 pb5 pb6 pb7 pb8 pb9
        have pf0 := HF4.out.cell 0
        have pfz0 := HF4.out.frozen 0
        have pf1 := HF4.out.cell 1
        have pfz1 := HF4.out.frozen 1
        have pfl := HF4.out.lt
        simp at pf0 pf1
        have ra0 := HR4.out.cell 0
        have raz0 := HR4.out.frozen 0
        have ra1 := HR4.out.cell 1
        have raz1 := HR4.out.frozen 1
        have ra2 := HR4.out.cell 2
        have raz2 := HR4.out.frozen 2
        have ra3 := HR4.out.cell 3
        have raz3 := HR4.out.frozen 3
        have ra4 := HR4.out.cell 4
        have raz4 := HR4.out.frozen 4
        have ra5 := HR4.out.cell 5
        have raz5 := HR4.out.frozen 5
        have ra6 := HR4.out.cell 6
        have raz6 := HR4.out.frozen 6
        have ra7 := HR4.out.cell 7
        have raz7 := HR4.out.frozen 7
        have ra8 := HR4.out.cell 8
        have raz8 := HR4.out.frozen 8
        have ra9 := HR4.out.cell 9
        have raz9 := HR4.out.frozen 9
        have ral := HR4.out.lt
        simp at ra0 ra1 ra2 ra3 ra4 ra5 ra6 ra7 ra8 ra9
        have qa0 := HQ4.out.cell 0
        have qaz0 := HQ4.out.frozen 0
        have qa1 := HQ4.out.cell 1
        have qaz1 := HQ4.out.frozen 1
        have qal := HQ4.out.lt
        simp at qa0 qa1
        go_region
        all_goals
          obtain ⟨hR9, hQ9, hA9, hX8, hX9⟩ := setL_two (w := w) (C := w.heap.size) [.int .i64 Y.n, .int .i64 Y.id, .int .i64 Y.term, .int .i64 Y.vote, .slice lo3 Y.log.length lc3, .int .i64 Y.role, .int .i64 Y.com, .slice none 0 0, .slice no3 Y.next.length nc3, .slice ho3 Y.hav.length hc3] [.int .i64 0, .int .i64 0] HR4.out HQ4.out hrq rfl rfl HA4.out (by omega) (by omega)
          have hl9 := RdG.setL2 (R := w.heap.size + 1) (Q := w.heap.size + 1 + 1) (vs := [.int .i64 Y.n, .int .i64 Y.id, .int .i64 Y.term, .int .i64 Y.vote, .slice lo3 Y.log.length lc3, .int .i64 Y.role, .int .i64 Y.com, .slice none 0 0, .slice no3 Y.next.length nc3, .slice ho3 Y.hav.length hc3]) (us := [.int .i64 0, .int .i64 0]) HL4.out HAN3.out.n1 (by omega) (by omega)
          have hn9 := RdG.setL2 (R := w.heap.size + 1) (Q := w.heap.size + 1 + 1) (vs := [.int .i64 Y.n, .int .i64 Y.id, .int .i64 Y.term, .int .i64 Y.vote, .slice lo3 Y.log.length lc3, .int .i64 Y.role, .int .i64 Y.com, .slice none 0 0, .slice no3 Y.next.length nc3, .slice ho3 Y.hav.length hc3]) (us := [.int .i64 0, .int .i64 0]) HN4.out HAN3.out.n3 (by omega) (by omega)
          have hh9 := RdG.setL2 (R := w.heap.size + 1) (Q := w.heap.size + 1 + 1) (vs := [.int .i64 Y.n, .int .i64 Y.id, .int .i64 Y.term, .int .i64 Y.vote, .slice lo3 Y.log.length lc3, .int .i64 Y.role, .int .i64 Y.com, .slice none 0 0, .slice no3 Y.next.length nc3, .slice ho3 Y.hav.length hc3]) (us := [.int .i64 0, .int .i64 0]) HH4.out HAN3.out.n4 (by omega) (by omega)
          have hm9 := OwM.setL2 (R := w.heap.size + 1) (Q := w.heap.size + 1 + 1) (vs := [.int .i64 Y.n, .int .i64 Y.id, .int .i64 Y.term, .int .i64 Y.vote, .slice lo3 Y.log.length lc3, .int .i64 Y.role, .int .i64 Y.com, .slice none 0 0, .slice no3 Y.next.length nc3, .slice ho3 Y.hav.length hc3]) (us := [.int .i64 0, .int .i64 0]) HO4.out (by omega) (by omega)
          have HR9 := hide hR9
          have HQ9 := hide hQ9
          have HA9 := hide hA9
          have HL9 := hide hl9
          have HN9 := hide hn9
          have HH9 := hide hh9
          have HM9 := hide hm9
          simp only [setL] at HR9 HQ9 HA9 HL9 HN9 HH9 HM9
          clear hX8 hX9 hR9 hQ9 hA9 hl9 hn9 hh9 hm9 pb0 pbz0 pb1 pbz1 pb2 pbz2 pb3 pbz3 pb4 pbz4 pb5 pbz5 pb6 pbz6 pb7 pbz7 pb8 pbz8 pb9 pbz9 pbl pf0 pfz0 pf1 pfz1 pfl ra0 raz0 ra1 raz1 ra2 raz2 ra3 raz3 ra4 raz4 ra5 raz5 ra6 raz6 ra7 raz7 ra8 raz8 ra9 raz9 ral qa0 qaz0 qa1 qaz1 qal
          generalize ((((((((((((w4.setCell ⟨w.heap.size + 1, 0, none⟩ (.int .i64 Y.n)).setCell ⟨w.heap.size + 1, 1, none⟩ (.int .i64 Y.id)).setCell ⟨w.heap.size + 1, 2, none⟩ (.int .i64 Y.term)).setCell ⟨w.heap.size + 1, 3, none⟩ (.int .i64 Y.vote)).setCell ⟨w.heap.size + 1, 4, none⟩ (.slice lo3 Y.log.length lc3)).setCell ⟨w.heap.size + 1, 5, none⟩ (.int .i64 Y.role)).setCell ⟨w.heap.size + 1, 6, none⟩ (.int .i64 Y.com)).setCell ⟨w.heap.size + 1, 7, none⟩ (.slice none 0 0)).setCell ⟨w.heap.size + 1, 8, none⟩ (.slice no3 Y.next.length nc3)).setCell ⟨w.heap.size + 1, 9, none⟩ (.slice ho3 Y.hav.length hc3)).setCell ⟨w.heap.size + 1 + 1, 0, none⟩ (.int .i64 0)).setCell ⟨w.heap.size + 1 + 1, 1, none⟩ (.int .i64 0)).drew = wz at HR9 HQ9 HA9 HL9 HN9 HH9 HM9 ⊢
          rename_i hk9
          refine hk9 _ _ (wp_ret ?_)
          clear hk9
          refine bodyPost_ret (results3_ctc Try.results22 rfl rfl rfl (run_loadVar_blk HR9.out Try.underlying34 rfl Try.sizeNode) (run_loadVar_blk HQ9.out Try.underlying26 rfl Try.sizeFaultR)) rfl ?_
          rw [HE.out, HM.out, HASE.out, HEE.out, HPF.out]
          exact ⟨_, _, _, _, _, rfl, ⟨HL9.out, by rw [HYV.out]; exact RdG.nil _, HN9.out, HH9.out⟩, HM9.out, HA9.out⟩
      have hq1 : (n == 1) = false := by simp [h1]
      rw [HNN.out] at hq1
      have HEE := hide (show Nd.stand ⟨n, id, te, vo, lo, ro, co, vs, ns, hs⟩ = Nd.stand1 ⟨n, id, te, vo, lo, ro, co, vs, ns, hs⟩ by rw [HSE.out]; exact if_neg h1)
      clear h1 HSEE
      have pb0 := HBr.out.cell 0
      have pbz0 := HBr.out.frozen 0
      have pb1 := HBr.out.cell 1
      have pbz1 := HBr.out.frozen 1
      have pb2 := HBr.out.cell 2
      have pbz2 := HBr.out.frozen 2
      have pb3 := HBr.out.cell 3
      have pbz3 := HBr.out.frozen 3
      have pb4 := HBr.out.cell 4
      have pbz4 := HBr.out.frozen 4
      have pb5 := HBr.out.cell 5
      have pbz5 := HBr.out.frozen 5
      have pb6 := HBr.out.cell 6
      have pbz6 := HBr.out.frozen 6
      have pb7 := HBr.out.cell 7
      have pbz7 := HBr.out.frozen 7
      have pb8 := HBr.out.cell 8
      have pbz8 := HBr.out.frozen 8
      have pb9 := HBr.out.cell 9
      have pbz9 := HBr.out.frozen 9
      have pbl := HBr.out.lt
      simp at pb0 pb1 pb2 pb3 pb4 pb5 pb6 pb7 pb8 pb9
      have pf0 := HFr.out.cell 0
      have pfz0 := HFr.out.frozen 0
      have pf1 := HFr.out.cell 1
      have pfz1 := HFr.out.frozen 1
      have pfl := HFr.out.lt
      simp at pf0 pf1
      have ra0 := HRr.out.cell 0
      have raz0 := HRr.out.frozen 0
      have ra1 := HRr.out.cell 1
      have raz1 := HRr.out.frozen 1
      have ra2 := HRr.out.cell 2
      have raz2 := HRr.out.frozen 2
      have ra3 := HRr.out.cell 3
      have raz3 := HRr.out.frozen 3
      have ra4 := HRr.out.cell 4
      have raz4 := HRr.out.frozen 4
      have ra5 := HRr.out.cell 5
      have raz5 := HRr.out.frozen 5
      have ra6 := HRr.out.cell 6
      have raz6 := HRr.out.frozen 6
      have ra7 := HRr.out.cell 7
      have raz7 := HRr.out.frozen 7
      have ra8 := HRr.out.cell 8
      have raz8 := HRr.out.frozen 8
      have ra9 := HRr.out.cell 9
      have raz9 := HRr.out.frozen 9
      have ral := HRr.out.lt
      simp at ra0 ra1 ra2 ra3 ra4 ra5 ra6 ra7 ra8 ra9
      have qa0 := HQr.out.cell 0
      have qaz0 := HQr.out.frozen 0
      have qa1 := HQr.out.cell 1
      have qaz1 := HQr.out.frozen 1
      have qal := HQr.out.lt
      simp at qa0 qa1
      go_upto_region 21 with fail
      go_region
      all_goals
        obtain ⟨hR9, hQ9, hA9, _, _⟩ := setL_two (w := w) (C := w.heap.size) [.int .i64 n, .int .i64 id, .int .i64 (te + 1), .int .i64 (id + 1), .slice lo2 lo.length lc2, .int .i64 1, .int .i64 co, .slice (some ⟨w11.heap.size, 0, none⟩) 1 1, .slice none 0 0, .slice none 0 0] [.int .i64 0, .int .i64 0] HRr.out HQr.out hrq rfl rfl HAr.out (by omega) (by omega)
        have hv9 := RdG.setL2 (R := w.heap.size + 1) (Q := w.heap.size + 1 + 1) (vs := [.int .i64 n, .int .i64 id, .int .i64 (te + 1), .int .i64 (id + 1), .slice lo2 lo.length lc2, .int .i64 1, .int .i64 co, .slice (some ⟨w11.heap.size, 0, none⟩) 1 1, .slice none 0 0, .slice none 0 0]) (us := [.int .i64 0, .int .i64 0]) (HVT.out.below HBR.out) (base := w11.heap.size) (fun a n k h => by cases h; exact Nat.le_refl _) (by omega) (by omega)
        have hl9 := RdG.setL2 (R := w.heap.size + 1) (Q := w.heap.size + 1 + 1) (vs := [.int .i64 n, .int .i64 id, .int .i64 (te + 1), .int .i64 (id + 1), .slice lo2 lo.length lc2, .int .i64 1, .int .i64 co, .slice (some ⟨w11.heap.size, 0, none⟩) 1 1, .slice none 0 0, .slice none 0 0]) (us := [.int .i64 0, .int .i64 0]) (RdG.ofOwns (owns_later HL12.out HBR.out)) (base := W.heap.size) (New.owns HL12.out) (by omega) (by omega)
        have hm9 := OwM.setL2 (R := w.heap.size + 1) (Q := w.heap.size + 1 + 1) (vs := [.int .i64 n, .int .i64 id, .int .i64 (te + 1), .int .i64 (id + 1), .slice lo2 lo.length lc2, .int .i64 1, .int .i64 co, .slice (some ⟨w11.heap.size, 0, none⟩) 1 1, .slice none 0 0, .slice none 0 0]) (us := [.int .i64 0, .int .i64 0]) HOW.out (by omega) (by omega)
        have HR9 := hide hR9
        have HQ9 := hide hQ9
        have HA9 := hide hA9
        have HV9 := hide hv9
        have HL9 := hide hl9
        have HM9 := hide hm9
        simp only [setL] at HR9 HQ9 HA9 HV9 HL9 HM9
        clear hR9 hQ9 hA9 hv9 hl9 hm9 pb0 pbz0 pb1 pbz1 pb2 pbz2 pb3 pbz3 pb4 pbz4 pb5 pbz5 pb6 pbz6 pb7 pbz7 pb8 pbz8 pb9 pbz9 pbl pf0 pfz0 pf1 pfz1 pfl ra0 raz0 ra1 raz1 ra2 raz2 ra3 raz3 ra4 raz4 ra5 raz5 ra6 raz6 ra7 raz7 ra8 raz8 ra9 raz9 ral qa0 qaz0 qa1 qaz1 qal
        generalize ((((((((((((wr.setCell ⟨w.heap.size + 1, 0, none⟩ (.int .i64 n)).setCell ⟨w.heap.size + 1, 1, none⟩ (.int .i64 id)).setCell ⟨w.heap.size + 1, 2, none⟩ (.int .i64 (te + 1))).setCell ⟨w.heap.size + 1, 3, none⟩ (.int .i64 (id + 1))).setCell ⟨w.heap.size + 1, 4, none⟩ (.slice lo2 lo.length lc2)).setCell ⟨w.heap.size + 1, 5, none⟩ (.int .i64 1)).setCell ⟨w.heap.size + 1, 6, none⟩ (.int .i64 co)).setCell ⟨w.heap.size + 1, 7, none⟩ (.slice (some ⟨w11.heap.size, 0, none⟩) 1 1)).setCell ⟨w.heap.size + 1, 8, none⟩ (.slice none 0 0)).setCell ⟨w.heap.size + 1, 9, none⟩ (.slice none 0 0)).setCell ⟨w.heap.size + 1 + 1, 0, none⟩ (.int .i64 0)).setCell ⟨w.heap.size + 1 + 1, 1, none⟩ (.int .i64 0)).drew = wz at HR9 HQ9 HA9 HV9 HL9 HM9 ⊢
        go_wp2_with fail
        refine bodyPost_ret (results3_ctc Try.results22 rfl rfl rfl (run_loadVar_blk HR9.out Try.underlying34 rfl Try.sizeNode) (run_loadVar_blk HQ9.out Try.underlying26 rfl Try.sizeFaultR)) rfl ?_
        rw [HE.out, HM.out, HASE.out, HEE.out, HPF.out]
        exact ⟨_, _, _, _, _, rfl, ⟨HL9.out, HV9.out, RdG.nil _, RdG.nil _⟩, HM9.out, HA9.out⟩

end Go.Proofs.Ytddkjpojbflmjah

/-
  The walk over the law RaftDoes. (Written by rlaw.py.)
-/
namespace Go.Proofs.Ytddkjpojbflmjah
open Go.RowKit Go.Maps
set_option linter.unusedVariables false

theorem Nw.rdNd {w : World} {lab : Nat → Nat} {x : Nd} {lv vv nv hv : Value} (h : Nw w lab x lv vv nv hv) : RdNd w x lv vv nv hv :=
  ⟨RdG.ofOwns h.log.1, RdG.ofOwns h.vot.1, RdG.ofOwns h.nxt.1, RdG.ofOwns h.hav.1⟩

set_option maxRecDepth 100000 in
set_option maxHeartbeats 16000000 in
theorem raftDoes_any (x : Nd) (lv vv nv hv : Value) (tx : ByteArray) (w : World) (hx : RdNd w x lv vv nv hv) (hwf : ∀ v ∈ x.votes, WfI v) :
    Calls Try.prog 4 #[ndV x lv vv nv hv, .string tx] w fun e w' => e = .returned (.bool true) ∧ Below w.heap.size w w' := by
  have HWF := hide hwf
  obtain ⟨lo0, lc0, hs1, _, _⟩ := hx.log.shape
  obtain ⟨vo0, vc0, hs2, _, _⟩ := hx.votes.shape
  obtain ⟨no0, nc0, hs3, _, _⟩ := hx.next.shape
  obtain ⟨ho0, hc0, hs4, _, _⟩ := hx.hav.shape
  subst hs1 hs2 hs3 hs4
  have HV := hide (fun W a b c d h => vastNode_any x a b c d W h)
  have HCP := hide (fun W a b c d h => CopyNode_any x a b c d W h)
  have HT1 := hide (fun W a b c d h => RCheck_any x a b c d W h HWF.out)
  have HT2 := hide (fun W a b c d h => Stand_any x a b c d W h HWF.out)
  have HT3 := hide (fun W a b c d h => Propose_any x tx a b c d W h HWF.out)
  have HT4 := hide (fun W a b c d h => Beat_any x a b c d W h HWF.out)
  have HT5 := hide (fun W a b c d h => Restart_any x a b c d W h HWF.out)
  have HD1 := hide (fun W a b c d h => NodeFault_any x a b c d W h)
  have HD2 := hide (fun W a b c d h => StandNode_any x a b c d W h)
  have HD3 := hide (fun W a b c d h => ProposeNode_any x tx a b c d W h)
  have HD4 := hide (fun W a b c d h => BeatNode_any x a b c d W h)
  have HD5 := hide (fun W a b c d h => RestartNode_any x a b c d W h)
  generalize chkN x = C1 at HT1 HT5 HD1 HD5
  obtain ⟨p1, q1⟩ := C1
  generalize stdF x = C2 at HT2 HD2
  obtain ⟨p2, q2⟩ := C2
  generalize proF x tx = C3 at HT3 HD3
  obtain ⟨p3, q3⟩ := C3
  generalize ledF x = C4 at HT4 HD4
  obtain ⟨p4, q4⟩ := C4
  generalize stdN x = X2 at HT2 HD2
  generalize stdM x = M2 at HT2 HD2
  generalize proN x tx = X3 at HT3 HD3
  generalize beaM x = M4 at HT4 HD4
  generalize resN x = X5 at HT5 HD5
  unfold flt at HT1 HT2 HT3 HT4 HT5 HD1 HD2 HD3 HD4 HD5
  have HP0 := hide (Blk.new w 34 #[.int .i64 x.n, .int .i64 x.id, .int .i64 x.term, .int .i64 x.vote, .slice lo0 x.log.length lc0, .int .i64 x.role, .int .i64 x.com, .slice vo0 x.votes.length vc0, .slice no0 x.next.length nc0, .slice ho0 x.hav.length hc0])
  have HX0 := hide (hx.below (below_allocG w (.cells #[.int .i64 x.n, .int .i64 x.id, .int .i64 x.term, .int .i64 x.vote, .slice lo0 x.log.length lc0, .int .i64 x.role, .int .i64 x.com, .slice vo0 x.votes.length vc0, .slice no0 x.next.length nc0, .slice ho0 x.hav.length hc0] 34)))
  have HB0 := hide (below_allocG w (.cells #[.int .i64 x.n, .int .i64 x.id, .int .i64 x.term, .int .i64 x.vote, .slice lo0 x.log.length lc0, .int .i64 x.role, .int .i64 x.com, .slice vo0 x.votes.length vc0, .slice no0 x.next.length nc0, .slice ho0 x.hav.length hc0] 34))
  unfold ndV ndA
  clear hx hwf HWF
  go_enter Try.func4, Try.ntmps4
  go_wp2_with fail
  refine (raftBegun_any _).mono ?_
  rintro e w1 ⟨rfl, hb1⟩
  have HP1 := hide (HP0.out.later hb1)
  have HX1 := hide (HX0.out.below hb1)
  have HB1 := hide (HB0.out.trans (hb1.mono HB0.out.size))
  clear HB0 HP0 HX0
  clear hb1
  have HC := hide (HV.out _ _ _ _ _ HX1.out)
  unfold ndV ndA at HC
  go_wp2_with (refine wpList_load_blk HP1.out Try.underlying34 rfl Try.sizeNode rfl rfl rfl ?_)
  refine HC.out.mono ?_
  clear HC HV
  have HVD : Hid (vastN x = (vastE x.log.length || (decide (100 < x.votes.length) || (decide (100 < x.next.length) || decide (100 < x.hav.length))))) := hide rfl
  generalize vastN x = VN at HVD ⊢
  cases VN
  case true =>
    rintro e w2 ⟨rfl, hb2⟩
    go_wp2_with fail
    go_ret
    exact ⟨rfl, HB1.out.trans (hb2.mono HB1.out.size)⟩
  rintro e w2 ⟨rfl, hb2⟩
  have hvd := HVD.out
  simp [vastE] at hvd
  have HVL := hide hvd
  clear hvd HVD
  have HP2 := hide (HP1.out.later hb2)
  have HX2 := hide (HX1.out.below hb2)
  have HB2 := hide (HB1.out.trans (hb2.mono HB1.out.size))
  clear HB1 HP1 HX1
  clear hb2
  have HC := hide (HCP.out _ _ _ _ _ HX2.out (by have := HVL.out; omega) (by have := HVL.out; omega) (by have := HVL.out; omega) (by have := HVL.out; omega))
  unfold ndV ndA at HC
  go_wp2_with (refine wpList_load_blk HP2.out Try.underlying34 rfl Try.sizeNode rfl rfl rfl ?_)
  refine HC.out.mono ?_
  clear HC HCP HVL
  rintro e w3 ⟨lab, lvY, vvY, nvY, hvY, rfl, hnw, _, hb3⟩
  have hrd := hnw.rdNd
  obtain ⟨loY, lcY, hs1, _, _⟩ := hrd.log.shape
  obtain ⟨voY, vcY, hs2, _, _⟩ := hrd.votes.shape
  obtain ⟨noY, ncY, hs3, _, _⟩ := hrd.next.shape
  obtain ⟨hoY, hcY, hs4, _, _⟩ := hrd.hav.shape
  subst hs1 hs2 hs3 hs4
  have hbx := hb3.trans ((below_allocG w3 (.cells #[.int .i64 x.n, .int .i64 x.id, .int .i64 x.term, .int .i64 x.vote, .slice loY x.log.length lcY, .int .i64 x.role, .int .i64 x.com, .slice voY x.votes.length vcY, .slice noY x.next.length ncY, .slice hoY x.hav.length hcY] 34)).mono hb3.size)
  have hry := hrd.below (below_allocG w3 (.cells #[.int .i64 x.n, .int .i64 x.id, .int .i64 x.term, .int .i64 x.vote, .slice loY x.log.length lcY, .int .i64 x.role, .int .i64 x.com, .slice voY x.votes.length vcY, .slice noY x.next.length ncY, .slice hoY x.hav.length hcY] 34))
  have HP3 := hide (HP2.out.later hbx)
  have HX3 := hide (HX2.out.below hbx)
  have HB3 := hide (HB2.out.trans (hbx.mono HB2.out.size))
  clear HB2 HP2 HX2
  have HY3 := hide hry
  have HZ3 := hide (Blk.new w3 34 #[.int .i64 x.n, .int .i64 x.id, .int .i64 x.term, .int .i64 x.vote, .slice loY x.log.length lcY, .int .i64 x.role, .int .i64 x.com, .slice voY x.votes.length vcY, .slice noY x.next.length ncY, .slice hoY x.hav.length hcY])
  clear hnw hrd hb3 hbx hry
  have HC := hide (HT1.out _ _ _ _ _ HY3.out)
  unfold ndV ndA at HC
  go_upto_region 6 with fail
  generalize hW3 : w3.alloc (.cells #[.int .i64 x.n, .int .i64 x.id, .int .i64 x.term, .int .i64 x.vote, .slice loY x.log.length lcY, .int .i64 x.role, .int .i64 x.com, .slice voY x.votes.length vcY, .slice noY x.next.length ncY, .slice hoY x.hav.length hcY] 34) = W3 at HP3 HX3 HB3 HY3 HZ3 HC ⊢
  clear hW3
  go_wp2_with (refine wpList_load_blk HZ3.out Try.underlying34 rfl Try.sizeNode rfl rfl rfl ?_)
  refine HC.out.mono ?_
  clear HC HT1
  rintro e w4 ⟨rfl, hb4⟩
  have hbx := hb4.trans ((below_allocG w4 (.cells #[.int .i64 p1, .int .i64 q1] 26)).mono hb4.size)
  have HP4 := hide (HP3.out.later hbx)
  have HX4 := hide (HX3.out.below hbx)
  have HY4 := hide (HY3.out.below hbx)
  have HZ4 := hide (HZ3.out.later hbx)
  have HB4 := hide (HB3.out.trans (hbx.mono HB3.out.size))
  clear HB3 HP3 HX3 HY3 HZ3
  have HF4 := hide (Blk.new w4 26 #[.int .i64 p1, .int .i64 q1])
  clear hb4 hbx
  go_upto_region 7 with fail
  generalize hW4 : w4.alloc (.cells #[.int .i64 p1, .int .i64 q1] 26) = W4 at HP4 HX4 HB4 HY4 HZ4 HF4 ⊢
  clear hW4
  have HC := hide (HT2.out _ _ _ _ _ HY4.out)
  unfold ndV ndA at HC
  go_wp2_with (refine wpList_load_blk HZ4.out Try.underlying34 rfl Try.sizeNode rfl rfl rfl ?_)
  refine HC.out.mono ?_
  clear HC HT2
  rintro e w5 ⟨lv5, vv5, nv5, hv5, mv5, rfl, han, how, hb5⟩
  have hrd := han.rd
  obtain ⟨lo5, lc5, hs1, _, _⟩ := hrd.log.shape
  obtain ⟨vo5, vc5, hs2, _, _⟩ := hrd.votes.shape
  obtain ⟨no5, nc5, hs3, _, _⟩ := hrd.next.shape
  obtain ⟨ho5, hc5, hs4, _, _⟩ := hrd.hav.shape
  subst hs1 hs2 hs3 hs4
  obtain ⟨mo5, mc5, hms, _, _⟩ := how.rd.shape
  subst hms
  have HRD := hide hrd
  have HA0 := hide (Blk.at0of2 w5 (.cells #[.int .i64 0, .int .i64 0] 26) 34 #[.int .i64 0, .int .i64 0, .int .i64 0, .int .i64 0, .slice none 0 0, .int .i64 0, .int .i64 0, .slice none 0 0, .slice none 0 0, .slice none 0 0])
  have HA1 := hide (Blk.at1 w5 (.cells #[.int .i64 0, .int .i64 0, .int .i64 0, .int .i64 0, .slice none 0 0, .int .i64 0, .int .i64 0, .slice none 0 0, .slice none 0 0, .slice none 0 0] 34) 26 #[.int .i64 0, .int .i64 0])
  have HOM := hide how.rd
  have HBN := hide hb5
  clear han hrd hb5 how
  go_upto_region 8 with (first
    | (refine wpList_store_blk rfl rfl rfl rfl HA0.out rfl Try.sizeNode rfl ?_; intro u5 hN2 hg2; have HN2 := hide hN2; have HG2 := hide hg2; clear hN2 hg2)
    | (refine wpList_store_blk rfl rfl rfl rfl (HA1.out.grown HG2.out (by simp)) rfl Try.sizeFaultR rfl ?_; intro W5 hF3 hg3; have HF3 := hide hF3; have HG3 := hide hg3; clear hF3 hg3))
  have h23 := boxes2 HN2.out HG2.out HF3.out HG3.out
  have hbx := HBN.out.trans (h23.2.mono HBN.out.size)
  have HP5 := hide (HP4.out.later hbx)
  have HX5 := hide (HX4.out.below hbx)
  have HY5 := hide (HY4.out.below hbx)
  have HZ5 := hide (HZ4.out.later hbx)
  have HF5 := hide (HF4.out.later hbx)
  have HB5 := hide (HB4.out.trans (hbx.mono HB4.out.size))
  clear HB4 HP4 HX4 HY4 HZ4 HF4
  have HNa5 := hide h23.1
  have HRa5 := hide (HRD.out.below h23.2)
  have HFa5 := hide HF3.out
  have HMa5 := hide (HOM.out.below h23.2)
  clear HA0 HA1 HN2 HG2 HF3 HG3 h23 hbx HRD HBN HOM
  have HC := hide (HT3.out _ _ _ _ _ HY5.out)
  unfold ndV ndA at HC
  go_wp2_with (refine wpList_load_blk HZ5.out Try.underlying34 rfl Try.sizeNode rfl rfl rfl ?_)
  refine HC.out.mono ?_
  clear HC HT3
  rintro e w6 ⟨lv6, vv6, nv6, hv6, rfl, han, hb6⟩
  have hrd := han.rd
  obtain ⟨lo6, lc6, hs1, _, _⟩ := hrd.log.shape
  obtain ⟨vo6, vc6, hs2, _, _⟩ := hrd.votes.shape
  obtain ⟨no6, nc6, hs3, _, _⟩ := hrd.next.shape
  obtain ⟨ho6, hc6, hs4, _, _⟩ := hrd.hav.shape
  subst hs1 hs2 hs3 hs4
  have HRD := hide hrd
  have HA0 := hide (Blk.at0of2 w6 (.cells #[.int .i64 0, .int .i64 0] 26) 34 #[.int .i64 0, .int .i64 0, .int .i64 0, .int .i64 0, .slice none 0 0, .int .i64 0, .int .i64 0, .slice none 0 0, .slice none 0 0, .slice none 0 0])
  have HA1 := hide (Blk.at1 w6 (.cells #[.int .i64 0, .int .i64 0, .int .i64 0, .int .i64 0, .slice none 0 0, .int .i64 0, .int .i64 0, .slice none 0 0, .slice none 0 0, .slice none 0 0] 34) 26 #[.int .i64 0, .int .i64 0])
  have HBN := hide hb6
  clear han hrd hb6
  go_upto_region 9 with (first
    | (refine wpList_store_blk rfl rfl rfl rfl HA0.out rfl Try.sizeNode rfl ?_; intro u6 hN2 hg2; have HN2 := hide hN2; have HG2 := hide hg2; clear hN2 hg2)
    | (refine wpList_store_blk rfl rfl rfl rfl (HA1.out.grown HG2.out (by simp)) rfl Try.sizeFaultR rfl ?_; intro W6 hF3 hg3; have HF3 := hide hF3; have HG3 := hide hg3; clear hF3 hg3))
  have h23 := boxes2 HN2.out HG2.out HF3.out HG3.out
  have hbx := HBN.out.trans (h23.2.mono HBN.out.size)
  have HP6 := hide (HP5.out.later hbx)
  have HX6 := hide (HX5.out.below hbx)
  have HY6 := hide (HY5.out.below hbx)
  have HZ6 := hide (HZ5.out.later hbx)
  have HF6 := hide (HF5.out.later hbx)
  have HNa6 := hide (HNa5.out.later hbx)
  have HRa6 := hide (HRa5.out.below hbx)
  have HFa6 := hide (HFa5.out.later hbx)
  have HMa6 := hide (HMa5.out.below hbx)
  have HB6 := hide (HB5.out.trans (hbx.mono HB5.out.size))
  clear HB5 HP5 HX5 HY5 HZ5 HF5 HNa5 HRa5 HFa5 HMa5
  have HNb6 := hide h23.1
  have HRb6 := hide (HRD.out.below h23.2)
  have HFb6 := hide HF3.out
  clear HA0 HA1 HN2 HG2 HF3 HG3 h23 hbx HRD HBN
  have HC := hide (HT4.out _ _ _ _ _ HY6.out)
  unfold ndV ndA at HC
  go_wp2_with (refine wpList_load_blk HZ6.out Try.underlying34 rfl Try.sizeNode rfl rfl rfl ?_)
  refine HC.out.mono ?_
  clear HC HT4
  rintro e w7 ⟨mv7, rfl, how, hb7⟩
  obtain ⟨mo7, mc7, hms, _, _⟩ := how.rd.shape
  subst hms
  have hal := below_allocG w7 (.cells #[.int .i64 p4, .int .i64 q4] 26)
  have hbx := hb7.trans (hal.mono hb7.size)
  have HP7 := hide (HP6.out.later hbx)
  have HX7 := hide (HX6.out.below hbx)
  have HY7 := hide (HY6.out.below hbx)
  have HZ7 := hide (HZ6.out.later hbx)
  have HF7 := hide (HF6.out.later hbx)
  have HNa7 := hide (HNa6.out.later hbx)
  have HRa7 := hide (HRa6.out.below hbx)
  have HFa7 := hide (HFa6.out.later hbx)
  have HMa7 := hide (HMa6.out.below hbx)
  have HNb7 := hide (HNb6.out.later hbx)
  have HRb7 := hide (HRb6.out.below hbx)
  have HFb7 := hide (HFb6.out.later hbx)
  have HB7 := hide (HB6.out.trans (hbx.mono HB6.out.size))
  clear HB6 HP6 HX6 HY6 HZ6 HF6 HNa6 HRa6 HFa6 HMa6 HNb6 HRb6 HFb6
  have HMc7 := hide (how.rd.below hal)
  have HFc7 := hide (Blk.new w7 26 #[.int .i64 p4, .int .i64 q4])
  clear how hb7 hbx hal
  go_upto_region 10 with fail
  generalize hWW : w7.alloc (.cells #[.int .i64 p4, .int .i64 q4] 26) = W7 at HP7 HX7 HY7 HZ7 HF7 HNa7 HRa7 HFa7 HMa7 HNb7 HRb7 HFb7 HMc7 HFc7 HB7 ⊢
  clear hWW
  have HC := hide (HT5.out _ _ _ _ _ HY7.out)
  unfold ndV ndA at HC
  go_wp2_with (refine wpList_load_blk HZ7.out Try.underlying34 rfl Try.sizeNode rfl rfl rfl ?_)
  refine HC.out.mono ?_
  clear HC HT5
  rintro e w8 ⟨lv8, vv8, nv8, hv8, rfl, han, hb8⟩
  have hrd := han.rd
  obtain ⟨lo8, lc8, hs1, _, _⟩ := hrd.log.shape
  obtain ⟨vo8, vc8, hs2, _, _⟩ := hrd.votes.shape
  obtain ⟨no8, nc8, hs3, _, _⟩ := hrd.next.shape
  obtain ⟨ho8, hc8, hs4, _, _⟩ := hrd.hav.shape
  subst hs1 hs2 hs3 hs4
  have HRD := hide hrd
  have HA0 := hide (Blk.at0of2 w8 (.cells #[.int .i64 0, .int .i64 0] 26) 34 #[.int .i64 0, .int .i64 0, .int .i64 0, .int .i64 0, .slice none 0 0, .int .i64 0, .int .i64 0, .slice none 0 0, .slice none 0 0, .slice none 0 0])
  have HA1 := hide (Blk.at1 w8 (.cells #[.int .i64 0, .int .i64 0, .int .i64 0, .int .i64 0, .slice none 0 0, .int .i64 0, .int .i64 0, .slice none 0 0, .slice none 0 0, .slice none 0 0] 34) 26 #[.int .i64 0, .int .i64 0])
  have HBN := hide hb8
  clear han hrd hb8
  go_upto_region 11 with (first
    | (refine wpList_store_blk rfl rfl rfl rfl HA0.out rfl Try.sizeNode rfl ?_; intro u8 hN2 hg2; have HN2 := hide hN2; have HG2 := hide hg2; clear hN2 hg2)
    | (refine wpList_store_blk rfl rfl rfl rfl (HA1.out.grown HG2.out (by simp)) rfl Try.sizeFaultR rfl ?_; intro W8 hF3 hg3; have HF3 := hide hF3; have HG3 := hide hg3; clear hF3 hg3))
  have h23 := boxes2 HN2.out HG2.out HF3.out HG3.out
  have hbx := HBN.out.trans (h23.2.mono HBN.out.size)
  have HP8 := hide (HP7.out.later hbx)
  have HX8 := hide (HX7.out.below hbx)
  have HY8 := hide (HY7.out.below hbx)
  have HZ8 := hide (HZ7.out.later hbx)
  have HF8 := hide (HF7.out.later hbx)
  have HNa8 := hide (HNa7.out.later hbx)
  have HRa8 := hide (HRa7.out.below hbx)
  have HFa8 := hide (HFa7.out.later hbx)
  have HMa8 := hide (HMa7.out.below hbx)
  have HNb8 := hide (HNb7.out.later hbx)
  have HRb8 := hide (HRb7.out.below hbx)
  have HFb8 := hide (HFb7.out.later hbx)
  have HMc8 := hide (HMc7.out.below hbx)
  have HFc8 := hide (HFc7.out.later hbx)
  have HB8 := hide (HB7.out.trans (hbx.mono HB7.out.size))
  clear HB7 HP7 HX7 HY7 HZ7 HF7 HNa7 HRa7 HFa7 HMa7 HNb7 HRb7 HFb7 HMc7 HFc7
  have HNd8 := hide h23.1
  have HRd8 := hide (HRD.out.below h23.2)
  have HFd8 := hide HF3.out
  clear HA0 HA1 HN2 HG2 HF3 HG3 h23 hbx HRD HBN
  have HKEEP : Hid (∀ W, Below W8.heap.size W8 W → W.cell? ⟨w.heap.size, 0, none⟩ = some (.int .i64 x.n) ∧ W.cell? ⟨w.heap.size, 1, none⟩ = some (.int .i64 x.id) ∧ W.cell? ⟨w.heap.size, 2, none⟩ = some (.int .i64 x.term) ∧ W.cell? ⟨w.heap.size, 3, none⟩ = some (.int .i64 x.vote) ∧ W.cell? ⟨w.heap.size, 4, none⟩ = some (.slice lo0 x.log.length lc0) ∧ W.cell? ⟨w.heap.size, 5, none⟩ = some (.int .i64 x.role) ∧ W.cell? ⟨w.heap.size, 6, none⟩ = some (.int .i64 x.com) ∧ W.cell? ⟨w.heap.size, 7, none⟩ = some (.slice vo0 x.votes.length vc0) ∧ W.cell? ⟨w.heap.size, 8, none⟩ = some (.slice no0 x.next.length nc0) ∧ W.cell? ⟨w.heap.size, 9, none⟩ = some (.slice ho0 x.hav.length hc0) ∧ W.cell? ⟨w3.heap.size, 0, none⟩ = some (.int .i64 x.n) ∧ W.cell? ⟨w3.heap.size, 1, none⟩ = some (.int .i64 x.id) ∧ W.cell? ⟨w3.heap.size, 2, none⟩ = some (.int .i64 x.term) ∧ W.cell? ⟨w3.heap.size, 3, none⟩ = some (.int .i64 x.vote) ∧ W.cell? ⟨w3.heap.size, 4, none⟩ = some (.slice loY x.log.length lcY) ∧ W.cell? ⟨w3.heap.size, 5, none⟩ = some (.int .i64 x.role) ∧ W.cell? ⟨w3.heap.size, 6, none⟩ = some (.int .i64 x.com) ∧ W.cell? ⟨w3.heap.size, 7, none⟩ = some (.slice voY x.votes.length vcY) ∧ W.cell? ⟨w3.heap.size, 8, none⟩ = some (.slice noY x.next.length ncY) ∧ W.cell? ⟨w3.heap.size, 9, none⟩ = some (.slice hoY x.hav.length hcY) ∧ W.cell? ⟨w4.heap.size, 0, none⟩ = some (.int .i64 p1) ∧ W.cell? ⟨w4.heap.size, 1, none⟩ = some (.int .i64 q1)) := hide (fun W hW => by
    have h1 := HP8.out.later hW
    have h2 := HZ8.out.later hW
    have h3 := HF8.out.later hW
    exact ⟨h1.cell 0, h1.cell 1, h1.cell 2, h1.cell 3, h1.cell 4, h1.cell 5, h1.cell 6, h1.cell 7, h1.cell 8, h1.cell 9, h2.cell 0, h2.cell 1, h2.cell 2, h2.cell 3, h2.cell 4, h2.cell 5, h2.cell 6, h2.cell 7, h2.cell 8, h2.cell 9, h3.cell 0, h3.cell 1⟩)
  have HTA : Hid (∀ W, Below W8.drew.heap.size W8.drew W → Below W8.heap.size W8 W) := hide fun W h => ⟨h.os, h.tape, h.output, h.size, h.block⟩
  have hD : Below W8.heap.size W8 W8.drew := Below.drew (Below.refl _ _)
  have HS1 := hide ((SameNode_eq x _ _ _ _ _ _ _ _ W8.drew (HY8.out.below hD) (HX8.out.below hD)).mono fun e W h => And.intro h.1 (HTA.out W h.2))
  have HS2 := hide (fun W (h : Below W8.heap.size W8 W) => (HD1.out W _ _ _ _ (HX8.out.below h)).mono fun e W' h2 => And.intro h2.1 (h.trans (h2.2.mono h.size)))
  unfold ndV ndA at HS1 HS2
  have pa0 := HP8.out.cell 0
  have pa1 := HP8.out.cell 1
  have pa2 := HP8.out.cell 2
  have pa3 := HP8.out.cell 3
  have pa4 := HP8.out.cell 4
  have pa5 := HP8.out.cell 5
  have pa6 := HP8.out.cell 6
  have pa7 := HP8.out.cell 7
  have pa8 := HP8.out.cell 8
  have pa9 := HP8.out.cell 9
  have pal := HP8.out.lt
  simp at pa0 pa1 pa2 pa3 pa4 pa5 pa6 pa7 pa8 pa9
  have pz0 := HZ8.out.cell 0
  have pz1 := HZ8.out.cell 1
  have pz2 := HZ8.out.cell 2
  have pz3 := HZ8.out.cell 3
  have pz4 := HZ8.out.cell 4
  have pz5 := HZ8.out.cell 5
  have pz6 := HZ8.out.cell 6
  have pz7 := HZ8.out.cell 7
  have pz8 := HZ8.out.cell 8
  have pz9 := HZ8.out.cell 9
  have pzl := HZ8.out.lt
  simp at pz0 pz1 pz2 pz3 pz4 pz5 pz6 pz7 pz8 pz9
  have pf0 := HF8.out.cell 0
  have pf1 := HF8.out.cell 1
  have pfl := HF8.out.lt
  simp at pf0 pf1
  clear hD HD1
  dsimp only [Act.put]
  go_cut [64] (fun y wc => y = .bool false ∧ Below W8.heap.size W8 wc)
  case first =>
    go_region_held3 (fun W => W.cell? ⟨w.heap.size, 0, none⟩ = some (.int .i64 x.n) ∧ W.cell? ⟨w.heap.size, 1, none⟩ = some (.int .i64 x.id) ∧ W.cell? ⟨w.heap.size, 2, none⟩ = some (.int .i64 x.term) ∧ W.cell? ⟨w.heap.size, 3, none⟩ = some (.int .i64 x.vote) ∧ W.cell? ⟨w.heap.size, 4, none⟩ = some (.slice lo0 x.log.length lc0) ∧ W.cell? ⟨w.heap.size, 5, none⟩ = some (.int .i64 x.role) ∧ W.cell? ⟨w.heap.size, 6, none⟩ = some (.int .i64 x.com) ∧ W.cell? ⟨w.heap.size, 7, none⟩ = some (.slice vo0 x.votes.length vc0) ∧ W.cell? ⟨w.heap.size, 8, none⟩ = some (.slice no0 x.next.length nc0) ∧ W.cell? ⟨w.heap.size, 9, none⟩ = some (.slice ho0 x.hav.length hc0) ∧ W.cell? ⟨w3.heap.size, 0, none⟩ = some (.int .i64 x.n) ∧ W.cell? ⟨w3.heap.size, 1, none⟩ = some (.int .i64 x.id) ∧ W.cell? ⟨w3.heap.size, 2, none⟩ = some (.int .i64 x.term) ∧ W.cell? ⟨w3.heap.size, 3, none⟩ = some (.int .i64 x.vote) ∧ W.cell? ⟨w3.heap.size, 4, none⟩ = some (.slice loY x.log.length lcY) ∧ W.cell? ⟨w3.heap.size, 5, none⟩ = some (.int .i64 x.role) ∧ W.cell? ⟨w3.heap.size, 6, none⟩ = some (.int .i64 x.com) ∧ W.cell? ⟨w3.heap.size, 7, none⟩ = some (.slice voY x.votes.length vcY) ∧ W.cell? ⟨w3.heap.size, 8, none⟩ = some (.slice noY x.next.length ncY) ∧ W.cell? ⟨w3.heap.size, 9, none⟩ = some (.slice hoY x.hav.length hcY) ∧ W.cell? ⟨w4.heap.size, 0, none⟩ = some (.int .i64 p1) ∧ W.cell? ⟨w4.heap.size, 1, none⟩ = some (.int .i64 q1)) (exact HKEEP.out _ (by go_grown)) (first
      | (have k9 := hbL1; go_at_call 21; refine (HS2.out _ k9).mono ?_; rintro e w10 ⟨rfl, hbL2⟩)
      | (go_at_call 20; refine HS1.out.mono ?_; rintro e w9 ⟨rfl, hbL1⟩))
    all_goals
      go_wp2_with fail
      go_meet
      case rel => exact ⟨by simp, hbL2⟩
  case rest =>
  obtain ⟨rfl, hbc⟩ := hcut
  clear HKEEP HTA HS1 HS2 pa0 pz0 pa1 pz1 pa2 pz2 pa3 pz3 pa4 pz4 pa5 pz5 pa6 pz6 pa7 pz7 pa8 pz8 pa9 pz9 pal pzl pf0 pf1 pfl
  have HP9 := hide (HP8.out.later hbc)
  have HX9 := hide (HX8.out.below hbc)
  have HY9 := hide (HY8.out.below hbc)
  have HZ9 := hide (HZ8.out.later hbc)
  have HF9 := hide (HF8.out.later hbc)
  have HNa9 := hide (HNa8.out.later hbc)
  have HRa9 := hide (HRa8.out.below hbc)
  have HFa9 := hide (HFa8.out.later hbc)
  have HMa9 := hide (HMa8.out.below hbc)
  have HNb9 := hide (HNb8.out.later hbc)
  have HRb9 := hide (HRb8.out.below hbc)
  have HFb9 := hide (HFb8.out.later hbc)
  have HMc9 := hide (HMc8.out.below hbc)
  have HFc9 := hide (HFc8.out.later hbc)
  have HNd9 := hide (HNd8.out.later hbc)
  have HRd9 := hide (HRd8.out.below hbc)
  have HFd9 := hide (HFd8.out.later hbc)
  have HB9 := hide (HB8.out.trans (hbc.mono HB8.out.size))
  clear HB8 HP8 HX8 HY8 HZ8 HF8 HNa8 HRa8 HFa8 HMa8 HNb8 HRb8 HFb8 HMc8 HFc8 HNd8 HRd8 HFd8
  clear hbc HY9 HZ9 HF9
  have HC := hide (HD2.out _ _ _ _ _ HX9.out)
  unfold ndV ndA at HC
  go_wp2_with (refine wpList_load_blk HP9.out Try.underlying34 rfl Try.sizeNode rfl rfl rfl ?_)
  refine HC.out.mono ?_
  clear HC HD2
  rintro e w10 ⟨lv10, vv10, nv10, hv10, mv10, rfl, han, how, hb10⟩
  have hrd := han
  obtain ⟨lo10, lc10, hs1, _, _⟩ := hrd.log.shape
  obtain ⟨vo10, vc10, hs2, _, _⟩ := hrd.votes.shape
  obtain ⟨no10, nc10, hs3, _, _⟩ := hrd.next.shape
  obtain ⟨ho10, hc10, hs4, _, _⟩ := hrd.hav.shape
  subst hs1 hs2 hs3 hs4
  obtain ⟨mo10, mc10, hms, _, _⟩ := how.shape
  subst hms
  have HRD := hide hrd
  have HA0 := hide (Blk.at0of2 w10 (.cells #[.int .i64 0, .int .i64 0] 26) 34 #[.int .i64 0, .int .i64 0, .int .i64 0, .int .i64 0, .slice none 0 0, .int .i64 0, .int .i64 0, .slice none 0 0, .slice none 0 0, .slice none 0 0])
  have HA1 := hide (Blk.at1 w10 (.cells #[.int .i64 0, .int .i64 0, .int .i64 0, .int .i64 0, .slice none 0 0, .int .i64 0, .int .i64 0, .slice none 0 0, .slice none 0 0, .slice none 0 0] 34) 26 #[.int .i64 0, .int .i64 0])
  have HOM := hide how
  have HBN := hide hb10
  clear han hrd hb10 how
  go_upto_region 14 with (first
    | (refine wpList_store_blk rfl rfl rfl rfl HA0.out rfl Try.sizeNode rfl ?_; intro u10 hN2 hg2; have HN2 := hide hN2; have HG2 := hide hg2; clear hN2 hg2)
    | (refine wpList_store_blk rfl rfl rfl rfl (HA1.out.grown HG2.out (by simp)) rfl Try.sizeFaultR rfl ?_; intro W10 hF3 hg3; have HF3 := hide hF3; have HG3 := hide hg3; clear hF3 hg3))
  have h23 := boxes2 HN2.out HG2.out HF3.out HG3.out
  have hbx := HBN.out.trans (h23.2.mono HBN.out.size)
  have HP10 := hide (HP9.out.later hbx)
  have HX10 := hide (HX9.out.below hbx)
  have HNa10 := hide (HNa9.out.later hbx)
  have HRa10 := hide (HRa9.out.below hbx)
  have HFa10 := hide (HFa9.out.later hbx)
  have HMa10 := hide (HMa9.out.below hbx)
  have HNb10 := hide (HNb9.out.later hbx)
  have HRb10 := hide (HRb9.out.below hbx)
  have HFb10 := hide (HFb9.out.later hbx)
  have HMc10 := hide (HMc9.out.below hbx)
  have HFc10 := hide (HFc9.out.later hbx)
  have HNd10 := hide (HNd9.out.later hbx)
  have HRd10 := hide (HRd9.out.below hbx)
  have HFd10 := hide (HFd9.out.later hbx)
  have HB10 := hide (HB9.out.trans (hbx.mono HB9.out.size))
  clear HB9 HP9 HX9 HNa9 HRa9 HFa9 HMa9 HNb9 HRb9 HFb9 HMc9 HFc9 HNd9 HRd9 HFd9
  have HNe10 := hide h23.1
  have HRe10 := hide (HRD.out.below h23.2)
  have HFe10 := hide HF3.out
  have HMe10 := hide (HOM.out.below h23.2)
  clear HA0 HA1 HN2 HG2 HF3 HG3 h23 hbx HRD HBN HOM
  have HC := hide (HD3.out _ _ _ _ _ HX10.out)
  unfold ndV ndA at HC
  go_wp2_with (refine wpList_load_blk HP10.out Try.underlying34 rfl Try.sizeNode rfl rfl rfl ?_)
  refine HC.out.mono ?_
  clear HC HD3
  rintro e w11 ⟨lv11, vv11, nv11, hv11, rfl, han, hb11⟩
  have hrd := han
  obtain ⟨lo11, lc11, hs1, _, _⟩ := hrd.log.shape
  obtain ⟨vo11, vc11, hs2, _, _⟩ := hrd.votes.shape
  obtain ⟨no11, nc11, hs3, _, _⟩ := hrd.next.shape
  obtain ⟨ho11, hc11, hs4, _, _⟩ := hrd.hav.shape
  subst hs1 hs2 hs3 hs4
  have HRD := hide hrd
  have HA0 := hide (Blk.at0of2 w11 (.cells #[.int .i64 0, .int .i64 0] 26) 34 #[.int .i64 0, .int .i64 0, .int .i64 0, .int .i64 0, .slice none 0 0, .int .i64 0, .int .i64 0, .slice none 0 0, .slice none 0 0, .slice none 0 0])
  have HA1 := hide (Blk.at1 w11 (.cells #[.int .i64 0, .int .i64 0, .int .i64 0, .int .i64 0, .slice none 0 0, .int .i64 0, .int .i64 0, .slice none 0 0, .slice none 0 0, .slice none 0 0] 34) 26 #[.int .i64 0, .int .i64 0])
  have HBN := hide hb11
  clear han hrd hb11
  go_upto_region 15 with (first
    | (refine wpList_store_blk rfl rfl rfl rfl HA0.out rfl Try.sizeNode rfl ?_; intro u11 hN2 hg2; have HN2 := hide hN2; have HG2 := hide hg2; clear hN2 hg2)
    | (refine wpList_store_blk rfl rfl rfl rfl (HA1.out.grown HG2.out (by simp)) rfl Try.sizeFaultR rfl ?_; intro W11 hF3 hg3; have HF3 := hide hF3; have HG3 := hide hg3; clear hF3 hg3))
  have h23 := boxes2 HN2.out HG2.out HF3.out HG3.out
  have hbx := HBN.out.trans (h23.2.mono HBN.out.size)
  have HP11 := hide (HP10.out.later hbx)
  have HX11 := hide (HX10.out.below hbx)
  have HNa11 := hide (HNa10.out.later hbx)
  have HRa11 := hide (HRa10.out.below hbx)
  have HFa11 := hide (HFa10.out.later hbx)
  have HMa11 := hide (HMa10.out.below hbx)
  have HNb11 := hide (HNb10.out.later hbx)
  have HRb11 := hide (HRb10.out.below hbx)
  have HFb11 := hide (HFb10.out.later hbx)
  have HMc11 := hide (HMc10.out.below hbx)
  have HFc11 := hide (HFc10.out.later hbx)
  have HNd11 := hide (HNd10.out.later hbx)
  have HRd11 := hide (HRd10.out.below hbx)
  have HFd11 := hide (HFd10.out.later hbx)
  have HNe11 := hide (HNe10.out.later hbx)
  have HRe11 := hide (HRe10.out.below hbx)
  have HFe11 := hide (HFe10.out.later hbx)
  have HMe11 := hide (HMe10.out.below hbx)
  have HB11 := hide (HB10.out.trans (hbx.mono HB10.out.size))
  clear HB10 HP10 HX10 HNa10 HRa10 HFa10 HMa10 HNb10 HRb10 HFb10 HMc10 HFc10 HNd10 HRd10 HFd10 HNe10 HRe10 HFe10 HMe10
  have HNf11 := hide h23.1
  have HRf11 := hide (HRD.out.below h23.2)
  have HFf11 := hide HF3.out
  clear HA0 HA1 HN2 HG2 HF3 HG3 h23 hbx HRD HBN
  have HC := hide (HD4.out _ _ _ _ _ HX11.out)
  unfold ndV ndA at HC
  go_wp2_with (refine wpList_load_blk HP11.out Try.underlying34 rfl Try.sizeNode rfl rfl rfl ?_)
  refine HC.out.mono ?_
  clear HC HD4
  rintro e w12 ⟨mv12, rfl, how, hb12⟩
  obtain ⟨mo12, mc12, hms, _, _⟩ := how.shape
  subst hms
  have hal := below_allocG w12 (.cells #[.int .i64 p4, .int .i64 q4] 26)
  have hbx := hb12.trans (hal.mono hb12.size)
  have HP12 := hide (HP11.out.later hbx)
  have HX12 := hide (HX11.out.below hbx)
  have HNa12 := hide (HNa11.out.later hbx)
  have HRa12 := hide (HRa11.out.below hbx)
  have HFa12 := hide (HFa11.out.later hbx)
  have HMa12 := hide (HMa11.out.below hbx)
  have HNb12 := hide (HNb11.out.later hbx)
  have HRb12 := hide (HRb11.out.below hbx)
  have HFb12 := hide (HFb11.out.later hbx)
  have HMc12 := hide (HMc11.out.below hbx)
  have HFc12 := hide (HFc11.out.later hbx)
  have HNd12 := hide (HNd11.out.later hbx)
  have HRd12 := hide (HRd11.out.below hbx)
  have HFd12 := hide (HFd11.out.later hbx)
  have HNe12 := hide (HNe11.out.later hbx)
  have HRe12 := hide (HRe11.out.below hbx)
  have HFe12 := hide (HFe11.out.later hbx)
  have HMe12 := hide (HMe11.out.below hbx)
  have HNf12 := hide (HNf11.out.later hbx)
  have HRf12 := hide (HRf11.out.below hbx)
  have HFf12 := hide (HFf11.out.later hbx)
  have HB12 := hide (HB11.out.trans (hbx.mono HB11.out.size))
  clear HB11 HP11 HX11 HNa11 HRa11 HFa11 HMa11 HNb11 HRb11 HFb11 HMc11 HFc11 HNd11 HRd11 HFd11 HNe11 HRe11 HFe11 HMe11 HNf11 HRf11 HFf11
  have HMg12 := hide (how.below hal)
  have HFg12 := hide (Blk.new w12 26 #[.int .i64 p4, .int .i64 q4])
  clear how hb12 hbx hal
  go_upto_region 16 with fail
  generalize hWW : w12.alloc (.cells #[.int .i64 p4, .int .i64 q4] 26) = W12 at HP12 HX12 HNa12 HRa12 HFa12 HMa12 HNb12 HRb12 HFb12 HMc12 HFc12 HNd12 HRd12 HFd12 HNe12 HRe12 HFe12 HMe12 HNf12 HRf12 HFf12 HMg12 HFg12 HB12 ⊢
  clear hWW
  have HC := hide (HD5.out _ _ _ _ _ HX12.out)
  unfold ndV ndA at HC
  go_wp2_with (refine wpList_load_blk HP12.out Try.underlying34 rfl Try.sizeNode rfl rfl rfl ?_)
  refine HC.out.mono ?_
  clear HC HD5
  rintro e w13 ⟨lv13, vv13, nv13, hv13, rfl, han, hb13⟩
  have hrd := han
  obtain ⟨lo13, lc13, hs1, _, _⟩ := hrd.log.shape
  obtain ⟨vo13, vc13, hs2, _, _⟩ := hrd.votes.shape
  obtain ⟨no13, nc13, hs3, _, _⟩ := hrd.next.shape
  obtain ⟨ho13, hc13, hs4, _, _⟩ := hrd.hav.shape
  subst hs1 hs2 hs3 hs4
  have HRD := hide hrd
  have HA0 := hide (Blk.at0of2 w13 (.cells #[.int .i64 0, .int .i64 0] 26) 34 #[.int .i64 0, .int .i64 0, .int .i64 0, .int .i64 0, .slice none 0 0, .int .i64 0, .int .i64 0, .slice none 0 0, .slice none 0 0, .slice none 0 0])
  have HA1 := hide (Blk.at1 w13 (.cells #[.int .i64 0, .int .i64 0, .int .i64 0, .int .i64 0, .slice none 0 0, .int .i64 0, .int .i64 0, .slice none 0 0, .slice none 0 0, .slice none 0 0] 34) 26 #[.int .i64 0, .int .i64 0])
  have HBN := hide hb13
  clear han hrd hb13
  go_upto_region 17 with (first
    | (refine wpList_store_blk rfl rfl rfl rfl HA0.out rfl Try.sizeNode rfl ?_; intro u13 hN2 hg2; have HN2 := hide hN2; have HG2 := hide hg2; clear hN2 hg2)
    | (refine wpList_store_blk rfl rfl rfl rfl (HA1.out.grown HG2.out (by simp)) rfl Try.sizeFaultR rfl ?_; intro W13 hF3 hg3; have HF3 := hide hF3; have HG3 := hide hg3; clear hF3 hg3))
  have h23 := boxes2 HN2.out HG2.out HF3.out HG3.out
  have hbx := HBN.out.trans (h23.2.mono HBN.out.size)
  have HP13 := hide (HP12.out.later hbx)
  have HX13 := hide (HX12.out.below hbx)
  have HNa13 := hide (HNa12.out.later hbx)
  have HRa13 := hide (HRa12.out.below hbx)
  have HFa13 := hide (HFa12.out.later hbx)
  have HMa13 := hide (HMa12.out.below hbx)
  have HNb13 := hide (HNb12.out.later hbx)
  have HRb13 := hide (HRb12.out.below hbx)
  have HFb13 := hide (HFb12.out.later hbx)
  have HMc13 := hide (HMc12.out.below hbx)
  have HFc13 := hide (HFc12.out.later hbx)
  have HNd13 := hide (HNd12.out.later hbx)
  have HRd13 := hide (HRd12.out.below hbx)
  have HFd13 := hide (HFd12.out.later hbx)
  have HNe13 := hide (HNe12.out.later hbx)
  have HRe13 := hide (HRe12.out.below hbx)
  have HFe13 := hide (HFe12.out.later hbx)
  have HMe13 := hide (HMe12.out.below hbx)
  have HNf13 := hide (HNf12.out.later hbx)
  have HRf13 := hide (HRf12.out.below hbx)
  have HFf13 := hide (HFf12.out.later hbx)
  have HMg13 := hide (HMg12.out.below hbx)
  have HFg13 := hide (HFg12.out.later hbx)
  have HB13 := hide (HB12.out.trans (hbx.mono HB12.out.size))
  clear HB12 HP12 HX12 HNa12 HRa12 HFa12 HMa12 HNb12 HRb12 HFb12 HMc12 HFc12 HNd12 HRd12 HFd12 HNe12 HRe12 HFe12 HMe12 HNf12 HRf12 HFf12 HMg12 HFg12
  have HNh13 := hide h23.1
  have HRh13 := hide (HRD.out.below h23.2)
  have HFh13 := hide HF3.out
  clear HA0 HA1 HN2 HG2 HF3 HG3 h23 hbx HRD HBN
  have fa0 := HFa13.out.cell 0
  have fa1 := HFa13.out.cell 1
  have fal := HFa13.out.lt
  simp at fa0 fa1
  have fb0 := HFb13.out.cell 0
  have fb1 := HFb13.out.cell 1
  have fbl := HFb13.out.lt
  simp at fb0 fb1
  have fc0 := HFc13.out.cell 0
  have fc1 := HFc13.out.cell 1
  have fcl := HFc13.out.lt
  simp at fc0 fc1
  have fd0 := HFd13.out.cell 0
  have fd1 := HFd13.out.cell 1
  have fdl := HFd13.out.lt
  simp at fd0 fd1
  have fe0 := HFe13.out.cell 0
  have fe1 := HFe13.out.cell 1
  have fel := HFe13.out.lt
  simp at fe0 fe1
  have ff0 := HFf13.out.cell 0
  have ff1 := HFf13.out.cell 1
  have ffl := HFf13.out.lt
  simp at ff0 ff1
  have fg0 := HFg13.out.cell 0
  have fg1 := HFg13.out.cell 1
  have fgl := HFg13.out.lt
  simp at fg0 fg1
  have fh0 := HFh13.out.cell 0
  have fh1 := HFh13.out.cell 1
  have fhl := HFh13.out.lt
  simp at fh0 fh1
  have HQ1 := hide (fun W (h : Below W13.heap.size W13 W) => (SameNode_eq X2 _ _ _ _ _ _ _ _ W (HRa13.out.below h) (HRe13.out.below h)).mono fun e W' h2 => And.intro h2.1 (h.trans (h2.2.mono h.size)))
  have HQ2 := hide (fun W (h : Below W13.heap.size W13 W) => (SameMails_eq _ _ M2 W (HMa13.out.below h) (HMe13.out.below h)).mono fun e W' h2 => And.intro h2.1 (h.trans (h2.2.mono h.size)))
  have HQ3 := hide (fun W (h : Below W13.heap.size W13 W) => (SameNode_eq X3 _ _ _ _ _ _ _ _ W (HRb13.out.below h) (HRf13.out.below h)).mono fun e W' h2 => And.intro h2.1 (h.trans (h2.2.mono h.size)))
  have HQ4 := hide (fun W (h : Below W13.heap.size W13 W) => (SameMails_eq _ _ M4 W (HMc13.out.below h) (HMg13.out.below h)).mono fun e W' h2 => And.intro h2.1 (h.trans (h2.2.mono h.size)))
  have HQ5 := hide (fun W (h : Below W13.heap.size W13 W) => (SameNode_eq X5 _ _ _ _ _ _ _ _ W (HRd13.out.below h) (HRh13.out.below h)).mono fun e W' h2 => And.intro h2.1 (h.trans (h2.2.mono h.size)))
  unfold ndV ndA at HQ1 HQ3 HQ5
  have HU0 := hide (Below.refl W13.heap.size W13)
  have HBZ := hide HB13.out
  go_wp2_with (first
    | (go_at_call 20; refine (HQ5.out _ HU4.out).mono ?_; rintro e u5 ⟨rfl, hu5⟩; have HU5 := hide hu5; clear hu5)
    | (refine wpList_load_blkW (HNd13.out.later HU4.out) Try.underlying34 rfl Try.sizeNode rfl rfl rfl ?_)
    | (refine wpList_load_blkW (HNh13.out.later HU4.out) Try.underlying34 rfl Try.sizeNode rfl rfl rfl ?_)
    | (go_at_call 26; refine (HQ4.out _ HU3.out).mono ?_; rintro e u4 ⟨rfl, hu4⟩; have HU4 := hide hu4; clear hu4)
    | (go_at_call 20; refine (HQ3.out _ HU2.out).mono ?_; rintro e u3 ⟨rfl, hu3⟩; have HU3 := hide hu3; clear hu3)
    | (refine wpList_load_blkW (HNb13.out.later HU2.out) Try.underlying34 rfl Try.sizeNode rfl rfl rfl ?_)
    | (refine wpList_load_blkW (HNf13.out.later HU2.out) Try.underlying34 rfl Try.sizeNode rfl rfl rfl ?_)
    | (go_at_call 26; refine (HQ2.out _ HU1.out).mono ?_; rintro e u2 ⟨rfl, hu2⟩; have HU2 := hide hu2; clear hu2)
    | (go_at_call 20; refine (HQ1.out _ HU0.out).mono ?_; rintro e u1 ⟨rfl, hu1⟩; have HU1 := hide hu1; clear hu1)
    | (refine wpList_load_blkW (HNa13.out.later HU0.out) Try.underlying34 rfl Try.sizeNode rfl rfl rfl ?_)
    | (refine wpList_load_blkW (HNe13.out.later HU0.out) Try.underlying34 rfl Try.sizeNode rfl rfl rfl ?_))
  go_ret
  exact ⟨by simp, HBZ.out.trans (HU5.out.mono HBZ.out.size)⟩

end Go.Proofs.Ytddkjpojbflmjah

/-
  From the arguments as the row reads them to what the walks ask of them. Nothing of a program stands here.
-/
namespace Go.Proofs.Ytddkjpojbflmjah
open Go.ChangeShapes Go.WideShapes Go.ChangeAt Go.RowKit

section
variable {H : Type} {enc : TypeId × Value → H} {P : Program} {W : World}

theorem rd_of_cells {w : World} {a : Addr} {len cap : Nat} {xs : List Value} (hl : xs.length = len) (h1 : len ≤ cap) (h2 : cap ≤ maxLen) (h : ∀ i, i < len → w.cell? (a.add i) = xs[i]?) : Rd w (.slice (some a) len cap) xs := by
  refine ⟨some a, cap, by rw [hl], by omega, h2, (fun h => by cases h), fun b hb j u hu => ?_⟩
  cases hb
  rw [h j (by have := (List.getElem?_eq_some_iff.1 hu).1; omega), hu]

theorem open_ic {t e : TypeId} {a : Option Addr} {len cap : Nat} {d : DataW H} {ps : List MemPlace} (ht : P.underlying t = some (.slice e)) (he : P.underlying e = some (.int .i64)) (hc : P.cellsOf e = 1)
    (h : DataW.Trod enc P W 0 (fun _ => true) true t (.slice a len cap) d ps) : ∃ zs : List Int, Rd W (.slice a len cap) (ic zs) := by
  obtain ⟨fuel, hf⟩ := h
  rcases open_ints ht he hc hf with ⟨hcs, _⟩ | ⟨x, l, c, zs, hcs, _, hl, hm, hz, _, hcell, hwz⟩
  · simp [Value.cells] at hcs
    obtain ⟨rfl, rfl, rfl⟩ := hcs
    exact ⟨[], Rd.nil _⟩
  · simp [Value.cells] at hcs
    obtain ⟨rfl, rfl, rfl⟩ := hcs
    simp at hz
    refine ⟨zs.take len, rd_of_cells (by rw [ic_length, List.length_take]; omega) hl hm fun i hi => ?_⟩
    rw [hcell i (by omega)]
    simp [ic, List.getD, hi, show i < zs.length by omega]

theorem open_bc {t e : TypeId} {a : Option Addr} {len cap fuel : Nat} {d : DataW H} {ps : List MemPlace} (ht : P.underlying t = some (.slice e)) (he : P.underlying e = some (.int .u8)) (hc : P.cellsOf e = 1)
    (hf : DataW.trod enc P W 0 (fun _ => true) true fuel t [.slice a len cap] = some (d, ps)) : ∃ bs : List UInt8, Rd W (.slice a len cap) (bc bs) := by
  rcases open_ints ht he hc hf with ⟨hcs, _⟩ | ⟨x, l, c, zs, hcs, _, hl, hm, hz, _, hcell, hwz⟩
  · simp at hcs
    obtain ⟨rfl, rfl, rfl⟩ := hcs
    exact ⟨[], Rd.nil _⟩
  · simp at hcs
    obtain ⟨rfl, rfl, rfl⟩ := hcs
    simp at hz
    refine ⟨(zs.take len).map fun n => UInt8.ofNat n.toNat, rd_of_cells (by rw [bc_length, List.length_map, List.length_take]; omega) hl hm fun i hi => ?_⟩
    rw [hcell i (by omega)]
    have hi' : i < zs.length := by omega
    have hb := bounds_u8 (hwz zs[i] (List.getElem_mem hi'))
    have e : ((UInt8.ofNat zs[i].toNat).toNat : Int) = zs[i] := by
      simp only [UInt8.toNat_ofNat']
      omega
    simp only [bc, List.getElem?_map, List.getElem?_take, if_pos hi, List.getElem?_eq_getElem hi', Option.map_some, List.getD, Option.getD_some, e]

theorem open_bc' {t e : TypeId} {a : Option Addr} {len cap : Nat} {d : DataW H} {ps : List MemPlace} (ht : P.underlying t = some (.slice e)) (he : P.underlying e = some (.int .u8)) (hc : P.cellsOf e = 1)
    (h : DataW.Trod enc P W 0 (fun _ => true) true t (.slice a len cap) d ps) : ∃ bs : List UInt8, Rd W (.slice a len cap) (bc bs) := by
  obtain ⟨fuel, hf⟩ := h
  exact open_bc ht he hc (by simpa [Value.cells] using hf)

theorem weightsAll_mem {e : TypeId} : ∀ {l : List (DataW H)} {d : DataW H} {n : Nat}, d ∈ l → n ∈ d.weights P e → n ∈ DataW.weightsAll P e l
  | x :: l, d, n, hd, hn => by
    simp only [DataW.weightsAll, List.mem_append]
    rcases List.mem_cons.1 hd with rfl | hd
    · exact .inl hn
    · exact .inr (weightsAll_mem hd hn)

/-- A list of texts; none is longer than the form's reach. -/
theorem open_sc {t e : TypeId} {a : Option Addr} {len cap : Nat} {d : DataW H} {ps : List MemPlace} (ht : P.underlying t = some (.slice e)) (he : P.underlying e = some .string) (hc : P.cellsOf e = 1)
    (h : DataW.Trod enc P W 0 (fun _ => true) true t (.slice a len cap) d ps) (hw : ∀ n ∈ d.weights P t, n ≤ reachBytes) : ∃ ss : List (List UInt8), Rd W (.slice a len cap) (sc ss) ∧ ∀ s ∈ ss, s.length ≤ 140737488351232 := by
  obtain ⟨fuel, hf⟩ := h
  rcases open_strings ht he hc hf with ⟨hcs, _⟩ | ⟨x, l, c, zs, hcs, _, hl, hm, hz, hx, hcell, hwz⟩
  · simp [Value.cells] at hcs
    obtain ⟨rfl, rfl, rfl⟩ := hcs
    exact ⟨[], Rd.nil _, by simp⟩
  · simp [Value.cells] at hcs
    obtain ⟨rfl, rfl, rfl⟩ := hcs
    simp at hz
    simp only [Prod.mk.injEq] at hx
    obtain ⟨rfl, _⟩ := hx
    refine ⟨(zs.take len).map fun s => s.data.toList, rd_of_cells (by rw [sc_length, List.length_map, List.length_take]; omega) hl hm fun i hi => ?_, fun s hs => ?_⟩
    · rw [hcell i (by omega)]
      have hi' : i < zs.length := by omega
      simp only [sc, List.getElem?_map, List.getElem?_take, if_pos hi, List.getElem?_eq_getElem hi', Option.map_some, List.getD, Option.getD_some, Array.toArray_toList]
    · obtain ⟨y, hy, rfl⟩ := List.mem_map.1 hs
      have := hw y.data.toList.length (by
        simp only [DataW.weights, ht, List.mem_cons, List.mem_append]
        refine .inr (.inl (weightsAll_mem (d := .lit (.string y.data.toList)) (List.mem_map.2 ⟨y, hy, rfl⟩) ?_))
        simp [DataW.weights])
      simpa [reachBytes] using this

end
end Go.Proofs.Ytddkjpojbflmjah

/-
  From lists of flat structures as the row reads them to what the walks ask of them. Nothing of a program stands here.
-/
namespace Go.Proofs.Ytddkjpojbflmjah
open Go.ChangeShapes Go.WideShapes Go.ChangeAt Go.RowKit Go.Joins Go.Deep

section
variable {H : Type} {enc : TypeId × Value → H} {P : Program} {W : World}

theorem choose_listG {α : Type} {p : Nat → α → Prop} : ∀ (n : Nat), (∀ i, i < n → ∃ x, p i x) → ∃ l : List α, l.length = n ∧ ∀ i x, l[i]? = some x → p i x
  | 0, _ => ⟨[], rfl, fun i x h => by simp at h⟩
  | n + 1, h => by
    obtain ⟨l, hl, hp⟩ := choose_listG n (fun i hi => h i (by omega))
    obtain ⟨x, hx⟩ := h n (by omega)
    refine ⟨l ++ [x], by simp [hl], fun i y hy => ?_⟩
    by_cases hi : i < n
    · rw [List.getElem?_append_left (by omega)] at hy
      exact hp i y hy
    · have hlt := (List.getElem?_eq_some_iff.1 hy).1
      simp at hlt
      have e : i = n := by omega
      subst e
      rw [List.getElem?_append_right (by omega), hl] at hy
      simp at hy
      subst hy
      exact hx

theorem vs_div {α : Type} {K : Nat} {E : En α K} {cs : List α} {j : Nat} {u : Value} (h : (E.vs cs)[j]? = some u) : ∃ i k c, j = i * K + k ∧ k < K ∧ cs[i]? = some c ∧ (E.v c)[k]? = some u := by
  have hl := (List.getElem?_eq_some_iff.1 h).1
  rw [vs_length] at hl
  have hp := E.pos
  have hi : j / K < cs.length := Nat.div_lt_of_lt_mul (by rw [Nat.mul_comm]; exact hl)
  have hk : j % K < K := Nat.mod_lt _ hp
  have e : j = j / K * K + j % K := by rw [Nat.mul_comm]; exact (Nat.div_add_mod j K).symm
  refine ⟨j / K, j % K, cs[j / K], e, hk, List.getElem?_eq_getElem hi, ?_⟩
  rw [← vs_get (E := E) cs (j / K) hi (j % K) hk, ← e, h]

/-- A list of flat structures; 'hel': what one of them reads as. -/
theorem open_gl {α : Type} {K : Nat} (E : En α K) (ok : α → Prop) {t e : TypeId} {a : Option Addr} {len cap : Nat} {d : DataW H} {ps : List MemPlace} (ht : P.underlying t = some (.slice e)) (hC : P.cellsOf e = K)
    (hel : ∀ (fuel : Nat) (cs : List Value) (y : DataW H × List MemPlace), cs.length = K → DataW.trod enc P W 0 (fun _ => true) true fuel e cs = some y → ∃ c : α, cs = E.v c ∧ ok c)
    (h : DataW.Trod enc P W 0 (fun _ => true) true t (.slice a len cap) d ps) : ∃ xs : List α, RdG E W (.slice a len cap) xs ∧ ∀ x ∈ xs, ok x := by
  obtain ⟨fuel, hf⟩ := h
  have hf' : DataW.trod enc P W 0 (fun _ => true) true fuel t [.slice a len cap] = some (d, ps) := by simpa [Value.cells] using hf
  rcases open_slice ht hf' with ⟨hcs, _⟩ | ⟨b, len', cap', m, n, D, Pl, hcs, hb, hl, hm, hmm, hxx, hx⟩
  · simp only [List.cons.injEq, and_true] at hcs
    rw [hcs]
    exact ⟨[], RdG.nil _, by simp⟩
  · simp only [List.cons.injEq, and_true] at hcs
    rw [hcs]
    have hlm : len' ≤ m := by rw [hmm]; split <;> omega
    have each : ∀ i, i < len' → ∃ c : α, (∀ k u, (E.v c)[k]? = some u → W.cell? (b.add (i * K + k)) = some u) ∧ ok c := by
      intro i hi
      obtain ⟨cs', g1, g2⟩ := hx i (by omega)
      rw [hC] at g1
      obtain ⟨_, hlen, hcell⟩ := World.cells?_some g1
      obtain ⟨c, hc, hok⟩ := hel _ cs' _ (by simpa using hlen) g2
      refine ⟨c, fun k u hu => ?_, hok⟩
      have hk : k < K := by have := (List.getElem?_eq_some_iff.1 hu).1; rwa [E.len] at this
      have := hcell k hk
      rw [add_add] at this
      rw [this, hc, hu]
    obtain ⟨cs, hcl, hcp⟩ := choose_listG len' each
    refine ⟨cs, ⟨some b, cap', by rw [hcl], by omega, hm, (fun h => by cases h), fun b' hb' j u hu => ?_⟩, fun c hc => ?_⟩
    · cases hb'
      obtain ⟨i, k, c, rfl, _, hi, hk⟩ := vs_div hu
      exact (hcp i c hi).1 k u hk
    · obtain ⟨i, hi, e⟩ := List.getElem_of_mem hc
      exact (hcp i c (by rw [List.getElem?_eq_getElem hi, e])).2

end
end Go.Proofs.Ytddkjpojbflmjah

/-
  Lists of flat structures as the row reads them.
-/
namespace Go.Proofs.Ytddkjpojbflmjah
open Go.ChangeShapes Go.WideShapes Go.ChangeAt Go.RowKit Go.Joins Go.Deep
set_option linter.unusedVariables false

section
variable {H : Type} {enc : TypeId × Value → H} {P : Program} {W : World}

theorem open_entries1 {e : TypeId} {f0 f1 : Field} (he : P.underlying e = some (.struct #[f0, f1])) (hone : oneCellFields P #[f0, f1] = true)
    (h0 : P.underlying f0.type = some (.int .i64)) (h1 : P.underlying f1.type = some .string)
    (fuel : Nat) (cs : List Value) (y : DataW H × List MemPlace) (hl : cs.length = 2) (h : DataW.trod enc P W 0 (fun _ => true) true fuel e cs = some y) : ∃ c : Et, cs = eE.v c ∧ (True) := by
  obtain ⟨o0, k0⟩ := hone_of hone 0 f0 rfl
  obtain ⟨o1, k1⟩ := hone_of hone 1 f1 rfl
  obtain ⟨xs, k, hk, hxy, _, hxl, hf⟩ := DataW.trod_struct he h
  match xs, hxl, cs, hl with
  | [y0, y1], _, [v0, v1], _ =>
    have q0 := hf 0 f0 rfl
    have q1 := hf 1 f1 rfl
    simp [o0, o1, k0, k1] at q0 q1
    obtain ⟨s0, e0, _, w0⟩ := DataW.trod_int h0 q0
    obtain ⟨s1, e1, _, _⟩ := DataW.trod_string h1 q1
    simp only [List.cons.injEq, and_true] at e0 e1
    subst e0 e1
    exact ⟨⟨s0, s1⟩, rfl, trivial⟩

theorem open_entries {t e : TypeId} {f0 f1 : Field} {a : Option Addr} {len cap : Nat} {d : DataW H} {ps : List MemPlace} (ht : P.underlying t = some (.slice e)) (he : P.underlying e = some (.struct #[f0, f1])) (hone : oneCellFields P #[f0, f1] = true) (hC : P.cellsOf e = 2)
    (h0 : P.underlying f0.type = some (.int .i64)) (h1 : P.underlying f1.type = some .string)
    (h : DataW.Trod enc P W 0 (fun _ => true) true t (.slice a len cap) d ps) : ∃ l : List Et, RdG eE W (.slice a len cap) l ∧ ∀ c ∈ l, (True) :=
  open_gl eE _ ht hC (open_entries1 he hone h0 h1) h

end
end Go.Proofs.Ytddkjpojbflmjah

/-
  Nodes and mails as the row reads them. Nothing of a program stands here. (Written by rfr.py.)
-/
namespace Go.Proofs.Ytddkjpojbflmjah
open Go.ChangeShapes Go.WideShapes Go.ChangeAt Go.RowKit Go.Joins Go.Deep
set_option linter.unusedVariables false

section
variable {H : Type} {enc : TypeId × Value → H} {P : Program} {W : World}

theorem slice_val {t e : TypeId} {v : Value} {n : Nat} {y : DataW H × List MemPlace} (ht : P.underlying t = some (.slice e)) (hf : DataW.trod enc P W 0 (fun _ => true) true n t [v] = some y) : ∃ a len cap, v = .slice a len cap := by
  obtain ⟨d, ps⟩ := y
  rcases open_slice ht hf with ⟨hcs, _⟩ | ⟨b, len', cap', m, n, D, Pl, hcs, _⟩
  · simp only [List.cons.injEq, and_true] at hcs
    exact ⟨_, _, _, hcs⟩
  · simp only [List.cons.injEq, and_true] at hcs
    exact ⟨_, _, _, hcs⟩

theorem open_entV {t e : TypeId} {g0 g1 : Field} {v : Value} {n : Nat} {y : DataW H × List MemPlace} (ht : P.underlying t = some (.slice e)) (he : P.underlying e = some (.struct #[g0, g1])) (hone : oneCellFields P #[g0, g1] = true) (hC : P.cellsOf e = 2) (m0 : P.underlying g0.type = some (.int .i64)) (m1 : P.underlying g1.type = some .string)
    (hf : DataW.trod enc P W 0 (fun _ => true) true n t [v] = some y) : ∃ l : List Et, RdG eE W v l := by
  obtain ⟨a, len, cap, rfl⟩ := slice_val ht hf
  obtain ⟨l, h, _⟩ := open_entries (d := y.1) (ps := y.2) ht he hone hC m0 m1 ⟨n, by simpa [Value.cells] using hf⟩
  exact ⟨l, h⟩

theorem open_ints1 {e : TypeId} (he : P.underlying e = some (.int .i64)) (fuel : Nat) (cs : List Value) (y : DataW H × List MemPlace) (hl : cs.length = 1) (h : DataW.trod enc P W 0 (fun _ => true) true fuel e cs = some y) : ∃ c : Int, cs = iE.v c ∧ WfI c := by
  obtain ⟨s0, e0, _, w0⟩ := DataW.trod_int he h
  exact ⟨s0, e0, w0⟩

theorem open_intV {t e : TypeId} {v : Value} {n : Nat} {y : DataW H × List MemPlace} (ht : P.underlying t = some (.slice e)) (he : P.underlying e = some (.int .i64)) (hC : P.cellsOf e = 1)
    (hf : DataW.trod enc P W 0 (fun _ => true) true n t [v] = some y) : ∃ l : List Int, RdG iE W v l ∧ ∀ z ∈ l, WfI z := by
  obtain ⟨a, len, cap, rfl⟩ := slice_val ht hf
  exact open_gl iE WfI (d := y.1) (ps := y.2) ht hC (open_ints1 he) ⟨n, by simpa [Value.cells] using hf⟩

theorem open_agg10 {r : Reach} {b0 : Nat} {t : TypeId} {f0 f1 f2 f3 f4 f5 f6 f7 f8 f9 : Field} {v : Value} {d : DataW H} {p : List MemPlace} (hs : P.underlying t = some (.struct #[f0, f1, f2, f3, f4, f5, f6, f7, f8, f9])) (hone : oneCellFields P #[f0, f1, f2, f3, f4, f5, f6, f7, f8, f9] = true) (hC : P.cellsOf t = 10)
    (hv : Value.okWide P W r b0 t v) (h : DataW.Trod enc P W 0 (fun _ => true) true t v d p) :
    ∃ (c0 c1 c2 c3 c4 c5 c6 c7 c8 c9 : Value) (n : Nat), v = .agg #[c0, c1, c2, c3, c4, c5, c6, c7, c8, c9] ∧ (∃ y, DataW.trod enc P W 0 (fun _ => true) true n f0.type [c0] = some y) ∧ (∃ y, DataW.trod enc P W 0 (fun _ => true) true n f1.type [c1] = some y) ∧ (∃ y, DataW.trod enc P W 0 (fun _ => true) true n f2.type [c2] = some y) ∧ (∃ y, DataW.trod enc P W 0 (fun _ => true) true n f3.type [c3] = some y) ∧ (∃ y, DataW.trod enc P W 0 (fun _ => true) true n f4.type [c4] = some y) ∧ (∃ y, DataW.trod enc P W 0 (fun _ => true) true n f5.type [c5] = some y) ∧ (∃ y, DataW.trod enc P W 0 (fun _ => true) true n f6.type [c6] = some y) ∧ (∃ y, DataW.trod enc P W 0 (fun _ => true) true n f7.type [c7] = some y) ∧ (∃ y, DataW.trod enc P W 0 (fun _ => true) true n f8.type [c8] = some y) ∧ (∃ y, DataW.trod enc P W 0 (fun _ => true) true n f9.type [c9] = some y) := by
  obtain ⟨cs, rfl, hsz⟩ := okWide_struct hs hv
  obtain ⟨fuel, hf⟩ := h
  obtain ⟨xs, k, hk, hxy, _, hxl, hfld⟩ := DataW.trod_struct hs hf
  obtain ⟨cl⟩ := cs
  have hl : cl.length = 10 := by simpa using hsz.trans hC
  match xs, hxl, cl, hl with
  | [y0, y1, y2, y3, y4, y5, y6, y7, y8, y9], _, [c0, c1, c2, c3, c4, c5, c6, c7, c8, c9], _ =>
    obtain ⟨o0, k0⟩ := hone_of hone 0 f0 rfl
    obtain ⟨o1, k1⟩ := hone_of hone 1 f1 rfl
    obtain ⟨o2, k2⟩ := hone_of hone 2 f2 rfl
    obtain ⟨o3, k3⟩ := hone_of hone 3 f3 rfl
    obtain ⟨o4, k4⟩ := hone_of hone 4 f4 rfl
    obtain ⟨o5, k5⟩ := hone_of hone 5 f5 rfl
    obtain ⟨o6, k6⟩ := hone_of hone 6 f6 rfl
    obtain ⟨o7, k7⟩ := hone_of hone 7 f7 rfl
    obtain ⟨o8, k8⟩ := hone_of hone 8 f8 rfl
    obtain ⟨o9, k9⟩ := hone_of hone 9 f9 rfl
    have q0 := hfld 0 f0 rfl
    have q1 := hfld 1 f1 rfl
    have q2 := hfld 2 f2 rfl
    have q3 := hfld 3 f3 rfl
    have q4 := hfld 4 f4 rfl
    have q5 := hfld 5 f5 rfl
    have q6 := hfld 6 f6 rfl
    have q7 := hfld 7 f7 rfl
    have q8 := hfld 8 f8 rfl
    have q9 := hfld 9 f9 rfl
    simp [Value.cells, o0, k0, o1, k1, o2, k2, o3, k3, o4, k4, o5, k5, o6, k6, o7, k7, o8, k8, o9, k9] at q0 q1 q2 q3 q4 q5 q6 q7 q8 q9
    exact ⟨c0, c1, c2, c3, c4, c5, c6, c7, c8, c9, _, rfl, ⟨_, q0⟩, ⟨_, q1⟩, ⟨_, q2⟩, ⟨_, q3⟩, ⟨_, q4⟩, ⟨_, q5⟩, ⟨_, q6⟩, ⟨_, q7⟩, ⟨_, q8⟩, ⟨_, q9⟩⟩

theorem open_agg9 {r : Reach} {b0 : Nat} {t : TypeId} {f0 f1 f2 f3 f4 f5 f6 f7 f8 : Field} {v : Value} {d : DataW H} {p : List MemPlace} (hs : P.underlying t = some (.struct #[f0, f1, f2, f3, f4, f5, f6, f7, f8])) (hone : oneCellFields P #[f0, f1, f2, f3, f4, f5, f6, f7, f8] = true) (hC : P.cellsOf t = 9)
    (hv : Value.okWide P W r b0 t v) (h : DataW.Trod enc P W 0 (fun _ => true) true t v d p) :
    ∃ (c0 c1 c2 c3 c4 c5 c6 c7 c8 : Value) (n : Nat), v = .agg #[c0, c1, c2, c3, c4, c5, c6, c7, c8] ∧ (∃ y, DataW.trod enc P W 0 (fun _ => true) true n f0.type [c0] = some y) ∧ (∃ y, DataW.trod enc P W 0 (fun _ => true) true n f1.type [c1] = some y) ∧ (∃ y, DataW.trod enc P W 0 (fun _ => true) true n f2.type [c2] = some y) ∧ (∃ y, DataW.trod enc P W 0 (fun _ => true) true n f3.type [c3] = some y) ∧ (∃ y, DataW.trod enc P W 0 (fun _ => true) true n f4.type [c4] = some y) ∧ (∃ y, DataW.trod enc P W 0 (fun _ => true) true n f5.type [c5] = some y) ∧ (∃ y, DataW.trod enc P W 0 (fun _ => true) true n f6.type [c6] = some y) ∧ (∃ y, DataW.trod enc P W 0 (fun _ => true) true n f7.type [c7] = some y) ∧ (∃ y, DataW.trod enc P W 0 (fun _ => true) true n f8.type [c8] = some y) := by
  obtain ⟨cs, rfl, hsz⟩ := okWide_struct hs hv
  obtain ⟨fuel, hf⟩ := h
  obtain ⟨xs, k, hk, hxy, _, hxl, hfld⟩ := DataW.trod_struct hs hf
  obtain ⟨cl⟩ := cs
  have hl : cl.length = 9 := by simpa using hsz.trans hC
  match xs, hxl, cl, hl with
  | [y0, y1, y2, y3, y4, y5, y6, y7, y8], _, [c0, c1, c2, c3, c4, c5, c6, c7, c8], _ =>
    obtain ⟨o0, k0⟩ := hone_of hone 0 f0 rfl
    obtain ⟨o1, k1⟩ := hone_of hone 1 f1 rfl
    obtain ⟨o2, k2⟩ := hone_of hone 2 f2 rfl
    obtain ⟨o3, k3⟩ := hone_of hone 3 f3 rfl
    obtain ⟨o4, k4⟩ := hone_of hone 4 f4 rfl
    obtain ⟨o5, k5⟩ := hone_of hone 5 f5 rfl
    obtain ⟨o6, k6⟩ := hone_of hone 6 f6 rfl
    obtain ⟨o7, k7⟩ := hone_of hone 7 f7 rfl
    obtain ⟨o8, k8⟩ := hone_of hone 8 f8 rfl
    have q0 := hfld 0 f0 rfl
    have q1 := hfld 1 f1 rfl
    have q2 := hfld 2 f2 rfl
    have q3 := hfld 3 f3 rfl
    have q4 := hfld 4 f4 rfl
    have q5 := hfld 5 f5 rfl
    have q6 := hfld 6 f6 rfl
    have q7 := hfld 7 f7 rfl
    have q8 := hfld 8 f8 rfl
    simp [Value.cells, o0, k0, o1, k1, o2, k2, o3, k3, o4, k4, o5, k5, o6, k6, o7, k7, o8, k8] at q0 q1 q2 q3 q4 q5 q6 q7 q8
    exact ⟨c0, c1, c2, c3, c4, c5, c6, c7, c8, _, rfl, ⟨_, q0⟩, ⟨_, q1⟩, ⟨_, q2⟩, ⟨_, q3⟩, ⟨_, q4⟩, ⟨_, q5⟩, ⟨_, q6⟩, ⟨_, q7⟩, ⟨_, q8⟩⟩

theorem open_node {r : Reach} {b0 : Nat} {t te ti : TypeId} {f0 f1 f2 f3 f4 f5 f6 f7 f8 f9 g0 g1 : Field} {v : Value} {d : DataW H} {p : List MemPlace} (hs : P.underlying t = some (.struct #[f0, f1, f2, f3, f4, f5, f6, f7, f8, f9])) (hone : oneCellFields P #[f0, f1, f2, f3, f4, f5, f6, f7, f8, f9] = true) (hC : P.cellsOf t = 10)
    (h0 : P.underlying f0.type = some (.int .i64)) (h1 : P.underlying f1.type = some (.int .i64)) (h2 : P.underlying f2.type = some (.int .i64)) (h3 : P.underlying f3.type = some (.int .i64)) (h4 : P.underlying f4.type = some (.slice te)) (h5 : P.underlying f5.type = some (.int .i64)) (h6 : P.underlying f6.type = some (.int .i64)) (h7 : P.underlying f7.type = some (.slice ti)) (h8 : P.underlying f8.type = some (.slice ti)) (h9 : P.underlying f9.type = some (.slice ti))
    (he : P.underlying te = some (.struct #[g0, g1])) (hone2 : oneCellFields P #[g0, g1] = true) (hC2 : P.cellsOf te = 2) (m0 : P.underlying g0.type = some (.int .i64)) (m1 : P.underlying g1.type = some .string)
    (hi : P.underlying ti = some (.int .i64)) (hC1 : P.cellsOf ti = 1)
    (hv : Value.okWide P W r b0 t v) (h : DataW.Trod enc P W 0 (fun _ => true) true t v d p) : ∃ (x : Nd) (lv vv nv hv : Value), v = ndV x lv vv nv hv ∧ RdNd W x lv vv nv hv ∧ ∀ z ∈ x.votes, WfI z := by
  obtain ⟨c0, c1, c2, c3, c4, c5, c6, c7, c8, c9, n, rfl, ⟨y0, q0⟩, ⟨y1, q1⟩, ⟨y2, q2⟩, ⟨y3, q3⟩, ⟨y4, q4⟩, ⟨y5, q5⟩, ⟨y6, q6⟩, ⟨y7, q7⟩, ⟨y8, q8⟩, ⟨y9, q9⟩⟩ := open_agg10 hs hone hC hv h
  obtain ⟨s0, e0, _, w0⟩ := DataW.trod_int h0 q0
  obtain ⟨s1, e1, _, w1⟩ := DataW.trod_int h1 q1
  obtain ⟨s2, e2, _, w2⟩ := DataW.trod_int h2 q2
  obtain ⟨s3, e3, _, w3⟩ := DataW.trod_int h3 q3
  obtain ⟨l4, r4⟩ := open_entV h4 he hone2 hC2 m0 m1 q4
  obtain ⟨s5, e5, _, w5⟩ := DataW.trod_int h5 q5
  obtain ⟨s6, e6, _, w6⟩ := DataW.trod_int h6 q6
  obtain ⟨l7, r7, z7⟩ := open_intV h7 hi hC1 q7
  obtain ⟨l8, r8, z8⟩ := open_intV h8 hi hC1 q8
  obtain ⟨l9, r9, z9⟩ := open_intV h9 hi hC1 q9
  simp only [List.cons.injEq, and_true] at e0 e1 e2 e3 e5 e6
  subst e0 e1 e2 e3 e5 e6
  exact ⟨⟨s0, s1, s2, s3, l4, s5, s6, l7, l8, l9⟩, c4, c7, c8, c9, rfl, ⟨r4, r7, r8, r9⟩, z7⟩

end
end Go.Proofs.Ytddkjpojbflmjah
