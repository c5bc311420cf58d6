/-
  Texts joined: RaftR3b2, RaftR3b, RaftD1, RaftR5, RaftT4, RaftR8, RaftV2.
-/
import Derived.Test.YtbffmdhogehfnaaMRaftTakes10
/-
  The walk over the document's NodeFault for the Role 2. (Written by rr3d.py.)
-/
namespace Go.Proofs.Ytbffmdhogehfnaa
open Go.RowKit Go.Maps
set_option linter.unusedVariables false

set_option maxRecDepth 100000 in
set_option maxHeartbeats 16000000 in
theorem NodeFault_r2 (x : Nd) (lv vv nv hv : Value) (w : World) (hx : RdNd w x lv vv nv hv) (hok : (nmF x).1 = 0) (hrole : x.role = 2) :
    Calls Try.prog 15 #[ndV x lv vv nv hv] w fun e w' => e = .returned (flt (chkN x)) ∧ Below w.heap.size w w' := by
  have HX := hide hx
  have HROLE := hide hrole
  clear hrole
  obtain ⟨n, id, te, vo, lo, ro, co, vs, ns, hs⟩ := x
  obtain ⟨h1, h2, h3, h4⟩ := hx
  simp only at h1 h2 h3 h4
  obtain ⟨ao, cap, rfl, hc1, hc2⟩ := h1.shape
  obtain ⟨bo, cap2, rfl, hd1, hd2⟩ := h2.shape
  obtain ⟨no, cap3, rfl, _, _⟩ := h3.shape
  obtain ⟨ho, cap4, rfl, _, _⟩ := h4.shape
  have hA := below_alloc2 w (.cells #[.int .i64 n, .int .i64 id, .int .i64 te, .int .i64 vo, .slice ao lo.length cap, .int .i64 ro, .int .i64 co, .slice bo vs.length cap2, .slice no ns.length cap3, .slice ho hs.length cap4] 25) (.cells #[.int .i64 0, .int .i64 0] 30)
  have HB0 := hide (Blk.at0of2 w (.cells #[.int .i64 0, .int .i64 0] 30) 25 #[.int .i64 n, .int .i64 id, .int .i64 te, .int .i64 vo, .slice ao lo.length cap, .int .i64 ro, .int .i64 co, .slice bo vs.length cap2, .slice no ns.length cap3, .slice ho hs.length cap4])
  have HR0 := hide (Blk.at1 w (.cells #[.int .i64 n, .int .i64 id, .int .i64 te, .int .i64 vo, .slice ao lo.length cap, .int .i64 ro, .int .i64 co, .slice bo vs.length cap2, .slice no ns.length cap3, .slice ho hs.length cap4] 25) 30 #[.int .i64 0, .int .i64 0])
  have HA0 := hide hA
  have HLF := hide (LogFault_any _ lo _ (h1.below hA))
  have HLT := hide (fun W (hW : Below w.heap.size w W) => LastTerm_any _ lo W (h1.below hW))
  have HH2 := hide (fun W (hW : Below w.heap.size w W) => h2.below hW)
  have HH3 := hide (fun W (hW : Below w.heap.size w W) => h3.below hW)
  have HH4 := hide (fun W (hW : Below w.heap.size w W) => h4.below hW)
  have HNM : Hid (nmF ⟨n, id, te, vo, lo, ro, co, vs, ns, hs⟩ = if wiB n 1 7 = false ∨ wiB id 0 (n - 1) = false then (3, -1) else if numL te = false ∨ wiB vo 0 n = false ∨ wiB ro 0 2 = false ∨ wiB co 0 lo.length = false then (3, -2) else (0, 0)) := hide rfl
  have HLG : Hid (lgF ⟨n, id, te, vo, lo, ro, co, vs, ns, hs⟩ = if (chkE lo).1 ≠ 0 then chkE lo else if te < lastT lo then (11, -3) else (0, 0)) := hide rfl
  have HCK : Hid (chkN ⟨n, id, te, vo, lo, ro, co, vs, ns, hs⟩ = if (nmF ⟨n, id, te, vo, lo, ro, co, vs, ns, hs⟩).1 ≠ 0 then nmF ⟨n, id, te, vo, lo, ro, co, vs, ns, hs⟩ else if (lgF ⟨n, id, te, vo, lo, ro, co, vs, ns, hs⟩).1 ≠ 0 then lgF ⟨n, id, te, vo, lo, ro, co, vs, ns, hs⟩ else if votesB ⟨n, id, te, vo, lo, ro, co, vs, ns, hs⟩ = false ∨ knownB ⟨n, id, te, vo, lo, ro, co, vs, ns, hs⟩ = false then (5, -3) else (0, 0)) := hide rfl
  have HZE := hide (chkE_z lo)
  unfold maxLen at hd2 hc2
  clear h1 h2 h3 h4 hA
  unfold ndV ndA
  have HN0 := hide (show nmF ⟨n, id, te, vo, lo, ro, co, vs, ns, hs⟩ = (0, 0) from nmF_z _ hok)
  have hcc : (1 ≤ n ∧ n ≤ 7 ∧ 0 ≤ id ∧ id < n) ∧ numL te = true ∧ (0 ≤ vo ∧ vo ≤ n) ∧ (0 ≤ ro ∧ ro ≤ 2) ∧ 0 ≤ co ∧ co ≤ lo.length := by
    have h := HNM.out
    rw [HN0.out] at h
    by_cases h1 : wiB n 1 7 = false ∨ wiB id 0 (n - 1) = false
    · rw [if_pos h1] at h; simp at h
    rw [if_neg h1] at h
    by_cases h2 : numL te = false ∨ wiB vo 0 n = false ∨ wiB ro 0 2 = false ∨ wiB co 0 lo.length = false
    · rw [if_pos h2] at h; simp at h
    simp only [not_or, Bool.not_eq_false, wiB_true] at h1 h2
    exact ⟨⟨h1.1.1, h1.1.2, h1.2.1, by omega⟩, h2.1, h2.2.1, h2.2.2.1, h2.2.2.2⟩
  obtain ⟨⟨hn1, hn7, hi0, hin⟩, hnum, ⟨hv0, hvn⟩, ⟨hr0, hr2⟩, hc0, hcl⟩ := hcc
  have e0 : decide (n < 1) = false := decide_eq_false (by omega)
  have e1 : decide (7 < n) = false := decide_eq_false (by omega)
  have e2 : decide (id < 0) = false := decide_eq_false (by omega)
  have e3 : decide (n ≤ id) = false := decide_eq_false (by omega)
  have e5 : decide (vo < 0) = false := decide_eq_false (by omega)
  have e6 : decide (n < vo) = false := decide_eq_false (by omega)
  have e7 : decide (ro < 0) = false := decide_eq_false (by omega)
  have e8 : decide (2 < ro) = false := decide_eq_false (by omega)
  have e9 : decide (co < 0) = false := decide_eq_false (by omega)
  have e10 : decide ((lo.length : Int) < co) = false := decide_eq_false (by omega)
  have AN := hide hnum
  have HK1 := hide (show chkN ⟨n, id, te, vo, lo, ro, co, vs, ns, hs⟩ = if (lgF ⟨n, id, te, vo, lo, ro, co, vs, ns, hs⟩).1 ≠ 0 then lgF ⟨n, id, te, vo, lo, ro, co, vs, ns, hs⟩ else if votesB ⟨n, id, te, vo, lo, ro, co, vs, ns, hs⟩ = false ∨ knownB ⟨n, id, te, vo, lo, ro, co, vs, ns, hs⟩ = false then (5, -3) else (0, 0) by rw [HCK.out, HN0.out, if_neg (by simp)])
  clear HCK HNM hnum hok
  have HLL0 := hide (fun h => (chkE_fine (l := lo) h).2)
  generalize hK : chkE lo = K at *
  obtain ⟨p, q⟩ := K
  clear hK
  generalize hT : lastT lo = T at *
  clear hT
  go_enter Try.func15, Try.ntmps15
  go_wp2_with (go_at_call 41; refine (lNum_any te _).mono ?_; rw [AN.out]; rintro e w1 ⟨rfl, rfl⟩)
  refine HLF.out.mono ?_
  rintro e w1 ⟨rfl, hb1⟩
  have hN := below_allocG w1 (.cells #[.int .i64 p, .int .i64 q] 30)
  have hB := (HB0.out.later hb1).later hN
  have HB1 := hide hB
  have HR1 := hide ((HR0.out.later hb1).later hN)
  have hAA := HA0.out.trans (hb1.mono HA0.out.size)
  have HA1 := hide (hAA.trans (hN.mono hAA.size))
  have hW := Blk.new w1 30 #[.int .i64 p, .int .i64 q]
  have HT1 := hide hW
  have f0 := hW.cell 0
  have c2 := hB.cell 2
  have c4 := hB.cell 4
  have cl := hB.lt
  simp at f0 c2 c4 cl
  clear hb1 hN hB hAA hW HLF HB0 HR0 HA0
  unfold flt
  by_cases hp : p ≠ 0
  · have HE := hide (show chkN ⟨n, id, te, vo, lo, ro, co, vs, ns, hs⟩ = (p, q) by rw [HK1.out, show lgF ⟨n, id, te, vo, lo, ro, co, vs, ns, hs⟩ = (p, q) by rw [HLG.out, if_pos hp], if_pos hp])
    have hq2 : (p != 0) = true := by simp [hp]
    have hq : (p == 0) = false := beq_eq_false_iff_ne.2 hp
    clear hp
    go_wp2_with (first
      | (refine wpList_load_blk HT1.out Try.underlying30 rfl Try.sizeFaultR rfl rfl rfl ?_)
      | (refine wpList_store_blk rfl rfl rfl rfl HR1.out rfl Try.sizeFaultR rfl ?_; intro w8 hR8 hg8; have HR8 := hide hR8; have HG8 := hide hg8; clear hR8 hg8))
    refine bodyPost_ret (results1_cell Try.results15 rfl (run_loadVar_blk HR8.out Try.underlying30 rfl Try.sizeFaultR)) rfl ?_
    exact ⟨by rw [HE.out] <;> rfl, below_grownO HA1.out HG8.out (fun k hk => by cases hk; omega) HA1.out.size⟩
  obtain rfl : p = 0 := Decidable.not_not.1 hp
  obtain rfl : q = 0 := by have := HZE.out rfl; simpa using this
  have HLG2 := hide (show lgF ⟨n, id, te, vo, lo, ro, co, vs, ns, hs⟩ = if te < T then (11, -3) else (0, 0) by rw [HLG.out, if_neg (by simp)])
  have HLL := hide (HLL0.out rfl)
  clear hp HLG
  have HQ := hide (fun m => HLT.out ((w1.alloc (.cells #[.int .i64 0, .int .i64 0] 30)).drewN m) (below_drewN HA1.out m))
  by_cases hte : te < T
  · have HE := hide (show chkN ⟨n, id, te, vo, lo, ro, co, vs, ns, hs⟩ = (11, -3) by rw [HK1.out, show lgF ⟨n, id, te, vo, lo, ro, co, vs, ns, hs⟩ = (11, -3) by rw [HLG2.out, if_pos hte], if_pos (by simp)])
    go_wp2_with fail
    go_quiet (first | (go_at_call 43; exact Calls.quiet_of_same (HQ.out _)))
    go_wp2_with (first
      | (go_at_call 40; refine (lF_any _ _ _).mono ?_; rintro e w3 ⟨rfl, hb3⟩; have hd3 := (below_drewN (Below.refl _ _) _).trans hb3; have HR3 := hide (HR1.out.later hd3); have HA3 := hide (HA1.out.trans (hd3.mono HA1.out.size)); clear hb3 hd3; unfold flt)
      | (refine wpList_store_blk rfl rfl rfl rfl HR3.out rfl Try.sizeFaultR rfl ?_; intro w8 hR8 hg8; have HR8 := hide hR8; have HG8 := hide hg8; clear hR8 hg8))
    refine bodyPost_ret (results1_cell Try.results15 rfl (run_loadVar_blk HR8.out Try.underlying30 rfl Try.sizeFaultR)) rfl ?_
    exact ⟨by rw [HE.out] <;> rfl, below_grownO HA3.out HG8.out (fun k hk => by cases hk; omega) HA3.out.size⟩
  have HK2 := hide (show chkN ⟨n, id, te, vo, lo, ro, co, vs, ns, hs⟩ = if votesB ⟨n, id, te, vo, lo, ro, co, vs, ns, hs⟩ = false ∨ knownB ⟨n, id, te, vo, lo, ro, co, vs, ns, hs⟩ = false then (5, -3) else (0, 0) by rw [HK1.out, show lgF ⟨n, id, te, vo, lo, ro, co, vs, ns, hs⟩ = (0, 0) by rw [HLG2.out, if_neg hte], if_neg (by simp)])
  clear HK1 HLG2
  go_wp2_with fail
  go_quiet (first | (go_at_call 43; exact Calls.quiet_of_same (HQ.out _)))
  go_wp2_with fail
  refine (lF_any _ _ _).mono ?_
  rintro e w3 ⟨rfl, hb3⟩
  have hd3 := (below_drewN (Below.refl (w1.alloc (.cells #[.int .i64 0, .int .i64 0] 30)).heap.size (w1.alloc (.cells #[.int .i64 0, .int .i64 0] 30))) nq).trans hb3
  have hN := below_allocG w3 (.cells #[.int .i64 5, .int .i64 (-3)] 30)
  have HBW := hide ((HB1.out.later hd3).later hN)
  have HRW := hide ((HR1.out.later hd3).later hN)
  have hAA := HA1.out.trans (hd3.mono HA1.out.size)
  have HAW := hide (hAA.trans (hN.mono hAA.size))
  have HTW := hide (Blk.new w3 30 #[.int .i64 5, .int .i64 (-3)])
  have HSW := hide (show w.heap.size + 1 < w3.heap.size from (HR1.out.later hd3).lt)
  clear hb3 hd3 hN hAA f0 c2 c4 cl HB1 HR1 HA1 HT1 HQ hte e0 e1 e2 e3 e5 e6 e7 e8 e9 e10
  unfold flt
  go_upto_region 11 with fail
  generalize hWW : w3.alloc (.cells #[.int .i64 5, .int .i64 (-3)] 30) = W at HBW HRW HAW HTW ⊢
  clear hWW
  have g0 := HBW.out.cell 0
  have g1 := HBW.out.cell 1
  have g4 := HBW.out.cell 4
  have g5 := HBW.out.cell 5
  have g7 := HBW.out.cell 7
  have g8 := HBW.out.cell 8
  have g9 := HBW.out.cell 9
  have gl := HBW.out.lt
  simp at g0 g1 g4 g5 g7 g8 g9
  have t0 := HTW.out.cell 0
  simp at t0
  have hlc : (lo.length : Int) ≤ 100 := by
    have := HLL.out
    omega
  have hro : ro = 2 := HROLE.out
  have HRO := hide hro
  all_goals
    have HN1 := hide (show ro ≠ 1 by omega)
    have rr1 : (ro != 1) = true := by rw [hro]; rfl
    have rr2 : (ro != 2) = false := by rw [hro]; rfl
    have rr3 : (ro == 1) = false := by rw [hro]; rfl
    have rr4 : (ro == 2) = true := by rw [hro]; rfl
    clear hro hr0 hr2
    by_cases k0 : 0 < vs.length
    · have HE := hide (HK2.out.trans (if_pos (.inl (by rw [votesB_no HN1.out]; exact decide_eq_false (by simp only; omega)))))
      have d0 : decide (0 < (vs.length : Int)) = true := decide_eq_true (by omega)
      go_upto_region 12 with fail
      go_wp2_with (first
        | (refine wpList_load_blk HTW.out Try.underlying30 rfl Try.sizeFaultR rfl rfl rfl ?_)
        | (refine wpList_store_blk rfl rfl rfl rfl HRW.out rfl Try.sizeFaultR rfl ?_; intro w8 hR8 hg8; have HR8 := hide hR8; have HG8 := hide hg8; clear hR8 hg8))
      refine bodyPost_ret (results1_cell Try.results15 rfl (run_loadVar_blk HR8.out Try.underlying30 rfl Try.sizeFaultR)) rfl ?_
      exact ⟨by rw [HE.out] <;> rfl, below_grownO HAW.out HG8.out (fun k hk => by cases hk; omega) HAW.out.size⟩
    have d0 : decide (0 < (vs.length : Int)) = false := decide_eq_false (by omega)
    have HVT := hide (show votesB ⟨n, id, te, vo, lo, ro, co, vs, ns, hs⟩ = true by rw [votesB_no HN1.out]; exact decide_eq_true (by simp only; omega))
    by_cases k1 : (ns.length : Int) = n
    case neg =>
      have HE := hide (HK2.out.trans (if_pos (.inr (by unfold knownB; rw [ofB_two HRO.out]; simp only; rw [decide_eq_false k1]; rfl))))
      have d1 : ((ns.length : Int) != n) = true := by simp [k1]
      go_upto_region 23 with fail
      go_wp2_with (first
        | (refine wpList_load_blk HTW.out Try.underlying30 rfl Try.sizeFaultR rfl rfl rfl ?_)
        | (refine wpList_store_blk rfl rfl rfl rfl HRW.out rfl Try.sizeFaultR rfl ?_; intro w8 hR8 hg8; have HR8 := hide hR8; have HG8 := hide hg8; clear hR8 hg8))
      refine bodyPost_ret (results1_cell Try.results15 rfl (run_loadVar_blk HR8.out Try.underlying30 rfl Try.sizeFaultR)) rfl ?_
      exact ⟨by rw [HE.out] <;> rfl, below_grownO HAW.out HG8.out (fun k hk => by cases hk; omega) HAW.out.size⟩
    have d1 : ((ns.length : Int) != n) = false := by simp [k1]
    by_cases k2 : (hs.length : Int) = n
    case neg =>
      have HE := hide (HK2.out.trans (if_pos (.inr (by unfold knownB; rw [ofB_two (l := hs) HRO.out]; simp only; rw [decide_eq_false k2]; simp))))
      have d2 : ((hs.length : Int) != n) = true := by simp [k2]
      go_upto_region 23 with fail
      go_wp2_with (first
        | (refine wpList_load_blk HTW.out Try.underlying30 rfl Try.sizeFaultR rfl rfl rfl ?_)
        | (refine wpList_store_blk rfl rfl rfl rfl HRW.out rfl Try.sizeFaultR rfl ?_; intro w8 hR8 hg8; have HR8 := hide hR8; have HG8 := hide hg8; clear hR8 hg8))
      refine bodyPost_ret (results1_cell Try.results15 rfl (run_loadVar_blk HR8.out Try.underlying30 rfl Try.sizeFaultR)) rfl ?_
      exact ⟨by rw [HE.out] <;> rfl, below_grownO HAW.out HG8.out (fun k hk => by cases hk; omega) HAW.out.size⟩
    have d2 : ((hs.length : Int) != n) = false := by simp [k2]
    have HK12 := hide (And.intro k1 k2)
    clear k1 k2
    go_wp2_with fail
    go_loopw [6] (fun iv wr => ∃ j : Nat, (j : Int) ≤ n ∧ iv = .int .i64 j ∧ (∀ (i : Nat) u, i < j → ns[i]? = some u → 1 ≤ u ∧ u ≤ lo.length + 1) ∧ (∀ (i : Nat) u, i < j → hs[i]? = some u → 0 ≤ u ∧ u ≤ lo.length) ∧ Below W.heap.size W wr)
      (fun iv _ => n.toNat - (intOf iv).toNat)
    case atStart => exact ⟨0, by omega, rfl, fun i u h => by omega, fun i u h => by omega, Below.refl _ _⟩
    case round =>
      obtain ⟨j, hj, rfl, hg1, hg2, hbr⟩ := hrel
      have HG1 := hide hg1
      have HG2 := hide hg2
      have HBR := hide hbr
      have hAr := HAW.out.trans (hbr.mono HAW.out.size)
      have HAR := hide hAr
      have HBr := hide (HBW.out.later hbr)
      have HRr := hide (HRW.out.later hbr)
      have HTr := hide (HTW.out.later hbr)
      have u0 := HBr.out.cell 0
      have u4 := HBr.out.cell 4
      have u8 := HBr.out.cell 8
      have u9 := HBr.out.cell 9
      have ul := HBr.out.lt
      simp at u0 u4 u8 u9
      have v0 := HTr.out.cell 0
      have vl := HTr.out.lt
      simp at v0
      clear hg1 hg2 hbr
      have hll := hlc
      have hwl : IntKind.i64.wrap ((lo.length : Int) + 1) = (lo.length : Int) + 1 := by rw [IntKind.wrap_i64]; omega
      by_cases hlt : (j : Int) < n
      · have hd : decide ((j : Int) < n) = true := decide_eq_true hlt
        obtain ⟨a, ha⟩ : ∃ v, ns[j]? = some v := ⟨_, List.getElem?_eq_getElem (by have := HK12.out.1; omega)⟩
        obtain ⟨h', hh⟩ : ∃ v, hs[j]? = some v := ⟨_, List.getElem?_eq_getElem (by have := HK12.out.2; omega)⟩
        obtain ⟨b1, off1, rfl, hb1, q1⟩ := (HH3.out wr hAr).hereI ha
        obtain ⟨b2, off2, rfl, hb2, q2⟩ := (HH4.out wr hAr).hereI hh
        have hk1 : (0 : Int) ≤ (j : Int) := by omega
        have hk2 : (j : Int) < (ns.length : Int) := by have := HK12.out.1; omega
        have hk3 : (j : Int) < (hs.length : Int) := by have := HK12.out.2; omega
        have HAM := hide (List.mem_of_getElem? ha)
        have HHM := hide (List.mem_of_getElem? hh)
        have HAA := hide ha
        have HHH := hide hh
        clear ha hh hAr
        by_cases z0 : a < 1
        · have HE := hide (HK2.out.trans (if_pos (.inr (by unfold knownB; rw [ofB_out (x := ⟨n, id, te, vo, lo, ro, co, vs, ns, hs⟩) (l := ns) HRO.out HAM.out (by simp only; omega)]; rfl))))
          have y0 : decide (a < 1) = true := decide_eq_true z0
          go_wp2_with fail
          go_quiet (fail)
          go_upto_region 28 with fail
          go_wp2_with (first
            | (refine wpList_load_blk HTr.out Try.underlying30 rfl Try.sizeFaultR rfl rfl rfl ?_)
            | (refine wpList_store_blk rfl rfl rfl rfl HRr.out rfl Try.sizeFaultR rfl ?_; intro w8 hR8 hg8; have HR8 := hide hR8; have HG8 := hide hg8; clear hR8 hg8))
          refine bodyPost_ret (results1_cell Try.results15 rfl (run_loadVar_blk HR8.out Try.underlying30 rfl Try.sizeFaultR)) rfl ?_
          exact ⟨by rw [HE.out] <;> rfl, below_grownO (below_drewN HAR.out _) HG8.out (fun k hk => by cases hk; omega) (below_drewN HAR.out _).size⟩
        have y0 : decide (a < 1) = false := decide_eq_false z0
        by_cases z1 : (lo.length : Int) + 1 < a
        · have HE := hide (HK2.out.trans (if_pos (.inr (by unfold knownB; rw [ofB_out (x := ⟨n, id, te, vo, lo, ro, co, vs, ns, hs⟩) (l := ns) HRO.out HAM.out (by simp only; omega)]; rfl))))
          have y1 : decide ((lo.length : Int) + 1 < a) = true := decide_eq_true z1
          go_wp2_with fail
          go_quiet (fail)
          go_upto_region 28 with fail
          go_wp2_with (first
            | (refine wpList_load_blk HTr.out Try.underlying30 rfl Try.sizeFaultR rfl rfl rfl ?_)
            | (refine wpList_store_blk rfl rfl rfl rfl HRr.out rfl Try.sizeFaultR rfl ?_; intro w8 hR8 hg8; have HR8 := hide hR8; have HG8 := hide hg8; clear hR8 hg8))
          refine bodyPost_ret (results1_cell Try.results15 rfl (run_loadVar_blk HR8.out Try.underlying30 rfl Try.sizeFaultR)) rfl ?_
          exact ⟨by rw [HE.out] <;> rfl, below_grownO (below_drewN HAR.out _) HG8.out (fun k hk => by cases hk; omega) (below_drewN HAR.out _).size⟩
        have y1 : decide ((lo.length : Int) + 1 < a) = false := decide_eq_false z1
        by_cases z2 : h' < 0
        · have HE := hide (HK2.out.trans (if_pos (.inr (by unfold knownB; rw [ofB_out (x := ⟨n, id, te, vo, lo, ro, co, vs, ns, hs⟩) (l := hs) HRO.out HHM.out (by simp only; omega)]; simp))))
          have y2 : decide (h' < 0) = true := decide_eq_true z2
          go_wp2_with fail
          go_quiet (fail)
          go_upto_region 28 with fail
          go_wp2_with (first
            | (refine wpList_load_blk HTr.out Try.underlying30 rfl Try.sizeFaultR rfl rfl rfl ?_)
            | (refine wpList_store_blk rfl rfl rfl rfl HRr.out rfl Try.sizeFaultR rfl ?_; intro w8 hR8 hg8; have HR8 := hide hR8; have HG8 := hide hg8; clear hR8 hg8))
          refine bodyPost_ret (results1_cell Try.results15 rfl (run_loadVar_blk HR8.out Try.underlying30 rfl Try.sizeFaultR)) rfl ?_
          exact ⟨by rw [HE.out] <;> rfl, below_grownO (below_drewN HAR.out _) HG8.out (fun k hk => by cases hk; omega) (below_drewN HAR.out _).size⟩
        have y2 : decide (h' < 0) = false := decide_eq_false z2
        by_cases z3 : (lo.length : Int) < h'
        · have HE := hide (HK2.out.trans (if_pos (.inr (by unfold knownB; rw [ofB_out (x := ⟨n, id, te, vo, lo, ro, co, vs, ns, hs⟩) (l := hs) HRO.out HHM.out (by simp only; omega)]; simp))))
          have y3 : decide ((lo.length : Int) < h') = true := decide_eq_true z3
          go_wp2_with fail
          go_quiet (fail)
          go_upto_region 28 with fail
          go_wp2_with (first
            | (refine wpList_load_blk HTr.out Try.underlying30 rfl Try.sizeFaultR rfl rfl rfl ?_)
            | (refine wpList_store_blk rfl rfl rfl rfl HRr.out rfl Try.sizeFaultR rfl ?_; intro w8 hR8 hg8; have HR8 := hide hR8; have HG8 := hide hg8; clear hR8 hg8))
          refine bodyPost_ret (results1_cell Try.results15 rfl (run_loadVar_blk HR8.out Try.underlying30 rfl Try.sizeFaultR)) rfl ?_
          exact ⟨by rw [HE.out] <;> rfl, below_grownO (below_drewN HAR.out _) HG8.out (fun k hk => by cases hk; omega) (below_drewN HAR.out _).size⟩
        have y3 : decide ((lo.length : Int) < h') = false := decide_eq_false z3
        go_wp2_with fail
        go_quiet (fail)
        go_wp2_with fail
        go_roundw
        case rel => exact ⟨j + 1, by omega, by go_num, fun i u hi hu => by
          by_cases e : i = j
          · subst e
            rw [HAA.out] at hu
            cases hu
            omega
          · exact HG1.out i u (by omega) hu, fun i u hi hu => by
          by_cases e : i = j
          · subst e
            rw [HHH.out] at hu
            cases hu
            omega
          · exact HG2.out i u (by omega) hu, below_drewN HBR.out _⟩
        case measure => simp [intOf]; omega
      · have hd : decide ((j : Int) < n) = false := decide_eq_false hlt
        have HE := hide (HK2.out.trans (if_neg (by
          have e1 : ofB ⟨n, id, te, vo, lo, ro, co, vs, ns, hs⟩ ns 1 (lo.length + 1) = true := ofB_in HRO.out HK12.out.1 (fun u hu => by
            obtain ⟨i, hi, e⟩ := List.mem_iff_getElem.1 hu
            exact HG1.out i u (by have := HK12.out.1; omega) (by rw [List.getElem?_eq_getElem hi, e]))
          have e2 : ofB ⟨n, id, te, vo, lo, ro, co, vs, ns, hs⟩ hs 0 lo.length = true := ofB_in HRO.out HK12.out.2 (fun u hu => by
            obtain ⟨i, hi, e⟩ := List.mem_iff_getElem.1 hu
            exact HG2.out i u (by have := HK12.out.2; omega) (by rw [List.getElem?_eq_getElem hi, e]))
          have e3 : knownB ⟨n, id, te, vo, lo, ro, co, vs, ns, hs⟩ = true := by unfold knownB; simp only; rw [e1, e2]; rfl
          rw [HVT.out, e3]
          simp)))
        clear hAr
        go_upto_region 29 with fail
        go_wp2_with (refine wpList_store_blk rfl rfl rfl rfl HRr.out rfl Try.sizeFaultR rfl ?_; intro w8 hR8 hg8; have HR8 := hide hR8; have HG8 := hide hg8; clear hR8 hg8)
        refine bodyPost_ret (results1_cell Try.results15 rfl (run_loadVar_blk HR8.out Try.underlying30 rfl Try.sizeFaultR)) rfl ?_
        exact ⟨by rw [HE.out] <;> rfl, below_grownO HAR.out HG8.out (fun k hk => by cases hk; omega) HAR.out.size⟩

end Go.Proofs.Ytbffmdhogehfnaa

/-
  The walk over the document's NodeFault. (Written by rr3d.py.)
-/
namespace Go.Proofs.Ytbffmdhogehfnaa
open Go.RowKit Go.Maps
set_option linter.unusedVariables false

theorem NodeFault_any (x : Nd) (lv vv nv hv : Value) (w : World) (hx : RdNd w x lv vv nv hv) :
    Calls Try.prog 15 #[ndV x lv vv nv hv] w fun e w' => e = .returned (flt (chkN x)) ∧ Below w.heap.size w w' := by
  by_cases h : (nmF x).1 = 0
  · have h2 : 0 ≤ x.role ∧ x.role ≤ 2 := by
      unfold nmF at h
      by_cases h4 : wiB x.n 1 7 = false ∨ wiB x.id 0 (x.n - 1) = false
      · rw [if_pos h4] at h; simp at h
      rw [if_neg h4] at h
      by_cases h5 : numL x.term = false ∨ wiB x.vote 0 x.n = false ∨ wiB x.role 0 2 = false ∨ wiB x.com 0 x.log.length = false
      · rw [if_pos h5] at h; simp at h
      simp only [not_or, Bool.not_eq_false, wiB_true] at h5
      exact h5.2.2.1
    rcases (show x.role = 0 ∨ x.role = 1 ∨ x.role = 2 by omega) with hr | hr | hr
    · exact NodeFault_r0 x lv vv nv hv w hx h hr
    · exact NodeFault_r1 x lv vv nv hv w hx h hr
    · exact NodeFault_r2 x lv vv nv hv w hx h hr
  · exact NodeFault_bad x lv vv nv hv w hx h

end Go.Proofs.Ytbffmdhogehfnaa

/-
  A node of the document in memory. (Written by rd1.py.)
-/
namespace Go.Proofs.Ytbffmdhogehfnaa
open Go.RowKit Go.Maps
set_option linter.unusedVariables false

/-- A node in memory, with rows of its own. -/
structure Dm (w : World) (lab : Nat → Nat) (B : Nat) (x : Nd) (lv vv nv hv : Value) : Prop where
  blk : Blk w B 25 (ndA x lv vv nv hv)
  lb : lab B = 5
  log : Row w lab 1 65 2 lv x.log.length (eE.vs x.log)
  vot : Row w lab 2 3 1 vv x.votes.length (iE.vs x.votes)
  nxt : Row w lab 3 3 1 nv x.next.length (iE.vs x.next)
  hav : Row w lab 4 3 1 hv x.hav.length (iE.vs x.hav)
  ok : LbOk 0 w lab

theorem Dm.below {w w' : World} {lab : Nat → Nat} {B : Nat} {x : Nd} {lv vv nv hv : Value} (h : Dm w lab B x lv vv nv hv) (hb : Below w.heap.size w w') : Dm w' lab B x lv vv nv hv := by
  have hc : Chg 0 w w' lab lab (fun _ => False) := Chg.below _ h.ok hb
  exact ⟨h.blk.later hb, h.lb, h.log.keep hc (fun q => q), h.vot.keep hc (fun q => q), h.nxt.keep hc (fun q => q), h.hav.keep hc (fun q => q), hc.ok⟩

/-- A node, while its blocks stay. -/
theorem Dm.keep {w w' : World} {lab lab' : Nat → Nat} {S : Nat → Prop} {B : Nat} {x : Nd} {lv vv nv hv : Value} (h : Dm w lab B x lv vv nv hv) (hc : Chg 0 w w' lab lab' S) (hS : ∀ i, 1 ≤ i → i ≤ 5 → ¬ S i) : Dm w' lab' B x lv vv nv hv :=
  ⟨h.blk.keep hc (by rw [h.lb]; exact hS 5 (by omega) (by omega)), (hc.labs B h.blk.lt).trans h.lb, h.log.keep hc (hS 1 (by omega) (by omega)), h.vot.keep hc (hS 2 (by omega) (by omega)), h.nxt.keep hc (hS 3 (by omega) (by omega)), h.hav.keep hc (hS 4 (by omega) (by omega)), hc.ok⟩

/-- The block alone is written: what it tells then. -/
theorem Dm.wrote {w w' : World} {lab : Nat → Nat} {B : Nat} {x y : Nd} {lv vv nv hv vv' nv' hv' : Value} (h : Dm w lab B x lv vv nv hv) (hg : w.grownBy w' (some B)) (hB : Blk w' B 25 (ndA y lv vv' nv' hv')) (hl : y.log = x.log)
    (hv2 : (vv' = vv ∧ y.votes = x.votes) ∨ (vv' = .slice none 0 0 ∧ y.votes = [])) (hn2 : (nv' = nv ∧ y.next = x.next) ∨ (nv' = .slice none 0 0 ∧ y.next = [])) (hh2 : (hv' = hv ∧ y.hav = x.hav) ∨ (hv' = .slice none 0 0 ∧ y.hav = [])) :
    Dm w' lab B y lv vv' nv' hv' ∧ Chg 0 w w' lab lab (fun i => i = 5) := by
  have hc : Chg 0 w w' lab lab (fun i => i = 5) := Chg.grown h.ok hg h.lb
  refine ⟨⟨hB, h.lb, by rw [hl]; exact h.log.keep hc (by omega), ?_, ?_, ?_, hc.ok⟩, hc⟩
  · rcases hv2 with ⟨rfl, e⟩ | ⟨rfl, e⟩ <;> rw [e]
    · exact h.vot.keep hc (by omega)
    · exact Row.nilR
  · rcases hn2 with ⟨rfl, e⟩ | ⟨rfl, e⟩ <;> rw [e]
    · exact h.nxt.keep hc (by omega)
    · exact Row.nilR
  · rcases hh2 with ⟨rfl, e⟩ | ⟨rfl, e⟩ <;> rw [e]
    · exact h.hav.keep hc (by omega)
    · exact Row.nilR

theorem Dm.setNext {w : World} {lab : Nat → Nat} {B g n cap : Nat} {y : Nd} {lv vv hv : Value} (h : Dm w lab B y lv vv (.slice (some ⟨g, 0, none⟩) n cap) hv) (k : Nat) (u : Int) :
    Dm (w.setCell ⟨g, k, none⟩ (.int .i64 u)) lab B { y with next := y.next.set k u } lv vv (.slice (some ⟨g, 0, none⟩) n cap) hv ∧ Chg 0 w (w.setCell ⟨g, k, none⟩ (.int .i64 u)) lab lab (fun i => i = 3) := by
  have hrow := h.nxt
  have hlg : lab g = 3 := hrow.2 g (by simp [Value.ownBlock])
  have hn : n = y.next.length := by
    obtain ⟨ao', cap', hv'⟩ := owns_shapeK hrow.1
    simp only [Value.slice.injEq] at hv'
    exact hv'.2.1
  have hc : Chg 0 w (w.setCell ⟨g, k, none⟩ (.int .i64 u)) lab lab (fun i => i = 3) := Chg.grown h.ok (grown_setCell w g k _) hlg
  have hr : Row (w.setCell ⟨g, k, none⟩ (.int .i64 u)) lab 3 3 1 (.slice (some ⟨g, 0, none⟩) n cap) (y.next.set k u).length (iE.vs (y.next.set k u)) := by
    refine ⟨?_, hrow.2⟩
    have h1 := hrow.1
    rw [← hn] at h1
    have h2 := owns_setCell h1 k (.int .i64 u)
    rw [List.length_set, ← hn, vs_setI]
    exact h2
  exact ⟨⟨h.blk.keep hc (by rw [h.lb]; omega), h.lb, h.log.keep hc (by omega), h.vot.keep hc (by omega), hr, h.hav.keep hc (by omega), hc.ok⟩, hc⟩

theorem Dm.setHave {w : World} {lab : Nat → Nat} {B g n cap : Nat} {y : Nd} {lv vv nv : Value} (h : Dm w lab B y lv vv nv (.slice (some ⟨g, 0, none⟩) n cap)) (k : Nat) (u : Int) :
    Dm (w.setCell ⟨g, k, none⟩ (.int .i64 u)) lab B { y with hav := y.hav.set k u } lv vv nv (.slice (some ⟨g, 0, none⟩) n cap) ∧ Chg 0 w (w.setCell ⟨g, k, none⟩ (.int .i64 u)) lab lab (fun i => i = 4) := by
  have hrow := h.hav
  have hlg : lab g = 4 := hrow.2 g (by simp [Value.ownBlock])
  have hn : n = y.hav.length := by
    obtain ⟨ao', cap', hv'⟩ := owns_shapeK hrow.1
    simp only [Value.slice.injEq] at hv'
    exact hv'.2.1
  have hc : Chg 0 w (w.setCell ⟨g, k, none⟩ (.int .i64 u)) lab lab (fun i => i = 4) := Chg.grown h.ok (grown_setCell w g k _) hlg
  have hr : Row (w.setCell ⟨g, k, none⟩ (.int .i64 u)) lab 4 3 1 (.slice (some ⟨g, 0, none⟩) n cap) (y.hav.set k u).length (iE.vs (y.hav.set k u)) := by
    refine ⟨?_, hrow.2⟩
    have h1 := hrow.1
    rw [← hn] at h1
    have h2 := owns_setCell h1 k (.int .i64 u)
    rw [List.length_set, ← hn, vs_setI]
    exact h2
  exact ⟨⟨h.blk.keep hc (by rw [h.lb]; omega), h.lb, h.log.keep hc (by omega), h.vot.keep hc (by omega), h.nxt.keep hc (by omega), hr, hc.ok⟩, hc⟩

/-- The votes grow. -/
theorem Dm.appVotes {w wa w5 w6 : World} {lab : Nat → Nat} {B : Nat} {y : Nd} {lv vv nv hv v5 : Value} {l : List Int} (h : Dm w lab B y lv vv nv hv) (hb : Below w.heap.size w wa) (ho : w5.ownsRow 0 3 1 v5 l.length (iE.vs l)) (hg : wa.grownBy w5 vv.ownBlock) (hat : OnAt wa vv v5) (hg6 : w5.grownBy w6 (some B)) (hB : Blk w6 B 25 (ndA { y with votes := l } lv v5 nv hv)) :
    Dm w6 (labTo lab v5.ownBlock 2) B { y with votes := l } lv v5 nv hv ∧ Chg 0 w w6 lab (labTo lab v5.ownBlock 2) (fun i => i = 5 ∨ i = 2) := by
  have hc0 : Chg 0 w wa lab lab (fun i => i = 5 ∨ i = 2) := Chg.below _ h.ok hb
  have hc1 : Chg 0 wa w5 lab (labTo lab v5.ownBlock 2) (fun i => i = 5 ∨ i = 2) := Chg.row hc0.ok h.vot.2 hg (.inr rfl) hat (ownBlock_lt ho)
  have hc01 := hc0.trans hc1
  have hlb : labTo lab v5.ownBlock 2 B = 5 := (hc01.labs B h.blk.lt).trans h.lb
  have hc2 : Chg 0 w5 w6 (labTo lab v5.ownBlock 2) (labTo lab v5.ownBlock 2) (fun i => i = 5) := Chg.grown hc1.ok hg6 hlb
  have hc := hc01.trans (hc2.mono (fun i hi => .inl hi))
  exact ⟨⟨hB, hlb, h.log.keep hc (by omega), (Row.grew (lab := lab) (i := 2) ho).keep hc2 (by omega), h.nxt.keep hc (by omega), h.hav.keep hc (by omega), hc2.ok⟩, hc⟩

/-- The log grows. -/
theorem Dm.appLog {w wa w5 w6 : World} {lab : Nat → Nat} {B : Nat} {y : Nd} {lv vv nv hv v5 : Value} {l : List Et} (h : Dm w lab B y lv vv nv hv) (hb : Below w.heap.size w wa) (ho : w5.ownsRow 0 65 2 v5 l.length (eE.vs l)) (hg : wa.grownBy w5 lv.ownBlock) (hat : OnAt wa lv v5) (hg6 : w5.grownBy w6 (some B)) (hB : Blk w6 B 25 (ndA { y with log := l } v5 vv nv hv)) :
    Dm w6 (labTo lab v5.ownBlock 1) B { y with log := l } v5 vv nv hv ∧ Chg 0 w w6 lab (labTo lab v5.ownBlock 1) (fun i => i = 5 ∨ i = 1) := by
  have hc0 : Chg 0 w wa lab lab (fun i => i = 5 ∨ i = 1) := Chg.below _ h.ok hb
  have hc1 : Chg 0 wa w5 lab (labTo lab v5.ownBlock 1) (fun i => i = 5 ∨ i = 1) := Chg.row hc0.ok h.log.2 hg (.inr rfl) hat (ownBlock_lt ho)
  have hc01 := hc0.trans hc1
  have hlb : labTo lab v5.ownBlock 1 B = 5 := (hc01.labs B h.blk.lt).trans h.lb
  have hc2 : Chg 0 w5 w6 (labTo lab v5.ownBlock 1) (labTo lab v5.ownBlock 1) (fun i => i = 5) := Chg.grown hc1.ok hg6 hlb
  have hc := hc01.trans (hc2.mono (fun i hi => .inl hi))
  exact ⟨⟨hB, hlb, (Row.grew (lab := lab) (i := 1) ho).keep hc2 (by omega), h.vot.keep hc (by omega), h.nxt.keep hc (by omega), h.hav.keep hc (by omega), hc2.ok⟩, hc⟩

/-- A list grows. -/
theorem Dm.appNext {w wa w5 w6 : World} {lab : Nat → Nat} {B : Nat} {y : Nd} {lv vv nv hv v5 : Value} {l : List Int} (h : Dm w lab B y lv vv nv hv) (hb : Below w.heap.size w wa) (ho : w5.ownsRow 0 3 1 v5 l.length (iE.vs l)) (hg : wa.grownBy w5 nv.ownBlock) (hat : OnAt wa nv v5) (hg6 : w5.grownBy w6 (some B)) (hB : Blk w6 B 25 (ndA { y with next := l } lv vv v5 hv)) :
    Dm w6 (labTo lab v5.ownBlock 3) B { y with next := l } lv vv v5 hv ∧ Chg 0 w w6 lab (labTo lab v5.ownBlock 3) (fun i => i = 5 ∨ i = 3) := by
  have hc0 : Chg 0 w wa lab lab (fun i => i = 5 ∨ i = 3) := Chg.below _ h.ok hb
  have hc1 : Chg 0 wa w5 lab (labTo lab v5.ownBlock 3) (fun i => i = 5 ∨ i = 3) := Chg.row hc0.ok h.nxt.2 hg (.inr rfl) hat (ownBlock_lt ho)
  have hc01 := hc0.trans hc1
  have hlb : labTo lab v5.ownBlock 3 B = 5 := (hc01.labs B h.blk.lt).trans h.lb
  have hc2 : Chg 0 w5 w6 (labTo lab v5.ownBlock 3) (labTo lab v5.ownBlock 3) (fun i => i = 5) := Chg.grown hc1.ok hg6 hlb
  have hc := hc01.trans (hc2.mono (fun i hi => .inl hi))
  exact ⟨⟨hB, hlb, h.log.keep hc (by omega), h.vot.keep hc (by omega), (Row.grew (lab := lab) (i := 3) ho).keep hc2 (by omega), h.hav.keep hc (by omega), hc2.ok⟩, hc⟩

/-- A list grows. -/
theorem Dm.appHave {w wa w5 w6 : World} {lab : Nat → Nat} {B : Nat} {y : Nd} {lv vv nv hv v5 : Value} {l : List Int} (h : Dm w lab B y lv vv nv hv) (hb : Below w.heap.size w wa) (ho : w5.ownsRow 0 3 1 v5 l.length (iE.vs l)) (hg : wa.grownBy w5 hv.ownBlock) (hat : OnAt wa hv v5) (hg6 : w5.grownBy w6 (some B)) (hB : Blk w6 B 25 (ndA { y with hav := l } lv vv nv v5)) :
    Dm w6 (labTo lab v5.ownBlock 4) B { y with hav := l } lv vv nv v5 ∧ Chg 0 w w6 lab (labTo lab v5.ownBlock 4) (fun i => i = 5 ∨ i = 4) := by
  have hc0 : Chg 0 w wa lab lab (fun i => i = 5 ∨ i = 4) := Chg.below _ h.ok hb
  have hc1 : Chg 0 wa w5 lab (labTo lab v5.ownBlock 4) (fun i => i = 5 ∨ i = 4) := Chg.row hc0.ok h.hav.2 hg (.inr rfl) hat (ownBlock_lt ho)
  have hc01 := hc0.trans hc1
  have hlb : labTo lab v5.ownBlock 4 B = 5 := (hc01.labs B h.blk.lt).trans h.lb
  have hc2 : Chg 0 w5 w6 (labTo lab v5.ownBlock 4) (labTo lab v5.ownBlock 4) (fun i => i = 5) := Chg.grown hc1.ok hg6 hlb
  have hc := hc01.trans (hc2.mono (fun i hi => .inl hi))
  exact ⟨⟨hB, hlb, h.log.keep hc (by omega), h.vot.keep hc (by omega), h.nxt.keep hc (by omega), (Row.grew (lab := lab) (i := 4) ho).keep hc2 (by omega), hc2.ok⟩, hc⟩

theorem Dm.rd {w : World} {lab : Nat → Nat} {B : Nat} {x : Nd} {lv vv nv hv : Value} (h : Dm w lab B x lv vv nv hv) : RdNd w x lv vv nv hv :=
  ⟨RdG.ofOwns h.log.1, RdG.ofOwns h.vot.1, RdG.ofOwns h.nxt.1, RdG.ofOwns h.hav.1⟩

theorem Dm.ans {w : World} {lab : Nat → Nat} {B C : Nat} {x : Nd} {lv vv nv hv : Value} (h : Dm w lab B x lv vv nv hv) (hl : ∀ g, g < C → lab g = 0) : AnsN w C x lv vv nv hv :=
  ⟨h.rd, h.log.new (by omega) hl, h.vot.new (by omega) hl, h.nxt.new (by omega) hl, h.hav.new (by omega) hl⟩

/-- A node of the document is laid. -/
theorem Nw.layD {w : World} {lab : Nat → Nat} {x : Nd} {lv vv nv hv : Value} (h : Nw w lab x lv vv nv hv) : Dm (w.alloc (.cells (ndA x lv vv nv hv) 25)) (labTo lab (some w.heap.size) 5) w.heap.size x lv vv nv hv := by
  have hb := below_allocG w (.cells (ndA x lv vv nv hv) 25)
  have hc : Chg 0 w (w.alloc (.cells (ndA x lv vv nv hv) 25)) lab (labTo lab (some w.heap.size) 5) (fun _ => False) := by
    refine ⟨hb.os, hb.tape, hb.output, hb.size, fun k hk _ => hb.block k hk, fun k hk => ?_, fun g hg => ?_⟩
    · unfold labTo
      rw [if_neg (fun q => by simp at q; omega)]
    · simp at hg
      unfold labTo
      rw [if_neg (fun q => by simp at q; omega)]
      exact h.ok g (by omega)
  refine ⟨Blk.new w _ _, ?_, h.log.keep hc (fun q => q), h.vot.keep hc (fun q => q), h.nxt.keep hc (fun q => q), h.hav.keep hc (fun q => q), hc.ok⟩
  unfold labTo
  rw [if_pos rfl]

/-- A node with a log alone, in a block that is there already. -/
theorem Dm.ofLog {w : World} {B base : Nat} {x : Nd} {lv : Value} (hB : Blk w B 25 (ndA x lv (.slice none 0 0) (.slice none 0 0) (.slice none 0 0))) (ho : w.ownsRow base 65 2 lv x.log.length (eE.vs x.log)) (hBb : B < base) (h1 : x.votes = []) (h2 : x.next = []) (h3 : x.hav = []) :
    Dm w (fun g => if lv.ownBlock = some g then 1 else if g = B then 5 else 0) B x lv (.slice none 0 0) (.slice none 0 0) (.slice none 0 0) := by
  have hl := fun g hg => ho.lt g hg
  refine ⟨hB, ?_, ⟨owns_zero ho, fun g hg => ?_⟩, by rw [h1]; exact Row.nilR, by rw [h2]; exact Row.nilR, by rw [h3]; exact Row.nilR, fun g hg => ?_⟩
  · show (if _ then _ else _) = _
    rw [if_neg (fun q => by have := (hl B q).1; omega), if_pos rfl]
  · show (if _ then _ else _) = _
    rw [if_pos hg]
  · show (if _ then _ else _) = _
    have := hB.lt
    rw [if_neg (fun q => by have := (hl g q).2; omega), if_neg (by omega)]

end Go.Proofs.Ytbffmdhogehfnaa

/-
  The walk over the document's Leader. (Written by rr5.py.)
-/
namespace Go.Proofs.Ytbffmdhogehfnaa
open Go.RowKit Go.Maps
set_option linter.unusedVariables false

/-- What the first k have, of which one has n. -/
def hvL (id : Int) (n : Nat) : Nat → List Int
  | 0 => []
  | k + 1 => hvL id n k ++ [if (k : Int) = id then (n : Int) else 0]

theorem hvL_len (id : Int) (n : Nat) : ∀ k, (hvL id n k).length = k
  | 0 => rfl
  | k + 1 => by rw [hvL, List.length_append, hvL_len id n k]; rfl

theorem hvL_get (id : Int) (n : Nat) : ∀ (k i : Nat), i < k → (hvL id n k)[i]? = some (if (i : Int) = id then (n : Int) else 0)
  | 0, i, h => by omega
  | k + 1, i, h => by
    rw [hvL]
    by_cases e : i < k
    · rw [List.getElem?_append_left (by rw [hvL_len]; exact e)]
      exact hvL_get id n k i e
    · obtain rfl : i = k := by omega
      rw [List.getElem?_append_right (by rw [hvL_len]; exact Nat.le_refl _), hvL_len, Nat.sub_self]
      rfl

theorem hvL_set {id : Int} {n k : Nat} (h0 : 0 ≤ id) : hvL id n k = (List.replicate k (0 : Int)).set id.toNat n := by
  apply List.ext_getElem?
  intro i
  by_cases hi : i < k
  · rw [hvL_get id n k i hi, List.getElem?_set]
    by_cases e : id.toNat = i
    · have e2 : (i : Int) = id := by omega
      rw [if_pos e2, if_pos e, if_pos (by rw [List.length_replicate]; omega)]
    · have e2 : ¬ (i : Int) = id := by omega
      rw [if_neg e2, if_neg e, List.getElem?_replicate, if_pos hi]
  · rw [List.getElem?_eq_none (by rw [hvL_len]; omega), List.getElem?_eq_none (by simp; omega)]

set_option maxRecDepth 100000 in
set_option maxHeartbeats 8000000 in
theorem Leader_any (x : Nd) (lv vv nv hv : Value) (w : World) (hx : RdNd w x lv vv nv hv) (hn1 : 1 ≤ x.n) (hn7 : x.n ≤ 7) (hi0 : 0 ≤ x.id) (hin : x.id < x.n) (hll : x.log.length ≤ 1000) (hc0 : 0 ≤ x.com) (hcl : x.com ≤ x.log.length) :
    Calls Try.prog 47 #[ndV x lv vv nv hv] w fun e w' => ∃ lv' nv' hv', e = .returned (ndV x.lead lv' (.slice none 0 0) nv' hv') ∧ AnsN w' w.heap.size x.lead lv' (.slice none 0 0) nv' hv' ∧ Below w.heap.size w w' := by
  obtain ⟨X, hX⟩ : ∃ X, X = x := ⟨_, rfl⟩
  have HXF := hide (fun W (hW : Below w.heap.size w W) => Follower_any x lv vv nv hv W (hx.below hW) hll)
  have HEX := hide hX
  rw [← hX] at hn1 hn7 hi0 hin hll hc0 hcl
  obtain ⟨n, id, te, vo, lo, ro, co, vs, ns, hs⟩ := x
  obtain ⟨h1, h2, h3, h4⟩ := hx
  simp only at h1 h2 h3 h4
  obtain ⟨ao, cap, rfl, hc1, hc2⟩ := h1.shape
  obtain ⟨bo, cap2, rfl, hd1, hd2⟩ := h2.shape
  obtain ⟨no, cap3, rfl, _, _⟩ := h3.shape
  obtain ⟨ho, cap4, rfl, _, _⟩ := h4.shape
  have hA := below_alloc2 w (.cells #[.int .i64 n, .int .i64 id, .int .i64 te, .int .i64 vo, .slice ao lo.length cap, .int .i64 ro, .int .i64 co, .slice bo vs.length cap2, .slice no ns.length cap3, .slice ho hs.length cap4] 25) (.cells #[.int .i64 0, .int .i64 0, .int .i64 0, .int .i64 0, .slice none 0 0, .int .i64 0, .int .i64 0, .slice none 0 0, .slice none 0 0, .slice none 0 0] 25)
  have HP := hide (Blk.at0of2 w (.cells #[.int .i64 0, .int .i64 0, .int .i64 0, .int .i64 0, .slice none 0 0, .int .i64 0, .int .i64 0, .slice none 0 0, .slice none 0 0, .slice none 0 0] 25) 25 #[.int .i64 n, .int .i64 id, .int .i64 te, .int .i64 vo, .slice ao lo.length cap, .int .i64 ro, .int .i64 co, .slice bo vs.length cap2, .slice no ns.length cap3, .slice ho hs.length cap4])
  have HR := hide (Blk.at1 w (.cells #[.int .i64 n, .int .i64 id, .int .i64 te, .int .i64 vo, .slice ao lo.length cap, .int .i64 ro, .int .i64 co, .slice bo vs.length cap2, .slice no ns.length cap3, .slice ho hs.length cap4] 25) 25 #[.int .i64 0, .int .i64 0, .int .i64 0, .int .i64 0, .slice none 0 0, .int .i64 0, .int .i64 0, .slice none 0 0, .slice none 0 0, .slice none 0 0])
  have HS0 := hide (show w.heap.size + 2 = ((w.alloc (.cells #[.int .i64 n, .int .i64 id, .int .i64 te, .int .i64 vo, .slice ao lo.length cap, .int .i64 ro, .int .i64 co, .slice bo vs.length cap2, .slice no ns.length cap3, .slice ho hs.length cap4] 25)).alloc (.cells #[.int .i64 0, .int .i64 0, .int .i64 0, .int .i64 0, .slice none 0 0, .int .i64 0, .int .i64 0, .slice none 0 0, .slice none 0 0, .slice none 0 0] 25)).heap.size by simp)
  have HA := hide hA
  have HFO := hide (HXF.out _ hA)
  rw [← HEX.out] at HFO ⊢
  have HEV := hide (show ndV X (.slice ao lo.length cap) (.slice bo vs.length cap2) (.slice no ns.length cap3) (.slice ho hs.length cap4) = .agg #[.int .i64 n, .int .i64 id, .int .i64 te, .int .i64 vo, .slice ao lo.length cap, .int .i64 ro, .int .i64 co, .slice bo vs.length cap2, .slice no ns.length cap3, .slice ho hs.length cap4] by rw [HEX.out]; rfl)
  rw [HEV.out] at HFO ⊢
  clear h1 h2 h3 h4 hA HXF hX
  go_enter Try.func47, Try.ntmps47
  generalize hA0 : ((w.alloc (.cells #[.int .i64 n, .int .i64 id, .int .i64 te, .int .i64 vo, .slice ao lo.length cap, .int .i64 ro, .int .i64 co, .slice bo vs.length cap2, .slice no ns.length cap3, .slice ho hs.length cap4] 25)).alloc (.cells #[.int .i64 0, .int .i64 0, .int .i64 0, .int .i64 0, .slice none 0 0, .int .i64 0, .int .i64 0, .slice none 0 0, .slice none 0 0, .slice none 0 0] 25)) = A0 at HP HR HS0 HA HFO
  go_upto_region 1 with fail
  try rw [hA0]
  clear hA0
  go_wp2_with (refine wpList_load_blk HP.out Try.underlying25 rfl Try.sizeNode rfl rfl rfl ?_)
  refine HFO.out.mono ?_
  rintro e w1 ⟨lv1, rfl, ho1, hb1⟩
  obtain ⟨lo1, lc1, hs1⟩ := owns_shapeK ho1
  subst hs1
  have HP1 := hide (HP.out.later hb1)
  have HR1 := hide (HR.out.later hb1)
  have HA1 := hide (HA.out.trans (hb1.mono HA.out.size))
  have HO1 := hide ho1
  unfold ndV ndA
  clear ho1 hb1 HFO
  go_upto_region 3 with (first
    | (refine wpList_store_blk rfl rfl rfl rfl HP1.out rfl Try.sizeNode rfl ?_; intro w2 hP2 hg2; have HP2 := hide hP2; have HR2 := hide (HR1.out.grown hg2 (by simp)); have HA2 := hide (below_grownO HA1.out hg2 (fun k hk => by cases hk; omega) HA1.out.size); have HO2 := hide (owns_offB HO1.out hg2 (by have := HS0.out; omega)); clear hP2 hg2)
    | (refine wpList_store_int (k := 5) rfl rfl rfl rfl HP2.out rfl Try.sizeIntR ?_; intro w3 hP3 hg3; have HP3 := hide hP3; have HR3 := hide (HR2.out.grown hg3 (by simp)); have HA3 := hide (below_grownO HA2.out hg3 (fun k hk => by cases hk; omega) HA2.out.size); have HO3 := hide (owns_offB HO2.out hg3 (by have := HS0.out; omega)); clear hP3 hg3))
  have HD0 := hide (Dm.ofLog (x := ({ X.follow with role := 2, next := List.replicate 0 ((X.log.length : Int) + 1), hav := hvL X.id X.log.length 0 } : Nd)) HP3.out HO3.out (by have := HS0.out; omega) rfl rfl rfl)
  generalize hlb : (fun g => if (Value.slice lo1 X.log.length lc1).ownBlock = some g then 1 else if g = w.heap.size then 5 else 0) = lab0 at HD0
  have HLB := hide (show ∀ g, g < w.heap.size → lab0 g = 0 by
    intro g hg
    rw [← hlb]
    show (if _ then _ else _) = _
    rw [if_neg (fun q => by have := (HO3.out.lt g q).1; have := HS0.out; omega), if_neg (by omega)])
  have HLR := hide (show lab0 (w.heap.size + 1) = 0 by
    rw [← hlb]
    show (if _ then _ else _) = _
    rw [if_neg (fun q => by have := (HO3.out.lt _ q).1; have := HS0.out; omega), if_neg (by omega)])
  obtain ⟨N, hN⟩ : ∃ N : Nat, X.n = N := ⟨X.n.toNat, by omega⟩
  have HN := hide hN
  have hN7 : N ≤ 7 := by omega
  have hw1 : IntKind.i64.wrap ((X.log.length : Int) + 1) = (X.log.length : Int) + 1 := by rw [IntKind.wrap_i64]; omega
  clear hlb hN HP3 HO3 HP2 HO2 HP1 HO1
  go_wp2_with fail
  go_loopw [3] (fun iv wr => ∃ k : Nat, k ≤ N ∧ iv = .int .i64 k ∧ ∃ lab nv' hv', Dm wr lab w.heap.size ({ X.follow with role := 2, next := List.replicate k ((X.log.length : Int) + 1), hav := hvL X.id X.log.length k } : Nd) (.slice lo1 X.log.length lc1) (.slice none 0 0) nv' hv' ∧ Chg 0 w3 wr lab0 lab (fun i => i ≠ 0))
    (fun iv _ => N - (intOf iv).toNat)
  case atStart => exact ⟨0, by omega, rfl, lab0, _, _, HD0.out, Chg.refl _ _ _ HD0.out.ok⟩
  case round =>
    obtain ⟨k, hk, rfl, lab, nv', hv', hD, hC⟩ := hrel
    have HD := hide hD
    have HC := hide hC
    obtain ⟨no1, nc1, hnn⟩ := owns_shapeK hD.nxt.1
    rw [show ({ X.follow with role := 2, next := List.replicate k ((X.log.length : Int) + 1), hav := hvL X.id X.log.length k } : Nd).next.length = k from List.length_replicate] at hnn
    subst hnn
    have c0 := hD.blk.cell 0
    have c1 := hD.blk.cell 1
    have c4 := hD.blk.cell 4
    have c8 := hD.blk.cell 8
    have cl := hD.blk.lt
    simp [ndA, Nd.follow] at c0 c1 c4 c8
    rw [HN.out] at c0
    have HB := hide hD.blk
    unfold ndA at HB
    clear hD hC
    by_cases hlt : k < N
    · have hd : decide ((k : Int) < (N : Int)) = true := decide_eq_true (by omega)
      have HBA := hide (HB.out.later (below_allocG wr (.cells #[.int .i64 ((X.log.length : Int) + 1)] 3)))
      have hon := HD.out.nxt.1.alloc (.cells #[.int .i64 ((X.log.length : Int) + 1)] 3)
      rw [show ({ X.follow with role := 2, next := List.replicate k ((X.log.length : Int) + 1), hav := hvL X.id X.log.length k } : Nd).next.length = k from List.length_replicate] at hon
      have HON := hide hon
      have HRO := hide (RdG.oneI wr ((X.log.length : Int) + 1))
      have HOF := hide (owns_off HON.out HBA.out (by decide))
      have HL2 := hide (show k + [((X.log.length : Int) + 1)].length ≤ 1000000000 by simp; omega)
      clear hon
      go_upto_region 7 with (first
        | (at_builtin; go_must (refine wpList_append_rdAt (E := iE) (cs := List.replicate k ((X.log.length : Int) + 1)) (news := [(X.log.length : Int) + 1]) HON.out HRO.out Try.underlying23 infoIntR rfl rfl rfl rfl rfl HL2.out (by decide) (Nat.zero_le _) ?_); intro v5 w5 ho5 hg5 hat5; obtain ⟨ao5, cap5, hv5⟩ := owns_shapeK ho5; subst hv5; have HB5 := hide (HBA.out.grown hg5 (fun q => HOF.out q.symm)); have HO5 := hide ho5; have HG5 := hide hg5; have HAT := hide hat5; clear ho5 hg5 hat5)
        | (refine wpList_store_slice (k := 8) rfl rfl rfl rfl HB5.out rfl Try.sizeIntsR ?_; intro w6 hB6 hg6; have HB6 := hide hB6; have HG6 := hide hg6; clear hB6 hg6))
      have hl5 : (List.replicate (k + 1) ((X.log.length : Int) + 1)).length = k + 1 := List.length_replicate
      have he5 : List.replicate k ((X.log.length : Int) + 1) ++ [(X.log.length : Int) + 1] = List.replicate (k + 1) ((X.log.length : Int) + 1) := by rw [List.replicate_succ']
      have ho6 : w5.ownsRow 0 3 1 (.slice ao5 (k + 1) cap5) (List.replicate (k + 1) ((X.log.length : Int) + 1)).length (iE.vs (List.replicate (k + 1) ((X.log.length : Int) + 1))) := by rw [hl5, ← he5]; exact HO5.out
      obtain ⟨hD6, hC6⟩ := HD.out.appNext (l := List.replicate (k + 1) ((X.log.length : Int) + 1)) (below_allocG wr (.cells #[.int .i64 ((X.log.length : Int) + 1)] 3)) ho6 HG5.out HAT.out HG6.out HB6.out
      have HD6 := hide (show Dm w6 _ w.heap.size ({ X.follow with role := 2, next := List.replicate (k + 1) ((X.log.length : Int) + 1), hav := hvL X.id X.log.length k } : Nd) _ _ _ _ from hD6)
      have HC6 := hide (HC.out.trans (hC6.mono (fun i hi => (by omega : i ≠ 0))))
      clear ho6 hl5 he5 hD6 hC6 c0 c1 c4 c8 HB HBA HON HRO HOF HL2
      obtain ⟨ho1', hc1', hhn⟩ := owns_shapeK HD6.out.hav.1
      rw [show ({ X.follow with role := 2, next := List.replicate (k + 1) ((X.log.length : Int) + 1), hav := hvL X.id X.log.length k } : Nd).hav.length = k from hvL_len _ _ _] at hhn
      subst hhn
      have d1 := HD6.out.blk.cell 1
      have d4 := HD6.out.blk.cell 4
      have d9 := HD6.out.blk.cell 9
      have dl := HD6.out.blk.lt
      simp [ndA, Nd.follow] at d1 d4 d9
      have HBk := hide HD6.out.blk
      unfold ndA at HBk
      by_cases hid : (k : Int) = X.id
      · have hq : ((k : Int) == X.id) = true := beq_iff_eq.2 hid
        have HUE := hide (show hvL X.id X.log.length k ++ [(X.log.length : Int)] = hvL X.id X.log.length (k + 1) by rw [hvL, if_pos hid])
        have HBA := hide (HBk.out.later (below_allocG w6 (.cells #[.int .i64 ((X.log.length : Int))] 3)))
        have hon := HD6.out.hav.1.alloc (.cells #[.int .i64 ((X.log.length : Int))] 3)
        rw [show ({ X.follow with role := 2, next := List.replicate (k + 1) ((X.log.length : Int) + 1), hav := hvL X.id X.log.length k } : Nd).hav.length = k from hvL_len _ _ _] at hon
        have HON := hide hon
        have HRO := hide (RdG.oneI w6 ((X.log.length : Int)))
        have HOF := hide (owns_off HON.out HBA.out (by decide))
        have HL2 := hide (show k + [((X.log.length : Int) : Int)].length ≤ 1000000000 by simp; omega)
        clear hon hid
        go_wp2_with (first
          | (at_builtin; go_must (refine wpList_append_rdAt (E := iE) (cs := hvL X.id X.log.length k) (news := [(X.log.length : Int)]) HON.out HRO.out Try.underlying23 infoIntR rfl rfl rfl rfl rfl HL2.out (by decide) (Nat.zero_le _) ?_); intro v7 w7 ho7 hg7 hat7; obtain ⟨ao7, cap7, hv7⟩ := owns_shapeK ho7; subst hv7; have HB7 := hide (HBA.out.grown hg7 (fun q => HOF.out q.symm)); have HO7 := hide ho7; have HG7 := hide hg7; have HAT7 := hide hat7; clear ho7 hg7 hat7)
          | (refine wpList_store_slice (k := 9) rfl rfl rfl rfl HB7.out rfl Try.sizeIntsR ?_; intro w8 hB8 hg8; have HB8 := hide hB8; have HG8 := hide hg8; clear hB8 hg8))
        go_roundw
        case rel =>
          have ho8 : w7.ownsRow 0 3 1 (.slice ao7 (k + 1) cap7) (hvL X.id X.log.length (k + 1)).length (iE.vs (hvL X.id X.log.length (k + 1))) := by rw [hvL_len, ← HUE.out]; exact HO7.out
          obtain ⟨hD8, hC8⟩ := HD6.out.appHave (l := hvL X.id X.log.length (k + 1)) (below_allocG w6 (.cells #[.int .i64 ((X.log.length : Int))] 3)) ho8 HG7.out HAT7.out HG8.out HB8.out
          exact ⟨k + 1, by omega, by go_num, _, _, _, hD8, HC6.out.trans (hC8.mono (fun i hi => (by omega : i ≠ 0)))⟩
        case measure => simp [intOf]; omega
      · have hq : ((k : Int) == X.id) = false := beq_eq_false_iff_ne.2 hid
        have HUE := hide (show hvL X.id X.log.length k ++ [(0 : Int)] = hvL X.id X.log.length (k + 1) by rw [hvL, if_neg hid])
        have HBA := hide (HBk.out.later (below_allocG w6 (.cells #[.int .i64 ((0 : Int))] 3)))
        have hon := HD6.out.hav.1.alloc (.cells #[.int .i64 ((0 : Int))] 3)
        rw [show ({ X.follow with role := 2, next := List.replicate (k + 1) ((X.log.length : Int) + 1), hav := hvL X.id X.log.length k } : Nd).hav.length = k from hvL_len _ _ _] at hon
        have HON := hide hon
        have HRO := hide (RdG.oneI w6 ((0 : Int)))
        have HOF := hide (owns_off HON.out HBA.out (by decide))
        have HL2 := hide (show k + [((0 : Int) : Int)].length ≤ 1000000000 by simp; omega)
        clear hon hid
        go_wp2_with (first
          | (at_builtin; go_must (refine wpList_append_rdAt (E := iE) (cs := hvL X.id X.log.length k) (news := [(0 : Int)]) HON.out HRO.out Try.underlying23 infoIntR rfl rfl rfl rfl rfl HL2.out (by decide) (Nat.zero_le _) ?_); intro v7 w7 ho7 hg7 hat7; obtain ⟨ao7, cap7, hv7⟩ := owns_shapeK ho7; subst hv7; have HB7 := hide (HBA.out.grown hg7 (fun q => HOF.out q.symm)); have HO7 := hide ho7; have HG7 := hide hg7; have HAT7 := hide hat7; clear ho7 hg7 hat7)
          | (refine wpList_store_slice (k := 9) rfl rfl rfl rfl HB7.out rfl Try.sizeIntsR ?_; intro w8 hB8 hg8; have HB8 := hide hB8; have HG8 := hide hg8; clear hB8 hg8))
        go_roundw
        case rel =>
          have ho8 : w7.ownsRow 0 3 1 (.slice ao7 (k + 1) cap7) (hvL X.id X.log.length (k + 1)).length (iE.vs (hvL X.id X.log.length (k + 1))) := by rw [hvL_len, ← HUE.out]; exact HO7.out
          obtain ⟨hD8, hC8⟩ := HD6.out.appHave (l := hvL X.id X.log.length (k + 1)) (below_allocG w6 (.cells #[.int .i64 ((0 : Int))] 3)) ho8 HG7.out HAT7.out HG8.out HB8.out
          exact ⟨k + 1, by omega, by go_num, _, _, _, hD8, HC6.out.trans (hC8.mono (fun i hi => (by omega : i ≠ 0)))⟩
        case measure => simp [intOf]; omega
    · have hd : decide ((k : Int) < (N : Int)) = false := decide_eq_false (by omega)
      obtain rfl : k = N := by omega
      have HE := hide (show ({ X.follow with role := 2, next := List.replicate k ((X.log.length : Int) + 1), hav := hvL X.id X.log.length k } : Nd) = X.lead0 by
        have e1 : k = X.n.toNat := by rw [HN.out]; rfl
        unfold Nd.lead0
        rw [hvL_set hi0, e1]
        rfl)
      have HLE : Hid (X.lead = X.lead0.count) := hide rfl
      have hCw := Below.ofChg HC.out (C := w.heap.size) (fun g hg q => q (HLB.out g hg)) (by have := HA3.out.size; omega)
      have HAr := hide (HA3.out.trans hCw)
      have HLr := hide (show ∀ g, g < w.heap.size → lab g = 0 from fun g hg => by rw [HC.out.labs g (by have := HA3.out.size; omega)]; exact HLB.out g hg)
      have HRr := hide (HR3.out.keep HC.out (fun q => q HLR.out))
      have hDD := HD.out
      rw [HE.out] at hDD
      have HDD := hide hDD
      have HCO := hide (Counted_any X.lead0 _ _ _ _ wr hDD.rd (show 0 ≤ X.n by omega) (show X.n ≤ 1000 by omega) hll (by simp [Nd.lead0]; omega) hc0 hcl)
      have HLRr := hide (show lab (w.heap.size + 1) = 0 by rw [HC.out.labs _ (HR3.out.lt)]; exact HLR.out)
      obtain ⟨ho9, hc9, hh9⟩ := owns_shapeK HD.out.hav.1
      rw [show ({ X.follow with role := 2, next := List.replicate k ((X.log.length : Int) + 1), hav := hvL X.id X.log.length k } : Nd).hav.length = k from hvL_len _ _ _] at hh9
      subst hh9
      unfold Nd.follow at HB
      dsimp only at HB
      unfold ndV ndA Nd.lead0 at HCO
      dsimp only at HCO
      clear hDD hCw c1 c4 c8
      go_wp2_with (first
        | (refine wpList_load_blk HB.out Try.underlying25 rfl Try.sizeNode rfl rfl rfl ?_)
        | (go_at_call 48; refine HCO.out.mono ?_; rintro e w7 ⟨rfl, hb7⟩; have HR7 := hide (HRr.out.later hb7); have HA7 := hide (HAr.out.trans (hb7.mono HAr.out.size)); have HD7 := hide (HDD.out.below hb7); clear hb7)
        | (refine wpList_store_blk rfl rfl rfl rfl HR7.out rfl Try.sizeNode rfl ?_; intro w9 hR9 hg9; have HR9 := hide hR9; have HA9 := hide (below_grownO HA7.out hg9 (fun k hk => by cases hk; omega) HA7.out.size); have HD9 := hide (HD7.out.keep (Chg.grown (S := fun i => i = 0) HD7.out.ok hg9 HLRr.out) (fun i h1 h2 => by omega)); clear hR9 hg9))
      refine bodyPost_ret (results1_cell Try.results47 rfl (run_loadVar_blk HR9.out Try.underlying25 rfl Try.sizeNode)) rfl ?_
      have han := HD9.out.ans HLr.out
      rw [HLE.out]
      exact ⟨_, _, _, rfl, ⟨⟨han.rd.log, han.rd.votes, han.rd.next, han.rd.hav⟩, han.n1, han.n2, han.n3, han.n4⟩, HA9.out⟩

end Go.Proofs.Ytbffmdhogehfnaa

/-
  The walk over raft.Restart. (Written by rt3.py.)
-/
namespace Go.Proofs.Ytbffmdhogehfnaa
open Go.RowKit Go.Maps
set_option linter.unusedVariables false

def resN (x : Nd) : Nd := if (chkN x).1 = 0 then x.rest else noNd

set_option maxRecDepth 100000 in
set_option maxHeartbeats 8000000 in
theorem Restart_any (x : Nd) (lv vv nv hv : Value) (w : World) (hx : RdNd w x lv vv nv hv) (hwf : ∀ v ∈ x.votes, WfI v) :
    Calls Try.prog 13 #[ndV x lv vv nv hv] w fun e w' => ∃ lv' vv' nv' hv', e = .returned (.tuple #[ndV (resN x) lv' vv' nv' hv', flt (chkN x)]) ∧ AnsN w' w.heap.size (resN x) lv' vv' nv' hv' ∧ Below w.heap.size w w' := by
  have HOK := hide (fun h => And.intro (@chkN_fine x h) trivial)
  have HX := hide hx
  have HZ := hide (chkN_z x)
  obtain ⟨n, id, te, vo, lo, ro, co, vs, ns, hs⟩ := x
  obtain ⟨h1, h2, h3, h4⟩ := hx
  simp only at h1 h2 h3 h4
  obtain ⟨ao, cap, rfl, hc1, hc2⟩ := h1.shape
  obtain ⟨bo, cap2, rfl, hd1, hd2⟩ := h2.shape
  obtain ⟨no, cap3, rfl, _, _⟩ := h3.shape
  obtain ⟨ho, cap4, rfl, _, _⟩ := h4.shape
  have hN3 := three_atR w #[.int .i64 n, .int .i64 id, .int .i64 te, .int .i64 vo, .slice ao lo.length cap, .int .i64 ro, .int .i64 co, .slice bo vs.length cap2, .slice no ns.length cap3, .slice ho hs.length cap4] #[.int .i64 0, .int .i64 0, .int .i64 0, .int .i64 0, .slice none 0 0, .int .i64 0, .int .i64 0, .slice none 0 0, .slice none 0 0, .slice none 0 0] #[.int .i64 0, .int .i64 0] 25 25 30
  obtain ⟨hP, hR, hQ, hA, hS⟩ := hN3
  have HC1 := hide (RCheck_any ⟨n, id, te, vo, lo, ro, co, vs, ns, hs⟩ _ _ _ _ _ (HX.out.below hA) hwf)
  generalize hK : chkN ⟨n, id, te, vo, lo, ro, co, vs, ns, hs⟩ = F at *
  have HFK := hide hK
  obtain ⟨p, q⟩ := F
  unfold ndV ndA at HC1
  unfold ndV ndA
  have HP := hide hP
  have HR := hide hR
  have HQ := hide hQ
  have HA := hide hA
  have HS := hide hS
  clear h1 h2 h3 h4 hP hR hQ hA hS hK
  go_enter Try.func13, Try.ntmps13
  go_wp2_with (refine wpList_load_blk HP.out Try.underlying25 rfl Try.sizeNode rfl rfl rfl ?_)
  refine HC1.out.mono ?_
  rintro e w1 ⟨rfl, hb1⟩
  have hN := below_allocG w1 (.cells #[.int .i64 p, .int .i64 q] 30)
  have HP1 := hide ((HP.out.later hb1).later hN)
  have HR1 := hide ((HR.out.later hb1).later hN)
  have HQ1 := hide ((HQ.out.later hb1).later hN)
  have hAA := HA.out.trans (hb1.mono HA.out.size)
  have HA1 := hide (hAA.trans (hN.mono hAA.size))
  have HS1 := hide (show w.heap.size + 3 ≤ w1.heap.size by have := hb1.size; have := HS.out; omega)
  have hW1 := (Blk.new w1 30 #[.int .i64 p, .int .i64 q])
  have f0 := hW1.cell 0
  have f1 := hW1.cell 1
  simp at f0 f1
  clear hb1 hN hAA hW1 HC1 HP HR HQ HA HS
  unfold flt
  by_cases hp : p ≠ 0
  · have hq : (p == 0) = false := beq_eq_false_iff_ne.2 hp
    have hq2 : (p != 0) = true := by simp [hp]
    have HE := hide (show resN ⟨n, id, te, vo, lo, ro, co, vs, ns, hs⟩ = noNd from if_neg (by rw [HFK.out]; exact hp))
    clear hp
    have hrq : w.heap.size + 1 ≠ w.heap.size + 1 + 1 := by omega
    have hqr : w.heap.size + 1 + 1 ≠ w.heap.size + 1 := by omega
    have hfr : w1.heap.size ≠ w.heap.size + 1 := by have := HS1.out; omega
    have hfq : w1.heap.size ≠ w.heap.size + 1 + 1 := by have := HS1.out; omega
    have ra0 := HR1.out.cell 0
    have raz0 := HR1.out.frozen 0
    have ra1 := HR1.out.cell 1
    have raz1 := HR1.out.frozen 1
    have ra2 := HR1.out.cell 2
    have raz2 := HR1.out.frozen 2
    have ra3 := HR1.out.cell 3
    have raz3 := HR1.out.frozen 3
    have ra4 := HR1.out.cell 4
    have raz4 := HR1.out.frozen 4
    have ra5 := HR1.out.cell 5
    have raz5 := HR1.out.frozen 5
    have ra6 := HR1.out.cell 6
    have raz6 := HR1.out.frozen 6
    have ra7 := HR1.out.cell 7
    have raz7 := HR1.out.frozen 7
    have ra8 := HR1.out.cell 8
    have raz8 := HR1.out.frozen 8
    have ra9 := HR1.out.cell 9
    have raz9 := HR1.out.frozen 9
    have ral := HR1.out.lt
    simp at ra0 ra1 ra2 ra3 ra4 ra5 ra6 ra7 ra8 ra9
    have qa0 := HQ1.out.cell 0
    have qaz0 := HQ1.out.frozen 0
    have qa1 := HQ1.out.cell 1
    have qaz1 := HQ1.out.frozen 1
    have qal := HQ1.out.lt
    simp at qa0 qa1
    go_wp2_with fail
    go_region
    all_goals
      obtain ⟨hR9, hQ9, hA9, _, _⟩ := setL_two (w := w) (C := w.heap.size) [.int .i64 0, .int .i64 0, .int .i64 0, .int .i64 0, .slice none 0 0, .int .i64 0, .int .i64 0, .slice none 0 0, .slice none 0 0, .slice none 0 0] [.int .i64 p, .int .i64 q] HR1.out HQ1.out hrq rfl rfl HA1.out (by omega) (by omega)
      have HR9 := hide hR9
      have HQ9 := hide hQ9
      have HA9 := hide hA9
      simp only [setL] at HR9 HQ9 HA9
      clear hR9 hQ9 hA9 ra0 raz0 ra1 raz1 ra2 raz2 ra3 raz3 ra4 raz4 ra5 raz5 ra6 raz6 ra7 raz7 ra8 raz8 ra9 raz9 ral qa0 qaz0 qa1 qaz1 qal f0 f1
      generalize (((((((((((((w1.alloc (.cells #[.int .i64 p, .int .i64 q] 30)).setCell ⟨w.heap.size + 1, 0, none⟩ (.int .i64 0)).setCell ⟨w.heap.size + 1, 1, none⟩ (.int .i64 0)).setCell ⟨w.heap.size + 1, 2, none⟩ (.int .i64 0)).setCell ⟨w.heap.size + 1, 3, none⟩ (.int .i64 0)).setCell ⟨w.heap.size + 1, 4, none⟩ (.slice none 0 0)).setCell ⟨w.heap.size + 1, 5, none⟩ (.int .i64 0)).setCell ⟨w.heap.size + 1, 6, none⟩ (.int .i64 0)).setCell ⟨w.heap.size + 1, 7, none⟩ (.slice none 0 0)).setCell ⟨w.heap.size + 1, 8, none⟩ (.slice none 0 0)).setCell ⟨w.heap.size + 1, 9, none⟩ (.slice none 0 0)).setCell ⟨w.heap.size + 1 + 1, 0, none⟩ (.int .i64 p)).setCell ⟨w.heap.size + 1 + 1, 1, none⟩ (.int .i64 q)).drew = wz at HR9 HQ9 HA9 ⊢
      go_wp2_with fail
      refine bodyPost_ret (results2_cells Try.results13 rfl rfl (run_loadVar_blk HR9.out Try.underlying25 rfl Try.sizeNode) (run_loadVar_blk HQ9.out Try.underlying30 rfl Try.sizeFaultR)) rfl ?_
      rw [HE.out]
      exact ⟨_, _, _, _, rfl, AnsN.no _ _, HA9.out⟩
  · obtain rfl : p = 0 := Decidable.not_not.1 hp
    obtain rfl : q = 0 := by have := HZ.out rfl; simpa using this
    have HE := hide (show resN ⟨n, id, te, vo, lo, ro, co, vs, ns, hs⟩ = Nd.rest ⟨n, id, te, vo, lo, ro, co, vs, ns, hs⟩ from if_pos (by rw [HFK.out]))
    obtain ⟨hfine, hmore⟩ := HOK.out rfl
    obtain ⟨sm1, sm2, sm3, sm4⟩ := hfine.small
    have HFI := hide hfine
    have HMO := hide hmore
    clear hp hfine hmore f0 f1
    have HSW := hide (show w.heap.size + 3 ≤ (w1.alloc (.cells #[.int .i64 0, .int .i64 0] 30)).heap.size by have := HS1.out; simp; omega)
    have HCP := hide (copied_any ⟨n, id, te, vo, lo, ro, co, vs, ns, hs⟩ _ _ _ _ _ (HX.out.below HA1.out) (by omega) (by omega) (by omega) (by omega))
    unfold ndV ndA at HCP
    go_upto_region 4 with fail
    generalize hW : w1.alloc (.cells #[.int .i64 0, .int .i64 0] 30) = W at HP1 HR1 HQ1 HA1 HCP HSW ⊢
    clear hW HS1
    go_wp2_with (refine wpList_load_blk HP1.out Try.underlying25 rfl Try.sizeNode rfl rfl rfl ?_)
    refine HCP.out.mono ?_
    rintro e w2 ⟨lab, lv2, vv2, nv2, hv2, rfl, hnw, hlab, hb2⟩
    obtain ⟨lo2, lc2, hs1⟩ := owns_shapeK hnw.log.1
    obtain ⟨vo2, vc2, hs2⟩ := owns_shapeK hnw.vot.1
    obtain ⟨no2, nc2, hs3⟩ := owns_shapeK hnw.nxt.1
    obtain ⟨ho2, hc2', hs4⟩ := owns_shapeK hnw.hav.1
    subst hs1 hs2 hs3 hs4
    have hlay := hnw.lay
    have HFO := hide (follow_any _ ⟨n, id, te, vo, lo, ro, co, vs, ns, hs⟩ _ _ _ _ _ _ hlay)
    have HLB := hide hlab
    have HB2 := hide hb2
    unfold ndA at HFO
    dsimp only at HFO ⊢
    clear hnw hlab hb2 hlay HCP
    go_wp2_with fail
    refine HFO.out.mono ?_
    rintro e w3 ⟨rfl, hN3, hC3⟩
    have HBN := hide hN3.blk
    have HN3 := hide hN3
    have HC3 := hide hC3
    unfold ndA at HBN
    clear hN3 hC3
    go_upto_region 7 with (refine wpList_store_int (k := 6) rfl rfl rfl rfl HBN.out rfl Try.sizeIntR ?_; intro w4 hB4 hg4; have HB4 := hide hB4; have HG4 := hide hg4; clear hB4 hg4)
    obtain ⟨hN4, hC4⟩ := HN3.out.wrote (y := Nd.rest ⟨n, id, te, vo, lo, ro, co, vs, ns, hs⟩) HG4.out HB4.out rfl (.inl ⟨rfl, rfl⟩) (.inl ⟨rfl, rfl⟩) (.inl ⟨rfl, rfl⟩)
    obtain ⟨hbl, hlb3⟩ := laid_below ((HC3.out.trans hC4).mono (fun i hi => (by omega : i ≠ 0))) HLB.out HB2.out.size
    have hb3 := HB2.out.trans hbl
    have HR3 := hide (HR1.out.later hb3)
    have HQ3 := hide (HQ1.out.later hb3)
    have HA3 := hide (HA1.out.trans (hb3.mono HA1.out.size))
    have HAN := hide (hN4.ans hlb3)
    have HBM := hide hN4.blk
    unfold ndA Nd.rest Nd.follow at HBM
    dsimp only at HBM
    clear hN4 hC4 hbl hlb3 hb3 HFO HB2 HLB
    go_wp2_with (first
      | (refine wpList_load_blk HBM.out Try.underlying25 rfl Try.sizeNode rfl rfl rfl ?_)
      | (refine wpList_store_blk rfl rfl rfl rfl HR3.out rfl Try.sizeNode rfl ?_; intro w8 hR8 hg8; have HR8 := hide hR8; have HQ8 := hide (HQ3.out.grown hg8 (by simp)); have HA8 := hide (below_grownO HA3.out hg8 (fun k hk => by cases hk; omega) HA3.out.size); have HN8 := hide (HAN.out.offB hg8 (by have := HSW.out; omega)); clear hR8 hg8)
      | (refine wpList_store_blk rfl rfl rfl rfl HQ8.out rfl Try.sizeFaultR rfl ?_; intro w9 hQ9 hg9; have HQ9 := hide hQ9; have HR9 := hide (HR8.out.grown hg9 (by simp)); have HA9 := hide (below_grownO HA8.out hg9 (fun k hk => by cases hk; omega) HA8.out.size); have HN9 := hide (HN8.out.offB hg9 (by have := HSW.out; omega)); clear hQ9 hg9))
    refine bodyPost_ret (results2_cells Try.results13 rfl rfl (run_loadVar_blk HR9.out Try.underlying25 rfl Try.sizeNode) (run_loadVar_blk HQ9.out Try.underlying30 rfl Try.sizeFaultR)) rfl ?_
    rw [HE.out]
    exact ⟨_, _, _, _, rfl, HN9.out.base (by have := HSW.out; omega), HA9.out⟩

end Go.Proofs.Ytbffmdhogehfnaa

/-
  The walk over the document's RestartNode. (Written by rr8.py.)
-/
namespace Go.Proofs.Ytbffmdhogehfnaa
open Go.RowKit Go.Maps
set_option linter.unusedVariables false

theorem NodeFault_w (x : Nd) (lv vv nv hv : Value) (w : World) (hx : RdNd w x lv vv nv hv) (hwf : True) :
    Calls Try.prog 15 #[ndV x lv vv nv hv] w fun e w' => e = .returned (flt (chkN x)) ∧ Below w.heap.size w w' := NodeFault_any x lv vv nv hv w hx

set_option maxRecDepth 100000 in
set_option maxHeartbeats 8000000 in
theorem RestartNode_any (x : Nd) (lv vv nv hv : Value) (w : World) (hx : RdNd w x lv vv nv hv) :
    Calls Try.prog 19 #[ndV x lv vv nv hv] w fun e w' => ∃ lv' vv' nv' hv', e = .returned (.tuple #[ndV (resN x) lv' vv' nv' hv', flt (chkN x)]) ∧ RdNd w' (resN x) lv' vv' nv' hv' ∧ Below w.heap.size w w' := by
  have hwf : True := trivial
  have HOK := hide (fun h => And.intro (@chkN_fine x h) trivial)
  have HX := hide hx
  have HZ := hide (chkN_z x)
  obtain ⟨n, id, te, vo, lo, ro, co, vs, ns, hs⟩ := x
  obtain ⟨h1, h2, h3, h4⟩ := hx
  simp only at h1 h2 h3 h4
  obtain ⟨ao, cap, rfl, hc1, hc2⟩ := h1.shape
  obtain ⟨bo, cap2, rfl, hd1, hd2⟩ := h2.shape
  obtain ⟨no, cap3, rfl, _, _⟩ := h3.shape
  obtain ⟨ho, cap4, rfl, _, _⟩ := h4.shape
  have hN3 := three_atR w #[.int .i64 n, .int .i64 id, .int .i64 te, .int .i64 vo, .slice ao lo.length cap, .int .i64 ro, .int .i64 co, .slice bo vs.length cap2, .slice no ns.length cap3, .slice ho hs.length cap4] #[.int .i64 0, .int .i64 0, .int .i64 0, .int .i64 0, .slice none 0 0, .int .i64 0, .int .i64 0, .slice none 0 0, .slice none 0 0, .slice none 0 0] #[.int .i64 0, .int .i64 0] 25 25 30
  obtain ⟨hP, hR, hQ, hA, hS⟩ := hN3
  have HC1 := hide (NodeFault_w ⟨n, id, te, vo, lo, ro, co, vs, ns, hs⟩ _ _ _ _ _ (HX.out.below hA) hwf)
  generalize hK : chkN ⟨n, id, te, vo, lo, ro, co, vs, ns, hs⟩ = F at *
  have HFK := hide hK
  obtain ⟨p, q⟩ := F
  unfold ndV ndA at HC1
  unfold ndV ndA
  have HP := hide hP
  have HR := hide hR
  have HQ := hide hQ
  have HA := hide hA
  have HS := hide hS
  clear h1 h2 h3 h4 hP hR hQ hA hS hK
  go_enter Try.func19, Try.ntmps19
  go_wp2_with (refine wpList_load_blk HP.out Try.underlying25 rfl Try.sizeNode rfl rfl rfl ?_)
  refine HC1.out.mono ?_
  rintro e w1 ⟨rfl, hb1⟩
  have hN := below_allocG w1 (.cells #[.int .i64 p, .int .i64 q] 30)
  have HP1 := hide ((HP.out.later hb1).later hN)
  have HR1 := hide ((HR.out.later hb1).later hN)
  have HQ1 := hide ((HQ.out.later hb1).later hN)
  have hAA := HA.out.trans (hb1.mono HA.out.size)
  have HA1 := hide (hAA.trans (hN.mono hAA.size))
  have HS1 := hide (show w.heap.size + 3 ≤ w1.heap.size by have := hb1.size; have := HS.out; omega)
  have hW1 := (Blk.new w1 30 #[.int .i64 p, .int .i64 q])
  have f0 := hW1.cell 0
  have f1 := hW1.cell 1
  simp at f0 f1
  clear hb1 hN hAA hW1 HC1 HP HR HQ HA HS
  unfold flt
  by_cases hp : p ≠ 0
  · have hq : (p == 0) = false := beq_eq_false_iff_ne.2 hp
    have hq2 : (p != 0) = true := by simp [hp]
    have HE := hide (show resN ⟨n, id, te, vo, lo, ro, co, vs, ns, hs⟩ = noNd from if_neg (by rw [HFK.out]; exact hp))
    clear hp
    have hrq : w.heap.size + 1 ≠ w.heap.size + 1 + 1 := by omega
    have hqr : w.heap.size + 1 + 1 ≠ w.heap.size + 1 := by omega
    have hfr : w1.heap.size ≠ w.heap.size + 1 := by have := HS1.out; omega
    have hfq : w1.heap.size ≠ w.heap.size + 1 + 1 := by have := HS1.out; omega
    have ra0 := HR1.out.cell 0
    have raz0 := HR1.out.frozen 0
    have ra1 := HR1.out.cell 1
    have raz1 := HR1.out.frozen 1
    have ra2 := HR1.out.cell 2
    have raz2 := HR1.out.frozen 2
    have ra3 := HR1.out.cell 3
    have raz3 := HR1.out.frozen 3
    have ra4 := HR1.out.cell 4
    have raz4 := HR1.out.frozen 4
    have ra5 := HR1.out.cell 5
    have raz5 := HR1.out.frozen 5
    have ra6 := HR1.out.cell 6
    have raz6 := HR1.out.frozen 6
    have ra7 := HR1.out.cell 7
    have raz7 := HR1.out.frozen 7
    have ra8 := HR1.out.cell 8
    have raz8 := HR1.out.frozen 8
    have ra9 := HR1.out.cell 9
    have raz9 := HR1.out.frozen 9
    have ral := HR1.out.lt
    simp at ra0 ra1 ra2 ra3 ra4 ra5 ra6 ra7 ra8 ra9
    have qa0 := HQ1.out.cell 0
    have qaz0 := HQ1.out.frozen 0
    have qa1 := HQ1.out.cell 1
    have qaz1 := HQ1.out.frozen 1
    have qal := HQ1.out.lt
    simp at qa0 qa1
    go_wp2_with fail
    go_region
    all_goals
      obtain ⟨hR9, hQ9, hA9, _, _⟩ := setL_two (w := w) (C := w.heap.size) [.int .i64 0, .int .i64 0, .int .i64 0, .int .i64 0, .slice none 0 0, .int .i64 0, .int .i64 0, .slice none 0 0, .slice none 0 0, .slice none 0 0] [.int .i64 p, .int .i64 q] HR1.out HQ1.out hrq rfl rfl HA1.out (by omega) (by omega)
      have HR9 := hide hR9
      have HQ9 := hide hQ9
      have HA9 := hide hA9
      simp only [setL] at HR9 HQ9 HA9
      clear hR9 hQ9 hA9 ra0 raz0 ra1 raz1 ra2 raz2 ra3 raz3 ra4 raz4 ra5 raz5 ra6 raz6 ra7 raz7 ra8 raz8 ra9 raz9 ral qa0 qaz0 qa1 qaz1 qal f0 f1
      generalize (((((((((((((w1.alloc (.cells #[.int .i64 p, .int .i64 q] 30)).setCell ⟨w.heap.size + 1, 0, none⟩ (.int .i64 0)).setCell ⟨w.heap.size + 1, 1, none⟩ (.int .i64 0)).setCell ⟨w.heap.size + 1, 2, none⟩ (.int .i64 0)).setCell ⟨w.heap.size + 1, 3, none⟩ (.int .i64 0)).setCell ⟨w.heap.size + 1, 4, none⟩ (.slice none 0 0)).setCell ⟨w.heap.size + 1, 5, none⟩ (.int .i64 0)).setCell ⟨w.heap.size + 1, 6, none⟩ (.int .i64 0)).setCell ⟨w.heap.size + 1, 7, none⟩ (.slice none 0 0)).setCell ⟨w.heap.size + 1, 8, none⟩ (.slice none 0 0)).setCell ⟨w.heap.size + 1, 9, none⟩ (.slice none 0 0)).setCell ⟨w.heap.size + 1 + 1, 0, none⟩ (.int .i64 p)).setCell ⟨w.heap.size + 1 + 1, 1, none⟩ (.int .i64 q)).drew = wz at HR9 HQ9 HA9 ⊢
      go_wp2_with fail
      refine bodyPost_ret (results2_cells Try.results19 rfl rfl (run_loadVar_blk HR9.out Try.underlying25 rfl Try.sizeNode) (run_loadVar_blk HQ9.out Try.underlying30 rfl Try.sizeFaultR)) rfl ?_
      rw [HE.out]
      exact ⟨_, _, _, _, rfl, RdNd.no _, HA9.out⟩
  · obtain rfl : p = 0 := Decidable.not_not.1 hp
    obtain rfl : q = 0 := by have := HZ.out rfl; simpa using this
    have HE := hide (show resN ⟨n, id, te, vo, lo, ro, co, vs, ns, hs⟩ = Nd.rest ⟨n, id, te, vo, lo, ro, co, vs, ns, hs⟩ from if_pos (by rw [HFK.out]))
    obtain ⟨hfine, hmore⟩ := HOK.out rfl
    obtain ⟨sm1, sm2, sm3, sm4⟩ := hfine.small
    have HFI := hide hfine
    have HMO := hide hmore
    clear hp hfine hmore f0 f1
    have HSW := hide (show w.heap.size + 3 ≤ (w1.alloc (.cells #[.int .i64 0, .int .i64 0] 30)).heap.size by have := HS1.out; simp; omega)
    have HFO := hide (Follower_any ⟨n, id, te, vo, lo, ro, co, vs, ns, hs⟩ _ _ _ _ _ (HX.out.below HA1.out) (by simp only at sm1 ⊢; omega))
    have HW1 := hide (Blk.new w1 30 #[.int .i64 0, .int .i64 0])
    have hw1S := HS1.out
    unfold ndV ndA at HFO
    go_upto_region 4 with fail
    generalize hW : w1.alloc (.cells #[.int .i64 0, .int .i64 0] 30) = W at HP1 HR1 HQ1 HA1 HFO HSW HW1 ⊢
    clear hW
    go_wp2_with (refine wpList_load_blk HP1.out Try.underlying25 rfl Try.sizeNode rfl rfl rfl ?_)
    refine HFO.out.mono ?_
    rintro e w2 ⟨lv2, rfl, ho2, hb2⟩
    obtain ⟨lo2, lc2, hs1⟩ := owns_shapeK ho2
    subst hs1
    unfold Nd.follow
    dsimp only at ho2 ⊢
    have HO2 := hide ho2
    have hNB := below_allocG w2 (.cells #[.int .i64 n, .int .i64 id, .int .i64 te, .int .i64 vo, .slice lo2 lo.length lc2, .int .i64 0, .int .i64 co, .slice none 0 0, .slice none 0 0, .slice none 0 0] 25)
    have HB2 := hide (Blk.new w2 25 #[.int .i64 n, .int .i64 id, .int .i64 te, .int .i64 vo, .slice lo2 lo.length lc2, .int .i64 0, .int .i64 co, .slice none 0 0, .slice none 0 0, .slice none 0 0])
    have hbw := hb2.trans (hNB.mono hb2.size)
    have HR2 := hide (HR1.out.later hbw)
    have HQ2 := hide (HQ1.out.later hbw)
    have HF2 := hide (HW1.out.later hbw)
    have HA2 := hide (HA1.out.trans (hbw.mono HA1.out.size))
    have HO3 := hide (owns_later ho2 hNB)
    have hz2 := hb2.size
    clear ho2 hb2 hNB hbw HFO
    go_upto_region 6 with (refine wpList_store_int (k := 6) rfl rfl rfl rfl HB2.out rfl Try.sizeIntR ?_; intro w4 hB4 hg4; have HB4 := hide hB4; have HR4 := hide (HR2.out.grown hg4 (by simp; have := HSW.out; omega)); have HQ4 := hide (HQ2.out.grown hg4 (by simp; have := HSW.out; omega)); have HF4 := hide (HF2.out.grown hg4 (by simp; have := HW1.out.lt; omega)); have HA4 := hide (below_grownO HA2.out hg4 (fun k hk => by cases hk; have := HA1.out.size; omega) HA2.out.size); have HO4 := hide (HO3.out.kept hg4 (.inr (owns_off HO3.out HB2.out (by decide)))); clear hB4 hg4)
    have bn0 := HB4.out.cell 0
    have bnz0 := HB4.out.frozen 0
    have bn1 := HB4.out.cell 1
    have bnz1 := HB4.out.frozen 1
    have bn2 := HB4.out.cell 2
    have bnz2 := HB4.out.frozen 2
    have bn3 := HB4.out.cell 3
    have bnz3 := HB4.out.frozen 3
    have bn4 := HB4.out.cell 4
    have bnz4 := HB4.out.frozen 4
    have bn5 := HB4.out.cell 5
    have bnz5 := HB4.out.frozen 5
    have bn6 := HB4.out.cell 6
    have bnz6 := HB4.out.frozen 6
    have bn7 := HB4.out.cell 7
    have bnz7 := HB4.out.frozen 7
    have bn8 := HB4.out.cell 8
    have bnz8 := HB4.out.frozen 8
    have bn9 := HB4.out.cell 9
    have bnz9 := HB4.out.frozen 9
    have bnl := HB4.out.lt
    simp at bn0 bn1 bn2 bn3 bn4 bn5 bn6 bn7 bn8 bn9
    have ra0 := HR4.out.cell 0
    have raz0 := HR4.out.frozen 0
    have ra1 := HR4.out.cell 1
    have raz1 := HR4.out.frozen 1
    have ra2 := HR4.out.cell 2
    have raz2 := HR4.out.frozen 2
    have ra3 := HR4.out.cell 3
    have raz3 := HR4.out.frozen 3
    have ra4 := HR4.out.cell 4
    have raz4 := HR4.out.frozen 4
    have ra5 := HR4.out.cell 5
    have raz5 := HR4.out.frozen 5
    have ra6 := HR4.out.cell 6
    have raz6 := HR4.out.frozen 6
    have ra7 := HR4.out.cell 7
    have raz7 := HR4.out.frozen 7
    have ra8 := HR4.out.cell 8
    have raz8 := HR4.out.frozen 8
    have ra9 := HR4.out.cell 9
    have raz9 := HR4.out.frozen 9
    have ral := HR4.out.lt
    simp at ra0 ra1 ra2 ra3 ra4 ra5 ra6 ra7 ra8 ra9
    have qa0 := HQ4.out.cell 0
    have qaz0 := HQ4.out.frozen 0
    have qa1 := HQ4.out.cell 1
    have qaz1 := HQ4.out.frozen 1
    have qal := HQ4.out.lt
    simp at qa0 qa1
    have fa0 := HF4.out.cell 0
    have faz0 := HF4.out.frozen 0
    have fa1 := HF4.out.cell 1
    have faz1 := HF4.out.frozen 1
    have fal := HF4.out.lt
    simp at fa0 fa1
    have hrq : w.heap.size + 1 ≠ w.heap.size + 1 + 1 := by omega
    have hqr : w.heap.size + 1 + 1 ≠ w.heap.size + 1 := by omega
    have n1 : w2.heap.size ≠ w.heap.size + 1 := by have := HSW.out; omega
    have n2 : w2.heap.size ≠ w.heap.size + 1 + 1 := by have := HSW.out; omega
    have n3 : w1.heap.size ≠ w.heap.size + 1 := by omega
    have n4 : w1.heap.size ≠ w.heap.size + 1 + 1 := by omega
    go_wp2_with fail
    go_region
    all_goals
      obtain ⟨hR9, hQ9, hA9, _, _⟩ := setL_two (w := w) (C := w.heap.size) [.int .i64 n, .int .i64 id, .int .i64 te, .int .i64 vo, .slice lo2 lo.length lc2, .int .i64 0, .int .i64 0, .slice none 0 0, .slice none 0 0, .slice none 0 0] [.int .i64 0, .int .i64 0] HR4.out HQ4.out hrq rfl rfl HA4.out (by omega) (by omega)
      have hO9 := owns_offB (owns_offB HO4.out (setL_grown (w.heap.size + 1) [.int .i64 n, .int .i64 id, .int .i64 te, .int .i64 vo, .slice lo2 lo.length lc2, .int .i64 0, .int .i64 0, .slice none 0 0, .slice none 0 0, .slice none 0 0] w4 0) (by have := HSW.out; omega)) (setL_grown (w.heap.size + 1 + 1) [.int .i64 0, .int .i64 0] _ 0) (by have := HSW.out; omega)
      have hO10 := (RdG.ofOwns (E := eE) (cs := lo) hO9).drew
      have HR9 := hide hR9
      have HQ9 := hide hQ9
      have HA9 := hide hA9
      have HO9 := hide hO10
      simp only [setL] at HR9 HQ9 HA9 HO9
      clear hR9 hQ9 hA9 hO9 hO10 bn0 bnz0 bn1 bnz1 bn2 bnz2 bn3 bnz3 bn4 bnz4 bn5 bnz5 bn6 bnz6 bn7 bnz7 bn8 bnz8 bn9 bnz9 bnl ra0 raz0 ra1 raz1 ra2 raz2 ra3 raz3 ra4 raz4 ra5 raz5 ra6 raz6 ra7 raz7 ra8 raz8 ra9 raz9 ral qa0 qaz0 qa1 qaz1 qal fa0 faz0 fa1 faz1 fal
      generalize ((((((((((((w4.setCell ⟨w.heap.size + 1, 0, none⟩ (.int .i64 n)).setCell ⟨w.heap.size + 1, 1, none⟩ (.int .i64 id)).setCell ⟨w.heap.size + 1, 2, none⟩ (.int .i64 te)).setCell ⟨w.heap.size + 1, 3, none⟩ (.int .i64 vo)).setCell ⟨w.heap.size + 1, 4, none⟩ (.slice lo2 lo.length lc2)).setCell ⟨w.heap.size + 1, 5, none⟩ (.int .i64 0)).setCell ⟨w.heap.size + 1, 6, none⟩ (.int .i64 0)).setCell ⟨w.heap.size + 1, 7, none⟩ (.slice none 0 0)).setCell ⟨w.heap.size + 1, 8, none⟩ (.slice none 0 0)).setCell ⟨w.heap.size + 1, 9, none⟩ (.slice none 0 0)).setCell ⟨w.heap.size + 1 + 1, 0, none⟩ (.int .i64 0)).setCell ⟨w.heap.size + 1 + 1, 1, none⟩ (.int .i64 0)).drew = wz at HR9 HQ9 HA9 HO9 ⊢
      go_wp2_with fail
      refine bodyPost_ret (results2_cells Try.results19 rfl rfl (run_loadVar_blk HR9.out Try.underlying25 rfl Try.sizeNode) (run_loadVar_blk HQ9.out Try.underlying30 rfl Try.sizeFaultR)) rfl ?_
      rw [HE.out]
      exact ⟨_, _, _, _, rfl, ⟨HO9.out, RdG.nil _, RdG.nil _, RdG.nil _⟩, HA9.out⟩

end Go.Proofs.Ytbffmdhogehfnaa

/-
  The walk over the document's TakeNode: where something is wrong. (Written by rv2.py and those that take it up.)
-/
namespace Go.Proofs.Ytbffmdhogehfnaa
open Go.RowKit Go.Maps
set_option linter.unusedVariables false

def TnTo (x : Nd) (m : Ml) (w : World) (e : Ending) (w' : World) : Prop :=
  ∃ lv' vv' nv' hv' mv, e = .returned (.tuple #[ndV (takN x m) lv' vv' nv' hv', mv, flt (takF x m)]) ∧ RdNd w' (takN x m) lv' vv' nv' hv' ∧ RdM w' mv (takM x m) ∧ Below w.heap.size w w'

theorem takF_mf (x : Nd) (m : Ml) : takF x m = if (chkN x).1 ≠ 0 then chkN x else if mfB x m = false then (5, 0) else (0, 0) := by
  unfold takF mfB
  split
  · rfl
  · cases sentB x m <;> cases numsB m <;> cases brgB m <;> rfl

theorem exec_load_blk {P : Program} {w : World} {o : Oper} {a : Act} {x : Operand} {B : Nat} {t ty : TypeId} {xs : Array Value} {d : TypeDesc} (hB : Blk w B t xs) (hu : P.underlying ty = some d) (hd : (match d with | .struct _ | .array _ _ => true | _ => false) = true) (hi : (P.info? ty).map (·.size) = some xs.size) (ho : o.op = .load ty x) (hx : a.eval x = .pointer (some ⟨B, 0, none⟩)) :
    (execOp a.eval o).run P w = .ok (.value (.agg xs)) w := by
  unfold execOp
  simp only [ho, hx, run_loadAt_blk hB hu hd hi, Sem.run_bind, Sem.run_pure, Result.andThen_ok]

set_option maxRecDepth 100000 in
set_option maxHeartbeats 16000000 in
theorem TakeNode_f (x : Nd) (lv vv nv hv : Value) (m : Ml) (ev : Value) (w : World) (hx : RdNd w x lv vv nv hv) (he : RdG eE w ev m.ents) (hbad : (takF x m).1 ≠ 0) :
    Calls Try.prog 25 #[ndV x lv vv nv hv, mlV m ev] w (TnTo x m w) := by
  have HTN : Hid (takN x m = noNd) := hide (if_neg hbad)
  have HTM : Hid (takM x m = []) := hide (if_neg hbad)
  have HTF := hide (takF_mf x m)
  have HMC := hide (fun W (h : Below w.heap.size w W) => MailFine_any x lv vv nv hv m ev W (hx.below h) (he.below h))
  have HBAD := hide hbad
  have HZ := hide (chkN_z x)
  clear hbad
  have HX := hide hx
  have HEV := hide he
  obtain ⟨n, id, te, vo, lo, ro, co, vs, ns, hs⟩ := x
  obtain ⟨h1, h2, h3, h4⟩ := hx
  simp only at h1 h2 h3 h4
  obtain ⟨ao, cap, rfl, hc1, hc2⟩ := h1.shape
  obtain ⟨bo, cap2, rfl, hd1, hd2⟩ := h2.shape
  obtain ⟨no, cap3, rfl, _, _⟩ := h3.shape
  obtain ⟨ho, cap4, rfl, _, _⟩ := h4.shape
  obtain ⟨ki, fr, dt, mt, ma, mb, mc, es, ok⟩ := m
  simp only at he
  obtain ⟨eo, ec, rfl, he1, he2⟩ := he.shape
  obtain ⟨hP, hM, hR, hQ, hA, hS⟩ := four_at w #[.int .i64 n, .int .i64 id, .int .i64 te, .int .i64 vo, .slice ao lo.length cap, .int .i64 ro, .int .i64 co, .slice bo vs.length cap2, .slice no ns.length cap3, .slice ho hs.length cap4] #[.int .i64 ki, .int .i64 fr, .int .i64 dt, .int .i64 mt, .int .i64 ma, .int .i64 mb, .int .i64 mc, .slice eo es.length ec, .bool ok] #[.int .i64 0, .int .i64 0, .int .i64 0, .int .i64 0, .slice none 0 0, .int .i64 0, .int .i64 0, .slice none 0 0, .slice none 0 0, .slice none 0 0] #[.int .i64 0, .int .i64 0] 25 44 25 30
  have HC1 := hide (NodeFault_any ⟨n, id, te, vo, lo, ro, co, vs, ns, hs⟩ _ _ _ _ _ (HX.out.below hA))
  unfold TnTo
  unfold ndV ndA mlV mlA at HMC
  generalize mfB ⟨n, id, te, vo, lo, ro, co, vs, ns, hs⟩ ⟨ki, fr, dt, mt, ma, mb, mc, es, ok⟩ = MF at HTF HMC
  generalize takN ⟨n, id, te, vo, lo, ro, co, vs, ns, hs⟩ ⟨ki, fr, dt, mt, ma, mb, mc, es, ok⟩ = TN at HTN ⊢
  generalize takM ⟨n, id, te, vo, lo, ro, co, vs, ns, hs⟩ ⟨ki, fr, dt, mt, ma, mb, mc, es, ok⟩ = TM at HTM ⊢
  generalize takF ⟨n, id, te, vo, lo, ro, co, vs, ns, hs⟩ ⟨ki, fr, dt, mt, ma, mb, mc, es, ok⟩ = TF at HTF HBAD ⊢
  generalize chkN ⟨n, id, te, vo, lo, ro, co, vs, ns, hs⟩ = CK at HC1 HTF HZ
  obtain ⟨p, q⟩ := CK
  obtain ⟨tf1, tf2⟩ := TF
  unfold ndV ndA flt at HC1
  unfold ndV ndA mlV mlA
  have HP := hide hP
  have HM := hide hM
  have HR := hide hR
  have HQ := hide hQ
  have HA := hide hA
  have HS := hide hS
  clear h1 h2 h3 h4 he hP hM hR hQ hA hS
  go_enter Try.func25, Try.ntmps25
  go_wp2_with (refine wpList_load_blk HP.out Try.underlying25 rfl Try.sizeNode rfl rfl rfl ?_)
  refine HC1.out.mono ?_
  rintro e w1 ⟨rfl, hb1⟩
  have hN := below_allocG w1 (.cells #[.int .i64 p, .int .i64 q] 30)
  have HP1 := hide ((HP.out.later hb1).later hN)
  have HM1 := hide ((HM.out.later hb1).later hN)
  have HR1 := hide ((HR.out.later hb1).later hN)
  have HQ1 := hide ((HQ.out.later hb1).later hN)
  have hAA := HA.out.trans (hb1.mono HA.out.size)
  have HA1 := hide (hAA.trans (hN.mono hAA.size))
  have HS1 := hide (show w.heap.size + 4 ≤ w1.heap.size by have := hb1.size; have := HS.out; omega)
  have HF1 := hide (Blk.new w1 30 #[.int .i64 p, .int .i64 q])
  have HL1 := hide (show w1.heap.size < (w1.alloc (.cells #[.int .i64 p, .int .i64 q] 30)).heap.size by simp)
  have hrq : w.heap.size + 1 + 1 ≠ w.heap.size + 1 + 1 + 1 := by omega
  have hqr : w.heap.size + 1 + 1 + 1 ≠ w.heap.size + 1 + 1 := by omega
  clear hb1 hN hAA HC1 HP HM HR HQ HA HS
  have hfr : w1.heap.size ≠ w.heap.size + 1 + 1 := by have := HS1.out; omega
  have hfq : w1.heap.size ≠ w.heap.size + 1 + 1 + 1 := by have := HS1.out; omega
  by_cases hp : p ≠ 0
  · have hq : (p == 0) = false := beq_eq_false_iff_ne.2 hp
    have hq2 : (p != 0) = true := by simp [hp]
    have HE := hide (show (tf1, tf2) = (p, q) from HTF.out.trans (if_pos hp))
    clear hp
    go_upto_region 2 with fail
    generalize hWW : (w1.alloc (.cells #[.int .i64 p, .int .i64 q] 30)) = W at HP1 HM1 HR1 HQ1 HA1 HF1 HL1 ⊢
    clear hWW
    have f0 := HF1.out.cell 0
    have f1 := HF1.out.cell 1
    simp at f0 f1
    have ra0 := HR1.out.cell 0
    have raz0 := HR1.out.frozen 0
    have ra1 := HR1.out.cell 1
    have raz1 := HR1.out.frozen 1
    have ra2 := HR1.out.cell 2
    have raz2 := HR1.out.frozen 2
    have ra3 := HR1.out.cell 3
    have raz3 := HR1.out.frozen 3
    have ra4 := HR1.out.cell 4
    have raz4 := HR1.out.frozen 4
    have ra5 := HR1.out.cell 5
    have raz5 := HR1.out.frozen 5
    have ra6 := HR1.out.cell 6
    have raz6 := HR1.out.frozen 6
    have ra7 := HR1.out.cell 7
    have raz7 := HR1.out.frozen 7
    have ra8 := HR1.out.cell 8
    have raz8 := HR1.out.frozen 8
    have ra9 := HR1.out.cell 9
    have raz9 := HR1.out.frozen 9
    have ral := HR1.out.lt
    simp at ra0 ra1 ra2 ra3 ra4 ra5 ra6 ra7 ra8 ra9
    have qa0 := HQ1.out.cell 0
    have qaz0 := HQ1.out.frozen 0
    have qa1 := HQ1.out.cell 1
    have qaz1 := HQ1.out.frozen 1
    have qal := HQ1.out.lt
    simp at qa0 qa1
    go_wp2_with fail
    go_region
    all_goals
      obtain ⟨hR9, hQ9, hA9, _, _⟩ := setL_two (w := w) (C := w.heap.size) [.int .i64 0, .int .i64 0, .int .i64 0, .int .i64 0, .slice none 0 0, .int .i64 0, .int .i64 0, .slice none 0 0, .slice none 0 0, .slice none 0 0] [.int .i64 p, .int .i64 q] HR1.out HQ1.out hrq rfl rfl HA1.out (by omega) (by omega)
      have HR9 := hide hR9
      have HQ9 := hide hQ9
      have HA9 := hide hA9
      simp only [setL] at HR9 HQ9 HA9
      clear hR9 hQ9 hA9 ra0 raz0 ra1 raz1 ra2 raz2 ra3 raz3 ra4 raz4 ra5 raz5 ra6 raz6 ra7 raz7 ra8 raz8 ra9 raz9 ral qa0 qaz0 qa1 qaz1 qal f0 f1
      generalize ((((((((((((W.setCell ⟨w.heap.size + 1 + 1, 0, none⟩ (.int .i64 0)).setCell ⟨w.heap.size + 1 + 1, 1, none⟩ (.int .i64 0)).setCell ⟨w.heap.size + 1 + 1, 2, none⟩ (.int .i64 0)).setCell ⟨w.heap.size + 1 + 1, 3, none⟩ (.int .i64 0)).setCell ⟨w.heap.size + 1 + 1, 4, none⟩ (.slice none 0 0)).setCell ⟨w.heap.size + 1 + 1, 5, none⟩ (.int .i64 0)).setCell ⟨w.heap.size + 1 + 1, 6, none⟩ (.int .i64 0)).setCell ⟨w.heap.size + 1 + 1, 7, none⟩ (.slice none 0 0)).setCell ⟨w.heap.size + 1 + 1, 8, none⟩ (.slice none 0 0)).setCell ⟨w.heap.size + 1 + 1, 9, none⟩ (.slice none 0 0)).setCell ⟨w.heap.size + 1 + 1 + 1, 0, none⟩ (.int .i64 p)).setCell ⟨w.heap.size + 1 + 1 + 1, 1, none⟩ (.int .i64 q)).drew = wz at HR9 HQ9 HA9 ⊢
      go_wp2_with fail
      refine bodyPost_ret (results3_ctc Try.results25 rfl rfl rfl (run_loadVar_blk HR9.out Try.underlying25 rfl Try.sizeNode) (run_loadVar_blk HQ9.out Try.underlying30 rfl Try.sizeFaultR)) rfl ?_
      rw [HTN.out, HTM.out, HE.out]
      exact ⟨_, _, _, _, _, rfl, RdNd.no _, (OwM.nil wz 0).rd, HA9.out⟩
  obtain rfl : p = 0 := Decidable.not_not.1 hp
  obtain rfl : q = 0 := by have := HZ.out rfl; simpa using this
  have HE0 := hide (HTF.out.trans (if_neg hp))
  have hmf : MF = false := by
    cases MF
    · rfl
    · exact absurd (show tf1 = 0 by have := HE0.out; simp at this; exact this.1) HBAD.out
  subst hmf
  have HE := hide (show (tf1, tf2) = (5, 0) from HE0.out)
  clear hp HE0 HBAD
  have HMC1 := hide (HMC.out _ HA1.out)
  clear HMC
  go_upto_region 2 with fail
  generalize hWW : (w1.alloc (.cells #[.int .i64 0, .int .i64 0] 30)) = W at HP1 HM1 HR1 HQ1 HA1 HF1 HMC1 HL1 ⊢
  clear hWW
  have f0 := HF1.out.cell 0
  have f1 := HF1.out.cell 1
  simp at f0 f1
  go_upto_region 5 with (first
    | (refine wpList_load_blkW HP1.out Try.underlying25 rfl Try.sizeNode rfl rfl rfl ?_)
    | (refine wpList_load_blkW HM1.out Try.underlying44 rfl Try.sizeMail rfl rfl rfl ?_)
    | (go_at_call 52; refine HMC1.out.mono ?_; rintro e w2 ⟨rfl, hb2⟩; have HR2 := hide (HR1.out.later hb2); have HQ2 := hide (HQ1.out.later hb2); have HF2 := hide (HF1.out.later hb2); have HA2 := hide (HA1.out.trans (hb2.mono HA1.out.size)); have hz2 := hb2.size; have HL2 := hide (Nat.lt_of_lt_of_le HL1.out hb2.size); clear hb2)
    | (go_at_call 40; refine (lF_any _ _ _).mono ?_; rintro e w3 ⟨rfl, hb3⟩; have HR3 := hide (HR2.out.later hb3); have HQ3 := hide (HQ2.out.later hb3); have HF3 := hide (HF2.out.later hb3); have HA3 := hide (HA2.out.trans (hb3.mono HA2.out.size)); have hz3 := hb3.size; clear hb3; unfold flt)
    | (refine wpList_store_blk rfl rfl rfl rfl HF3.out rfl Try.sizeFaultR rfl ?_; intro w4 hF4 hg4; have HR4 := hide (HR3.out.grown hg4 (by simp; omega)); have HQ4 := hide (HQ3.out.grown hg4 (by simp; omega)); have HA4 := hide (below_grownO HA3.out hg4 (fun k hk => by cases hk; have := HS1.out; omega) HA3.out.size); have m0 := hF4.cell 0; have m1 := hF4.cell 1; have ml := hF4.lt; simp at m0 m1; clear hF4 hg4))
  clear f0 f1
  have ra0 := HR4.out.cell 0
  have raz0 := HR4.out.frozen 0
  have ra1 := HR4.out.cell 1
  have raz1 := HR4.out.frozen 1
  have ra2 := HR4.out.cell 2
  have raz2 := HR4.out.frozen 2
  have ra3 := HR4.out.cell 3
  have raz3 := HR4.out.frozen 3
  have ra4 := HR4.out.cell 4
  have raz4 := HR4.out.frozen 4
  have ra5 := HR4.out.cell 5
  have raz5 := HR4.out.frozen 5
  have ra6 := HR4.out.cell 6
  have raz6 := HR4.out.frozen 6
  have ra7 := HR4.out.cell 7
  have raz7 := HR4.out.frozen 7
  have ra8 := HR4.out.cell 8
  have raz8 := HR4.out.frozen 8
  have ra9 := HR4.out.cell 9
  have raz9 := HR4.out.frozen 9
  have ral := HR4.out.lt
  simp at ra0 ra1 ra2 ra3 ra4 ra5 ra6 ra7 ra8 ra9
  have qa0 := HQ4.out.cell 0
  have qaz0 := HQ4.out.frozen 0
  have qa1 := HQ4.out.cell 1
  have qaz1 := HQ4.out.frozen 1
  have qal := HQ4.out.lt
  simp at qa0 qa1
  go_region
  all_goals
    obtain ⟨hR9, hQ9, hA9, _, _⟩ := setL_two (w := w) (C := w.heap.size) [.int .i64 0, .int .i64 0, .int .i64 0, .int .i64 0, .slice none 0 0, .int .i64 0, .int .i64 0, .slice none 0 0, .slice none 0 0, .slice none 0 0] [.int .i64 5, .int .i64 0] HR4.out HQ4.out hrq rfl rfl HA4.out (by omega) (by omega)
    have HR9 := hide hR9
    have HQ9 := hide hQ9
    have HA9 := hide hA9
    simp only [setL] at HR9 HQ9 HA9
    clear hR9 hQ9 hA9 ra0 raz0 ra1 raz1 ra2 raz2 ra3 raz3 ra4 raz4 ra5 raz5 ra6 raz6 ra7 raz7 ra8 raz8 ra9 raz9 ral qa0 qaz0 qa1 qaz1 qal m0 m1 ml
    generalize ((((((((((((w4.setCell ⟨w.heap.size + 1 + 1, 0, none⟩ (.int .i64 0)).setCell ⟨w.heap.size + 1 + 1, 1, none⟩ (.int .i64 0)).setCell ⟨w.heap.size + 1 + 1, 2, none⟩ (.int .i64 0)).setCell ⟨w.heap.size + 1 + 1, 3, none⟩ (.int .i64 0)).setCell ⟨w.heap.size + 1 + 1, 4, none⟩ (.slice none 0 0)).setCell ⟨w.heap.size + 1 + 1, 5, none⟩ (.int .i64 0)).setCell ⟨w.heap.size + 1 + 1, 6, none⟩ (.int .i64 0)).setCell ⟨w.heap.size + 1 + 1, 7, none⟩ (.slice none 0 0)).setCell ⟨w.heap.size + 1 + 1, 8, none⟩ (.slice none 0 0)).setCell ⟨w.heap.size + 1 + 1, 9, none⟩ (.slice none 0 0)).setCell ⟨w.heap.size + 1 + 1 + 1, 0, none⟩ (.int .i64 5)).setCell ⟨w.heap.size + 1 + 1 + 1, 1, none⟩ (.int .i64 0)).drew = wz at HR9 HQ9 HA9 ⊢
    go_wp2_with fail
    refine bodyPost_ret (results3_ctc Try.results25 rfl rfl rfl (run_loadVar_blk HR9.out Try.underlying25 rfl Try.sizeNode) (run_loadVar_blk HQ9.out Try.underlying30 rfl Try.sizeFaultR)) rfl ?_
    rw [HTN.out, HTM.out, HE.out]
    exact ⟨_, _, _, _, _, rfl, RdNd.no _, (OwM.nil wz 0).rd, HA9.out⟩

end Go.Proofs.Ytbffmdhogehfnaa
