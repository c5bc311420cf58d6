/-
  Texts joined: RaftR3l, RaftR3b0, RaftR3b1, RaftR3b2, RaftR3b, RaftD1, RaftR5.
-/
import Derived.Test.YtddkjpojbflmjahMRaftDoes8
/-
  Votes, Next and Have by Role. (Written by rr3d.py.)
-/
namespace Go.Proofs.Ytddkjpojbflmjah
open Go.RowKit Go.Maps
set_option linter.unusedVariables false

theorem votesB_no {x : Nd} (h : x.role ≠ 1) : votesB x = decide (x.votes.length = 0) := if_neg h
theorem votesB_one {x : Nd} (h : x.role = 1) : votesB x = (voGo x.n [] x.votes && (decide (x.id ∈ x.votes) && !mostB x.votes.length x.n)) := if_pos h
theorem ofB_no {x : Nd} {l : List Int} {a b : Int} (h : x.role ≠ 2) : ofB x l a b = decide (l.length = 0) := if_neg h
theorem ofB_two {x : Nd} {l : List Int} {a b : Int} (h : x.role = 2) : ofB x l a b = (decide ((l.length : Int) = x.n) && !(l.any fun v => !wiB v a b)) := if_pos h

theorem ofB_out {x : Nd} {l : List Int} {a b u : Int} (h : x.role = 2) (hu : u ∈ l) (ho : ¬ (a ≤ u ∧ u ≤ b)) : ofB x l a b = false := by
  rw [ofB_two h]
  have : (l.any fun v => !wiB v a b) = true := List.any_eq_true.2 ⟨u, hu, by rw [wiB_false.2 ho]; rfl⟩
  rw [this]
  simp

theorem ofB_in {x : Nd} {l : List Int} {a b : Int} (h : x.role = 2) (hl : (l.length : Int) = x.n) (ho : ∀ u ∈ l, a ≤ u ∧ u ≤ b) : ofB x l a b = true := by
  rw [ofB_two h, decide_eq_true hl]
  have : (l.any fun v => !wiB v a b) = false := List.any_eq_false.2 fun u hu => by rw [wiB_true.2 (ho u hu)]; simp
  rw [this]
  rfl

theorem RdG.upto2 {α : Type} {K : Nat} {E : En α K} {w : World} {ao : Option Addr} {n cap hi : Nat} {xs : List α} (h : RdG E w (.slice ao n cap) xs) (h1 : hi ≤ n) : RdG E w (.slice ao hi cap) (xs.take hi) := by
  obtain ⟨ao', cap', hv, h3, h4, h5, h6⟩ := h
  simp only [Value.slice.injEq] at hv
  obtain ⟨rfl, rfl, rfl⟩ := hv
  have hl : (xs.take hi).length = hi := by simp; omega
  refine ⟨ao, cap, by rw [hl], by omega, h4, h5, fun a ha j u hu => h6 a ha j u ?_⟩
  rw [← vs_take, List.getElem?_take] at hu
  split at hu
  · exact hu
  · cases hu

end Go.Proofs.Ytddkjpojbflmjah

/-
  The walk over the document's NodeFault for the Role 0. (Written by rr3d.py.)
-/
namespace Go.Proofs.Ytddkjpojbflmjah
open Go.RowKit Go.Maps
set_option linter.unusedVariables false

set_option maxRecDepth 100000 in
set_option maxHeartbeats 16000000 in
theorem NodeFault_r0 (x : Nd) (lv vv nv hv : Value) (w : World) (hx : RdNd w x lv vv nv hv) (hok : (nmF x).1 = 0) (hrole : x.role = 0) :
    Calls Try.prog 21 #[ndV x lv vv nv hv] w fun e w' => e = .returned (flt (chkN x)) ∧ Below w.heap.size w w' := by
  have HX := hide hx
  have HROLE := hide hrole
  clear hrole
  obtain ⟨n, id, te, vo, lo, ro, co, vs, ns, hs⟩ := x
  obtain ⟨h1, h2, h3, h4⟩ := hx
  simp only at h1 h2 h3 h4
  obtain ⟨ao, cap, rfl, hc1, hc2⟩ := h1.shape
  obtain ⟨bo, cap2, rfl, hd1, hd2⟩ := h2.shape
  obtain ⟨no, cap3, rfl, _, _⟩ := h3.shape
  obtain ⟨ho, cap4, rfl, _, _⟩ := h4.shape
  have hA := below_alloc2 w (.cells #[.int .i64 n, .int .i64 id, .int .i64 te, .int .i64 vo, .slice ao lo.length cap, .int .i64 ro, .int .i64 co, .slice bo vs.length cap2, .slice no ns.length cap3, .slice ho hs.length cap4] 34) (.cells #[.int .i64 0, .int .i64 0] 26)
  have HB0 := hide (Blk.at0of2 w (.cells #[.int .i64 0, .int .i64 0] 26) 34 #[.int .i64 n, .int .i64 id, .int .i64 te, .int .i64 vo, .slice ao lo.length cap, .int .i64 ro, .int .i64 co, .slice bo vs.length cap2, .slice no ns.length cap3, .slice ho hs.length cap4])
  have HR0 := hide (Blk.at1 w (.cells #[.int .i64 n, .int .i64 id, .int .i64 te, .int .i64 vo, .slice ao lo.length cap, .int .i64 ro, .int .i64 co, .slice bo vs.length cap2, .slice no ns.length cap3, .slice ho hs.length cap4] 34) 26 #[.int .i64 0, .int .i64 0])
  have HA0 := hide hA
  have HLF := hide (LogFault_any _ lo _ (h1.below hA))
  have HLT := hide (fun W (hW : Below w.heap.size w W) => LastTerm_any _ lo W (h1.below hW))
  have HH2 := hide (fun W (hW : Below w.heap.size w W) => h2.below hW)
  have HH3 := hide (fun W (hW : Below w.heap.size w W) => h3.below hW)
  have HH4 := hide (fun W (hW : Below w.heap.size w W) => h4.below hW)
  have HNM : Hid (nmF ⟨n, id, te, vo, lo, ro, co, vs, ns, hs⟩ = if wiB n 1 7 = false ∨ wiB id 0 (n - 1) = false then (3, -1) else if numL te = false ∨ wiB vo 0 n = false ∨ wiB ro 0 2 = false ∨ wiB co 0 lo.length = false then (3, -2) else (0, 0)) := hide rfl
  have HLG : Hid (lgF ⟨n, id, te, vo, lo, ro, co, vs, ns, hs⟩ = if (chkE lo).1 ≠ 0 then chkE lo else if te < lastT lo then (11, -3) else (0, 0)) := hide rfl
  have HCK : Hid (chkN ⟨n, id, te, vo, lo, ro, co, vs, ns, hs⟩ = if (nmF ⟨n, id, te, vo, lo, ro, co, vs, ns, hs⟩).1 ≠ 0 then nmF ⟨n, id, te, vo, lo, ro, co, vs, ns, hs⟩ else if (lgF ⟨n, id, te, vo, lo, ro, co, vs, ns, hs⟩).1 ≠ 0 then lgF ⟨n, id, te, vo, lo, ro, co, vs, ns, hs⟩ else if votesB ⟨n, id, te, vo, lo, ro, co, vs, ns, hs⟩ = false ∨ knownB ⟨n, id, te, vo, lo, ro, co, vs, ns, hs⟩ = false then (5, -3) else (0, 0)) := hide rfl
  have HZE := hide (chkE_z lo)
  unfold maxLen at hd2 hc2
  clear h1 h2 h3 h4 hA
  unfold ndV ndA
  have HN0 := hide (show nmF ⟨n, id, te, vo, lo, ro, co, vs, ns, hs⟩ = (0, 0) from nmF_z _ hok)
  have hcc : (1 ≤ n ∧ n ≤ 7 ∧ 0 ≤ id ∧ id < n) ∧ numL te = true ∧ (0 ≤ vo ∧ vo ≤ n) ∧ (0 ≤ ro ∧ ro ≤ 2) ∧ 0 ≤ co ∧ co ≤ lo.length := by
    have h := HNM.out
    rw [HN0.out] at h
    by_cases h1 : wiB n 1 7 = false ∨ wiB id 0 (n - 1) = false
    · rw [if_pos h1] at h; simp at h
    rw [if_neg h1] at h
    by_cases h2 : numL te = false ∨ wiB vo 0 n = false ∨ wiB ro 0 2 = false ∨ wiB co 0 lo.length = false
    · rw [if_pos h2] at h; simp at h
    simp only [not_or, Bool.not_eq_false, wiB_true] at h1 h2
    exact ⟨⟨h1.1.1, h1.1.2, h1.2.1, by omega⟩, h2.1, h2.2.1, h2.2.2.1, h2.2.2.2⟩
  obtain ⟨⟨hn1, hn7, hi0, hin⟩, hnum, ⟨hv0, hvn⟩, ⟨hr0, hr2⟩, hc0, hcl⟩ := hcc
  have e0 : decide (n < 1) = false := decide_eq_false (by omega)
  have e1 : decide (7 < n) = false := decide_eq_false (by omega)
  have e2 : decide (id < 0) = false := decide_eq_false (by omega)
  have e3 : decide (n ≤ id) = false := decide_eq_false (by omega)
  have e5 : decide (vo < 0) = false := decide_eq_false (by omega)
  have e6 : decide (n < vo) = false := decide_eq_false (by omega)
  have e7 : decide (ro < 0) = false := decide_eq_false (by omega)
  have e8 : decide (2 < ro) = false := decide_eq_false (by omega)
  have e9 : decide (co < 0) = false := decide_eq_false (by omega)
  have e10 : decide ((lo.length : Int) < co) = false := decide_eq_false (by omega)
  have AN := hide hnum
  have HK1 := hide (show chkN ⟨n, id, te, vo, lo, ro, co, vs, ns, hs⟩ = if (lgF ⟨n, id, te, vo, lo, ro, co, vs, ns, hs⟩).1 ≠ 0 then lgF ⟨n, id, te, vo, lo, ro, co, vs, ns, hs⟩ else if votesB ⟨n, id, te, vo, lo, ro, co, vs, ns, hs⟩ = false ∨ knownB ⟨n, id, te, vo, lo, ro, co, vs, ns, hs⟩ = false then (5, -3) else (0, 0) by rw [HCK.out, HN0.out, if_neg (by simp)])
  clear HCK HNM hnum hok
  have HLL0 := hide (fun h => (chkE_fine (l := lo) h).2)
  generalize hK : chkE lo = K at *
  obtain ⟨p, q⟩ := K
  clear hK
  generalize hT : lastT lo = T at *
  clear hT
  go_enter Try.func21, Try.ntmps21
  go_wp2_with (go_at_call 49; refine (lNum_any te _).mono ?_; rw [AN.out]; rintro e w1 ⟨rfl, rfl⟩)
  refine HLF.out.mono ?_
  rintro e w1 ⟨rfl, hb1⟩
  have hN := below_allocG w1 (.cells #[.int .i64 p, .int .i64 q] 26)
  have hB := (HB0.out.later hb1).later hN
  have HB1 := hide hB
  have HR1 := hide ((HR0.out.later hb1).later hN)
  have hAA := HA0.out.trans (hb1.mono HA0.out.size)
  have HA1 := hide (hAA.trans (hN.mono hAA.size))
  have hW := Blk.new w1 26 #[.int .i64 p, .int .i64 q]
  have HT1 := hide hW
  have f0 := hW.cell 0
  have c2 := hB.cell 2
  have c4 := hB.cell 4
  have cl := hB.lt
  simp at f0 c2 c4 cl
  clear hb1 hN hB hAA hW HLF HB0 HR0 HA0
  unfold flt
  by_cases hp : p ≠ 0
  · have HE := hide (show chkN ⟨n, id, te, vo, lo, ro, co, vs, ns, hs⟩ = (p, q) by rw [HK1.out, show lgF ⟨n, id, te, vo, lo, ro, co, vs, ns, hs⟩ = (p, q) by rw [HLG.out, if_pos hp], if_pos hp])
    have hq2 : (p != 0) = true := by simp [hp]
    have hq : (p == 0) = false := beq_eq_false_iff_ne.2 hp
    clear hp
    go_wp2_with (first
      | (refine wpList_load_blk HT1.out Try.underlying26 rfl Try.sizeFaultR rfl rfl rfl ?_)
      | (refine wpList_store_blk rfl rfl rfl rfl HR1.out rfl Try.sizeFaultR rfl ?_; intro w8 hR8 hg8; have HR8 := hide hR8; have HG8 := hide hg8; clear hR8 hg8))
    refine bodyPost_ret (results1_cell Try.results21 rfl (run_loadVar_blk HR8.out Try.underlying26 rfl Try.sizeFaultR)) rfl ?_
    exact ⟨by rw [HE.out] <;> rfl, below_grownO HA1.out HG8.out (fun k hk => by cases hk; omega) HA1.out.size⟩
  obtain rfl : p = 0 := Decidable.not_not.1 hp
  obtain rfl : q = 0 := by have := HZE.out rfl; simpa using this
  have HLG2 := hide (show lgF ⟨n, id, te, vo, lo, ro, co, vs, ns, hs⟩ = if te < T then (11, -3) else (0, 0) by rw [HLG.out, if_neg (by simp)])
  have HLL := hide (HLL0.out rfl)
  clear hp HLG
  have HQ := hide (fun m => HLT.out ((w1.alloc (.cells #[.int .i64 0, .int .i64 0] 26)).drewN m) (below_drewN HA1.out m))
  by_cases hte : te < T
  · have HE := hide (show chkN ⟨n, id, te, vo, lo, ro, co, vs, ns, hs⟩ = (11, -3) by rw [HK1.out, show lgF ⟨n, id, te, vo, lo, ro, co, vs, ns, hs⟩ = (11, -3) by rw [HLG2.out, if_pos hte], if_pos (by simp)])
    go_wp2_with fail
    go_quiet (first | (go_at_call 11; exact Calls.quiet_of_same (HQ.out _)))
    go_wp2_with (first
      | (go_at_call 32; refine (lF_any _ _ _).mono ?_; rintro e w3 ⟨rfl, hb3⟩; have hd3 := (below_drewN (Below.refl _ _) _).trans hb3; have HR3 := hide (HR1.out.later hd3); have HA3 := hide (HA1.out.trans (hd3.mono HA1.out.size)); clear hb3 hd3; unfold flt)
      | (refine wpList_store_blk rfl rfl rfl rfl HR3.out rfl Try.sizeFaultR rfl ?_; intro w8 hR8 hg8; have HR8 := hide hR8; have HG8 := hide hg8; clear hR8 hg8))
    refine bodyPost_ret (results1_cell Try.results21 rfl (run_loadVar_blk HR8.out Try.underlying26 rfl Try.sizeFaultR)) rfl ?_
    exact ⟨by rw [HE.out] <;> rfl, below_grownO HA3.out HG8.out (fun k hk => by cases hk; omega) HA3.out.size⟩
  have HK2 := hide (show chkN ⟨n, id, te, vo, lo, ro, co, vs, ns, hs⟩ = if votesB ⟨n, id, te, vo, lo, ro, co, vs, ns, hs⟩ = false ∨ knownB ⟨n, id, te, vo, lo, ro, co, vs, ns, hs⟩ = false then (5, -3) else (0, 0) by rw [HK1.out, show lgF ⟨n, id, te, vo, lo, ro, co, vs, ns, hs⟩ = (0, 0) by rw [HLG2.out, if_neg hte], if_neg (by simp)])
  clear HK1 HLG2
  go_wp2_with fail
  go_quiet (first | (go_at_call 11; exact Calls.quiet_of_same (HQ.out _)))
  go_wp2_with fail
  refine (lF_any _ _ _).mono ?_
  rintro e w3 ⟨rfl, hb3⟩
  have hd3 := (below_drewN (Below.refl (w1.alloc (.cells #[.int .i64 0, .int .i64 0] 26)).heap.size (w1.alloc (.cells #[.int .i64 0, .int .i64 0] 26))) nq).trans hb3
  have hN := below_allocG w3 (.cells #[.int .i64 5, .int .i64 (-3)] 26)
  have HBW := hide ((HB1.out.later hd3).later hN)
  have HRW := hide ((HR1.out.later hd3).later hN)
  have hAA := HA1.out.trans (hd3.mono HA1.out.size)
  have HAW := hide (hAA.trans (hN.mono hAA.size))
  have HTW := hide (Blk.new w3 26 #[.int .i64 5, .int .i64 (-3)])
  have HSW := hide (show w.heap.size + 1 < w3.heap.size from (HR1.out.later hd3).lt)
  clear hb3 hd3 hN hAA f0 c2 c4 cl HB1 HR1 HA1 HT1 HQ hte e0 e1 e2 e3 e5 e6 e7 e8 e9 e10
  unfold flt
  go_upto_region 11 with fail
  generalize hWW : w3.alloc (.cells #[.int .i64 5, .int .i64 (-3)] 26) = W at HBW HRW HAW HTW ⊢
  clear hWW
  have g0 := HBW.out.cell 0
  have g1 := HBW.out.cell 1
  have g4 := HBW.out.cell 4
  have g5 := HBW.out.cell 5
  have g7 := HBW.out.cell 7
  have g8 := HBW.out.cell 8
  have g9 := HBW.out.cell 9
  have gl := HBW.out.lt
  simp at g0 g1 g4 g5 g7 g8 g9
  have t0 := HTW.out.cell 0
  simp at t0
  have hlc : (lo.length : Int) ≤ 100 := by
    have := HLL.out
    omega
  have hro : ro = 0 := HROLE.out
  have HRO := hide hro
  all_goals
    have HN1 := hide (show ro ≠ 1 by omega)
    have HN2 := hide (show ro ≠ 2 by omega)
    have rr1 : (ro != 1) = true := by rw [hro]; rfl
    have rr2 : (ro != 2) = true := by rw [hro]; rfl
    have rr3 : (ro == 1) = false := by rw [hro]; rfl
    have rr4 : (ro == 2) = false := by rw [hro]; rfl
    clear hro hr0 hr2
    by_cases k0 : 0 < vs.length
    · have HE := hide (HK2.out.trans (if_pos (.inl (by rw [votesB_no HN1.out]; exact decide_eq_false (by simp only; omega)))))
      have d0 : decide (0 < (vs.length : Int)) = true := decide_eq_true (by omega)
      go_upto_region 12 with fail
      go_wp2_with (first
        | (refine wpList_load_blk HTW.out Try.underlying26 rfl Try.sizeFaultR rfl rfl rfl ?_)
        | (refine wpList_store_blk rfl rfl rfl rfl HRW.out rfl Try.sizeFaultR rfl ?_; intro w8 hR8 hg8; have HR8 := hide hR8; have HG8 := hide hg8; clear hR8 hg8))
      refine bodyPost_ret (results1_cell Try.results21 rfl (run_loadVar_blk HR8.out Try.underlying26 rfl Try.sizeFaultR)) rfl ?_
      exact ⟨by rw [HE.out] <;> rfl, below_grownO HAW.out HG8.out (fun k hk => by cases hk; omega) HAW.out.size⟩
    have d0 : decide (0 < (vs.length : Int)) = false := decide_eq_false (by omega)
    by_cases k1 : 0 < ns.length
    · have HE := hide (HK2.out.trans (if_pos (.inr (by unfold knownB; rw [ofB_no HN2.out]; simp only; rw [decide_eq_false (by omega)]; rfl))))
      have d1 : decide (0 < (ns.length : Int)) = true := decide_eq_true (by omega)
      go_upto_region 12 with fail
      go_wp2_with (first
        | (refine wpList_load_blk HTW.out Try.underlying26 rfl Try.sizeFaultR rfl rfl rfl ?_)
        | (refine wpList_store_blk rfl rfl rfl rfl HRW.out rfl Try.sizeFaultR rfl ?_; intro w8 hR8 hg8; have HR8 := hide hR8; have HG8 := hide hg8; clear hR8 hg8))
      refine bodyPost_ret (results1_cell Try.results21 rfl (run_loadVar_blk HR8.out Try.underlying26 rfl Try.sizeFaultR)) rfl ?_
      exact ⟨by rw [HE.out] <;> rfl, below_grownO HAW.out HG8.out (fun k hk => by cases hk; omega) HAW.out.size⟩
    have d1 : decide (0 < (ns.length : Int)) = false := decide_eq_false (by omega)
    by_cases k2 : 0 < hs.length
    · have HE := hide (HK2.out.trans (if_pos (.inr (by unfold knownB; rw [ofB_no HN2.out, ofB_no HN2.out]; simp only; rw [decide_eq_false (p := hs.length = 0) (by omega)]; simp))))
      have d2 : decide (0 < (hs.length : Int)) = true := decide_eq_true (by omega)
      go_upto_region 12 with fail
      go_wp2_with (first
        | (refine wpList_load_blk HTW.out Try.underlying26 rfl Try.sizeFaultR rfl rfl rfl ?_)
        | (refine wpList_store_blk rfl rfl rfl rfl HRW.out rfl Try.sizeFaultR rfl ?_; intro w8 hR8 hg8; have HR8 := hide hR8; have HG8 := hide hg8; clear hR8 hg8))
      refine bodyPost_ret (results1_cell Try.results21 rfl (run_loadVar_blk HR8.out Try.underlying26 rfl Try.sizeFaultR)) rfl ?_
      exact ⟨by rw [HE.out] <;> rfl, below_grownO HAW.out HG8.out (fun k hk => by cases hk; omega) HAW.out.size⟩
    have d2 : decide (0 < (hs.length : Int)) = false := decide_eq_false (by omega)
    have HE := hide (HK2.out.trans (if_neg (by rw [votesB_no HN1.out]; unfold knownB; rw [ofB_no HN2.out, ofB_no HN2.out]; simp only; rw [decide_eq_true (show vs.length = 0 by omega), decide_eq_true (show ns.length = 0 by omega), decide_eq_true (show hs.length = 0 by omega)]; simp)))
    go_upto_region 29 with fail
    go_wp2_with (refine wpList_store_blk rfl rfl rfl rfl HRW.out rfl Try.sizeFaultR rfl ?_; intro w8 hR8 hg8; have HR8 := hide hR8; have HG8 := hide hg8; clear hR8 hg8)
    refine bodyPost_ret (results1_cell Try.results21 rfl (run_loadVar_blk HR8.out Try.underlying26 rfl Try.sizeFaultR)) rfl ?_
    exact ⟨by rw [HE.out] <;> rfl, below_grownO HAW.out HG8.out (fun k hk => by cases hk; omega) HAW.out.size⟩

end Go.Proofs.Ytddkjpojbflmjah

/-
  The walk over the document's NodeFault for the Role 1. (Written by rr3d.py.)
-/
namespace Go.Proofs.Ytddkjpojbflmjah
open Go.RowKit Go.Maps
set_option linter.unusedVariables false

set_option maxRecDepth 100000 in
set_option maxHeartbeats 16000000 in
theorem NodeFault_r1 (x : Nd) (lv vv nv hv : Value) (w : World) (hx : RdNd w x lv vv nv hv) (hok : (nmF x).1 = 0) (hrole : x.role = 1) :
    Calls Try.prog 21 #[ndV x lv vv nv hv] w fun e w' => e = .returned (flt (chkN x)) ∧ Below w.heap.size w w' := by
  have HX := hide hx
  have HROLE := hide hrole
  clear hrole
  obtain ⟨n, id, te, vo, lo, ro, co, vs, ns, hs⟩ := x
  obtain ⟨h1, h2, h3, h4⟩ := hx
  simp only at h1 h2 h3 h4
  obtain ⟨ao, cap, rfl, hc1, hc2⟩ := h1.shape
  obtain ⟨bo, cap2, rfl, hd1, hd2⟩ := h2.shape
  obtain ⟨no, cap3, rfl, _, _⟩ := h3.shape
  obtain ⟨ho, cap4, rfl, _, _⟩ := h4.shape
  have hA := below_alloc2 w (.cells #[.int .i64 n, .int .i64 id, .int .i64 te, .int .i64 vo, .slice ao lo.length cap, .int .i64 ro, .int .i64 co, .slice bo vs.length cap2, .slice no ns.length cap3, .slice ho hs.length cap4] 34) (.cells #[.int .i64 0, .int .i64 0] 26)
  have HB0 := hide (Blk.at0of2 w (.cells #[.int .i64 0, .int .i64 0] 26) 34 #[.int .i64 n, .int .i64 id, .int .i64 te, .int .i64 vo, .slice ao lo.length cap, .int .i64 ro, .int .i64 co, .slice bo vs.length cap2, .slice no ns.length cap3, .slice ho hs.length cap4])
  have HR0 := hide (Blk.at1 w (.cells #[.int .i64 n, .int .i64 id, .int .i64 te, .int .i64 vo, .slice ao lo.length cap, .int .i64 ro, .int .i64 co, .slice bo vs.length cap2, .slice no ns.length cap3, .slice ho hs.length cap4] 34) 26 #[.int .i64 0, .int .i64 0])
  have HA0 := hide hA
  have HLF := hide (LogFault_any _ lo _ (h1.below hA))
  have HLT := hide (fun W (hW : Below w.heap.size w W) => LastTerm_any _ lo W (h1.below hW))
  have HH2 := hide (fun W (hW : Below w.heap.size w W) => h2.below hW)
  have HH3 := hide (fun W (hW : Below w.heap.size w W) => h3.below hW)
  have HH4 := hide (fun W (hW : Below w.heap.size w W) => h4.below hW)
  have HNM : Hid (nmF ⟨n, id, te, vo, lo, ro, co, vs, ns, hs⟩ = if wiB n 1 7 = false ∨ wiB id 0 (n - 1) = false then (3, -1) else if numL te = false ∨ wiB vo 0 n = false ∨ wiB ro 0 2 = false ∨ wiB co 0 lo.length = false then (3, -2) else (0, 0)) := hide rfl
  have HLG : Hid (lgF ⟨n, id, te, vo, lo, ro, co, vs, ns, hs⟩ = if (chkE lo).1 ≠ 0 then chkE lo else if te < lastT lo then (11, -3) else (0, 0)) := hide rfl
  have HCK : Hid (chkN ⟨n, id, te, vo, lo, ro, co, vs, ns, hs⟩ = if (nmF ⟨n, id, te, vo, lo, ro, co, vs, ns, hs⟩).1 ≠ 0 then nmF ⟨n, id, te, vo, lo, ro, co, vs, ns, hs⟩ else if (lgF ⟨n, id, te, vo, lo, ro, co, vs, ns, hs⟩).1 ≠ 0 then lgF ⟨n, id, te, vo, lo, ro, co, vs, ns, hs⟩ else if votesB ⟨n, id, te, vo, lo, ro, co, vs, ns, hs⟩ = false ∨ knownB ⟨n, id, te, vo, lo, ro, co, vs, ns, hs⟩ = false then (5, -3) else (0, 0)) := hide rfl
  have HZE := hide (chkE_z lo)
  unfold maxLen at hd2 hc2
  clear h1 h2 h3 h4 hA
  unfold ndV ndA
  have HN0 := hide (show nmF ⟨n, id, te, vo, lo, ro, co, vs, ns, hs⟩ = (0, 0) from nmF_z _ hok)
  have hcc : (1 ≤ n ∧ n ≤ 7 ∧ 0 ≤ id ∧ id < n) ∧ numL te = true ∧ (0 ≤ vo ∧ vo ≤ n) ∧ (0 ≤ ro ∧ ro ≤ 2) ∧ 0 ≤ co ∧ co ≤ lo.length := by
    have h := HNM.out
    rw [HN0.out] at h
    by_cases h1 : wiB n 1 7 = false ∨ wiB id 0 (n - 1) = false
    · rw [if_pos h1] at h; simp at h
    rw [if_neg h1] at h
    by_cases h2 : numL te = false ∨ wiB vo 0 n = false ∨ wiB ro 0 2 = false ∨ wiB co 0 lo.length = false
    · rw [if_pos h2] at h; simp at h
    simp only [not_or, Bool.not_eq_false, wiB_true] at h1 h2
    exact ⟨⟨h1.1.1, h1.1.2, h1.2.1, by omega⟩, h2.1, h2.2.1, h2.2.2.1, h2.2.2.2⟩
  obtain ⟨⟨hn1, hn7, hi0, hin⟩, hnum, ⟨hv0, hvn⟩, ⟨hr0, hr2⟩, hc0, hcl⟩ := hcc
  have e0 : decide (n < 1) = false := decide_eq_false (by omega)
  have e1 : decide (7 < n) = false := decide_eq_false (by omega)
  have e2 : decide (id < 0) = false := decide_eq_false (by omega)
  have e3 : decide (n ≤ id) = false := decide_eq_false (by omega)
  have e5 : decide (vo < 0) = false := decide_eq_false (by omega)
  have e6 : decide (n < vo) = false := decide_eq_false (by omega)
  have e7 : decide (ro < 0) = false := decide_eq_false (by omega)
  have e8 : decide (2 < ro) = false := decide_eq_false (by omega)
  have e9 : decide (co < 0) = false := decide_eq_false (by omega)
  have e10 : decide ((lo.length : Int) < co) = false := decide_eq_false (by omega)
  have AN := hide hnum
  have HK1 := hide (show chkN ⟨n, id, te, vo, lo, ro, co, vs, ns, hs⟩ = if (lgF ⟨n, id, te, vo, lo, ro, co, vs, ns, hs⟩).1 ≠ 0 then lgF ⟨n, id, te, vo, lo, ro, co, vs, ns, hs⟩ else if votesB ⟨n, id, te, vo, lo, ro, co, vs, ns, hs⟩ = false ∨ knownB ⟨n, id, te, vo, lo, ro, co, vs, ns, hs⟩ = false then (5, -3) else (0, 0) by rw [HCK.out, HN0.out, if_neg (by simp)])
  clear HCK HNM hnum hok
  have HLL0 := hide (fun h => (chkE_fine (l := lo) h).2)
  generalize hK : chkE lo = K at *
  obtain ⟨p, q⟩ := K
  clear hK
  generalize hT : lastT lo = T at *
  clear hT
  go_enter Try.func21, Try.ntmps21
  go_wp2_with (go_at_call 49; refine (lNum_any te _).mono ?_; rw [AN.out]; rintro e w1 ⟨rfl, rfl⟩)
  refine HLF.out.mono ?_
  rintro e w1 ⟨rfl, hb1⟩
  have hN := below_allocG w1 (.cells #[.int .i64 p, .int .i64 q] 26)
  have hB := (HB0.out.later hb1).later hN
  have HB1 := hide hB
  have HR1 := hide ((HR0.out.later hb1).later hN)
  have hAA := HA0.out.trans (hb1.mono HA0.out.size)
  have HA1 := hide (hAA.trans (hN.mono hAA.size))
  have hW := Blk.new w1 26 #[.int .i64 p, .int .i64 q]
  have HT1 := hide hW
  have f0 := hW.cell 0
  have c2 := hB.cell 2
  have c4 := hB.cell 4
  have cl := hB.lt
  simp at f0 c2 c4 cl
  clear hb1 hN hB hAA hW HLF HB0 HR0 HA0
  unfold flt
  by_cases hp : p ≠ 0
  · have HE := hide (show chkN ⟨n, id, te, vo, lo, ro, co, vs, ns, hs⟩ = (p, q) by rw [HK1.out, show lgF ⟨n, id, te, vo, lo, ro, co, vs, ns, hs⟩ = (p, q) by rw [HLG.out, if_pos hp], if_pos hp])
    have hq2 : (p != 0) = true := by simp [hp]
    have hq : (p == 0) = false := beq_eq_false_iff_ne.2 hp
    clear hp
    go_wp2_with (first
      | (refine wpList_load_blk HT1.out Try.underlying26 rfl Try.sizeFaultR rfl rfl rfl ?_)
      | (refine wpList_store_blk rfl rfl rfl rfl HR1.out rfl Try.sizeFaultR rfl ?_; intro w8 hR8 hg8; have HR8 := hide hR8; have HG8 := hide hg8; clear hR8 hg8))
    refine bodyPost_ret (results1_cell Try.results21 rfl (run_loadVar_blk HR8.out Try.underlying26 rfl Try.sizeFaultR)) rfl ?_
    exact ⟨by rw [HE.out] <;> rfl, below_grownO HA1.out HG8.out (fun k hk => by cases hk; omega) HA1.out.size⟩
  obtain rfl : p = 0 := Decidable.not_not.1 hp
  obtain rfl : q = 0 := by have := HZE.out rfl; simpa using this
  have HLG2 := hide (show lgF ⟨n, id, te, vo, lo, ro, co, vs, ns, hs⟩ = if te < T then (11, -3) else (0, 0) by rw [HLG.out, if_neg (by simp)])
  have HLL := hide (HLL0.out rfl)
  clear hp HLG
  have HQ := hide (fun m => HLT.out ((w1.alloc (.cells #[.int .i64 0, .int .i64 0] 26)).drewN m) (below_drewN HA1.out m))
  by_cases hte : te < T
  · have HE := hide (show chkN ⟨n, id, te, vo, lo, ro, co, vs, ns, hs⟩ = (11, -3) by rw [HK1.out, show lgF ⟨n, id, te, vo, lo, ro, co, vs, ns, hs⟩ = (11, -3) by rw [HLG2.out, if_pos hte], if_pos (by simp)])
    go_wp2_with fail
    go_quiet (first | (go_at_call 11; exact Calls.quiet_of_same (HQ.out _)))
    go_wp2_with (first
      | (go_at_call 32; refine (lF_any _ _ _).mono ?_; rintro e w3 ⟨rfl, hb3⟩; have hd3 := (below_drewN (Below.refl _ _) _).trans hb3; have HR3 := hide (HR1.out.later hd3); have HA3 := hide (HA1.out.trans (hd3.mono HA1.out.size)); clear hb3 hd3; unfold flt)
      | (refine wpList_store_blk rfl rfl rfl rfl HR3.out rfl Try.sizeFaultR rfl ?_; intro w8 hR8 hg8; have HR8 := hide hR8; have HG8 := hide hg8; clear hR8 hg8))
    refine bodyPost_ret (results1_cell Try.results21 rfl (run_loadVar_blk HR8.out Try.underlying26 rfl Try.sizeFaultR)) rfl ?_
    exact ⟨by rw [HE.out] <;> rfl, below_grownO HA3.out HG8.out (fun k hk => by cases hk; omega) HA3.out.size⟩
  have HK2 := hide (show chkN ⟨n, id, te, vo, lo, ro, co, vs, ns, hs⟩ = if votesB ⟨n, id, te, vo, lo, ro, co, vs, ns, hs⟩ = false ∨ knownB ⟨n, id, te, vo, lo, ro, co, vs, ns, hs⟩ = false then (5, -3) else (0, 0) by rw [HK1.out, show lgF ⟨n, id, te, vo, lo, ro, co, vs, ns, hs⟩ = (0, 0) by rw [HLG2.out, if_neg hte], if_neg (by simp)])
  clear HK1 HLG2
  go_wp2_with fail
  go_quiet (first | (go_at_call 11; exact Calls.quiet_of_same (HQ.out _)))
  go_wp2_with fail
  refine (lF_any _ _ _).mono ?_
  rintro e w3 ⟨rfl, hb3⟩
  have hd3 := (below_drewN (Below.refl (w1.alloc (.cells #[.int .i64 0, .int .i64 0] 26)).heap.size (w1.alloc (.cells #[.int .i64 0, .int .i64 0] 26))) nq).trans hb3
  have hN := below_allocG w3 (.cells #[.int .i64 5, .int .i64 (-3)] 26)
  have HBW := hide ((HB1.out.later hd3).later hN)
  have HRW := hide ((HR1.out.later hd3).later hN)
  have hAA := HA1.out.trans (hd3.mono HA1.out.size)
  have HAW := hide (hAA.trans (hN.mono hAA.size))
  have HTW := hide (Blk.new w3 26 #[.int .i64 5, .int .i64 (-3)])
  have HSW := hide (show w.heap.size + 1 < w3.heap.size from (HR1.out.later hd3).lt)
  clear hb3 hd3 hN hAA f0 c2 c4 cl HB1 HR1 HA1 HT1 HQ hte e0 e1 e2 e3 e5 e6 e7 e8 e9 e10
  unfold flt
  go_upto_region 11 with fail
  generalize hWW : w3.alloc (.cells #[.int .i64 5, .int .i64 (-3)] 26) = W at HBW HRW HAW HTW ⊢
  clear hWW
  have g0 := HBW.out.cell 0
  have g1 := HBW.out.cell 1
  have g4 := HBW.out.cell 4
  have g5 := HBW.out.cell 5
  have g7 := HBW.out.cell 7
  have g8 := HBW.out.cell 8
  have g9 := HBW.out.cell 9
  have gl := HBW.out.lt
  simp at g0 g1 g4 g5 g7 g8 g9
  have t0 := HTW.out.cell 0
  simp at t0
  have hlc : (lo.length : Int) ≤ 100 := by
    have := HLL.out
    omega
  have hro : ro = 1 := HROLE.out
  have HRO := hide hro
  all_goals
    have HN2 := hide (show ro ≠ 2 by omega)
    have rr1 : (ro != 1) = false := by rw [hro]; rfl
    have rr2 : (ro != 2) = true := by rw [hro]; rfl
    have rr3 : (ro == 1) = true := by rw [hro]; rfl
    have rr4 : (ro == 2) = false := by rw [hro]; rfl
    clear hro hr0 hr2
    by_cases k0 : 0 < ns.length
    · have HE := hide (HK2.out.trans (if_pos (.inr (by unfold knownB; rw [ofB_no HN2.out]; simp only; rw [decide_eq_false (by omega)]; rfl))))
      have d0 : decide (0 < (ns.length : Int)) = true := decide_eq_true (by omega)
      go_upto_region 12 with fail
      go_wp2_with (first
        | (refine wpList_load_blk HTW.out Try.underlying26 rfl Try.sizeFaultR rfl rfl rfl ?_)
        | (refine wpList_store_blk rfl rfl rfl rfl HRW.out rfl Try.sizeFaultR rfl ?_; intro w8 hR8 hg8; have HR8 := hide hR8; have HG8 := hide hg8; clear hR8 hg8))
      refine bodyPost_ret (results1_cell Try.results21 rfl (run_loadVar_blk HR8.out Try.underlying26 rfl Try.sizeFaultR)) rfl ?_
      exact ⟨by rw [HE.out] <;> rfl, below_grownO HAW.out HG8.out (fun k hk => by cases hk; omega) HAW.out.size⟩
    have d0 : decide (0 < (ns.length : Int)) = false := decide_eq_false (by omega)
    by_cases k1 : 0 < hs.length
    · have HE := hide (HK2.out.trans (if_pos (.inr (by unfold knownB; rw [ofB_no HN2.out, ofB_no HN2.out]; simp only; rw [decide_eq_false (p := hs.length = 0) (by omega)]; simp))))
      have d1 : decide (0 < (hs.length : Int)) = true := decide_eq_true (by omega)
      go_upto_region 12 with fail
      go_wp2_with (first
        | (refine wpList_load_blk HTW.out Try.underlying26 rfl Try.sizeFaultR rfl rfl rfl ?_)
        | (refine wpList_store_blk rfl rfl rfl rfl HRW.out rfl Try.sizeFaultR rfl ?_; intro w8 hR8 hg8; have HR8 := hide hR8; have HG8 := hide hg8; clear hR8 hg8))
      refine bodyPost_ret (results1_cell Try.results21 rfl (run_loadVar_blk HR8.out Try.underlying26 rfl Try.sizeFaultR)) rfl ?_
      exact ⟨by rw [HE.out] <;> rfl, below_grownO HAW.out HG8.out (fun k hk => by cases hk; omega) HAW.out.size⟩
    have d1 : decide (0 < (hs.length : Int)) = false := decide_eq_false (by omega)
    have HKN := hide (show knownB ⟨n, id, te, vo, lo, ro, co, vs, ns, hs⟩ = true by unfold knownB; rw [ofB_no HN2.out, ofB_no HN2.out]; simp only; rw [decide_eq_true (show ns.length = 0 by omega), decide_eq_true (show hs.length = 0 by omega)]; rfl)
    have HVB := hide (votesB_one (x := ⟨n, id, te, vo, lo, ro, co, vs, ns, hs⟩) HRO.out)
    simp only at HVB
    have HHS := hide (Has_any _ vs id W (HH2.out W HAW.out))
    have HMJ := hide (Majority_any vs.length n W (by omega) (by omega))
    by_cases hm : id ∈ vs
    case neg =>
      have HE := hide (HK2.out.trans (if_pos (.inl (by rw [HVB.out, decide_eq_false hm]; simp))))
      have HDM := hide (decide_eq_false hm)
      clear hm
      go_upto_region 15 with (first
        | (go_at_call 50; refine HHS.out.mono ?_; rw [HDM.out]; rintro e w4 ⟨rfl, hw4⟩; rw [hw4]; clear hw4 w4))
      go_wp2_with (first
        | (refine wpList_load_blk HTW.out Try.underlying26 rfl Try.sizeFaultR rfl rfl rfl ?_)
        | (refine wpList_store_blk rfl rfl rfl rfl HRW.out rfl Try.sizeFaultR rfl ?_; intro w8 hR8 hg8; have HR8 := hide hR8; have HG8 := hide hg8; clear hR8 hg8))
      refine bodyPost_ret (results1_cell Try.results21 rfl (run_loadVar_blk HR8.out Try.underlying26 rfl Try.sizeFaultR)) rfl ?_
      exact ⟨by rw [HE.out] <;> rfl, below_grownO HAW.out HG8.out (fun k hk => by cases hk; omega) HAW.out.size⟩
    have HDM := hide (decide_eq_true hm)
    clear hm
    cases hmj : mostB vs.length n
    case true =>
      have HE := hide (HK2.out.trans (if_pos (.inl (by rw [HVB.out, hmj]; simp))))
      have HJ := hide hmj
      clear hmj
      go_upto_region 15 with (first
        | (go_at_call 50; refine HHS.out.mono ?_; rw [HDM.out]; rintro e w4 ⟨rfl, hw4⟩; rw [hw4]; clear hw4 w4)
        | (go_at_call 51; refine HMJ.out.mono ?_; rw [HJ.out]; rintro e w4 ⟨rfl, hw4⟩; rw [hw4]; clear hw4 w4))
      go_wp2_with (first
        | (refine wpList_load_blk HTW.out Try.underlying26 rfl Try.sizeFaultR rfl rfl rfl ?_)
        | (refine wpList_store_blk rfl rfl rfl rfl HRW.out rfl Try.sizeFaultR rfl ?_; intro w8 hR8 hg8; have HR8 := hide hR8; have HG8 := hide hg8; clear hR8 hg8))
      refine bodyPost_ret (results1_cell Try.results21 rfl (run_loadVar_blk HR8.out Try.underlying26 rfl Try.sizeFaultR)) rfl ?_
      exact ⟨by rw [HE.out] <;> rfl, below_grownO HAW.out HG8.out (fun k hk => by cases hk; omega) HAW.out.size⟩
    have HVB2 := hide (show votesB ⟨n, id, te, vo, lo, ro, co, vs, ns, hs⟩ = voGo n [] vs by rw [HVB.out, HDM.out, hmj]; simp)
    have HJ := hide hmj
    clear hmj HVB
    go_wp2_with (first
      | (go_at_call 50; refine HHS.out.mono ?_; rw [HDM.out]; rintro e w4 ⟨rfl, hw4⟩; rw [hw4]; clear hw4 w4)
      | (go_at_call 51; refine HMJ.out.mono ?_; rw [HJ.out]; rintro e w4 ⟨rfl, hw4⟩; rw [hw4]; clear hw4 w4))
    go_loopw [5] (fun iv wr => ∃ j : Nat, j ≤ vs.length ∧ iv = .int .i64 j ∧ voGo n (vs.take j) (vs.drop j) = voGo n [] vs ∧ Below W.heap.size W wr)
      (fun iv _ => vs.length - (intOf iv).toNat)
    case atStart => exact ⟨0, by omega, rfl, rfl, Below.refl _ _⟩
    case round =>
      obtain ⟨j, hj, rfl, hgo, hbr⟩ := hrel
      have HGO := hide hgo
      have HBR := hide hbr
      have hAr := HAW.out.trans (hbr.mono HAW.out.size)
      have HAR := hide hAr
      have HBr := hide (HBW.out.later hbr)
      have HRr := hide (HRW.out.later hbr)
      have HTr := hide (HTW.out.later hbr)
      have u0 := HBr.out.cell 0
      have u5 := HBr.out.cell 5
      have u7 := HBr.out.cell 7
      have ul := HBr.out.lt
      simp at u0 u5 u7
      have v0 := HTr.out.cell 0
      have vl := HTr.out.lt
      simp at v0
      clear hgo hbr
      by_cases hlt : j < vs.length
      · obtain ⟨v, hv⟩ : ∃ v, vs[j]? = some v := ⟨_, List.getElem?_eq_getElem hlt⟩
        have hrv := HH2.out wr hAr
        obtain ⟨b, off, rfl, hb, q⟩ := hrv.hereI hv
        have hk1 : (0 : Int) ≤ (j : Int) := by omega
        have hk2 : (j : Int) < (vs.length : Int) := by omega
        have hk3 : (j : Int) ≤ (cap2 : Int) := by omega
        have hk4 : (j : Int) ≤ (vs.length : Int) := by omega
        have HHJ := hide (fun m => Has_any _ (vs.take j) v (wr.drewN m) ((hrv.upto2 (hi := j) (by omega)).drewN m))
        have HT := hide (show vs.take (j + 1) = vs.take j ++ [v] by rw [List.take_add_one, hv]; rfl)
        rw [drop_consN hv, voGo_step] at HGO
        clear hv hrv hAr
        by_cases hlo : v < 0
        · have HE := hide (HK2.out.trans (if_pos (.inl (by rw [HVB2.out, ← HGO.out, wiB_false.2 (by omega)]; rfl))))
          have d1 : decide (v < 0) = true := decide_eq_true hlo
          go_wp2_with fail
          go_quiet (fail)
          go_upto_region 20 with fail
          go_wp2_with (first
            | (refine wpList_load_blk HTr.out Try.underlying26 rfl Try.sizeFaultR rfl rfl rfl ?_)
            | (refine wpList_store_blk rfl rfl rfl rfl HRr.out rfl Try.sizeFaultR rfl ?_; intro w8 hR8 hg8; have HR8 := hide hR8; have HG8 := hide hg8; clear hR8 hg8))
          refine bodyPost_ret (results1_cell Try.results21 rfl (run_loadVar_blk HR8.out Try.underlying26 rfl Try.sizeFaultR)) rfl ?_
          exact ⟨by rw [HE.out] <;> rfl, below_grownO (below_drewN HAR.out _) HG8.out (fun k hk => by cases hk; omega) (below_drewN HAR.out _).size⟩
        have d1 : decide (v < 0) = false := decide_eq_false hlo
        by_cases hhi : n ≤ v
        · have HE := hide (HK2.out.trans (if_pos (.inl (by rw [HVB2.out, ← HGO.out, wiB_false.2 (by omega)]; rfl))))
          have d2 : decide (n ≤ v) = true := decide_eq_true hhi
          go_wp2_with fail
          go_quiet (fail)
          go_upto_region 20 with fail
          go_wp2_with (first
            | (refine wpList_load_blk HTr.out Try.underlying26 rfl Try.sizeFaultR rfl rfl rfl ?_)
            | (refine wpList_store_blk rfl rfl rfl rfl HRr.out rfl Try.sizeFaultR rfl ?_; intro w8 hR8 hg8; have HR8 := hide hR8; have HG8 := hide hg8; clear hR8 hg8))
          refine bodyPost_ret (results1_cell Try.results21 rfl (run_loadVar_blk HR8.out Try.underlying26 rfl Try.sizeFaultR)) rfl ?_
          exact ⟨by rw [HE.out] <;> rfl, below_grownO (below_drewN HAR.out _) HG8.out (fun k hk => by cases hk; omega) (below_drewN HAR.out _).size⟩
        have d2 : decide (n ≤ v) = false := decide_eq_false hhi
        have HWI := hide (show wiB v 0 (n - 1) = true from wiB_true.2 (by omega))
        by_cases hmm : v ∈ vs.take j
        · have HE := hide (HK2.out.trans (if_pos (.inl (by rw [HVB2.out, ← HGO.out, decide_eq_true hmm]; simp))))
          have HDV := hide (decide_eq_true hmm)
          clear hmm
          go_wp2_with fail
          go_quiet (first | (go_at_call 50; exact Calls.quiet_of_same (HHJ.out _)))
          rw [HDV.out]
          go_upto_region 20 with fail
          go_wp2_with (first
            | (refine wpList_load_blk HTr.out Try.underlying26 rfl Try.sizeFaultR rfl rfl rfl ?_)
            | (refine wpList_store_blk rfl rfl rfl rfl HRr.out rfl Try.sizeFaultR rfl ?_; intro w8 hR8 hg8; have HR8 := hide hR8; have HG8 := hide hg8; clear hR8 hg8))
          refine bodyPost_ret (results1_cell Try.results21 rfl (run_loadVar_blk HR8.out Try.underlying26 rfl Try.sizeFaultR)) rfl ?_
          exact ⟨by rw [HE.out] <;> rfl, below_grownO (below_drewN HAR.out _) HG8.out (fun k hk => by cases hk; omega) (below_drewN HAR.out _).size⟩
        have HS := hide (show voGo n (vs.take (j + 1)) (vs.drop (j + 1)) = voGo n [] vs by rw [← HGO.out, HWI.out, HT.out, decide_eq_false hmm]; rfl)
        have HDV := hide (decide_eq_false hmm)
        clear hmm
        go_wp2_with fail
        go_quiet (first | (go_at_call 50; exact Calls.quiet_of_same (HHJ.out _)))
        rw [HDV.out]
        go_wp2_with fail
        go_roundw
        case rel => exact ⟨j + 1, by omega, by go_num, HS.out, below_drewN HBR.out _⟩
        case measure => simp [intOf]; omega
      · have hje : j = vs.length := by omega
        subst hje
        rw [List.drop_length, voGo] at HGO
        have HE := hide (HK2.out.trans (if_neg (by rw [HVB2.out, ← HGO.out, HKN.out]; simp)))
        clear hAr
        go_upto_region 29 with fail
        go_wp2_with (refine wpList_store_blk rfl rfl rfl rfl HRr.out rfl Try.sizeFaultR rfl ?_; intro w8 hR8 hg8; have HR8 := hide hR8; have HG8 := hide hg8; clear hR8 hg8)
        refine bodyPost_ret (results1_cell Try.results21 rfl (run_loadVar_blk HR8.out Try.underlying26 rfl Try.sizeFaultR)) rfl ?_
        exact ⟨by rw [HE.out] <;> rfl, below_grownO HAR.out HG8.out (fun k hk => by cases hk; omega) HAR.out.size⟩

end Go.Proofs.Ytddkjpojbflmjah

/-
  The walk over the document's NodeFault for the Role 2. (Written by rr3d.py.)
-/
namespace Go.Proofs.Ytddkjpojbflmjah
open Go.RowKit Go.Maps
set_option linter.unusedVariables false

set_option maxRecDepth 100000 in
set_option maxHeartbeats 16000000 in
theorem NodeFault_r2 (x : Nd) (lv vv nv hv : Value) (w : World) (hx : RdNd w x lv vv nv hv) (hok : (nmF x).1 = 0) (hrole : x.role = 2) :
    Calls Try.prog 21 #[ndV x lv vv nv hv] w fun e w' => e = .returned (flt (chkN x)) ∧ Below w.heap.size w w' := by
  have HX := hide hx
  have HROLE := hide hrole
  clear hrole
  obtain ⟨n, id, te, vo, lo, ro, co, vs, ns, hs⟩ := x
  obtain ⟨h1, h2, h3, h4⟩ := hx
  simp only at h1 h2 h3 h4
  obtain ⟨ao, cap, rfl, hc1, hc2⟩ := h1.shape
  obtain ⟨bo, cap2, rfl, hd1, hd2⟩ := h2.shape
  obtain ⟨no, cap3, rfl, _, _⟩ := h3.shape
  obtain ⟨ho, cap4, rfl, _, _⟩ := h4.shape
  have hA := below_alloc2 w (.cells #[.int .i64 n, .int .i64 id, .int .i64 te, .int .i64 vo, .slice ao lo.length cap, .int .i64 ro, .int .i64 co, .slice bo vs.length cap2, .slice no ns.length cap3, .slice ho hs.length cap4] 34) (.cells #[.int .i64 0, .int .i64 0] 26)
  have HB0 := hide (Blk.at0of2 w (.cells #[.int .i64 0, .int .i64 0] 26) 34 #[.int .i64 n, .int .i64 id, .int .i64 te, .int .i64 vo, .slice ao lo.length cap, .int .i64 ro, .int .i64 co, .slice bo vs.length cap2, .slice no ns.length cap3, .slice ho hs.length cap4])
  have HR0 := hide (Blk.at1 w (.cells #[.int .i64 n, .int .i64 id, .int .i64 te, .int .i64 vo, .slice ao lo.length cap, .int .i64 ro, .int .i64 co, .slice bo vs.length cap2, .slice no ns.length cap3, .slice ho hs.length cap4] 34) 26 #[.int .i64 0, .int .i64 0])
  have HA0 := hide hA
  have HLF := hide (LogFault_any _ lo _ (h1.below hA))
  have HLT := hide (fun W (hW : Below w.heap.size w W) => LastTerm_any _ lo W (h1.below hW))
  have HH2 := hide (fun W (hW : Below w.heap.size w W) => h2.below hW)
  have HH3 := hide (fun W (hW : Below w.heap.size w W) => h3.below hW)
  have HH4 := hide (fun W (hW : Below w.heap.size w W) => h4.below hW)
  have HNM : Hid (nmF ⟨n, id, te, vo, lo, ro, co, vs, ns, hs⟩ = if wiB n 1 7 = false ∨ wiB id 0 (n - 1) = false then (3, -1) else if numL te = false ∨ wiB vo 0 n = false ∨ wiB ro 0 2 = false ∨ wiB co 0 lo.length = false then (3, -2) else (0, 0)) := hide rfl
  have HLG : Hid (lgF ⟨n, id, te, vo, lo, ro, co, vs, ns, hs⟩ = if (chkE lo).1 ≠ 0 then chkE lo else if te < lastT lo then (11, -3) else (0, 0)) := hide rfl
  have HCK : Hid (chkN ⟨n, id, te, vo, lo, ro, co, vs, ns, hs⟩ = if (nmF ⟨n, id, te, vo, lo, ro, co, vs, ns, hs⟩).1 ≠ 0 then nmF ⟨n, id, te, vo, lo, ro, co, vs, ns, hs⟩ else if (lgF ⟨n, id, te, vo, lo, ro, co, vs, ns, hs⟩).1 ≠ 0 then lgF ⟨n, id, te, vo, lo, ro, co, vs, ns, hs⟩ else if votesB ⟨n, id, te, vo, lo, ro, co, vs, ns, hs⟩ = false ∨ knownB ⟨n, id, te, vo, lo, ro, co, vs, ns, hs⟩ = false then (5, -3) else (0, 0)) := hide rfl
  have HZE := hide (chkE_z lo)
  unfold maxLen at hd2 hc2
  clear h1 h2 h3 h4 hA
  unfold ndV ndA
  have HN0 := hide (show nmF ⟨n, id, te, vo, lo, ro, co, vs, ns, hs⟩ = (0, 0) from nmF_z _ hok)
  have hcc : (1 ≤ n ∧ n ≤ 7 ∧ 0 ≤ id ∧ id < n) ∧ numL te = true ∧ (0 ≤ vo ∧ vo ≤ n) ∧ (0 ≤ ro ∧ ro ≤ 2) ∧ 0 ≤ co ∧ co ≤ lo.length := by
    have h := HNM.out
    rw [HN0.out] at h
    by_cases h1 : wiB n 1 7 = false ∨ wiB id 0 (n - 1) = false
    · rw [if_pos h1] at h; simp at h
    rw [if_neg h1] at h
    by_cases h2 : numL te = false ∨ wiB vo 0 n = false ∨ wiB ro 0 2 = false ∨ wiB co 0 lo.length = false
    · rw [if_pos h2] at h; simp at h
    simp only [not_or, Bool.not_eq_false, wiB_true] at h1 h2
    exact ⟨⟨h1.1.1, h1.1.2, h1.2.1, by omega⟩, h2.1, h2.2.1, h2.2.2.1, h2.2.2.2⟩
  obtain ⟨⟨hn1, hn7, hi0, hin⟩, hnum, ⟨hv0, hvn⟩, ⟨hr0, hr2⟩, hc0, hcl⟩ := hcc
  have e0 : decide (n < 1) = false := decide_eq_false (by omega)
  have e1 : decide (7 < n) = false := decide_eq_false (by omega)
  have e2 : decide (id < 0) = false := decide_eq_false (by omega)
  have e3 : decide (n ≤ id) = false := decide_eq_false (by omega)
  have e5 : decide (vo < 0) = false := decide_eq_false (by omega)
  have e6 : decide (n < vo) = false := decide_eq_false (by omega)
  have e7 : decide (ro < 0) = false := decide_eq_false (by omega)
  have e8 : decide (2 < ro) = false := decide_eq_false (by omega)
  have e9 : decide (co < 0) = false := decide_eq_false (by omega)
  have e10 : decide ((lo.length : Int) < co) = false := decide_eq_false (by omega)
  have AN := hide hnum
  have HK1 := hide (show chkN ⟨n, id, te, vo, lo, ro, co, vs, ns, hs⟩ = if (lgF ⟨n, id, te, vo, lo, ro, co, vs, ns, hs⟩).1 ≠ 0 then lgF ⟨n, id, te, vo, lo, ro, co, vs, ns, hs⟩ else if votesB ⟨n, id, te, vo, lo, ro, co, vs, ns, hs⟩ = false ∨ knownB ⟨n, id, te, vo, lo, ro, co, vs, ns, hs⟩ = false then (5, -3) else (0, 0) by rw [HCK.out, HN0.out, if_neg (by simp)])
  clear HCK HNM hnum hok
  have HLL0 := hide (fun h => (chkE_fine (l := lo) h).2)
  generalize hK : chkE lo = K at *
  obtain ⟨p, q⟩ := K
  clear hK
  generalize hT : lastT lo = T at *
  clear hT
  go_enter Try.func21, Try.ntmps21
  go_wp2_with (go_at_call 49; refine (lNum_any te _).mono ?_; rw [AN.out]; rintro e w1 ⟨rfl, rfl⟩)
  refine HLF.out.mono ?_
  rintro e w1 ⟨rfl, hb1⟩
  have hN := below_allocG w1 (.cells #[.int .i64 p, .int .i64 q] 26)
  have hB := (HB0.out.later hb1).later hN
  have HB1 := hide hB
  have HR1 := hide ((HR0.out.later hb1).later hN)
  have hAA := HA0.out.trans (hb1.mono HA0.out.size)
  have HA1 := hide (hAA.trans (hN.mono hAA.size))
  have hW := Blk.new w1 26 #[.int .i64 p, .int .i64 q]
  have HT1 := hide hW
  have f0 := hW.cell 0
  have c2 := hB.cell 2
  have c4 := hB.cell 4
  have cl := hB.lt
  simp at f0 c2 c4 cl
  clear hb1 hN hB hAA hW HLF HB0 HR0 HA0
  unfold flt
  by_cases hp : p ≠ 0
  · have HE := hide (show chkN ⟨n, id, te, vo, lo, ro, co, vs, ns, hs⟩ = (p, q) by rw [HK1.out, show lgF ⟨n, id, te, vo, lo, ro, co, vs, ns, hs⟩ = (p, q) by rw [HLG.out, if_pos hp], if_pos hp])
    have hq2 : (p != 0) = true := by simp [hp]
    have hq : (p == 0) = false := beq_eq_false_iff_ne.2 hp
    clear hp
    go_wp2_with (first
      | (refine wpList_load_blk HT1.out Try.underlying26 rfl Try.sizeFaultR rfl rfl rfl ?_)
      | (refine wpList_store_blk rfl rfl rfl rfl HR1.out rfl Try.sizeFaultR rfl ?_; intro w8 hR8 hg8; have HR8 := hide hR8; have HG8 := hide hg8; clear hR8 hg8))
    refine bodyPost_ret (results1_cell Try.results21 rfl (run_loadVar_blk HR8.out Try.underlying26 rfl Try.sizeFaultR)) rfl ?_
    exact ⟨by rw [HE.out] <;> rfl, below_grownO HA1.out HG8.out (fun k hk => by cases hk; omega) HA1.out.size⟩
  obtain rfl : p = 0 := Decidable.not_not.1 hp
  obtain rfl : q = 0 := by have := HZE.out rfl; simpa using this
  have HLG2 := hide (show lgF ⟨n, id, te, vo, lo, ro, co, vs, ns, hs⟩ = if te < T then (11, -3) else (0, 0) by rw [HLG.out, if_neg (by simp)])
  have HLL := hide (HLL0.out rfl)
  clear hp HLG
  have HQ := hide (fun m => HLT.out ((w1.alloc (.cells #[.int .i64 0, .int .i64 0] 26)).drewN m) (below_drewN HA1.out m))
  by_cases hte : te < T
  · have HE := hide (show chkN ⟨n, id, te, vo, lo, ro, co, vs, ns, hs⟩ = (11, -3) by rw [HK1.out, show lgF ⟨n, id, te, vo, lo, ro, co, vs, ns, hs⟩ = (11, -3) by rw [HLG2.out, if_pos hte], if_pos (by simp)])
    go_wp2_with fail
    go_quiet (first | (go_at_call 11; exact Calls.quiet_of_same (HQ.out _)))
    go_wp2_with (first
      | (go_at_call 32; refine (lF_any _ _ _).mono ?_; rintro e w3 ⟨rfl, hb3⟩; have hd3 := (below_drewN (Below.refl _ _) _).trans hb3; have HR3 := hide (HR1.out.later hd3); have HA3 := hide (HA1.out.trans (hd3.mono HA1.out.size)); clear hb3 hd3; unfold flt)
      | (refine wpList_store_blk rfl rfl rfl rfl HR3.out rfl Try.sizeFaultR rfl ?_; intro w8 hR8 hg8; have HR8 := hide hR8; have HG8 := hide hg8; clear hR8 hg8))
    refine bodyPost_ret (results1_cell Try.results21 rfl (run_loadVar_blk HR8.out Try.underlying26 rfl Try.sizeFaultR)) rfl ?_
    exact ⟨by rw [HE.out] <;> rfl, below_grownO HA3.out HG8.out (fun k hk => by cases hk; omega) HA3.out.size⟩
  have HK2 := hide (show chkN ⟨n, id, te, vo, lo, ro, co, vs, ns, hs⟩ = if votesB ⟨n, id, te, vo, lo, ro, co, vs, ns, hs⟩ = false ∨ knownB ⟨n, id, te, vo, lo, ro, co, vs, ns, hs⟩ = false then (5, -3) else (0, 0) by rw [HK1.out, show lgF ⟨n, id, te, vo, lo, ro, co, vs, ns, hs⟩ = (0, 0) by rw [HLG2.out, if_neg hte], if_neg (by simp)])
  clear HK1 HLG2
  go_wp2_with fail
  go_quiet (first | (go_at_call 11; exact Calls.quiet_of_same (HQ.out _)))
  go_wp2_with fail
  refine (lF_any _ _ _).mono ?_
  rintro e w3 ⟨rfl, hb3⟩
  have hd3 := (below_drewN (Below.refl (w1.alloc (.cells #[.int .i64 0, .int .i64 0] 26)).heap.size (w1.alloc (.cells #[.int .i64 0, .int .i64 0] 26))) nq).trans hb3
  have hN := below_allocG w3 (.cells #[.int .i64 5, .int .i64 (-3)] 26)
  have HBW := hide ((HB1.out.later hd3).later hN)
  have HRW := hide ((HR1.out.later hd3).later hN)
  have hAA := HA1.out.trans (hd3.mono HA1.out.size)
  have HAW := hide (hAA.trans (hN.mono hAA.size))
  have HTW := hide (Blk.new w3 26 #[.int .i64 5, .int .i64 (-3)])
  have HSW := hide (show w.heap.size + 1 < w3.heap.size from (HR1.out.later hd3).lt)
  clear hb3 hd3 hN hAA f0 c2 c4 cl HB1 HR1 HA1 HT1 HQ hte e0 e1 e2 e3 e5 e6 e7 e8 e9 e10
  unfold flt
  go_upto_region 11 with fail
  generalize hWW : w3.alloc (.cells #[.int .i64 5, .int .i64 (-3)] 26) = W at HBW HRW HAW HTW ⊢
  clear hWW
  have g0 := HBW.out.cell 0
  have g1 := HBW.out.cell 1
  have g4 := HBW.out.cell 4
  have g5 := HBW.out.cell 5
  have g7 := HBW.out.cell 7
  have g8 := HBW.out.cell 8
  have g9 := HBW.out.cell 9
  have gl := HBW.out.lt
  simp at g0 g1 g4 g5 g7 g8 g9
  have t0 := HTW.out.cell 0
  simp at t0
  have hlc : (lo.length : Int) ≤ 100 := by
    have := HLL.out
    omega
  have hro : ro = 2 := HROLE.out
  have HRO := hide hro
  all_goals
    have HN1 := hide (show ro ≠ 1 by omega)
    have rr1 : (ro != 1) = true := by rw [hro]; rfl
    have rr2 : (ro != 2) = false := by rw [hro]; rfl
    have rr3 : (ro == 1) = false := by rw [hro]; rfl
    have rr4 : (ro == 2) = true := by rw [hro]; rfl
    clear hro hr0 hr2
    by_cases k0 : 0 < vs.length
    · have HE := hide (HK2.out.trans (if_pos (.inl (by rw [votesB_no HN1.out]; exact decide_eq_false (by simp only; omega)))))
      have d0 : decide (0 < (vs.length : Int)) = true := decide_eq_true (by omega)
      go_upto_region 12 with fail
      go_wp2_with (first
        | (refine wpList_load_blk HTW.out Try.underlying26 rfl Try.sizeFaultR rfl rfl rfl ?_)
        | (refine wpList_store_blk rfl rfl rfl rfl HRW.out rfl Try.sizeFaultR rfl ?_; intro w8 hR8 hg8; have HR8 := hide hR8; have HG8 := hide hg8; clear hR8 hg8))
      refine bodyPost_ret (results1_cell Try.results21 rfl (run_loadVar_blk HR8.out Try.underlying26 rfl Try.sizeFaultR)) rfl ?_
      exact ⟨by rw [HE.out] <;> rfl, below_grownO HAW.out HG8.out (fun k hk => by cases hk; omega) HAW.out.size⟩
    have d0 : decide (0 < (vs.length : Int)) = false := decide_eq_false (by omega)
    have HVT := hide (show votesB ⟨n, id, te, vo, lo, ro, co, vs, ns, hs⟩ = true by rw [votesB_no HN1.out]; exact decide_eq_true (by simp only; omega))
    by_cases k1 : (ns.length : Int) = n
    case neg =>
      have HE := hide (HK2.out.trans (if_pos (.inr (by unfold knownB; rw [ofB_two HRO.out]; simp only; rw [decide_eq_false k1]; rfl))))
      have d1 : ((ns.length : Int) != n) = true := by simp [k1]
      go_upto_region 23 with fail
      go_wp2_with (first
        | (refine wpList_load_blk HTW.out Try.underlying26 rfl Try.sizeFaultR rfl rfl rfl ?_)
        | (refine wpList_store_blk rfl rfl rfl rfl HRW.out rfl Try.sizeFaultR rfl ?_; intro w8 hR8 hg8; have HR8 := hide hR8; have HG8 := hide hg8; clear hR8 hg8))
      refine bodyPost_ret (results1_cell Try.results21 rfl (run_loadVar_blk HR8.out Try.underlying26 rfl Try.sizeFaultR)) rfl ?_
      exact ⟨by rw [HE.out] <;> rfl, below_grownO HAW.out HG8.out (fun k hk => by cases hk; omega) HAW.out.size⟩
    have d1 : ((ns.length : Int) != n) = false := by simp [k1]
    by_cases k2 : (hs.length : Int) = n
    case neg =>
      have HE := hide (HK2.out.trans (if_pos (.inr (by unfold knownB; rw [ofB_two (l := hs) HRO.out]; simp only; rw [decide_eq_false k2]; simp))))
      have d2 : ((hs.length : Int) != n) = true := by simp [k2]
      go_upto_region 23 with fail
      go_wp2_with (first
        | (refine wpList_load_blk HTW.out Try.underlying26 rfl Try.sizeFaultR rfl rfl rfl ?_)
        | (refine wpList_store_blk rfl rfl rfl rfl HRW.out rfl Try.sizeFaultR rfl ?_; intro w8 hR8 hg8; have HR8 := hide hR8; have HG8 := hide hg8; clear hR8 hg8))
      refine bodyPost_ret (results1_cell Try.results21 rfl (run_loadVar_blk HR8.out Try.underlying26 rfl Try.sizeFaultR)) rfl ?_
      exact ⟨by rw [HE.out] <;> rfl, below_grownO HAW.out HG8.out (fun k hk => by cases hk; omega) HAW.out.size⟩
    have d2 : ((hs.length : Int) != n) = false := by simp [k2]
    have HK12 := hide (And.intro k1 k2)
    clear k1 k2
    go_wp2_with fail
    go_loopw [6] (fun iv wr => ∃ j : Nat, (j : Int) ≤ n ∧ iv = .int .i64 j ∧ (∀ (i : Nat) u, i < j → ns[i]? = some u → 1 ≤ u ∧ u ≤ lo.length + 1) ∧ (∀ (i : Nat) u, i < j → hs[i]? = some u → 0 ≤ u ∧ u ≤ lo.length) ∧ Below W.heap.size W wr)
      (fun iv _ => n.toNat - (intOf iv).toNat)
    case atStart => exact ⟨0, by omega, rfl, fun i u h => by omega, fun i u h => by omega, Below.refl _ _⟩
    case round =>
      obtain ⟨j, hj, rfl, hg1, hg2, hbr⟩ := hrel
      have HG1 := hide hg1
      have HG2 := hide hg2
      have HBR := hide hbr
      have hAr := HAW.out.trans (hbr.mono HAW.out.size)
      have HAR := hide hAr
      have HBr := hide (HBW.out.later hbr)
      have HRr := hide (HRW.out.later hbr)
      have HTr := hide (HTW.out.later hbr)
      have u0 := HBr.out.cell 0
      have u4 := HBr.out.cell 4
      have u8 := HBr.out.cell 8
      have u9 := HBr.out.cell 9
      have ul := HBr.out.lt
      simp at u0 u4 u8 u9
      have v0 := HTr.out.cell 0
      have vl := HTr.out.lt
      simp at v0
      clear hg1 hg2 hbr
      have hll := hlc
      have hwl : IntKind.i64.wrap ((lo.length : Int) + 1) = (lo.length : Int) + 1 := by rw [IntKind.wrap_i64]; omega
      by_cases hlt : (j : Int) < n
      · have hd : decide ((j : Int) < n) = true := decide_eq_true hlt
        obtain ⟨a, ha⟩ : ∃ v, ns[j]? = some v := ⟨_, List.getElem?_eq_getElem (by have := HK12.out.1; omega)⟩
        obtain ⟨h', hh⟩ : ∃ v, hs[j]? = some v := ⟨_, List.getElem?_eq_getElem (by have := HK12.out.2; omega)⟩
        obtain ⟨b1, off1, rfl, hb1, q1⟩ := (HH3.out wr hAr).hereI ha
        obtain ⟨b2, off2, rfl, hb2, q2⟩ := (HH4.out wr hAr).hereI hh
        have hk1 : (0 : Int) ≤ (j : Int) := by omega
        have hk2 : (j : Int) < (ns.length : Int) := by have := HK12.out.1; omega
        have hk3 : (j : Int) < (hs.length : Int) := by have := HK12.out.2; omega
        have HAM := hide (List.mem_of_getElem? ha)
        have HHM := hide (List.mem_of_getElem? hh)
        have HAA := hide ha
        have HHH := hide hh
        clear ha hh hAr
        by_cases z0 : a < 1
        · have HE := hide (HK2.out.trans (if_pos (.inr (by unfold knownB; rw [ofB_out (x := ⟨n, id, te, vo, lo, ro, co, vs, ns, hs⟩) (l := ns) HRO.out HAM.out (by simp only; omega)]; rfl))))
          have y0 : decide (a < 1) = true := decide_eq_true z0
          go_wp2_with fail
          go_quiet (fail)
          go_upto_region 28 with fail
          go_wp2_with (first
            | (refine wpList_load_blk HTr.out Try.underlying26 rfl Try.sizeFaultR rfl rfl rfl ?_)
            | (refine wpList_store_blk rfl rfl rfl rfl HRr.out rfl Try.sizeFaultR rfl ?_; intro w8 hR8 hg8; have HR8 := hide hR8; have HG8 := hide hg8; clear hR8 hg8))
          refine bodyPost_ret (results1_cell Try.results21 rfl (run_loadVar_blk HR8.out Try.underlying26 rfl Try.sizeFaultR)) rfl ?_
          exact ⟨by rw [HE.out] <;> rfl, below_grownO (below_drewN HAR.out _) HG8.out (fun k hk => by cases hk; omega) (below_drewN HAR.out _).size⟩
        have y0 : decide (a < 1) = false := decide_eq_false z0
        by_cases z1 : (lo.length : Int) + 1 < a
        · have HE := hide (HK2.out.trans (if_pos (.inr (by unfold knownB; rw [ofB_out (x := ⟨n, id, te, vo, lo, ro, co, vs, ns, hs⟩) (l := ns) HRO.out HAM.out (by simp only; omega)]; rfl))))
          have y1 : decide ((lo.length : Int) + 1 < a) = true := decide_eq_true z1
          go_wp2_with fail
          go_quiet (fail)
          go_upto_region 28 with fail
          go_wp2_with (first
            | (refine wpList_load_blk HTr.out Try.underlying26 rfl Try.sizeFaultR rfl rfl rfl ?_)
            | (refine wpList_store_blk rfl rfl rfl rfl HRr.out rfl Try.sizeFaultR rfl ?_; intro w8 hR8 hg8; have HR8 := hide hR8; have HG8 := hide hg8; clear hR8 hg8))
          refine bodyPost_ret (results1_cell Try.results21 rfl (run_loadVar_blk HR8.out Try.underlying26 rfl Try.sizeFaultR)) rfl ?_
          exact ⟨by rw [HE.out] <;> rfl, below_grownO (below_drewN HAR.out _) HG8.out (fun k hk => by cases hk; omega) (below_drewN HAR.out _).size⟩
        have y1 : decide ((lo.length : Int) + 1 < a) = false := decide_eq_false z1
        by_cases z2 : h' < 0
        · have HE := hide (HK2.out.trans (if_pos (.inr (by unfold knownB; rw [ofB_out (x := ⟨n, id, te, vo, lo, ro, co, vs, ns, hs⟩) (l := hs) HRO.out HHM.out (by simp only; omega)]; simp))))
          have y2 : decide (h' < 0) = true := decide_eq_true z2
          go_wp2_with fail
          go_quiet (fail)
          go_upto_region 28 with fail
          go_wp2_with (first
            | (refine wpList_load_blk HTr.out Try.underlying26 rfl Try.sizeFaultR rfl rfl rfl ?_)
            | (refine wpList_store_blk rfl rfl rfl rfl HRr.out rfl Try.sizeFaultR rfl ?_; intro w8 hR8 hg8; have HR8 := hide hR8; have HG8 := hide hg8; clear hR8 hg8))
          refine bodyPost_ret (results1_cell Try.results21 rfl (run_loadVar_blk HR8.out Try.underlying26 rfl Try.sizeFaultR)) rfl ?_
          exact ⟨by rw [HE.out] <;> rfl, below_grownO (below_drewN HAR.out _) HG8.out (fun k hk => by cases hk; omega) (below_drewN HAR.out _).size⟩
        have y2 : decide (h' < 0) = false := decide_eq_false z2
        by_cases z3 : (lo.length : Int) < h'
        · have HE := hide (HK2.out.trans (if_pos (.inr (by unfold knownB; rw [ofB_out (x := ⟨n, id, te, vo, lo, ro, co, vs, ns, hs⟩) (l := hs) HRO.out HHM.out (by simp only; omega)]; simp))))
          have y3 : decide ((lo.length : Int) < h') = true := decide_eq_true z3
          go_wp2_with fail
          go_quiet (fail)
          go_upto_region 28 with fail
          go_wp2_with (first
            | (refine wpList_load_blk HTr.out Try.underlying26 rfl Try.sizeFaultR rfl rfl rfl ?_)
            | (refine wpList_store_blk rfl rfl rfl rfl HRr.out rfl Try.sizeFaultR rfl ?_; intro w8 hR8 hg8; have HR8 := hide hR8; have HG8 := hide hg8; clear hR8 hg8))
          refine bodyPost_ret (results1_cell Try.results21 rfl (run_loadVar_blk HR8.out Try.underlying26 rfl Try.sizeFaultR)) rfl ?_
          exact ⟨by rw [HE.out] <;> rfl, below_grownO (below_drewN HAR.out _) HG8.out (fun k hk => by cases hk; omega) (below_drewN HAR.out _).size⟩
        have y3 : decide ((lo.length : Int) < h') = false := decide_eq_false z3
        go_wp2_with fail
        go_quiet (fail)
        go_wp2_with fail
        go_roundw
        case rel => exact ⟨j + 1, by omega, by go_num, fun i u hi hu => by
          by_cases e : i = j
          · subst e
            rw [HAA.out] at hu
            cases hu
            omega
          · exact HG1.out i u (by omega) hu, fun i u hi hu => by
          by_cases e : i = j
          · subst e
            rw [HHH.out] at hu
            cases hu
            omega
          · exact HG2.out i u (by omega) hu, below_drewN HBR.out _⟩
        case measure => simp [intOf]; omega
      · have hd : decide ((j : Int) < n) = false := decide_eq_false hlt
        have HE := hide (HK2.out.trans (if_neg (by
          have e1 : ofB ⟨n, id, te, vo, lo, ro, co, vs, ns, hs⟩ ns 1 (lo.length + 1) = true := ofB_in HRO.out HK12.out.1 (fun u hu => by
            obtain ⟨i, hi, e⟩ := List.mem_iff_getElem.1 hu
            exact HG1.out i u (by have := HK12.out.1; omega) (by rw [List.getElem?_eq_getElem hi, e]))
          have e2 : ofB ⟨n, id, te, vo, lo, ro, co, vs, ns, hs⟩ hs 0 lo.length = true := ofB_in HRO.out HK12.out.2 (fun u hu => by
            obtain ⟨i, hi, e⟩ := List.mem_iff_getElem.1 hu
            exact HG2.out i u (by have := HK12.out.2; omega) (by rw [List.getElem?_eq_getElem hi, e]))
          have e3 : knownB ⟨n, id, te, vo, lo, ro, co, vs, ns, hs⟩ = true := by unfold knownB; simp only; rw [e1, e2]; rfl
          rw [HVT.out, e3]
          simp)))
        clear hAr
        go_upto_region 29 with fail
        go_wp2_with (refine wpList_store_blk rfl rfl rfl rfl HRr.out rfl Try.sizeFaultR rfl ?_; intro w8 hR8 hg8; have HR8 := hide hR8; have HG8 := hide hg8; clear hR8 hg8)
        refine bodyPost_ret (results1_cell Try.results21 rfl (run_loadVar_blk HR8.out Try.underlying26 rfl Try.sizeFaultR)) rfl ?_
        exact ⟨by rw [HE.out] <;> rfl, below_grownO HAR.out HG8.out (fun k hk => by cases hk; omega) HAR.out.size⟩

end Go.Proofs.Ytddkjpojbflmjah

/-
  The walk over the document's NodeFault. (Written by rr3d.py.)
-/
namespace Go.Proofs.Ytddkjpojbflmjah
open Go.RowKit Go.Maps
set_option linter.unusedVariables false

theorem NodeFault_any (x : Nd) (lv vv nv hv : Value) (w : World) (hx : RdNd w x lv vv nv hv) :
    Calls Try.prog 21 #[ndV x lv vv nv hv] w fun e w' => e = .returned (flt (chkN x)) ∧ Below w.heap.size w w' := by
  by_cases h : (nmF x).1 = 0
  · have h2 : 0 ≤ x.role ∧ x.role ≤ 2 := by
      unfold nmF at h
      by_cases h4 : wiB x.n 1 7 = false ∨ wiB x.id 0 (x.n - 1) = false
      · rw [if_pos h4] at h; simp at h
      rw [if_neg h4] at h
      by_cases h5 : numL x.term = false ∨ wiB x.vote 0 x.n = false ∨ wiB x.role 0 2 = false ∨ wiB x.com 0 x.log.length = false
      · rw [if_pos h5] at h; simp at h
      simp only [not_or, Bool.not_eq_false, wiB_true] at h5
      exact h5.2.2.1
    rcases (show x.role = 0 ∨ x.role = 1 ∨ x.role = 2 by omega) with hr | hr | hr
    · exact NodeFault_r0 x lv vv nv hv w hx h hr
    · exact NodeFault_r1 x lv vv nv hv w hx h hr
    · exact NodeFault_r2 x lv vv nv hv w hx h hr
  · exact NodeFault_bad x lv vv nv hv w hx h

end Go.Proofs.Ytddkjpojbflmjah

/-
  A node of the document in memory. (Written by rd1.py.)
-/
namespace Go.Proofs.Ytddkjpojbflmjah
open Go.RowKit Go.Maps
set_option linter.unusedVariables false

/-- A node in memory, with rows of its own. -/
structure Dm (w : World) (lab : Nat → Nat) (B : Nat) (x : Nd) (lv vv nv hv : Value) : Prop where
  blk : Blk w B 34 (ndA x lv vv nv hv)
  lb : lab B = 5
  log : Row w lab 1 59 2 lv x.log.length (eE.vs x.log)
  vot : Row w lab 2 3 1 vv x.votes.length (iE.vs x.votes)
  nxt : Row w lab 3 3 1 nv x.next.length (iE.vs x.next)
  hav : Row w lab 4 3 1 hv x.hav.length (iE.vs x.hav)
  ok : LbOk 0 w lab

theorem Dm.below {w w' : World} {lab : Nat → Nat} {B : Nat} {x : Nd} {lv vv nv hv : Value} (h : Dm w lab B x lv vv nv hv) (hb : Below w.heap.size w w') : Dm w' lab B x lv vv nv hv := by
  have hc : Chg 0 w w' lab lab (fun _ => False) := Chg.below _ h.ok hb
  exact ⟨h.blk.later hb, h.lb, h.log.keep hc (fun q => q), h.vot.keep hc (fun q => q), h.nxt.keep hc (fun q => q), h.hav.keep hc (fun q => q), hc.ok⟩

/-- A node, while its blocks stay. -/
theorem Dm.keep {w w' : World} {lab lab' : Nat → Nat} {S : Nat → Prop} {B : Nat} {x : Nd} {lv vv nv hv : Value} (h : Dm w lab B x lv vv nv hv) (hc : Chg 0 w w' lab lab' S) (hS : ∀ i, 1 ≤ i → i ≤ 5 → ¬ S i) : Dm w' lab' B x lv vv nv hv :=
  ⟨h.blk.keep hc (by rw [h.lb]; exact hS 5 (by omega) (by omega)), (hc.labs B h.blk.lt).trans h.lb, h.log.keep hc (hS 1 (by omega) (by omega)), h.vot.keep hc (hS 2 (by omega) (by omega)), h.nxt.keep hc (hS 3 (by omega) (by omega)), h.hav.keep hc (hS 4 (by omega) (by omega)), hc.ok⟩

/-- The block alone is written: what it tells then. -/
theorem Dm.wrote {w w' : World} {lab : Nat → Nat} {B : Nat} {x y : Nd} {lv vv nv hv vv' nv' hv' : Value} (h : Dm w lab B x lv vv nv hv) (hg : w.grownBy w' (some B)) (hB : Blk w' B 34 (ndA y lv vv' nv' hv')) (hl : y.log = x.log)
    (hv2 : (vv' = vv ∧ y.votes = x.votes) ∨ (vv' = .slice none 0 0 ∧ y.votes = [])) (hn2 : (nv' = nv ∧ y.next = x.next) ∨ (nv' = .slice none 0 0 ∧ y.next = [])) (hh2 : (hv' = hv ∧ y.hav = x.hav) ∨ (hv' = .slice none 0 0 ∧ y.hav = [])) :
    Dm w' lab B y lv vv' nv' hv' ∧ Chg 0 w w' lab lab (fun i => i = 5) := by
  have hc : Chg 0 w w' lab lab (fun i => i = 5) := Chg.grown h.ok hg h.lb
  refine ⟨⟨hB, h.lb, by rw [hl]; exact h.log.keep hc (by omega), ?_, ?_, ?_, hc.ok⟩, hc⟩
  · rcases hv2 with ⟨rfl, e⟩ | ⟨rfl, e⟩ <;> rw [e]
    · exact h.vot.keep hc (by omega)
    · exact Row.nilR
  · rcases hn2 with ⟨rfl, e⟩ | ⟨rfl, e⟩ <;> rw [e]
    · exact h.nxt.keep hc (by omega)
    · exact Row.nilR
  · rcases hh2 with ⟨rfl, e⟩ | ⟨rfl, e⟩ <;> rw [e]
    · exact h.hav.keep hc (by omega)
    · exact Row.nilR

theorem Dm.setNext {w : World} {lab : Nat → Nat} {B g n cap : Nat} {y : Nd} {lv vv hv : Value} (h : Dm w lab B y lv vv (.slice (some ⟨g, 0, none⟩) n cap) hv) (k : Nat) (u : Int) :
    Dm (w.setCell ⟨g, k, none⟩ (.int .i64 u)) lab B { y with next := y.next.set k u } lv vv (.slice (some ⟨g, 0, none⟩) n cap) hv ∧ Chg 0 w (w.setCell ⟨g, k, none⟩ (.int .i64 u)) lab lab (fun i => i = 3) := by
  have hrow := h.nxt
  have hlg : lab g = 3 := hrow.2 g (by simp [Value.ownBlock])
  have hn : n = y.next.length := by
    obtain ⟨ao', cap', hv'⟩ := owns_shapeK hrow.1
    simp only [Value.slice.injEq] at hv'
    exact hv'.2.1
  have hc : Chg 0 w (w.setCell ⟨g, k, none⟩ (.int .i64 u)) lab lab (fun i => i = 3) := Chg.grown h.ok (grown_setCell w g k _) hlg
  have hr : Row (w.setCell ⟨g, k, none⟩ (.int .i64 u)) lab 3 3 1 (.slice (some ⟨g, 0, none⟩) n cap) (y.next.set k u).length (iE.vs (y.next.set k u)) := by
    refine ⟨?_, hrow.2⟩
    have h1 := hrow.1
    rw [← hn] at h1
    have h2 := owns_setCell h1 k (.int .i64 u)
    rw [List.length_set, ← hn, vs_setI]
    exact h2
  exact ⟨⟨h.blk.keep hc (by rw [h.lb]; omega), h.lb, h.log.keep hc (by omega), h.vot.keep hc (by omega), hr, h.hav.keep hc (by omega), hc.ok⟩, hc⟩

theorem Dm.setHave {w : World} {lab : Nat → Nat} {B g n cap : Nat} {y : Nd} {lv vv nv : Value} (h : Dm w lab B y lv vv nv (.slice (some ⟨g, 0, none⟩) n cap)) (k : Nat) (u : Int) :
    Dm (w.setCell ⟨g, k, none⟩ (.int .i64 u)) lab B { y with hav := y.hav.set k u } lv vv nv (.slice (some ⟨g, 0, none⟩) n cap) ∧ Chg 0 w (w.setCell ⟨g, k, none⟩ (.int .i64 u)) lab lab (fun i => i = 4) := by
  have hrow := h.hav
  have hlg : lab g = 4 := hrow.2 g (by simp [Value.ownBlock])
  have hn : n = y.hav.length := by
    obtain ⟨ao', cap', hv'⟩ := owns_shapeK hrow.1
    simp only [Value.slice.injEq] at hv'
    exact hv'.2.1
  have hc : Chg 0 w (w.setCell ⟨g, k, none⟩ (.int .i64 u)) lab lab (fun i => i = 4) := Chg.grown h.ok (grown_setCell w g k _) hlg
  have hr : Row (w.setCell ⟨g, k, none⟩ (.int .i64 u)) lab 4 3 1 (.slice (some ⟨g, 0, none⟩) n cap) (y.hav.set k u).length (iE.vs (y.hav.set k u)) := by
    refine ⟨?_, hrow.2⟩
    have h1 := hrow.1
    rw [← hn] at h1
    have h2 := owns_setCell h1 k (.int .i64 u)
    rw [List.length_set, ← hn, vs_setI]
    exact h2
  exact ⟨⟨h.blk.keep hc (by rw [h.lb]; omega), h.lb, h.log.keep hc (by omega), h.vot.keep hc (by omega), h.nxt.keep hc (by omega), hr, hc.ok⟩, hc⟩

/-- The votes grow. -/
theorem Dm.appVotes {w wa w5 w6 : World} {lab : Nat → Nat} {B : Nat} {y : Nd} {lv vv nv hv v5 : Value} {l : List Int} (h : Dm w lab B y lv vv nv hv) (hb : Below w.heap.size w wa) (ho : w5.ownsRow 0 3 1 v5 l.length (iE.vs l)) (hg : wa.grownBy w5 vv.ownBlock) (hat : OnAt wa vv v5) (hg6 : w5.grownBy w6 (some B)) (hB : Blk w6 B 34 (ndA { y with votes := l } lv v5 nv hv)) :
    Dm w6 (labTo lab v5.ownBlock 2) B { y with votes := l } lv v5 nv hv ∧ Chg 0 w w6 lab (labTo lab v5.ownBlock 2) (fun i => i = 5 ∨ i = 2) := by
  have hc0 : Chg 0 w wa lab lab (fun i => i = 5 ∨ i = 2) := Chg.below _ h.ok hb
  have hc1 : Chg 0 wa w5 lab (labTo lab v5.ownBlock 2) (fun i => i = 5 ∨ i = 2) := Chg.row hc0.ok h.vot.2 hg (.inr rfl) hat (ownBlock_lt ho)
  have hc01 := hc0.trans hc1
  have hlb : labTo lab v5.ownBlock 2 B = 5 := (hc01.labs B h.blk.lt).trans h.lb
  have hc2 : Chg 0 w5 w6 (labTo lab v5.ownBlock 2) (labTo lab v5.ownBlock 2) (fun i => i = 5) := Chg.grown hc1.ok hg6 hlb
  have hc := hc01.trans (hc2.mono (fun i hi => .inl hi))
  exact ⟨⟨hB, hlb, h.log.keep hc (by omega), (Row.grew (lab := lab) (i := 2) ho).keep hc2 (by omega), h.nxt.keep hc (by omega), h.hav.keep hc (by omega), hc2.ok⟩, hc⟩

/-- The log grows. -/
theorem Dm.appLog {w wa w5 w6 : World} {lab : Nat → Nat} {B : Nat} {y : Nd} {lv vv nv hv v5 : Value} {l : List Et} (h : Dm w lab B y lv vv nv hv) (hb : Below w.heap.size w wa) (ho : w5.ownsRow 0 59 2 v5 l.length (eE.vs l)) (hg : wa.grownBy w5 lv.ownBlock) (hat : OnAt wa lv v5) (hg6 : w5.grownBy w6 (some B)) (hB : Blk w6 B 34 (ndA { y with log := l } v5 vv nv hv)) :
    Dm w6 (labTo lab v5.ownBlock 1) B { y with log := l } v5 vv nv hv ∧ Chg 0 w w6 lab (labTo lab v5.ownBlock 1) (fun i => i = 5 ∨ i = 1) := by
  have hc0 : Chg 0 w wa lab lab (fun i => i = 5 ∨ i = 1) := Chg.below _ h.ok hb
  have hc1 : Chg 0 wa w5 lab (labTo lab v5.ownBlock 1) (fun i => i = 5 ∨ i = 1) := Chg.row hc0.ok h.log.2 hg (.inr rfl) hat (ownBlock_lt ho)
  have hc01 := hc0.trans hc1
  have hlb : labTo lab v5.ownBlock 1 B = 5 := (hc01.labs B h.blk.lt).trans h.lb
  have hc2 : Chg 0 w5 w6 (labTo lab v5.ownBlock 1) (labTo lab v5.ownBlock 1) (fun i => i = 5) := Chg.grown hc1.ok hg6 hlb
  have hc := hc01.trans (hc2.mono (fun i hi => .inl hi))
  exact ⟨⟨hB, hlb, (Row.grew (lab := lab) (i := 1) ho).keep hc2 (by omega), h.vot.keep hc (by omega), h.nxt.keep hc (by omega), h.hav.keep hc (by omega), hc2.ok⟩, hc⟩

/-- A list grows. -/
theorem Dm.appNext {w wa w5 w6 : World} {lab : Nat → Nat} {B : Nat} {y : Nd} {lv vv nv hv v5 : Value} {l : List Int} (h : Dm w lab B y lv vv nv hv) (hb : Below w.heap.size w wa) (ho : w5.ownsRow 0 3 1 v5 l.length (iE.vs l)) (hg : wa.grownBy w5 nv.ownBlock) (hat : OnAt wa nv v5) (hg6 : w5.grownBy w6 (some B)) (hB : Blk w6 B 34 (ndA { y with next := l } lv vv v5 hv)) :
    Dm w6 (labTo lab v5.ownBlock 3) B { y with next := l } lv vv v5 hv ∧ Chg 0 w w6 lab (labTo lab v5.ownBlock 3) (fun i => i = 5 ∨ i = 3) := by
  have hc0 : Chg 0 w wa lab lab (fun i => i = 5 ∨ i = 3) := Chg.below _ h.ok hb
  have hc1 : Chg 0 wa w5 lab (labTo lab v5.ownBlock 3) (fun i => i = 5 ∨ i = 3) := Chg.row hc0.ok h.nxt.2 hg (.inr rfl) hat (ownBlock_lt ho)
  have hc01 := hc0.trans hc1
  have hlb : labTo lab v5.ownBlock 3 B = 5 := (hc01.labs B h.blk.lt).trans h.lb
  have hc2 : Chg 0 w5 w6 (labTo lab v5.ownBlock 3) (labTo lab v5.ownBlock 3) (fun i => i = 5) := Chg.grown hc1.ok hg6 hlb
  have hc := hc01.trans (hc2.mono (fun i hi => .inl hi))
  exact ⟨⟨hB, hlb, h.log.keep hc (by omega), h.vot.keep hc (by omega), (Row.grew (lab := lab) (i := 3) ho).keep hc2 (by omega), h.hav.keep hc (by omega), hc2.ok⟩, hc⟩

/-- A list grows. -/
theorem Dm.appHave {w wa w5 w6 : World} {lab : Nat → Nat} {B : Nat} {y : Nd} {lv vv nv hv v5 : Value} {l : List Int} (h : Dm w lab B y lv vv nv hv) (hb : Below w.heap.size w wa) (ho : w5.ownsRow 0 3 1 v5 l.length (iE.vs l)) (hg : wa.grownBy w5 hv.ownBlock) (hat : OnAt wa hv v5) (hg6 : w5.grownBy w6 (some B)) (hB : Blk w6 B 34 (ndA { y with hav := l } lv vv nv v5)) :
    Dm w6 (labTo lab v5.ownBlock 4) B { y with hav := l } lv vv nv v5 ∧ Chg 0 w w6 lab (labTo lab v5.ownBlock 4) (fun i => i = 5 ∨ i = 4) := by
  have hc0 : Chg 0 w wa lab lab (fun i => i = 5 ∨ i = 4) := Chg.below _ h.ok hb
  have hc1 : Chg 0 wa w5 lab (labTo lab v5.ownBlock 4) (fun i => i = 5 ∨ i = 4) := Chg.row hc0.ok h.hav.2 hg (.inr rfl) hat (ownBlock_lt ho)
  have hc01 := hc0.trans hc1
  have hlb : labTo lab v5.ownBlock 4 B = 5 := (hc01.labs B h.blk.lt).trans h.lb
  have hc2 : Chg 0 w5 w6 (labTo lab v5.ownBlock 4) (labTo lab v5.ownBlock 4) (fun i => i = 5) := Chg.grown hc1.ok hg6 hlb
  have hc := hc01.trans (hc2.mono (fun i hi => .inl hi))
  exact ⟨⟨hB, hlb, h.log.keep hc (by omega), h.vot.keep hc (by omega), h.nxt.keep hc (by omega), (Row.grew (lab := lab) (i := 4) ho).keep hc2 (by omega), hc2.ok⟩, hc⟩

theorem Dm.rd {w : World} {lab : Nat → Nat} {B : Nat} {x : Nd} {lv vv nv hv : Value} (h : Dm w lab B x lv vv nv hv) : RdNd w x lv vv nv hv :=
  ⟨RdG.ofOwns h.log.1, RdG.ofOwns h.vot.1, RdG.ofOwns h.nxt.1, RdG.ofOwns h.hav.1⟩

theorem Dm.ans {w : World} {lab : Nat → Nat} {B C : Nat} {x : Nd} {lv vv nv hv : Value} (h : Dm w lab B x lv vv nv hv) (hl : ∀ g, g < C → lab g = 0) : AnsN w C x lv vv nv hv :=
  ⟨h.rd, h.log.new (by omega) hl, h.vot.new (by omega) hl, h.nxt.new (by omega) hl, h.hav.new (by omega) hl⟩

/-- A node of the document is laid. -/
theorem Nw.layD {w : World} {lab : Nat → Nat} {x : Nd} {lv vv nv hv : Value} (h : Nw w lab x lv vv nv hv) : Dm (w.alloc (.cells (ndA x lv vv nv hv) 34)) (labTo lab (some w.heap.size) 5) w.heap.size x lv vv nv hv := by
  have hb := below_allocG w (.cells (ndA x lv vv nv hv) 34)
  have hc : Chg 0 w (w.alloc (.cells (ndA x lv vv nv hv) 34)) lab (labTo lab (some w.heap.size) 5) (fun _ => False) := by
    refine ⟨hb.os, hb.tape, hb.output, hb.size, fun k hk _ => hb.block k hk, fun k hk => ?_, fun g hg => ?_⟩
    · unfold labTo
      rw [if_neg (fun q => by simp at q; omega)]
    · simp at hg
      unfold labTo
      rw [if_neg (fun q => by simp at q; omega)]
      exact h.ok g (by omega)
  refine ⟨Blk.new w _ _, ?_, h.log.keep hc (fun q => q), h.vot.keep hc (fun q => q), h.nxt.keep hc (fun q => q), h.hav.keep hc (fun q => q), hc.ok⟩
  unfold labTo
  rw [if_pos rfl]

/-- A node with a log alone, in a block that is there already. -/
theorem Dm.ofLog {w : World} {B base : Nat} {x : Nd} {lv : Value} (hB : Blk w B 34 (ndA x lv (.slice none 0 0) (.slice none 0 0) (.slice none 0 0))) (ho : w.ownsRow base 59 2 lv x.log.length (eE.vs x.log)) (hBb : B < base) (h1 : x.votes = []) (h2 : x.next = []) (h3 : x.hav = []) :
    Dm w (fun g => if lv.ownBlock = some g then 1 else if g = B then 5 else 0) B x lv (.slice none 0 0) (.slice none 0 0) (.slice none 0 0) := by
  have hl := fun g hg => ho.lt g hg
  refine ⟨hB, ?_, ⟨owns_zero ho, fun g hg => ?_⟩, by rw [h1]; exact Row.nilR, by rw [h2]; exact Row.nilR, by rw [h3]; exact Row.nilR, fun g hg => ?_⟩
  · show (if _ then _ else _) = _
    rw [if_neg (fun q => by have := (hl B q).1; omega), if_pos rfl]
  · show (if _ then _ else _) = _
    rw [if_pos hg]
  · show (if _ then _ else _) = _
    have := hB.lt
    rw [if_neg (fun q => by have := (hl g q).2; omega), if_neg (by omega)]

end Go.Proofs.Ytddkjpojbflmjah

/-
  The walk over the document's Leader. (Written by rr5.py.)
-/
namespace Go.Proofs.Ytddkjpojbflmjah
open Go.RowKit Go.Maps
set_option linter.unusedVariables false

/-- What the first k have, of which one has n. -/
def hvL (id : Int) (n : Nat) : Nat → List Int
  | 0 => []
  | k + 1 => hvL id n k ++ [if (k : Int) = id then (n : Int) else 0]

theorem hvL_len (id : Int) (n : Nat) : ∀ k, (hvL id n k).length = k
  | 0 => rfl
  | k + 1 => by rw [hvL, List.length_append, hvL_len id n k]; rfl

theorem hvL_get (id : Int) (n : Nat) : ∀ (k i : Nat), i < k → (hvL id n k)[i]? = some (if (i : Int) = id then (n : Int) else 0)
  | 0, i, h => by omega
  | k + 1, i, h => by
    rw [hvL]
    by_cases e : i < k
    · rw [List.getElem?_append_left (by rw [hvL_len]; exact e)]
      exact hvL_get id n k i e
    · obtain rfl : i = k := by omega
      rw [List.getElem?_append_right (by rw [hvL_len]; exact Nat.le_refl _), hvL_len, Nat.sub_self]
      rfl

theorem hvL_set {id : Int} {n k : Nat} (h0 : 0 ≤ id) : hvL id n k = (List.replicate k (0 : Int)).set id.toNat n := by
  apply List.ext_getElem?
  intro i
  by_cases hi : i < k
  · rw [hvL_get id n k i hi, List.getElem?_set]
    by_cases e : id.toNat = i
    · have e2 : (i : Int) = id := by omega
      rw [if_pos e2, if_pos e, if_pos (by rw [List.length_replicate]; omega)]
    · have e2 : ¬ (i : Int) = id := by omega
      rw [if_neg e2, if_neg e, List.getElem?_replicate, if_pos hi]
  · rw [List.getElem?_eq_none (by rw [hvL_len]; omega), List.getElem?_eq_none (by simp; omega)]

set_option maxRecDepth 100000 in
set_option maxHeartbeats 8000000 in
theorem Leader_any (x : Nd) (lv vv nv hv : Value) (w : World) (hx : RdNd w x lv vv nv hv) (hn1 : 1 ≤ x.n) (hn7 : x.n ≤ 7) (hi0 : 0 ≤ x.id) (hin : x.id < x.n) (hll : x.log.length ≤ 1000) (hc0 : 0 ≤ x.com) (hcl : x.com ≤ x.log.length) :
    Calls Try.prog 53 #[ndV x lv vv nv hv] w fun e w' => ∃ lv' nv' hv', e = .returned (ndV x.lead lv' (.slice none 0 0) nv' hv') ∧ AnsN w' w.heap.size x.lead lv' (.slice none 0 0) nv' hv' ∧ Below w.heap.size w w' := by
  obtain ⟨X, hX⟩ : ∃ X, X = x := ⟨_, rfl⟩
  have HXF := hide (fun W (hW : Below w.heap.size w W) => Follower_any x lv vv nv hv W (hx.below hW) hll)
  have HEX := hide hX
  rw [← hX] at hn1 hn7 hi0 hin hll hc0 hcl
  obtain ⟨n, id, te, vo, lo, ro, co, vs, ns, hs⟩ := x
  obtain ⟨h1, h2, h3, h4⟩ := hx
  simp only at h1 h2 h3 h4
  obtain ⟨ao, cap, rfl, hc1, hc2⟩ := h1.shape
  obtain ⟨bo, cap2, rfl, hd1, hd2⟩ := h2.shape
  obtain ⟨no, cap3, rfl, _, _⟩ := h3.shape
  obtain ⟨ho, cap4, rfl, _, _⟩ := h4.shape
  have hA := below_alloc2 w (.cells #[.int .i64 n, .int .i64 id, .int .i64 te, .int .i64 vo, .slice ao lo.length cap, .int .i64 ro, .int .i64 co, .slice bo vs.length cap2, .slice no ns.length cap3, .slice ho hs.length cap4] 34) (.cells #[.int .i64 0, .int .i64 0, .int .i64 0, .int .i64 0, .slice none 0 0, .int .i64 0, .int .i64 0, .slice none 0 0, .slice none 0 0, .slice none 0 0] 34)
  have HP := hide (Blk.at0of2 w (.cells #[.int .i64 0, .int .i64 0, .int .i64 0, .int .i64 0, .slice none 0 0, .int .i64 0, .int .i64 0, .slice none 0 0, .slice none 0 0, .slice none 0 0] 34) 34 #[.int .i64 n, .int .i64 id, .int .i64 te, .int .i64 vo, .slice ao lo.length cap, .int .i64 ro, .int .i64 co, .slice bo vs.length cap2, .slice no ns.length cap3, .slice ho hs.length cap4])
  have HR := hide (Blk.at1 w (.cells #[.int .i64 n, .int .i64 id, .int .i64 te, .int .i64 vo, .slice ao lo.length cap, .int .i64 ro, .int .i64 co, .slice bo vs.length cap2, .slice no ns.length cap3, .slice ho hs.length cap4] 34) 34 #[.int .i64 0, .int .i64 0, .int .i64 0, .int .i64 0, .slice none 0 0, .int .i64 0, .int .i64 0, .slice none 0 0, .slice none 0 0, .slice none 0 0])
  have HS0 := hide (show w.heap.size + 2 = ((w.alloc (.cells #[.int .i64 n, .int .i64 id, .int .i64 te, .int .i64 vo, .slice ao lo.length cap, .int .i64 ro, .int .i64 co, .slice bo vs.length cap2, .slice no ns.length cap3, .slice ho hs.length cap4] 34)).alloc (.cells #[.int .i64 0, .int .i64 0, .int .i64 0, .int .i64 0, .slice none 0 0, .int .i64 0, .int .i64 0, .slice none 0 0, .slice none 0 0, .slice none 0 0] 34)).heap.size by simp)
  have HA := hide hA
  have HFO := hide (HXF.out _ hA)
  rw [← HEX.out] at HFO ⊢
  have HEV := hide (show ndV X (.slice ao lo.length cap) (.slice bo vs.length cap2) (.slice no ns.length cap3) (.slice ho hs.length cap4) = .agg #[.int .i64 n, .int .i64 id, .int .i64 te, .int .i64 vo, .slice ao lo.length cap, .int .i64 ro, .int .i64 co, .slice bo vs.length cap2, .slice no ns.length cap3, .slice ho hs.length cap4] by rw [HEX.out]; rfl)
  rw [HEV.out] at HFO ⊢
  clear h1 h2 h3 h4 hA HXF hX
  go_enter Try.func53, Try.ntmps53
  generalize hA0 : ((w.alloc (.cells #[.int .i64 n, .int .i64 id, .int .i64 te, .int .i64 vo, .slice ao lo.length cap, .int .i64 ro, .int .i64 co, .slice bo vs.length cap2, .slice no ns.length cap3, .slice ho hs.length cap4] 34)).alloc (.cells #[.int .i64 0, .int .i64 0, .int .i64 0, .int .i64 0, .slice none 0 0, .int .i64 0, .int .i64 0, .slice none 0 0, .slice none 0 0, .slice none 0 0] 34)) = A0 at HP HR HS0 HA HFO
  go_upto_region 1 with fail
  try rw [hA0]
  clear hA0
  go_wp2_with (refine wpList_load_blk HP.out Try.underlying34 rfl Try.sizeNode rfl rfl rfl ?_)
  refine HFO.out.mono ?_
  rintro e w1 ⟨lv1, rfl, ho1, hb1⟩
  obtain ⟨lo1, lc1, hs1⟩ := owns_shapeK ho1
  subst hs1
  have HP1 := hide (HP.out.later hb1)
  have HR1 := hide (HR.out.later hb1)
  have HA1 := hide (HA.out.trans (hb1.mono HA.out.size))
  have HO1 := hide ho1
  unfold ndV ndA
  clear ho1 hb1 HFO
  go_upto_region 3 with (first
    | (refine wpList_store_blk rfl rfl rfl rfl HP1.out rfl Try.sizeNode rfl ?_; intro w2 hP2 hg2; have HP2 := hide hP2; have HR2 := hide (HR1.out.grown hg2 (by simp)); have HA2 := hide (below_grownO HA1.out hg2 (fun k hk => by cases hk; omega) HA1.out.size); have HO2 := hide (owns_offB HO1.out hg2 (by have := HS0.out; omega)); clear hP2 hg2)
    | (refine wpList_store_int (k := 5) rfl rfl rfl rfl HP2.out rfl Try.sizeIntR ?_; intro w3 hP3 hg3; have HP3 := hide hP3; have HR3 := hide (HR2.out.grown hg3 (by simp)); have HA3 := hide (below_grownO HA2.out hg3 (fun k hk => by cases hk; omega) HA2.out.size); have HO3 := hide (owns_offB HO2.out hg3 (by have := HS0.out; omega)); clear hP3 hg3))
  have HD0 := hide (Dm.ofLog (x := ({ X.follow with role := 2, next := List.replicate 0 ((X.log.length : Int) + 1), hav := hvL X.id X.log.length 0 } : Nd)) HP3.out HO3.out (by have := HS0.out; omega) rfl rfl rfl)
  generalize hlb : (fun g => if (Value.slice lo1 X.log.length lc1).ownBlock = some g then 1 else if g = w.heap.size then 5 else 0) = lab0 at HD0
  have HLB := hide (show ∀ g, g < w.heap.size → lab0 g = 0 by
    intro g hg
    rw [← hlb]
    show (if _ then _ else _) = _
    rw [if_neg (fun q => by have := (HO3.out.lt g q).1; have := HS0.out; omega), if_neg (by omega)])
  have HLR := hide (show lab0 (w.heap.size + 1) = 0 by
    rw [← hlb]
    show (if _ then _ else _) = _
    rw [if_neg (fun q => by have := (HO3.out.lt _ q).1; have := HS0.out; omega), if_neg (by omega)])
  obtain ⟨N, hN⟩ : ∃ N : Nat, X.n = N := ⟨X.n.toNat, by omega⟩
  have HN := hide hN
  have hN7 : N ≤ 7 := by omega
  have hw1 : IntKind.i64.wrap ((X.log.length : Int) + 1) = (X.log.length : Int) + 1 := by rw [IntKind.wrap_i64]; omega
  clear hlb hN HP3 HO3 HP2 HO2 HP1 HO1
  go_wp2_with fail
  go_loopw [3] (fun iv wr => ∃ k : Nat, k ≤ N ∧ iv = .int .i64 k ∧ ∃ lab nv' hv', Dm wr lab w.heap.size ({ X.follow with role := 2, next := List.replicate k ((X.log.length : Int) + 1), hav := hvL X.id X.log.length k } : Nd) (.slice lo1 X.log.length lc1) (.slice none 0 0) nv' hv' ∧ Chg 0 w3 wr lab0 lab (fun i => i ≠ 0))
    (fun iv _ => N - (intOf iv).toNat)
  case atStart => exact ⟨0, by omega, rfl, lab0, _, _, HD0.out, Chg.refl _ _ _ HD0.out.ok⟩
  case round =>
    obtain ⟨k, hk, rfl, lab, nv', hv', hD, hC⟩ := hrel
    have HD := hide hD
    have HC := hide hC
    obtain ⟨no1, nc1, hnn⟩ := owns_shapeK hD.nxt.1
    rw [show ({ X.follow with role := 2, next := List.replicate k ((X.log.length : Int) + 1), hav := hvL X.id X.log.length k } : Nd).next.length = k from List.length_replicate] at hnn
    subst hnn
    have c0 := hD.blk.cell 0
    have c1 := hD.blk.cell 1
    have c4 := hD.blk.cell 4
    have c8 := hD.blk.cell 8
    have cl := hD.blk.lt
    simp [ndA, Nd.follow] at c0 c1 c4 c8
    rw [HN.out] at c0
    have HB := hide hD.blk
    unfold ndA at HB
    clear hD hC
    by_cases hlt : k < N
    · have hd : decide ((k : Int) < (N : Int)) = true := decide_eq_true (by omega)
      have HBA := hide (HB.out.later (below_allocG wr (.cells #[.int .i64 ((X.log.length : Int) + 1)] 3)))
      have hon := HD.out.nxt.1.alloc (.cells #[.int .i64 ((X.log.length : Int) + 1)] 3)
      rw [show ({ X.follow with role := 2, next := List.replicate k ((X.log.length : Int) + 1), hav := hvL X.id X.log.length k } : Nd).next.length = k from List.length_replicate] at hon
      have HON := hide hon
      have HRO := hide (RdG.oneI wr ((X.log.length : Int) + 1))
      have HOF := hide (owns_off HON.out HBA.out (by decide))
      have HL2 := hide (show k + [((X.log.length : Int) + 1)].length ≤ 1000000000 by simp; omega)
      clear hon
      go_upto_region 7 with (first
        | (at_builtin; go_must (refine wpList_append_rdAt (E := iE) (cs := List.replicate k ((X.log.length : Int) + 1)) (news := [(X.log.length : Int) + 1]) HON.out HRO.out Try.underlying32 infoIntR rfl rfl rfl rfl rfl HL2.out (by decide) (Nat.zero_le _) ?_); intro v5 w5 ho5 hg5 hat5; obtain ⟨ao5, cap5, hv5⟩ := owns_shapeK ho5; subst hv5; have HB5 := hide (HBA.out.grown hg5 (fun q => HOF.out q.symm)); have HO5 := hide ho5; have HG5 := hide hg5; have HAT := hide hat5; clear ho5 hg5 hat5)
        | (refine wpList_store_slice (k := 8) rfl rfl rfl rfl HB5.out rfl Try.sizeIntsR ?_; intro w6 hB6 hg6; have HB6 := hide hB6; have HG6 := hide hg6; clear hB6 hg6))
      have hl5 : (List.replicate (k + 1) ((X.log.length : Int) + 1)).length = k + 1 := List.length_replicate
      have he5 : List.replicate k ((X.log.length : Int) + 1) ++ [(X.log.length : Int) + 1] = List.replicate (k + 1) ((X.log.length : Int) + 1) := by rw [List.replicate_succ']
      have ho6 : w5.ownsRow 0 3 1 (.slice ao5 (k + 1) cap5) (List.replicate (k + 1) ((X.log.length : Int) + 1)).length (iE.vs (List.replicate (k + 1) ((X.log.length : Int) + 1))) := by rw [hl5, ← he5]; exact HO5.out
      obtain ⟨hD6, hC6⟩ := HD.out.appNext (l := List.replicate (k + 1) ((X.log.length : Int) + 1)) (below_allocG wr (.cells #[.int .i64 ((X.log.length : Int) + 1)] 3)) ho6 HG5.out HAT.out HG6.out HB6.out
      have HD6 := hide (show Dm w6 _ w.heap.size ({ X.follow with role := 2, next := List.replicate (k + 1) ((X.log.length : Int) + 1), hav := hvL X.id X.log.length k } : Nd) _ _ _ _ from hD6)
      have HC6 := hide (HC.out.trans (hC6.mono (fun i hi => (by omega : i ≠ 0))))
      clear ho6 hl5 he5 hD6 hC6 c0 c1 c4 c8 HB HBA HON HRO HOF HL2
      obtain ⟨ho1', hc1', hhn⟩ := owns_shapeK HD6.out.hav.1
      rw [show ({ X.follow with role := 2, next := List.replicate (k + 1) ((X.log.length : Int) + 1), hav := hvL X.id X.log.length k } : Nd).hav.length = k from hvL_len _ _ _] at hhn
      subst hhn
      have d1 := HD6.out.blk.cell 1
      have d4 := HD6.out.blk.cell 4
      have d9 := HD6.out.blk.cell 9
      have dl := HD6.out.blk.lt
      simp [ndA, Nd.follow] at d1 d4 d9
      have HBk := hide HD6.out.blk
      unfold ndA at HBk
      by_cases hid : (k : Int) = X.id
      · have hq : ((k : Int) == X.id) = true := beq_iff_eq.2 hid
        have HUE := hide (show hvL X.id X.log.length k ++ [(X.log.length : Int)] = hvL X.id X.log.length (k + 1) by rw [hvL, if_pos hid])
        have HBA := hide (HBk.out.later (below_allocG w6 (.cells #[.int .i64 ((X.log.length : Int))] 3)))
        have hon := HD6.out.hav.1.alloc (.cells #[.int .i64 ((X.log.length : Int))] 3)
        rw [show ({ X.follow with role := 2, next := List.replicate (k + 1) ((X.log.length : Int) + 1), hav := hvL X.id X.log.length k } : Nd).hav.length = k from hvL_len _ _ _] at hon
        have HON := hide hon
        have HRO := hide (RdG.oneI w6 ((X.log.length : Int)))
        have HOF := hide (owns_off HON.out HBA.out (by decide))
        have HL2 := hide (show k + [((X.log.length : Int) : Int)].length ≤ 1000000000 by simp; omega)
        clear hon hid
        go_wp2_with (first
          | (at_builtin; go_must (refine wpList_append_rdAt (E := iE) (cs := hvL X.id X.log.length k) (news := [(X.log.length : Int)]) HON.out HRO.out Try.underlying32 infoIntR rfl rfl rfl rfl rfl HL2.out (by decide) (Nat.zero_le _) ?_); intro v7 w7 ho7 hg7 hat7; obtain ⟨ao7, cap7, hv7⟩ := owns_shapeK ho7; subst hv7; have HB7 := hide (HBA.out.grown hg7 (fun q => HOF.out q.symm)); have HO7 := hide ho7; have HG7 := hide hg7; have HAT7 := hide hat7; clear ho7 hg7 hat7)
          | (refine wpList_store_slice (k := 9) rfl rfl rfl rfl HB7.out rfl Try.sizeIntsR ?_; intro w8 hB8 hg8; have HB8 := hide hB8; have HG8 := hide hg8; clear hB8 hg8))
        go_roundw
        case rel =>
          have ho8 : w7.ownsRow 0 3 1 (.slice ao7 (k + 1) cap7) (hvL X.id X.log.length (k + 1)).length (iE.vs (hvL X.id X.log.length (k + 1))) := by rw [hvL_len, ← HUE.out]; exact HO7.out
          obtain ⟨hD8, hC8⟩ := HD6.out.appHave (l := hvL X.id X.log.length (k + 1)) (below_allocG w6 (.cells #[.int .i64 ((X.log.length : Int))] 3)) ho8 HG7.out HAT7.out HG8.out HB8.out
          exact ⟨k + 1, by omega, by go_num, _, _, _, hD8, HC6.out.trans (hC8.mono (fun i hi => (by omega : i ≠ 0)))⟩
        case measure => simp [intOf]; omega
      · have hq : ((k : Int) == X.id) = false := beq_eq_false_iff_ne.2 hid
        have HUE := hide (show hvL X.id X.log.length k ++ [(0 : Int)] = hvL X.id X.log.length (k + 1) by rw [hvL, if_neg hid])
        have HBA := hide (HBk.out.later (below_allocG w6 (.cells #[.int .i64 ((0 : Int))] 3)))
        have hon := HD6.out.hav.1.alloc (.cells #[.int .i64 ((0 : Int))] 3)
        rw [show ({ X.follow with role := 2, next := List.replicate (k + 1) ((X.log.length : Int) + 1), hav := hvL X.id X.log.length k } : Nd).hav.length = k from hvL_len _ _ _] at hon
        have HON := hide hon
        have HRO := hide (RdG.oneI w6 ((0 : Int)))
        have HOF := hide (owns_off HON.out HBA.out (by decide))
        have HL2 := hide (show k + [((0 : Int) : Int)].length ≤ 1000000000 by simp; omega)
        clear hon hid
        go_wp2_with (first
          | (at_builtin; go_must (refine wpList_append_rdAt (E := iE) (cs := hvL X.id X.log.length k) (news := [(0 : Int)]) HON.out HRO.out Try.underlying32 infoIntR rfl rfl rfl rfl rfl HL2.out (by decide) (Nat.zero_le _) ?_); intro v7 w7 ho7 hg7 hat7; obtain ⟨ao7, cap7, hv7⟩ := owns_shapeK ho7; subst hv7; have HB7 := hide (HBA.out.grown hg7 (fun q => HOF.out q.symm)); have HO7 := hide ho7; have HG7 := hide hg7; have HAT7 := hide hat7; clear ho7 hg7 hat7)
          | (refine wpList_store_slice (k := 9) rfl rfl rfl rfl HB7.out rfl Try.sizeIntsR ?_; intro w8 hB8 hg8; have HB8 := hide hB8; have HG8 := hide hg8; clear hB8 hg8))
        go_roundw
        case rel =>
          have ho8 : w7.ownsRow 0 3 1 (.slice ao7 (k + 1) cap7) (hvL X.id X.log.length (k + 1)).length (iE.vs (hvL X.id X.log.length (k + 1))) := by rw [hvL_len, ← HUE.out]; exact HO7.out
          obtain ⟨hD8, hC8⟩ := HD6.out.appHave (l := hvL X.id X.log.length (k + 1)) (below_allocG w6 (.cells #[.int .i64 ((0 : Int))] 3)) ho8 HG7.out HAT7.out HG8.out HB8.out
          exact ⟨k + 1, by omega, by go_num, _, _, _, hD8, HC6.out.trans (hC8.mono (fun i hi => (by omega : i ≠ 0)))⟩
        case measure => simp [intOf]; omega
    · have hd : decide ((k : Int) < (N : Int)) = false := decide_eq_false (by omega)
      obtain rfl : k = N := by omega
      have HE := hide (show ({ X.follow with role := 2, next := List.replicate k ((X.log.length : Int) + 1), hav := hvL X.id X.log.length k } : Nd) = X.lead0 by
        have e1 : k = X.n.toNat := by rw [HN.out]; rfl
        unfold Nd.lead0
        rw [hvL_set hi0, e1]
        rfl)
      have HLE : Hid (X.lead = X.lead0.count) := hide rfl
      have hCw := Below.ofChg HC.out (C := w.heap.size) (fun g hg q => q (HLB.out g hg)) (by have := HA3.out.size; omega)
      have HAr := hide (HA3.out.trans hCw)
      have HLr := hide (show ∀ g, g < w.heap.size → lab g = 0 from fun g hg => by rw [HC.out.labs g (by have := HA3.out.size; omega)]; exact HLB.out g hg)
      have HRr := hide (HR3.out.keep HC.out (fun q => q HLR.out))
      have hDD := HD.out
      rw [HE.out] at hDD
      have HDD := hide hDD
      have HCO := hide (Counted_any X.lead0 _ _ _ _ wr hDD.rd (show 0 ≤ X.n by omega) (show X.n ≤ 1000 by omega) hll (by simp [Nd.lead0]; omega) hc0 hcl)
      have HLRr := hide (show lab (w.heap.size + 1) = 0 by rw [HC.out.labs _ (HR3.out.lt)]; exact HLR.out)
      obtain ⟨ho9, hc9, hh9⟩ := owns_shapeK HD.out.hav.1
      rw [show ({ X.follow with role := 2, next := List.replicate k ((X.log.length : Int) + 1), hav := hvL X.id X.log.length k } : Nd).hav.length = k from hvL_len _ _ _] at hh9
      subst hh9
      unfold Nd.follow at HB
      dsimp only at HB
      unfold ndV ndA Nd.lead0 at HCO
      dsimp only at HCO
      clear hDD hCw c1 c4 c8
      go_wp2_with (first
        | (refine wpList_load_blk HB.out Try.underlying34 rfl Try.sizeNode rfl rfl rfl ?_)
        | (go_at_call 54; refine HCO.out.mono ?_; rintro e w7 ⟨rfl, hb7⟩; have HR7 := hide (HRr.out.later hb7); have HA7 := hide (HAr.out.trans (hb7.mono HAr.out.size)); have HD7 := hide (HDD.out.below hb7); clear hb7)
        | (refine wpList_store_blk rfl rfl rfl rfl HR7.out rfl Try.sizeNode rfl ?_; intro w9 hR9 hg9; have HR9 := hide hR9; have HA9 := hide (below_grownO HA7.out hg9 (fun k hk => by cases hk; omega) HA7.out.size); have HD9 := hide (HD7.out.keep (Chg.grown (S := fun i => i = 0) HD7.out.ok hg9 HLRr.out) (fun i h1 h2 => by omega)); clear hR9 hg9))
      refine bodyPost_ret (results1_cell Try.results53 rfl (run_loadVar_blk HR9.out Try.underlying34 rfl Try.sizeNode)) rfl ?_
      have han := HD9.out.ans HLr.out
      rw [HLE.out]
      exact ⟨_, _, _, rfl, ⟨⟨han.rd.log, han.rd.votes, han.rd.next, han.rd.hav⟩, han.n1, han.n2, han.n3, han.n4⟩, HA9.out⟩

end Go.Proofs.Ytddkjpojbflmjah
