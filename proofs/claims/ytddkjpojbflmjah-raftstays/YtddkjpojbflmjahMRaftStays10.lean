/-
  Texts joined: RaftR1, RaftR3h, RaftR3, RaftR3l, RaftR3b0, RaftR3b1, RaftR3b2.
-/
import Derived.Test.YtddkjpojbflmjahMRaftStays9
/-
  The walks over the document's Ints, SameNode (of the same) and CopyNode; the law's vastNode. (Written by rr1.py.)
-/
namespace Go.Proofs.Ytddkjpojbflmjah
open Go.RowKit Go.Maps
set_option linter.unusedVariables false

set_option maxRecDepth 100000 in
set_option maxHeartbeats 1000000 in
theorem Ints_eq (u v : Value) (l : List Int) (w : World) (hu : RdG iE w u l) (hv : RdG iE w v l) :
    Calls Try.prog 48 #[u, v] w fun e w' => e = .returned (.bool true) ∧ Below w.heap.size w w' := by
  have HU := hide hu
  have HV := hide hv
  obtain ⟨ao, cap, rfl, hc1, hc2⟩ := hu.shape
  obtain ⟨bo, cap2, rfl, _, _⟩ := hv.shape
  unfold maxLen at hc2
  clear hu hv
  go_enter Try.func48, Try.ntmps48
  go_wp2_with fail
  go_loopw [5] (fun iv wr => ∃ j : Nat, j ≤ l.length ∧ iv = .int .i64 j ∧ Below w.heap.size w wr)
    (fun iv _ => l.length - (intOf iv).toNat)
  case atStart => exact ⟨0, by omega, rfl, Below.refl _ _⟩
  case round =>
    obtain ⟨j, hj, rfl, hbr⟩ := hrel
    have HBR := hide hbr
    by_cases hlt : j < l.length
    · obtain ⟨r, hr⟩ : ∃ r, l[j]? = some r := ⟨_, List.getElem?_eq_getElem hlt⟩
      obtain ⟨b1, o1, rfl, hb1, q1⟩ := HU.out.hereI hr
      obtain ⟨b2, o2, rfl, hb2, q2⟩ := HV.out.hereI hr
      have s1 := cell_belowG q1 hbr
      have s2 := cell_belowG q2 hbr
      have hk1 : (0 : Int) ≤ (j : Int) := by omega
      have hk2 : (j : Int) < (l.length : Int) := by omega
      have hl1 : b1 < wr.heap.size := Nat.lt_of_lt_of_le hb1 hbr.size
      have hl2 : b2 < wr.heap.size := Nat.lt_of_lt_of_le hb2 hbr.size
      clear q1 q2 hr hbr
      go_wp2_with fail
      go_quiet (fail)
      go_wp2_with fail
      go_roundw
      case rel => exact ⟨j + 1, by omega, by go_num, below_drewN HBR.out _⟩
      case measure => simp [intOf]; omega
    · have hje : j = l.length := by omega
      subst hje
      clear hbr
      go_wp2_with fail
      go_ret
      exact ⟨rfl, HBR.out⟩

set_option maxRecDepth 100000 in
set_option maxHeartbeats 4000000 in
theorem SameNode_eq (x : Nd) (lv vv nv hv lv2 vv2 nv2 hv2 : Value) (w : World) (hx : RdNd w x lv vv nv hv) (hy : RdNd w x lv2 vv2 nv2 hv2) :
    Calls Try.prog 20 #[ndV x lv vv nv hv, ndV x lv2 vv2 nv2 hv2] w fun e w' => e = .returned (.bool true) ∧ Below w.heap.size w w' := by
  obtain ⟨n, id, te, vo, lo, ro, co, vs, ns, hs⟩ := x
  obtain ⟨h1, h2, h3, h4⟩ := hx
  obtain ⟨k1, k2, k3, k4⟩ := hy
  simp only at h1 h2 h3 h4 k1 k2 k3 k4
  obtain ⟨pa1, pc1, rfl, _, _⟩ := h1.shape
  obtain ⟨pa2, pc2, rfl, _, _⟩ := h2.shape
  obtain ⟨pa3, pc3, rfl, _, _⟩ := h3.shape
  obtain ⟨pa4, pc4, rfl, _, _⟩ := h4.shape
  obtain ⟨qa1, qc1, rfl, _, _⟩ := k1.shape
  obtain ⟨qa2, qc2, rfl, _, _⟩ := k2.shape
  obtain ⟨qa3, qc3, rfl, _, _⟩ := k3.shape
  obtain ⟨qa4, qc4, rfl, _, _⟩ := k4.shape
  have hA := below_alloc2 w (.cells #[.int .i64 n, .int .i64 id, .int .i64 te, .int .i64 vo, .slice pa1 lo.length pc1, .int .i64 ro, .int .i64 co, .slice pa2 vs.length pc2, .slice pa3 ns.length pc3, .slice pa4 hs.length pc4] 34) (.cells #[.int .i64 n, .int .i64 id, .int .i64 te, .int .i64 vo, .slice qa1 lo.length qc1, .int .i64 ro, .int .i64 co, .slice qa2 vs.length qc2, .slice qa3 ns.length qc3, .slice qa4 hs.length qc4] 34)
  have HP := hide (Blk.at0of2 w (.cells #[.int .i64 n, .int .i64 id, .int .i64 te, .int .i64 vo, .slice qa1 lo.length qc1, .int .i64 ro, .int .i64 co, .slice qa2 vs.length qc2, .slice qa3 ns.length qc3, .slice qa4 hs.length qc4] 34) 34 #[.int .i64 n, .int .i64 id, .int .i64 te, .int .i64 vo, .slice pa1 lo.length pc1, .int .i64 ro, .int .i64 co, .slice pa2 vs.length pc2, .slice pa3 ns.length pc3, .slice pa4 hs.length pc4])
  have HQ := hide (Blk.at1 w (.cells #[.int .i64 n, .int .i64 id, .int .i64 te, .int .i64 vo, .slice pa1 lo.length pc1, .int .i64 ro, .int .i64 co, .slice pa2 vs.length pc2, .slice pa3 ns.length pc3, .slice pa4 hs.length pc4] 34) 34 #[.int .i64 n, .int .i64 id, .int .i64 te, .int .i64 vo, .slice qa1 lo.length qc1, .int .i64 ro, .int .i64 co, .slice qa2 vs.length qc2, .slice qa3 ns.length qc3, .slice qa4 hs.length qc4])
  have HA := hide hA
  have HS := hide (SameLog_any _ _ lo _ (h1.below hA) (k1.below hA))
  have HI2 := hide (fun W (hW : Below w.heap.size w W) => Ints_eq _ _ vs W (h2.below hW) (k2.below hW))
  have HI3 := hide (fun W (hW : Below w.heap.size w W) => Ints_eq _ _ ns W (h3.below hW) (k3.below hW))
  have HI4 := hide (fun W (hW : Below w.heap.size w W) => Ints_eq _ _ hs W (h4.below hW) (k4.below hW))
  clear h1 h2 h3 h4 k1 k2 k3 k4 hA
  unfold ndV ndA
  go_enter Try.func20, Try.ntmps20
  go_wp2_with fail
  refine HS.out.mono ?_
  rintro e w1 ⟨rfl, hb⟩
  have hP := HP.out.later hb
  have hQ := HQ.out.later hb
  have HP1 := hide hP
  have HQ1 := hide hQ
  have HA1 := hide (HA.out.trans (hb.mono HA.out.size))
  have pl1 := hP.lt
  have ql1 := hQ.lt
  have p7 := hP.cell 7
  have q7 := hQ.cell 7
  simp at p7 q7
  clear hP hQ hb
  go_wp2_with fail
  refine (HI2.out _ HA1.out).mono ?_
  rintro e w2 ⟨rfl, hb⟩
  have hP := HP1.out.later hb
  have hQ := HQ1.out.later hb
  have HP2 := hide hP
  have HQ2 := hide hQ
  have HA2 := hide (HA1.out.trans (hb.mono HA1.out.size))
  have pl2 := hP.lt
  have ql2 := hQ.lt
  have p8 := hP.cell 8
  have q8 := hQ.cell 8
  simp at p8 q8
  clear hP hQ hb
  go_wp2_with fail
  refine (HI3.out _ HA2.out).mono ?_
  rintro e w3 ⟨rfl, hb⟩
  have hP := HP2.out.later hb
  have hQ := HQ2.out.later hb
  have HP3 := hide hP
  have HQ3 := hide hQ
  have HA3 := hide (HA2.out.trans (hb.mono HA2.out.size))
  have pl3 := hP.lt
  have ql3 := hQ.lt
  have p9 := hP.cell 9
  have q9 := hQ.cell 9
  simp at p9 q9
  clear hP hQ hb
  go_wp2_with (go_at_call 48; refine (HI4.out _ HA3.out).mono ?_; rintro e w4 ⟨rfl, hb⟩; have HA4 := hide (HA3.out.trans (hb.mono HA3.out.size)); clear hb)
  go_ret
  exact ⟨rfl, HA4.out⟩

def vastN (x : Nd) : Bool := vastE x.log.length || (decide (100 < x.votes.length) || (decide (100 < x.next.length) || decide (100 < x.hav.length)))

set_option maxRecDepth 100000 in
set_option maxHeartbeats 2000000 in
theorem vastNode_any (x : Nd) (lv vv nv hv : Value) (w : World) (hx : RdNd w x lv vv nv hv) :
    Calls Try.prog 13 #[ndV x lv vv nv hv] w fun e w' => e = .returned (.bool (vastN x)) ∧ Below w.heap.size w w' := by
  obtain ⟨n, id, te, vo, lo, ro, co, vs, ns, hs⟩ := x
  obtain ⟨h1, h2, h3, h4⟩ := hx
  simp only at h1 h2 h3 h4
  obtain ⟨ao, cap, rfl, hc1, hc2⟩ := h1.shape
  obtain ⟨bo, cap2, rfl, hd1, hd2⟩ := h2.shape
  obtain ⟨no, cap3, rfl, _, _⟩ := h3.shape
  obtain ⟨ho, cap4, rfl, _, _⟩ := h4.shape
  have HA := hide (below_allocG w (.cells #[.int .i64 n, .int .i64 id, .int .i64 te, .int .i64 vo, .slice ao lo.length cap, .int .i64 ro, .int .i64 co, .slice bo vs.length cap2, .slice no ns.length cap3, .slice ho hs.length cap4] 34))
  have HF : Hid (vastN ⟨n, id, te, vo, lo, ro, co, vs, ns, hs⟩ = (vastE lo.length || (decide (100 < vs.length) || (decide (100 < ns.length) || decide (100 < hs.length))))) := hide rfl
  unfold ndV ndA
  clear h1 h2 h3 h4
  generalize hV : vastE lo.length = V at *
  have HVV := hide hV
  clear hV
  cases V
  · by_cases h1 : 100 < vs.length
    · have e1 : decide (100 < (vs.length : Int)) = true := decide_eq_true (by omega)
      go_enter Try.func13, Try.ntmps13
      go_wp2_with (go_at_call 8; refine (vastLog_any _ lo.length _ _).mono ?_; rw [HVV.out]; rintro e w1 ⟨rfl, rfl⟩)
      go_ret
      exact ⟨by rw [HF.out, decide_eq_true h1]; rfl, HA.out⟩
    · have e1 : decide (100 < (vs.length : Int)) = false := decide_eq_false (by omega)
      by_cases h2 : 100 < ns.length
      · have e2 : decide (100 < (ns.length : Int)) = true := decide_eq_true (by omega)
        go_enter Try.func13, Try.ntmps13
        go_wp2_with (go_at_call 8; refine (vastLog_any _ lo.length _ _).mono ?_; rw [HVV.out]; rintro e w1 ⟨rfl, rfl⟩)
        go_ret
        exact ⟨by rw [HF.out, decide_eq_true h2, decide_eq_false h1]; rfl, HA.out⟩
      · have e2 : decide (100 < (ns.length : Int)) = false := decide_eq_false (by omega)
        have HD := hide (show decide (100 < (hs.length : Int)) = decide (100 < hs.length) by congr 1; exact propext ⟨fun h => by omega, fun h => by omega⟩)
        go_enter Try.func13, Try.ntmps13
        go_wp2_with (go_at_call 8; refine (vastLog_any _ lo.length _ _).mono ?_; rw [HVV.out]; rintro e w1 ⟨rfl, rfl⟩)
        all_goals
          go_ret
          exact ⟨by rw [HF.out, decide_eq_false h1, decide_eq_false h2, ← HD.out]; first | rfl | simp [*], HA.out⟩
  · go_enter Try.func13, Try.ntmps13
    go_wp2_with (go_at_call 8; refine (vastLog_any _ lo.length _ _).mono ?_; rw [HVV.out]; rintro e w1 ⟨rfl, rfl⟩)
    go_ret
    exact ⟨by rw [HF.out]; rfl, HA.out⟩

end Go.Proofs.Ytddkjpojbflmjah

/-
  The walks over the document's Has, Majority and NodeFault. (Written by rr3.py.)
-/
namespace Go.Proofs.Ytddkjpojbflmjah
open Go.RowKit Go.Maps
set_option linter.unusedVariables false

set_option maxRecDepth 100000 in
theorem Majority_any (k : Nat) (n : Int) (w : World) (hn : 0 ≤ n) (hm : n ≤ 1000) : Calls Try.prog 51 #[.int .i64 k, .int .i64 n] w fun e w' => e = .returned (.bool (mostB k n)) ∧ w' = w := by
  have HE : Hid (mostB k n = decide (n / 2 < (k : Int))) := hide rfl
  have h0 : n.tdiv 2 = n / 2 := Int.tdiv_eq_ediv_of_nonneg hn
  generalize hp : n / 2 = p at *
  have h1 : IntKind.i64.wrap p = p := by rw [IntKind.wrap_i64]; omega
  go_enter Try.func51, Try.ntmps51
  go_wp2_with fail
  go_ret
  exact ⟨by rw [HE.out]; rfl, rfl⟩

set_option maxRecDepth 100000 in
set_option maxHeartbeats 1000000 in
theorem Has_any (v : Value) (l : List Int) (x : Int) (w : World) (hv : RdG iE w v l) :
    Calls Try.prog 50 #[v, .int .i64 x] w fun e w' => e = .returned (.bool (decide (x ∈ l))) ∧ w' = w := by
  have HV := hide hv
  obtain ⟨ao, cap, rfl, hc1, hc2⟩ := hv.shape
  unfold maxLen at hc2
  clear hv
  go_enter Try.func50, Try.ntmps50
  go_wp2_with fail
  go_loopw [5] (fun iv wr => ∃ j : Nat, j ≤ l.length ∧ iv = .int .i64 j ∧ (∀ (k : Nat) y, k < j → l[k]? = some y → y ≠ x) ∧ w = wr)
    (fun iv _ => l.length - (intOf iv).toNat)
  case atStart => exact ⟨0, by omega, rfl, fun k y h => by omega, rfl⟩
  case round =>
    obtain ⟨j, hj, rfl, hno, rfl⟩ := hrel
    have HNO := hide hno
    clear hno
    by_cases hlt : j < l.length
    · obtain ⟨y, hy⟩ : ∃ c, l[j]? = some c := ⟨_, List.getElem?_eq_getElem hlt⟩
      obtain ⟨b, off, rfl, hbb, q⟩ := HV.out.hereI hy
      have hk1 : (0 : Int) ≤ (j : Int) := by omega
      have hk2 : (j : Int) < (l.length : Int) := by omega
      have HY := hide hy
      clear hy
      by_cases hq : y = x
      · have hb : (y == x) = true := beq_iff_eq.2 hq
        have HM := hide (decide_eq_true (show x ∈ l by rw [← hq]; exact List.mem_of_getElem? HY.out))
        clear hq
        go_wp2_with fail
        go_ret
        exact ⟨by rw [HM.out]; rfl, rfl⟩
      · have hb : (y == x) = false := beq_eq_false_iff_ne.2 hq
        have HQ := hide hq
        clear hq
        go_wp2_with fail
        go_roundw
        case rel => exact ⟨j + 1, by omega, by go_num, fun k z h1 h2 => by
          by_cases e : k = j
          · subst e
            rw [HY.out] at h2
            cases h2
            exact HQ.out
          · exact HNO.out k z (by omega) h2, trivial⟩
        case measure => simp [intOf]; omega
    · have hje : j = l.length := by omega
      subst hje
      have HM := hide (decide_eq_false (show ¬ x ∈ l from fun hm => by
        obtain ⟨k, hk, e⟩ := List.mem_iff_getElem.1 hm
        exact HNO.out k x hk (by rw [List.getElem?_eq_getElem hk, e]) rfl))
      go_wp2_with fail
      go_ret
      exact ⟨by rw [HM.out]; rfl, rfl⟩

theorem voGo_step {n v : Int} {s r : List Int} : voGo n s (v :: r) = (wiB v 0 (n - 1) && !decide (v ∈ s) && voGo n (s ++ [v]) r) := rfl

end Go.Proofs.Ytddkjpojbflmjah

/-
  The walks over the document's Has, Majority and NodeFault. (Written by rr3.py.)
-/
namespace Go.Proofs.Ytddkjpojbflmjah
open Go.RowKit Go.Maps
set_option linter.unusedVariables false

set_option maxRecDepth 100000 in
set_option maxHeartbeats 16000000 in
theorem NodeFault_bad (x : Nd) (lv vv nv hv : Value) (w : World) (hx : RdNd w x lv vv nv hv) (hbad : (nmF x).1 ≠ 0) :
    Calls Try.prog 21 #[ndV x lv vv nv hv] w fun e w' => e = .returned (flt (chkN x)) ∧ Below w.heap.size w w' := by
  have HX := hide hx
  obtain ⟨n, id, te, vo, lo, ro, co, vs, ns, hs⟩ := x
  obtain ⟨h1, h2, h3, h4⟩ := hx
  simp only at h1 h2 h3 h4
  obtain ⟨ao, cap, rfl, hc1, hc2⟩ := h1.shape
  obtain ⟨bo, cap2, rfl, hd1, hd2⟩ := h2.shape
  obtain ⟨no, cap3, rfl, _, _⟩ := h3.shape
  obtain ⟨ho, cap4, rfl, _, _⟩ := h4.shape
  have hA := below_alloc2 w (.cells #[.int .i64 n, .int .i64 id, .int .i64 te, .int .i64 vo, .slice ao lo.length cap, .int .i64 ro, .int .i64 co, .slice bo vs.length cap2, .slice no ns.length cap3, .slice ho hs.length cap4] 34) (.cells #[.int .i64 0, .int .i64 0] 26)
  have HB0 := hide (Blk.at0of2 w (.cells #[.int .i64 0, .int .i64 0] 26) 34 #[.int .i64 n, .int .i64 id, .int .i64 te, .int .i64 vo, .slice ao lo.length cap, .int .i64 ro, .int .i64 co, .slice bo vs.length cap2, .slice no ns.length cap3, .slice ho hs.length cap4])
  have HR0 := hide (Blk.at1 w (.cells #[.int .i64 n, .int .i64 id, .int .i64 te, .int .i64 vo, .slice ao lo.length cap, .int .i64 ro, .int .i64 co, .slice bo vs.length cap2, .slice no ns.length cap3, .slice ho hs.length cap4] 34) 26 #[.int .i64 0, .int .i64 0])
  have HA0 := hide hA
  have HLF := hide (LogFault_any _ lo _ (h1.below hA))
  have HLT := hide (fun W (hW : Below w.heap.size w W) => LastTerm_any _ lo W (h1.below hW))
  have HH2 := hide (fun W (hW : Below w.heap.size w W) => h2.below hW)
  have HH3 := hide (fun W (hW : Below w.heap.size w W) => h3.below hW)
  have HH4 := hide (fun W (hW : Below w.heap.size w W) => h4.below hW)
  have HNM : Hid (nmF ⟨n, id, te, vo, lo, ro, co, vs, ns, hs⟩ = if wiB n 1 7 = false ∨ wiB id 0 (n - 1) = false then (3, -1) else if numL te = false ∨ wiB vo 0 n = false ∨ wiB ro 0 2 = false ∨ wiB co 0 lo.length = false then (3, -2) else (0, 0)) := hide rfl
  have HLG : Hid (lgF ⟨n, id, te, vo, lo, ro, co, vs, ns, hs⟩ = if (chkE lo).1 ≠ 0 then chkE lo else if te < lastT lo then (11, -3) else (0, 0)) := hide rfl
  have HCK : Hid (chkN ⟨n, id, te, vo, lo, ro, co, vs, ns, hs⟩ = if (nmF ⟨n, id, te, vo, lo, ro, co, vs, ns, hs⟩).1 ≠ 0 then nmF ⟨n, id, te, vo, lo, ro, co, vs, ns, hs⟩ else if (lgF ⟨n, id, te, vo, lo, ro, co, vs, ns, hs⟩).1 ≠ 0 then lgF ⟨n, id, te, vo, lo, ro, co, vs, ns, hs⟩ else if votesB ⟨n, id, te, vo, lo, ro, co, vs, ns, hs⟩ = false ∨ knownB ⟨n, id, te, vo, lo, ro, co, vs, ns, hs⟩ = false then (5, -3) else (0, 0)) := hide rfl
  have HZE := hide (chkE_z lo)
  unfold maxLen at hd2 hc2
  clear h1 h2 h3 h4 hA
  unfold ndV ndA
  by_cases c0 : n < 1
  · have HE := hide (show chkN ⟨n, id, te, vo, lo, ro, co, vs, ns, hs⟩ = (3, -1) by rw [HCK.out, show nmF ⟨n, id, te, vo, lo, ro, co, vs, ns, hs⟩ = (3, -1) by rw [HNM.out, if_pos (by simp only [wiB_false]; omega)], if_pos (by simp)])
    have e0 : decide (n < 1) = true := decide_eq_true c0
    go_enter Try.func21, Try.ntmps21
    go_wp2_with (first
      | (go_at_call 49; refine (lNum_any te _).mono ?_; skip; rintro e w1 ⟨rfl, rfl⟩)
      | (go_at_call 32; refine (lF_any _ _ _).mono ?_; rintro e w1 ⟨rfl, hb1⟩; have HR := hide (HR0.out.later hb1); have HBW := hide (HA0.out.trans (hb1.mono HA0.out.size)); clear hb1; unfold flt)
      | (refine wpList_store_blk rfl rfl rfl rfl HR.out rfl Try.sizeFaultR rfl ?_; intro w8 hR8 hg8; have HR8 := hide hR8; have HG8 := hide hg8; clear hR8 hg8))
    refine bodyPost_ret (results1_cell Try.results21 rfl (run_loadVar_blk HR8.out Try.underlying26 rfl Try.sizeFaultR)) rfl ?_
    exact ⟨by rw [HE.out] <;> rfl, below_grownO HBW.out HG8.out (fun k hk => by cases hk; omega) HBW.out.size⟩
  have e0 : decide (n < 1) = false := decide_eq_false c0
  by_cases c1 : 7 < n
  · have HE := hide (show chkN ⟨n, id, te, vo, lo, ro, co, vs, ns, hs⟩ = (3, -1) by rw [HCK.out, show nmF ⟨n, id, te, vo, lo, ro, co, vs, ns, hs⟩ = (3, -1) by rw [HNM.out, if_pos (by simp only [wiB_false]; omega)], if_pos (by simp)])
    have e1 : decide (7 < n) = true := decide_eq_true c1
    go_enter Try.func21, Try.ntmps21
    go_wp2_with (first
      | (go_at_call 49; refine (lNum_any te _).mono ?_; skip; rintro e w1 ⟨rfl, rfl⟩)
      | (go_at_call 32; refine (lF_any _ _ _).mono ?_; rintro e w1 ⟨rfl, hb1⟩; have HR := hide (HR0.out.later hb1); have HBW := hide (HA0.out.trans (hb1.mono HA0.out.size)); clear hb1; unfold flt)
      | (refine wpList_store_blk rfl rfl rfl rfl HR.out rfl Try.sizeFaultR rfl ?_; intro w8 hR8 hg8; have HR8 := hide hR8; have HG8 := hide hg8; clear hR8 hg8))
    refine bodyPost_ret (results1_cell Try.results21 rfl (run_loadVar_blk HR8.out Try.underlying26 rfl Try.sizeFaultR)) rfl ?_
    exact ⟨by rw [HE.out] <;> rfl, below_grownO HBW.out HG8.out (fun k hk => by cases hk; omega) HBW.out.size⟩
  have e1 : decide (7 < n) = false := decide_eq_false c1
  by_cases c2 : id < 0
  · have HE := hide (show chkN ⟨n, id, te, vo, lo, ro, co, vs, ns, hs⟩ = (3, -1) by rw [HCK.out, show nmF ⟨n, id, te, vo, lo, ro, co, vs, ns, hs⟩ = (3, -1) by rw [HNM.out, if_pos (by simp only [wiB_false]; omega)], if_pos (by simp)])
    have e2 : decide (id < 0) = true := decide_eq_true c2
    go_enter Try.func21, Try.ntmps21
    go_wp2_with (first
      | (go_at_call 49; refine (lNum_any te _).mono ?_; skip; rintro e w1 ⟨rfl, rfl⟩)
      | (go_at_call 32; refine (lF_any _ _ _).mono ?_; rintro e w1 ⟨rfl, hb1⟩; have HR := hide (HR0.out.later hb1); have HBW := hide (HA0.out.trans (hb1.mono HA0.out.size)); clear hb1; unfold flt)
      | (refine wpList_store_blk rfl rfl rfl rfl HR.out rfl Try.sizeFaultR rfl ?_; intro w8 hR8 hg8; have HR8 := hide hR8; have HG8 := hide hg8; clear hR8 hg8))
    refine bodyPost_ret (results1_cell Try.results21 rfl (run_loadVar_blk HR8.out Try.underlying26 rfl Try.sizeFaultR)) rfl ?_
    exact ⟨by rw [HE.out] <;> rfl, below_grownO HBW.out HG8.out (fun k hk => by cases hk; omega) HBW.out.size⟩
  have e2 : decide (id < 0) = false := decide_eq_false c2
  by_cases c3 : n ≤ id
  · have HE := hide (show chkN ⟨n, id, te, vo, lo, ro, co, vs, ns, hs⟩ = (3, -1) by rw [HCK.out, show nmF ⟨n, id, te, vo, lo, ro, co, vs, ns, hs⟩ = (3, -1) by rw [HNM.out, if_pos (by simp only [wiB_false]; omega)], if_pos (by simp)])
    have e3 : decide (n ≤ id) = true := decide_eq_true c3
    go_enter Try.func21, Try.ntmps21
    go_wp2_with (first
      | (go_at_call 49; refine (lNum_any te _).mono ?_; skip; rintro e w1 ⟨rfl, rfl⟩)
      | (go_at_call 32; refine (lF_any _ _ _).mono ?_; rintro e w1 ⟨rfl, hb1⟩; have HR := hide (HR0.out.later hb1); have HBW := hide (HA0.out.trans (hb1.mono HA0.out.size)); clear hb1; unfold flt)
      | (refine wpList_store_blk rfl rfl rfl rfl HR.out rfl Try.sizeFaultR rfl ?_; intro w8 hR8 hg8; have HR8 := hide hR8; have HG8 := hide hg8; clear hR8 hg8))
    refine bodyPost_ret (results1_cell Try.results21 rfl (run_loadVar_blk HR8.out Try.underlying26 rfl Try.sizeFaultR)) rfl ?_
    exact ⟨by rw [HE.out] <;> rfl, below_grownO HBW.out HG8.out (fun k hk => by cases hk; omega) HBW.out.size⟩
  have e3 : decide (n ≤ id) = false := decide_eq_false c3
  cases hnum : numL te
  · have HE := hide (show chkN ⟨n, id, te, vo, lo, ro, co, vs, ns, hs⟩ = (3, -2) by rw [HCK.out, show nmF ⟨n, id, te, vo, lo, ro, co, vs, ns, hs⟩ = (3, -2) by rw [HNM.out, if_neg (by simp only [not_or, Bool.not_eq_false, wiB_true]; omega), if_pos (.inl hnum)], if_pos (by simp)])
    have AN := hide hnum
    clear hnum
    go_enter Try.func21, Try.ntmps21
    go_wp2_with (first
      | (go_at_call 49; refine (lNum_any te _).mono ?_; rw [AN.out]; rintro e w1 ⟨rfl, rfl⟩)
      | (go_at_call 32; refine (lF_any _ _ _).mono ?_; rintro e w1 ⟨rfl, hb1⟩; have HR := hide (HR0.out.later hb1); have HBW := hide (HA0.out.trans (hb1.mono HA0.out.size)); clear hb1; unfold flt)
      | (refine wpList_store_blk rfl rfl rfl rfl HR.out rfl Try.sizeFaultR rfl ?_; intro w8 hR8 hg8; have HR8 := hide hR8; have HG8 := hide hg8; clear hR8 hg8))
    refine bodyPost_ret (results1_cell Try.results21 rfl (run_loadVar_blk HR8.out Try.underlying26 rfl Try.sizeFaultR)) rfl ?_
    exact ⟨by rw [HE.out] <;> rfl, below_grownO HBW.out HG8.out (fun k hk => by cases hk; omega) HBW.out.size⟩
  have AN := hide hnum
  by_cases c5 : vo < 0
  · have HE := hide (show chkN ⟨n, id, te, vo, lo, ro, co, vs, ns, hs⟩ = (3, -2) by rw [HCK.out, show nmF ⟨n, id, te, vo, lo, ro, co, vs, ns, hs⟩ = (3, -2) by rw [HNM.out, if_neg (by simp only [not_or, Bool.not_eq_false, wiB_true]; omega), if_pos (by simp only [wiB_false]; omega)], if_pos (by simp)])
    have e5 : decide (vo < 0) = true := decide_eq_true c5
    go_enter Try.func21, Try.ntmps21
    go_wp2_with (first
      | (go_at_call 49; refine (lNum_any te _).mono ?_; rw [AN.out]; rintro e w1 ⟨rfl, rfl⟩)
      | (go_at_call 32; refine (lF_any _ _ _).mono ?_; rintro e w1 ⟨rfl, hb1⟩; have HR := hide (HR0.out.later hb1); have HBW := hide (HA0.out.trans (hb1.mono HA0.out.size)); clear hb1; unfold flt)
      | (refine wpList_store_blk rfl rfl rfl rfl HR.out rfl Try.sizeFaultR rfl ?_; intro w8 hR8 hg8; have HR8 := hide hR8; have HG8 := hide hg8; clear hR8 hg8))
    refine bodyPost_ret (results1_cell Try.results21 rfl (run_loadVar_blk HR8.out Try.underlying26 rfl Try.sizeFaultR)) rfl ?_
    exact ⟨by rw [HE.out] <;> rfl, below_grownO HBW.out HG8.out (fun k hk => by cases hk; omega) HBW.out.size⟩
  have e5 : decide (vo < 0) = false := decide_eq_false c5
  by_cases c6 : n < vo
  · have HE := hide (show chkN ⟨n, id, te, vo, lo, ro, co, vs, ns, hs⟩ = (3, -2) by rw [HCK.out, show nmF ⟨n, id, te, vo, lo, ro, co, vs, ns, hs⟩ = (3, -2) by rw [HNM.out, if_neg (by simp only [not_or, Bool.not_eq_false, wiB_true]; omega), if_pos (by simp only [wiB_false]; omega)], if_pos (by simp)])
    have e6 : decide (n < vo) = true := decide_eq_true c6
    go_enter Try.func21, Try.ntmps21
    go_wp2_with (first
      | (go_at_call 49; refine (lNum_any te _).mono ?_; rw [AN.out]; rintro e w1 ⟨rfl, rfl⟩)
      | (go_at_call 32; refine (lF_any _ _ _).mono ?_; rintro e w1 ⟨rfl, hb1⟩; have HR := hide (HR0.out.later hb1); have HBW := hide (HA0.out.trans (hb1.mono HA0.out.size)); clear hb1; unfold flt)
      | (refine wpList_store_blk rfl rfl rfl rfl HR.out rfl Try.sizeFaultR rfl ?_; intro w8 hR8 hg8; have HR8 := hide hR8; have HG8 := hide hg8; clear hR8 hg8))
    refine bodyPost_ret (results1_cell Try.results21 rfl (run_loadVar_blk HR8.out Try.underlying26 rfl Try.sizeFaultR)) rfl ?_
    exact ⟨by rw [HE.out] <;> rfl, below_grownO HBW.out HG8.out (fun k hk => by cases hk; omega) HBW.out.size⟩
  have e6 : decide (n < vo) = false := decide_eq_false c6
  by_cases c7 : ro < 0
  · have HE := hide (show chkN ⟨n, id, te, vo, lo, ro, co, vs, ns, hs⟩ = (3, -2) by rw [HCK.out, show nmF ⟨n, id, te, vo, lo, ro, co, vs, ns, hs⟩ = (3, -2) by rw [HNM.out, if_neg (by simp only [not_or, Bool.not_eq_false, wiB_true]; omega), if_pos (by simp only [wiB_false]; omega)], if_pos (by simp)])
    have e7 : decide (ro < 0) = true := decide_eq_true c7
    go_enter Try.func21, Try.ntmps21
    go_wp2_with (first
      | (go_at_call 49; refine (lNum_any te _).mono ?_; rw [AN.out]; rintro e w1 ⟨rfl, rfl⟩)
      | (go_at_call 32; refine (lF_any _ _ _).mono ?_; rintro e w1 ⟨rfl, hb1⟩; have HR := hide (HR0.out.later hb1); have HBW := hide (HA0.out.trans (hb1.mono HA0.out.size)); clear hb1; unfold flt)
      | (refine wpList_store_blk rfl rfl rfl rfl HR.out rfl Try.sizeFaultR rfl ?_; intro w8 hR8 hg8; have HR8 := hide hR8; have HG8 := hide hg8; clear hR8 hg8))
    refine bodyPost_ret (results1_cell Try.results21 rfl (run_loadVar_blk HR8.out Try.underlying26 rfl Try.sizeFaultR)) rfl ?_
    exact ⟨by rw [HE.out] <;> rfl, below_grownO HBW.out HG8.out (fun k hk => by cases hk; omega) HBW.out.size⟩
  have e7 : decide (ro < 0) = false := decide_eq_false c7
  by_cases c8 : 2 < ro
  · have HE := hide (show chkN ⟨n, id, te, vo, lo, ro, co, vs, ns, hs⟩ = (3, -2) by rw [HCK.out, show nmF ⟨n, id, te, vo, lo, ro, co, vs, ns, hs⟩ = (3, -2) by rw [HNM.out, if_neg (by simp only [not_or, Bool.not_eq_false, wiB_true]; omega), if_pos (by simp only [wiB_false]; omega)], if_pos (by simp)])
    have e8 : decide (2 < ro) = true := decide_eq_true c8
    go_enter Try.func21, Try.ntmps21
    go_wp2_with (first
      | (go_at_call 49; refine (lNum_any te _).mono ?_; rw [AN.out]; rintro e w1 ⟨rfl, rfl⟩)
      | (go_at_call 32; refine (lF_any _ _ _).mono ?_; rintro e w1 ⟨rfl, hb1⟩; have HR := hide (HR0.out.later hb1); have HBW := hide (HA0.out.trans (hb1.mono HA0.out.size)); clear hb1; unfold flt)
      | (refine wpList_store_blk rfl rfl rfl rfl HR.out rfl Try.sizeFaultR rfl ?_; intro w8 hR8 hg8; have HR8 := hide hR8; have HG8 := hide hg8; clear hR8 hg8))
    refine bodyPost_ret (results1_cell Try.results21 rfl (run_loadVar_blk HR8.out Try.underlying26 rfl Try.sizeFaultR)) rfl ?_
    exact ⟨by rw [HE.out] <;> rfl, below_grownO HBW.out HG8.out (fun k hk => by cases hk; omega) HBW.out.size⟩
  have e8 : decide (2 < ro) = false := decide_eq_false c8
  by_cases c9 : co < 0
  · have HE := hide (show chkN ⟨n, id, te, vo, lo, ro, co, vs, ns, hs⟩ = (3, -2) by rw [HCK.out, show nmF ⟨n, id, te, vo, lo, ro, co, vs, ns, hs⟩ = (3, -2) by rw [HNM.out, if_neg (by simp only [not_or, Bool.not_eq_false, wiB_true]; omega), if_pos (by simp only [wiB_false]; omega)], if_pos (by simp)])
    have e9 : decide (co < 0) = true := decide_eq_true c9
    go_enter Try.func21, Try.ntmps21
    go_wp2_with (first
      | (go_at_call 49; refine (lNum_any te _).mono ?_; rw [AN.out]; rintro e w1 ⟨rfl, rfl⟩)
      | (go_at_call 32; refine (lF_any _ _ _).mono ?_; rintro e w1 ⟨rfl, hb1⟩; have HR := hide (HR0.out.later hb1); have HBW := hide (HA0.out.trans (hb1.mono HA0.out.size)); clear hb1; unfold flt)
      | (refine wpList_store_blk rfl rfl rfl rfl HR.out rfl Try.sizeFaultR rfl ?_; intro w8 hR8 hg8; have HR8 := hide hR8; have HG8 := hide hg8; clear hR8 hg8))
    refine bodyPost_ret (results1_cell Try.results21 rfl (run_loadVar_blk HR8.out Try.underlying26 rfl Try.sizeFaultR)) rfl ?_
    exact ⟨by rw [HE.out] <;> rfl, below_grownO HBW.out HG8.out (fun k hk => by cases hk; omega) HBW.out.size⟩
  have e9 : decide (co < 0) = false := decide_eq_false c9
  by_cases c10 : (lo.length : Int) < co
  · have HE := hide (show chkN ⟨n, id, te, vo, lo, ro, co, vs, ns, hs⟩ = (3, -2) by rw [HCK.out, show nmF ⟨n, id, te, vo, lo, ro, co, vs, ns, hs⟩ = (3, -2) by rw [HNM.out, if_neg (by simp only [not_or, Bool.not_eq_false, wiB_true]; omega), if_pos (by simp only [wiB_false]; omega)], if_pos (by simp)])
    have e10 : decide ((lo.length : Int) < co) = true := decide_eq_true c10
    go_enter Try.func21, Try.ntmps21
    go_wp2_with (first
      | (go_at_call 49; refine (lNum_any te _).mono ?_; rw [AN.out]; rintro e w1 ⟨rfl, rfl⟩)
      | (go_at_call 32; refine (lF_any _ _ _).mono ?_; rintro e w1 ⟨rfl, hb1⟩; have HR := hide (HR0.out.later hb1); have HBW := hide (HA0.out.trans (hb1.mono HA0.out.size)); clear hb1; unfold flt)
      | (refine wpList_store_blk rfl rfl rfl rfl HR.out rfl Try.sizeFaultR rfl ?_; intro w8 hR8 hg8; have HR8 := hide hR8; have HG8 := hide hg8; clear hR8 hg8))
    refine bodyPost_ret (results1_cell Try.results21 rfl (run_loadVar_blk HR8.out Try.underlying26 rfl Try.sizeFaultR)) rfl ?_
    exact ⟨by rw [HE.out] <;> rfl, below_grownO HBW.out HG8.out (fun k hk => by cases hk; omega) HBW.out.size⟩
  have e10 : decide ((lo.length : Int) < co) = false := decide_eq_false c10
  exact absurd (show (nmF ⟨n, id, te, vo, lo, ro, co, vs, ns, hs⟩).1 = 0 by rw [HNM.out, if_neg (by simp only [not_or, Bool.not_eq_false, wiB_true]; omega), if_neg (by simp only [not_or, Bool.not_eq_false, wiB_true]; exact ⟨hnum, by omega, by omega, by omega⟩)]) hbad

end Go.Proofs.Ytddkjpojbflmjah

/-
  Votes, Next and Have by Role. (Written by rr3d.py.)
-/
namespace Go.Proofs.Ytddkjpojbflmjah
open Go.RowKit Go.Maps
set_option linter.unusedVariables false

theorem votesB_no {x : Nd} (h : x.role ≠ 1) : votesB x = decide (x.votes.length = 0) := if_neg h
theorem votesB_one {x : Nd} (h : x.role = 1) : votesB x = (voGo x.n [] x.votes && (decide (x.id ∈ x.votes) && !mostB x.votes.length x.n)) := if_pos h
theorem ofB_no {x : Nd} {l : List Int} {a b : Int} (h : x.role ≠ 2) : ofB x l a b = decide (l.length = 0) := if_neg h
theorem ofB_two {x : Nd} {l : List Int} {a b : Int} (h : x.role = 2) : ofB x l a b = (decide ((l.length : Int) = x.n) && !(l.any fun v => !wiB v a b)) := if_pos h

theorem ofB_out {x : Nd} {l : List Int} {a b u : Int} (h : x.role = 2) (hu : u ∈ l) (ho : ¬ (a ≤ u ∧ u ≤ b)) : ofB x l a b = false := by
  rw [ofB_two h]
  have : (l.any fun v => !wiB v a b) = true := List.any_eq_true.2 ⟨u, hu, by rw [wiB_false.2 ho]; rfl⟩
  rw [this]
  simp

theorem ofB_in {x : Nd} {l : List Int} {a b : Int} (h : x.role = 2) (hl : (l.length : Int) = x.n) (ho : ∀ u ∈ l, a ≤ u ∧ u ≤ b) : ofB x l a b = true := by
  rw [ofB_two h, decide_eq_true hl]
  have : (l.any fun v => !wiB v a b) = false := List.any_eq_false.2 fun u hu => by rw [wiB_true.2 (ho u hu)]; simp
  rw [this]
  rfl

theorem RdG.upto2 {α : Type} {K : Nat} {E : En α K} {w : World} {ao : Option Addr} {n cap hi : Nat} {xs : List α} (h : RdG E w (.slice ao n cap) xs) (h1 : hi ≤ n) : RdG E w (.slice ao hi cap) (xs.take hi) := by
  obtain ⟨ao', cap', hv, h3, h4, h5, h6⟩ := h
  simp only [Value.slice.injEq] at hv
  obtain ⟨rfl, rfl, rfl⟩ := hv
  have hl : (xs.take hi).length = hi := by simp; omega
  refine ⟨ao, cap, by rw [hl], by omega, h4, h5, fun a ha j u hu => h6 a ha j u ?_⟩
  rw [← vs_take, List.getElem?_take] at hu
  split at hu
  · exact hu
  · cases hu

end Go.Proofs.Ytddkjpojbflmjah

/-
  The walk over the document's NodeFault for the Role 0. (Written by rr3d.py.)
-/
namespace Go.Proofs.Ytddkjpojbflmjah
open Go.RowKit Go.Maps
set_option linter.unusedVariables false

set_option maxRecDepth 100000 in
set_option maxHeartbeats 16000000 in
theorem NodeFault_r0 (x : Nd) (lv vv nv hv : Value) (w : World) (hx : RdNd w x lv vv nv hv) (hok : (nmF x).1 = 0) (hrole : x.role = 0) :
    Calls Try.prog 21 #[ndV x lv vv nv hv] w fun e w' => e = .returned (flt (chkN x)) ∧ Below w.heap.size w w' := by
  have HX := hide hx
  have HROLE := hide hrole
  clear hrole
  obtain ⟨n, id, te, vo, lo, ro, co, vs, ns, hs⟩ := x
  obtain ⟨h1, h2, h3, h4⟩ := hx
  simp only at h1 h2 h3 h4
  obtain ⟨ao, cap, rfl, hc1, hc2⟩ := h1.shape
  obtain ⟨bo, cap2, rfl, hd1, hd2⟩ := h2.shape
  obtain ⟨no, cap3, rfl, _, _⟩ := h3.shape
  obtain ⟨ho, cap4, rfl, _, _⟩ := h4.shape
  have hA := below_alloc2 w (.cells #[.int .i64 n, .int .i64 id, .int .i64 te, .int .i64 vo, .slice ao lo.length cap, .int .i64 ro, .int .i64 co, .slice bo vs.length cap2, .slice no ns.length cap3, .slice ho hs.length cap4] 34) (.cells #[.int .i64 0, .int .i64 0] 26)
  have HB0 := hide (Blk.at0of2 w (.cells #[.int .i64 0, .int .i64 0] 26) 34 #[.int .i64 n, .int .i64 id, .int .i64 te, .int .i64 vo, .slice ao lo.length cap, .int .i64 ro, .int .i64 co, .slice bo vs.length cap2, .slice no ns.length cap3, .slice ho hs.length cap4])
  have HR0 := hide (Blk.at1 w (.cells #[.int .i64 n, .int .i64 id, .int .i64 te, .int .i64 vo, .slice ao lo.length cap, .int .i64 ro, .int .i64 co, .slice bo vs.length cap2, .slice no ns.length cap3, .slice ho hs.length cap4] 34) 26 #[.int .i64 0, .int .i64 0])
  have HA0 := hide hA
  have HLF := hide (LogFault_any _ lo _ (h1.below hA))
  have HLT := hide (fun W (hW : Below w.heap.size w W) => LastTerm_any _ lo W (h1.below hW))
  have HH2 := hide (fun W (hW : Below w.heap.size w W) => h2.below hW)
  have HH3 := hide (fun W (hW : Below w.heap.size w W) => h3.below hW)
  have HH4 := hide (fun W (hW : Below w.heap.size w W) => h4.below hW)
  have HNM : Hid (nmF ⟨n, id, te, vo, lo, ro, co, vs, ns, hs⟩ = if wiB n 1 7 = false ∨ wiB id 0 (n - 1) = false then (3, -1) else if numL te = false ∨ wiB vo 0 n = false ∨ wiB ro 0 2 = false ∨ wiB co 0 lo.length = false then (3, -2) else (0, 0)) := hide rfl
  have HLG : Hid (lgF ⟨n, id, te, vo, lo, ro, co, vs, ns, hs⟩ = if (chkE lo).1 ≠ 0 then chkE lo else if te < lastT lo then (11, -3) else (0, 0)) := hide rfl
  have HCK : Hid (chkN ⟨n, id, te, vo, lo, ro, co, vs, ns, hs⟩ = if (nmF ⟨n, id, te, vo, lo, ro, co, vs, ns, hs⟩).1 ≠ 0 then nmF ⟨n, id, te, vo, lo, ro, co, vs, ns, hs⟩ else if (lgF ⟨n, id, te, vo, lo, ro, co, vs, ns, hs⟩).1 ≠ 0 then lgF ⟨n, id, te, vo, lo, ro, co, vs, ns, hs⟩ else if votesB ⟨n, id, te, vo, lo, ro, co, vs, ns, hs⟩ = false ∨ knownB ⟨n, id, te, vo, lo, ro, co, vs, ns, hs⟩ = false then (5, -3) else (0, 0)) := hide rfl
  have HZE := hide (chkE_z lo)
  unfold maxLen at hd2 hc2
  clear h1 h2 h3 h4 hA
  unfold ndV ndA
  have HN0 := hide (show nmF ⟨n, id, te, vo, lo, ro, co, vs, ns, hs⟩ = (0, 0) from nmF_z _ hok)
  have hcc : (1 ≤ n ∧ n ≤ 7 ∧ 0 ≤ id ∧ id < n) ∧ numL te = true ∧ (0 ≤ vo ∧ vo ≤ n) ∧ (0 ≤ ro ∧ ro ≤ 2) ∧ 0 ≤ co ∧ co ≤ lo.length := by
    have h := HNM.out
    rw [HN0.out] at h
    by_cases h1 : wiB n 1 7 = false ∨ wiB id 0 (n - 1) = false
    · rw [if_pos h1] at h; simp at h
    rw [if_neg h1] at h
    by_cases h2 : numL te = false ∨ wiB vo 0 n = false ∨ wiB ro 0 2 = false ∨ wiB co 0 lo.length = false
    · rw [if_pos h2] at h; simp at h
    simp only [not_or, Bool.not_eq_false, wiB_true] at h1 h2
    exact ⟨⟨h1.1.1, h1.1.2, h1.2.1, by omega⟩, h2.1, h2.2.1, h2.2.2.1, h2.2.2.2⟩
  obtain ⟨⟨hn1, hn7, hi0, hin⟩, hnum, ⟨hv0, hvn⟩, ⟨hr0, hr2⟩, hc0, hcl⟩ := hcc
  have e0 : decide (n < 1) = false := decide_eq_false (by omega)
  have e1 : decide (7 < n) = false := decide_eq_false (by omega)
  have e2 : decide (id < 0) = false := decide_eq_false (by omega)
  have e3 : decide (n ≤ id) = false := decide_eq_false (by omega)
  have e5 : decide (vo < 0) = false := decide_eq_false (by omega)
  have e6 : decide (n < vo) = false := decide_eq_false (by omega)
  have e7 : decide (ro < 0) = false := decide_eq_false (by omega)
  have e8 : decide (2 < ro) = false := decide_eq_false (by omega)
  have e9 : decide (co < 0) = false := decide_eq_false (by omega)
  have e10 : decide ((lo.length : Int) < co) = false := decide_eq_false (by omega)
  have AN := hide hnum
  have HK1 := hide (show chkN ⟨n, id, te, vo, lo, ro, co, vs, ns, hs⟩ = if (lgF ⟨n, id, te, vo, lo, ro, co, vs, ns, hs⟩).1 ≠ 0 then lgF ⟨n, id, te, vo, lo, ro, co, vs, ns, hs⟩ else if votesB ⟨n, id, te, vo, lo, ro, co, vs, ns, hs⟩ = false ∨ knownB ⟨n, id, te, vo, lo, ro, co, vs, ns, hs⟩ = false then (5, -3) else (0, 0) by rw [HCK.out, HN0.out, if_neg (by simp)])
  clear HCK HNM hnum hok
  have HLL0 := hide (fun h => (chkE_fine (l := lo) h).2)
  generalize hK : chkE lo = K at *
  obtain ⟨p, q⟩ := K
  clear hK
  generalize hT : lastT lo = T at *
  clear hT
  go_enter Try.func21, Try.ntmps21
  go_wp2_with (go_at_call 49; refine (lNum_any te _).mono ?_; rw [AN.out]; rintro e w1 ⟨rfl, rfl⟩)
  refine HLF.out.mono ?_
  rintro e w1 ⟨rfl, hb1⟩
  have hN := below_allocG w1 (.cells #[.int .i64 p, .int .i64 q] 26)
  have hB := (HB0.out.later hb1).later hN
  have HB1 := hide hB
  have HR1 := hide ((HR0.out.later hb1).later hN)
  have hAA := HA0.out.trans (hb1.mono HA0.out.size)
  have HA1 := hide (hAA.trans (hN.mono hAA.size))
  have hW := Blk.new w1 26 #[.int .i64 p, .int .i64 q]
  have HT1 := hide hW
  have f0 := hW.cell 0
  have c2 := hB.cell 2
  have c4 := hB.cell 4
  have cl := hB.lt
  simp at f0 c2 c4 cl
  clear hb1 hN hB hAA hW HLF HB0 HR0 HA0
  unfold flt
  by_cases hp : p ≠ 0
  · have HE := hide (show chkN ⟨n, id, te, vo, lo, ro, co, vs, ns, hs⟩ = (p, q) by rw [HK1.out, show lgF ⟨n, id, te, vo, lo, ro, co, vs, ns, hs⟩ = (p, q) by rw [HLG.out, if_pos hp], if_pos hp])
    have hq2 : (p != 0) = true := by simp [hp]
    have hq : (p == 0) = false := beq_eq_false_iff_ne.2 hp
    clear hp
    go_wp2_with (first
      | (refine wpList_load_blk HT1.out Try.underlying26 rfl Try.sizeFaultR rfl rfl rfl ?_)
      | (refine wpList_store_blk rfl rfl rfl rfl HR1.out rfl Try.sizeFaultR rfl ?_; intro w8 hR8 hg8; have HR8 := hide hR8; have HG8 := hide hg8; clear hR8 hg8))
    refine bodyPost_ret (results1_cell Try.results21 rfl (run_loadVar_blk HR8.out Try.underlying26 rfl Try.sizeFaultR)) rfl ?_
    exact ⟨by rw [HE.out] <;> rfl, below_grownO HA1.out HG8.out (fun k hk => by cases hk; omega) HA1.out.size⟩
  obtain rfl : p = 0 := Decidable.not_not.1 hp
  obtain rfl : q = 0 := by have := HZE.out rfl; simpa using this
  have HLG2 := hide (show lgF ⟨n, id, te, vo, lo, ro, co, vs, ns, hs⟩ = if te < T then (11, -3) else (0, 0) by rw [HLG.out, if_neg (by simp)])
  have HLL := hide (HLL0.out rfl)
  clear hp HLG
  have HQ := hide (fun m => HLT.out ((w1.alloc (.cells #[.int .i64 0, .int .i64 0] 26)).drewN m) (below_drewN HA1.out m))
  by_cases hte : te < T
  · have HE := hide (show chkN ⟨n, id, te, vo, lo, ro, co, vs, ns, hs⟩ = (11, -3) by rw [HK1.out, show lgF ⟨n, id, te, vo, lo, ro, co, vs, ns, hs⟩ = (11, -3) by rw [HLG2.out, if_pos hte], if_pos (by simp)])
    go_wp2_with fail
    go_quiet (first | (go_at_call 11; exact Calls.quiet_of_same (HQ.out _)))
    go_wp2_with (first
      | (go_at_call 32; refine (lF_any _ _ _).mono ?_; rintro e w3 ⟨rfl, hb3⟩; have hd3 := (below_drewN (Below.refl _ _) _).trans hb3; have HR3 := hide (HR1.out.later hd3); have HA3 := hide (HA1.out.trans (hd3.mono HA1.out.size)); clear hb3 hd3; unfold flt)
      | (refine wpList_store_blk rfl rfl rfl rfl HR3.out rfl Try.sizeFaultR rfl ?_; intro w8 hR8 hg8; have HR8 := hide hR8; have HG8 := hide hg8; clear hR8 hg8))
    refine bodyPost_ret (results1_cell Try.results21 rfl (run_loadVar_blk HR8.out Try.underlying26 rfl Try.sizeFaultR)) rfl ?_
    exact ⟨by rw [HE.out] <;> rfl, below_grownO HA3.out HG8.out (fun k hk => by cases hk; omega) HA3.out.size⟩
  have HK2 := hide (show chkN ⟨n, id, te, vo, lo, ro, co, vs, ns, hs⟩ = if votesB ⟨n, id, te, vo, lo, ro, co, vs, ns, hs⟩ = false ∨ knownB ⟨n, id, te, vo, lo, ro, co, vs, ns, hs⟩ = false then (5, -3) else (0, 0) by rw [HK1.out, show lgF ⟨n, id, te, vo, lo, ro, co, vs, ns, hs⟩ = (0, 0) by rw [HLG2.out, if_neg hte], if_neg (by simp)])
  clear HK1 HLG2
  go_wp2_with fail
  go_quiet (first | (go_at_call 11; exact Calls.quiet_of_same (HQ.out _)))
  go_wp2_with fail
  refine (lF_any _ _ _).mono ?_
  rintro e w3 ⟨rfl, hb3⟩
  have hd3 := (below_drewN (Below.refl (w1.alloc (.cells #[.int .i64 0, .int .i64 0] 26)).heap.size (w1.alloc (.cells #[.int .i64 0, .int .i64 0] 26))) nq).trans hb3
  have hN := below_allocG w3 (.cells #[.int .i64 5, .int .i64 (-3)] 26)
  have HBW := hide ((HB1.out.later hd3).later hN)
  have HRW := hide ((HR1.out.later hd3).later hN)
  have hAA := HA1.out.trans (hd3.mono HA1.out.size)
  have HAW := hide (hAA.trans (hN.mono hAA.size))
  have HTW := hide (Blk.new w3 26 #[.int .i64 5, .int .i64 (-3)])
  have HSW := hide (show w.heap.size + 1 < w3.heap.size from (HR1.out.later hd3).lt)
  clear hb3 hd3 hN hAA f0 c2 c4 cl HB1 HR1 HA1 HT1 HQ hte e0 e1 e2 e3 e5 e6 e7 e8 e9 e10
  unfold flt
  go_upto_region 11 with fail
  generalize hWW : w3.alloc (.cells #[.int .i64 5, .int .i64 (-3)] 26) = W at HBW HRW HAW HTW ⊢
  clear hWW
  have g0 := HBW.out.cell 0
  have g1 := HBW.out.cell 1
  have g4 := HBW.out.cell 4
  have g5 := HBW.out.cell 5
  have g7 := HBW.out.cell 7
  have g8 := HBW.out.cell 8
  have g9 := HBW.out.cell 9
  have gl := HBW.out.lt
  simp at g0 g1 g4 g5 g7 g8 g9
  have t0 := HTW.out.cell 0
  simp at t0
  have hlc : (lo.length : Int) ≤ 100 := by
    have := HLL.out
    omega
  have hro : ro = 0 := HROLE.out
  have HRO := hide hro
  all_goals
    have HN1 := hide (show ro ≠ 1 by omega)
    have HN2 := hide (show ro ≠ 2 by omega)
    have rr1 : (ro != 1) = true := by rw [hro]; rfl
    have rr2 : (ro != 2) = true := by rw [hro]; rfl
    have rr3 : (ro == 1) = false := by rw [hro]; rfl
    have rr4 : (ro == 2) = false := by rw [hro]; rfl
    clear hro hr0 hr2
    by_cases k0 : 0 < vs.length
    · have HE := hide (HK2.out.trans (if_pos (.inl (by rw [votesB_no HN1.out]; exact decide_eq_false (by simp only; omega)))))
      have d0 : decide (0 < (vs.length : Int)) = true := decide_eq_true (by omega)
      go_upto_region 12 with fail
      go_wp2_with (first
        | (refine wpList_load_blk HTW.out Try.underlying26 rfl Try.sizeFaultR rfl rfl rfl ?_)
        | (refine wpList_store_blk rfl rfl rfl rfl HRW.out rfl Try.sizeFaultR rfl ?_; intro w8 hR8 hg8; have HR8 := hide hR8; have HG8 := hide hg8; clear hR8 hg8))
      refine bodyPost_ret (results1_cell Try.results21 rfl (run_loadVar_blk HR8.out Try.underlying26 rfl Try.sizeFaultR)) rfl ?_
      exact ⟨by rw [HE.out] <;> rfl, below_grownO HAW.out HG8.out (fun k hk => by cases hk; omega) HAW.out.size⟩
    have d0 : decide (0 < (vs.length : Int)) = false := decide_eq_false (by omega)
    by_cases k1 : 0 < ns.length
    · have HE := hide (HK2.out.trans (if_pos (.inr (by unfold knownB; rw [ofB_no HN2.out]; simp only; rw [decide_eq_false (by omega)]; rfl))))
      have d1 : decide (0 < (ns.length : Int)) = true := decide_eq_true (by omega)
      go_upto_region 12 with fail
      go_wp2_with (first
        | (refine wpList_load_blk HTW.out Try.underlying26 rfl Try.sizeFaultR rfl rfl rfl ?_)
        | (refine wpList_store_blk rfl rfl rfl rfl HRW.out rfl Try.sizeFaultR rfl ?_; intro w8 hR8 hg8; have HR8 := hide hR8; have HG8 := hide hg8; clear hR8 hg8))
      refine bodyPost_ret (results1_cell Try.results21 rfl (run_loadVar_blk HR8.out Try.underlying26 rfl Try.sizeFaultR)) rfl ?_
      exact ⟨by rw [HE.out] <;> rfl, below_grownO HAW.out HG8.out (fun k hk => by cases hk; omega) HAW.out.size⟩
    have d1 : decide (0 < (ns.length : Int)) = false := decide_eq_false (by omega)
    by_cases k2 : 0 < hs.length
    · have HE := hide (HK2.out.trans (if_pos (.inr (by unfold knownB; rw [ofB_no HN2.out, ofB_no HN2.out]; simp only; rw [decide_eq_false (p := hs.length = 0) (by omega)]; simp))))
      have d2 : decide (0 < (hs.length : Int)) = true := decide_eq_true (by omega)
      go_upto_region 12 with fail
      go_wp2_with (first
        | (refine wpList_load_blk HTW.out Try.underlying26 rfl Try.sizeFaultR rfl rfl rfl ?_)
        | (refine wpList_store_blk rfl rfl rfl rfl HRW.out rfl Try.sizeFaultR rfl ?_; intro w8 hR8 hg8; have HR8 := hide hR8; have HG8 := hide hg8; clear hR8 hg8))
      refine bodyPost_ret (results1_cell Try.results21 rfl (run_loadVar_blk HR8.out Try.underlying26 rfl Try.sizeFaultR)) rfl ?_
      exact ⟨by rw [HE.out] <;> rfl, below_grownO HAW.out HG8.out (fun k hk => by cases hk; omega) HAW.out.size⟩
    have d2 : decide (0 < (hs.length : Int)) = false := decide_eq_false (by omega)
    have HE := hide (HK2.out.trans (if_neg (by rw [votesB_no HN1.out]; unfold knownB; rw [ofB_no HN2.out, ofB_no HN2.out]; simp only; rw [decide_eq_true (show vs.length = 0 by omega), decide_eq_true (show ns.length = 0 by omega), decide_eq_true (show hs.length = 0 by omega)]; simp)))
    go_upto_region 29 with fail
    go_wp2_with (refine wpList_store_blk rfl rfl rfl rfl HRW.out rfl Try.sizeFaultR rfl ?_; intro w8 hR8 hg8; have HR8 := hide hR8; have HG8 := hide hg8; clear hR8 hg8)
    refine bodyPost_ret (results1_cell Try.results21 rfl (run_loadVar_blk HR8.out Try.underlying26 rfl Try.sizeFaultR)) rfl ?_
    exact ⟨by rw [HE.out] <;> rfl, below_grownO HAW.out HG8.out (fun k hk => by cases hk; omega) HAW.out.size⟩

end Go.Proofs.Ytddkjpojbflmjah

/-
  The walk over the document's NodeFault for the Role 1. (Written by rr3d.py.)
-/
namespace Go.Proofs.Ytddkjpojbflmjah
open Go.RowKit Go.Maps
set_option linter.unusedVariables false

set_option maxRecDepth 100000 in
set_option maxHeartbeats 16000000 in
theorem NodeFault_r1 (x : Nd) (lv vv nv hv : Value) (w : World) (hx : RdNd w x lv vv nv hv) (hok : (nmF x).1 = 0) (hrole : x.role = 1) :
    Calls Try.prog 21 #[ndV x lv vv nv hv] w fun e w' => e = .returned (flt (chkN x)) ∧ Below w.heap.size w w' := by
  have HX := hide hx
  have HROLE := hide hrole
  clear hrole
  obtain ⟨n, id, te, vo, lo, ro, co, vs, ns, hs⟩ := x
  obtain ⟨h1, h2, h3, h4⟩ := hx
  simp only at h1 h2 h3 h4
  obtain ⟨ao, cap, rfl, hc1, hc2⟩ := h1.shape
  obtain ⟨bo, cap2, rfl, hd1, hd2⟩ := h2.shape
  obtain ⟨no, cap3, rfl, _, _⟩ := h3.shape
  obtain ⟨ho, cap4, rfl, _, _⟩ := h4.shape
  have hA := below_alloc2 w (.cells #[.int .i64 n, .int .i64 id, .int .i64 te, .int .i64 vo, .slice ao lo.length cap, .int .i64 ro, .int .i64 co, .slice bo vs.length cap2, .slice no ns.length cap3, .slice ho hs.length cap4] 34) (.cells #[.int .i64 0, .int .i64 0] 26)
  have HB0 := hide (Blk.at0of2 w (.cells #[.int .i64 0, .int .i64 0] 26) 34 #[.int .i64 n, .int .i64 id, .int .i64 te, .int .i64 vo, .slice ao lo.length cap, .int .i64 ro, .int .i64 co, .slice bo vs.length cap2, .slice no ns.length cap3, .slice ho hs.length cap4])
  have HR0 := hide (Blk.at1 w (.cells #[.int .i64 n, .int .i64 id, .int .i64 te, .int .i64 vo, .slice ao lo.length cap, .int .i64 ro, .int .i64 co, .slice bo vs.length cap2, .slice no ns.length cap3, .slice ho hs.length cap4] 34) 26 #[.int .i64 0, .int .i64 0])
  have HA0 := hide hA
  have HLF := hide (LogFault_any _ lo _ (h1.below hA))
  have HLT := hide (fun W (hW : Below w.heap.size w W) => LastTerm_any _ lo W (h1.below hW))
  have HH2 := hide (fun W (hW : Below w.heap.size w W) => h2.below hW)
  have HH3 := hide (fun W (hW : Below w.heap.size w W) => h3.below hW)
  have HH4 := hide (fun W (hW : Below w.heap.size w W) => h4.below hW)
  have HNM : Hid (nmF ⟨n, id, te, vo, lo, ro, co, vs, ns, hs⟩ = if wiB n 1 7 = false ∨ wiB id 0 (n - 1) = false then (3, -1) else if numL te = false ∨ wiB vo 0 n = false ∨ wiB ro 0 2 = false ∨ wiB co 0 lo.length = false then (3, -2) else (0, 0)) := hide rfl
  have HLG : Hid (lgF ⟨n, id, te, vo, lo, ro, co, vs, ns, hs⟩ = if (chkE lo).1 ≠ 0 then chkE lo else if te < lastT lo then (11, -3) else (0, 0)) := hide rfl
  have HCK : Hid (chkN ⟨n, id, te, vo, lo, ro, co, vs, ns, hs⟩ = if (nmF ⟨n, id, te, vo, lo, ro, co, vs, ns, hs⟩).1 ≠ 0 then nmF ⟨n, id, te, vo, lo, ro, co, vs, ns, hs⟩ else if (lgF ⟨n, id, te, vo, lo, ro, co, vs, ns, hs⟩).1 ≠ 0 then lgF ⟨n, id, te, vo, lo, ro, co, vs, ns, hs⟩ else if votesB ⟨n, id, te, vo, lo, ro, co, vs, ns, hs⟩ = false ∨ knownB ⟨n, id, te, vo, lo, ro, co, vs, ns, hs⟩ = false then (5, -3) else (0, 0)) := hide rfl
  have HZE := hide (chkE_z lo)
  unfold maxLen at hd2 hc2
  clear h1 h2 h3 h4 hA
  unfold ndV ndA
  have HN0 := hide (show nmF ⟨n, id, te, vo, lo, ro, co, vs, ns, hs⟩ = (0, 0) from nmF_z _ hok)
  have hcc : (1 ≤ n ∧ n ≤ 7 ∧ 0 ≤ id ∧ id < n) ∧ numL te = true ∧ (0 ≤ vo ∧ vo ≤ n) ∧ (0 ≤ ro ∧ ro ≤ 2) ∧ 0 ≤ co ∧ co ≤ lo.length := by
    have h := HNM.out
    rw [HN0.out] at h
    by_cases h1 : wiB n 1 7 = false ∨ wiB id 0 (n - 1) = false
    · rw [if_pos h1] at h; simp at h
    rw [if_neg h1] at h
    by_cases h2 : numL te = false ∨ wiB vo 0 n = false ∨ wiB ro 0 2 = false ∨ wiB co 0 lo.length = false
    · rw [if_pos h2] at h; simp at h
    simp only [not_or, Bool.not_eq_false, wiB_true] at h1 h2
    exact ⟨⟨h1.1.1, h1.1.2, h1.2.1, by omega⟩, h2.1, h2.2.1, h2.2.2.1, h2.2.2.2⟩
  obtain ⟨⟨hn1, hn7, hi0, hin⟩, hnum, ⟨hv0, hvn⟩, ⟨hr0, hr2⟩, hc0, hcl⟩ := hcc
  have e0 : decide (n < 1) = false := decide_eq_false (by omega)
  have e1 : decide (7 < n) = false := decide_eq_false (by omega)
  have e2 : decide (id < 0) = false := decide_eq_false (by omega)
  have e3 : decide (n ≤ id) = false := decide_eq_false (by omega)
  have e5 : decide (vo < 0) = false := decide_eq_false (by omega)
  have e6 : decide (n < vo) = false := decide_eq_false (by omega)
  have e7 : decide (ro < 0) = false := decide_eq_false (by omega)
  have e8 : decide (2 < ro) = false := decide_eq_false (by omega)
  have e9 : decide (co < 0) = false := decide_eq_false (by omega)
  have e10 : decide ((lo.length : Int) < co) = false := decide_eq_false (by omega)
  have AN := hide hnum
  have HK1 := hide (show chkN ⟨n, id, te, vo, lo, ro, co, vs, ns, hs⟩ = if (lgF ⟨n, id, te, vo, lo, ro, co, vs, ns, hs⟩).1 ≠ 0 then lgF ⟨n, id, te, vo, lo, ro, co, vs, ns, hs⟩ else if votesB ⟨n, id, te, vo, lo, ro, co, vs, ns, hs⟩ = false ∨ knownB ⟨n, id, te, vo, lo, ro, co, vs, ns, hs⟩ = false then (5, -3) else (0, 0) by rw [HCK.out, HN0.out, if_neg (by simp)])
  clear HCK HNM hnum hok
  have HLL0 := hide (fun h => (chkE_fine (l := lo) h).2)
  generalize hK : chkE lo = K at *
  obtain ⟨p, q⟩ := K
  clear hK
  generalize hT : lastT lo = T at *
  clear hT
  go_enter Try.func21, Try.ntmps21
  go_wp2_with (go_at_call 49; refine (lNum_any te _).mono ?_; rw [AN.out]; rintro e w1 ⟨rfl, rfl⟩)
  refine HLF.out.mono ?_
  rintro e w1 ⟨rfl, hb1⟩
  have hN := below_allocG w1 (.cells #[.int .i64 p, .int .i64 q] 26)
  have hB := (HB0.out.later hb1).later hN
  have HB1 := hide hB
  have HR1 := hide ((HR0.out.later hb1).later hN)
  have hAA := HA0.out.trans (hb1.mono HA0.out.size)
  have HA1 := hide (hAA.trans (hN.mono hAA.size))
  have hW := Blk.new w1 26 #[.int .i64 p, .int .i64 q]
  have HT1 := hide hW
  have f0 := hW.cell 0
  have c2 := hB.cell 2
  have c4 := hB.cell 4
  have cl := hB.lt
  simp at f0 c2 c4 cl
  clear hb1 hN hB hAA hW HLF HB0 HR0 HA0
  unfold flt
  by_cases hp : p ≠ 0
  · have HE := hide (show chkN ⟨n, id, te, vo, lo, ro, co, vs, ns, hs⟩ = (p, q) by rw [HK1.out, show lgF ⟨n, id, te, vo, lo, ro, co, vs, ns, hs⟩ = (p, q) by rw [HLG.out, if_pos hp], if_pos hp])
    have hq2 : (p != 0) = true := by simp [hp]
    have hq : (p == 0) = false := beq_eq_false_iff_ne.2 hp
    clear hp
    go_wp2_with (first
      | (refine wpList_load_blk HT1.out Try.underlying26 rfl Try.sizeFaultR rfl rfl rfl ?_)
      | (refine wpList_store_blk rfl rfl rfl rfl HR1.out rfl Try.sizeFaultR rfl ?_; intro w8 hR8 hg8; have HR8 := hide hR8; have HG8 := hide hg8; clear hR8 hg8))
    refine bodyPost_ret (results1_cell Try.results21 rfl (run_loadVar_blk HR8.out Try.underlying26 rfl Try.sizeFaultR)) rfl ?_
    exact ⟨by rw [HE.out] <;> rfl, below_grownO HA1.out HG8.out (fun k hk => by cases hk; omega) HA1.out.size⟩
  obtain rfl : p = 0 := Decidable.not_not.1 hp
  obtain rfl : q = 0 := by have := HZE.out rfl; simpa using this
  have HLG2 := hide (show lgF ⟨n, id, te, vo, lo, ro, co, vs, ns, hs⟩ = if te < T then (11, -3) else (0, 0) by rw [HLG.out, if_neg (by simp)])
  have HLL := hide (HLL0.out rfl)
  clear hp HLG
  have HQ := hide (fun m => HLT.out ((w1.alloc (.cells #[.int .i64 0, .int .i64 0] 26)).drewN m) (below_drewN HA1.out m))
  by_cases hte : te < T
  · have HE := hide (show chkN ⟨n, id, te, vo, lo, ro, co, vs, ns, hs⟩ = (11, -3) by rw [HK1.out, show lgF ⟨n, id, te, vo, lo, ro, co, vs, ns, hs⟩ = (11, -3) by rw [HLG2.out, if_pos hte], if_pos (by simp)])
    go_wp2_with fail
    go_quiet (first | (go_at_call 11; exact Calls.quiet_of_same (HQ.out _)))
    go_wp2_with (first
      | (go_at_call 32; refine (lF_any _ _ _).mono ?_; rintro e w3 ⟨rfl, hb3⟩; have hd3 := (below_drewN (Below.refl _ _) _).trans hb3; have HR3 := hide (HR1.out.later hd3); have HA3 := hide (HA1.out.trans (hd3.mono HA1.out.size)); clear hb3 hd3; unfold flt)
      | (refine wpList_store_blk rfl rfl rfl rfl HR3.out rfl Try.sizeFaultR rfl ?_; intro w8 hR8 hg8; have HR8 := hide hR8; have HG8 := hide hg8; clear hR8 hg8))
    refine bodyPost_ret (results1_cell Try.results21 rfl (run_loadVar_blk HR8.out Try.underlying26 rfl Try.sizeFaultR)) rfl ?_
    exact ⟨by rw [HE.out] <;> rfl, below_grownO HA3.out HG8.out (fun k hk => by cases hk; omega) HA3.out.size⟩
  have HK2 := hide (show chkN ⟨n, id, te, vo, lo, ro, co, vs, ns, hs⟩ = if votesB ⟨n, id, te, vo, lo, ro, co, vs, ns, hs⟩ = false ∨ knownB ⟨n, id, te, vo, lo, ro, co, vs, ns, hs⟩ = false then (5, -3) else (0, 0) by rw [HK1.out, show lgF ⟨n, id, te, vo, lo, ro, co, vs, ns, hs⟩ = (0, 0) by rw [HLG2.out, if_neg hte], if_neg (by simp)])
  clear HK1 HLG2
  go_wp2_with fail
  go_quiet (first | (go_at_call 11; exact Calls.quiet_of_same (HQ.out _)))
  go_wp2_with fail
  refine (lF_any _ _ _).mono ?_
  rintro e w3 ⟨rfl, hb3⟩
  have hd3 := (below_drewN (Below.refl (w1.alloc (.cells #[.int .i64 0, .int .i64 0] 26)).heap.size (w1.alloc (.cells #[.int .i64 0, .int .i64 0] 26))) nq).trans hb3
  have hN := below_allocG w3 (.cells #[.int .i64 5, .int .i64 (-3)] 26)
  have HBW := hide ((HB1.out.later hd3).later hN)
  have HRW := hide ((HR1.out.later hd3).later hN)
  have hAA := HA1.out.trans (hd3.mono HA1.out.size)
  have HAW := hide (hAA.trans (hN.mono hAA.size))
  have HTW := hide (Blk.new w3 26 #[.int .i64 5, .int .i64 (-3)])
  have HSW := hide (show w.heap.size + 1 < w3.heap.size from (HR1.out.later hd3).lt)
  clear hb3 hd3 hN hAA f0 c2 c4 cl HB1 HR1 HA1 HT1 HQ hte e0 e1 e2 e3 e5 e6 e7 e8 e9 e10
  unfold flt
  go_upto_region 11 with fail
  generalize hWW : w3.alloc (.cells #[.int .i64 5, .int .i64 (-3)] 26) = W at HBW HRW HAW HTW ⊢
  clear hWW
  have g0 := HBW.out.cell 0
  have g1 := HBW.out.cell 1
  have g4 := HBW.out.cell 4
  have g5 := HBW.out.cell 5
  have g7 := HBW.out.cell 7
  have g8 := HBW.out.cell 8
  have g9 := HBW.out.cell 9
  have gl := HBW.out.lt
  simp at g0 g1 g4 g5 g7 g8 g9
  have t0 := HTW.out.cell 0
  simp at t0
  have hlc : (lo.length : Int) ≤ 100 := by
    have := HLL.out
    omega
  have hro : ro = 1 := HROLE.out
  have HRO := hide hro
  all_goals
    have HN2 := hide (show ro ≠ 2 by omega)
    have rr1 : (ro != 1) = false := by rw [hro]; rfl
    have rr2 : (ro != 2) = true := by rw [hro]; rfl
    have rr3 : (ro == 1) = true := by rw [hro]; rfl
    have rr4 : (ro == 2) = false := by rw [hro]; rfl
    clear hro hr0 hr2
    by_cases k0 : 0 < ns.length
    · have HE := hide (HK2.out.trans (if_pos (.inr (by unfold knownB; rw [ofB_no HN2.out]; simp only; rw [decide_eq_false (by omega)]; rfl))))
      have d0 : decide (0 < (ns.length : Int)) = true := decide_eq_true (by omega)
      go_upto_region 12 with fail
      go_wp2_with (first
        | (refine wpList_load_blk HTW.out Try.underlying26 rfl Try.sizeFaultR rfl rfl rfl ?_)
        | (refine wpList_store_blk rfl rfl rfl rfl HRW.out rfl Try.sizeFaultR rfl ?_; intro w8 hR8 hg8; have HR8 := hide hR8; have HG8 := hide hg8; clear hR8 hg8))
      refine bodyPost_ret (results1_cell Try.results21 rfl (run_loadVar_blk HR8.out Try.underlying26 rfl Try.sizeFaultR)) rfl ?_
      exact ⟨by rw [HE.out] <;> rfl, below_grownO HAW.out HG8.out (fun k hk => by cases hk; omega) HAW.out.size⟩
    have d0 : decide (0 < (ns.length : Int)) = false := decide_eq_false (by omega)
    by_cases k1 : 0 < hs.length
    · have HE := hide (HK2.out.trans (if_pos (.inr (by unfold knownB; rw [ofB_no HN2.out, ofB_no HN2.out]; simp only; rw [decide_eq_false (p := hs.length = 0) (by omega)]; simp))))
      have d1 : decide (0 < (hs.length : Int)) = true := decide_eq_true (by omega)
      go_upto_region 12 with fail
      go_wp2_with (first
        | (refine wpList_load_blk HTW.out Try.underlying26 rfl Try.sizeFaultR rfl rfl rfl ?_)
        | (refine wpList_store_blk rfl rfl rfl rfl HRW.out rfl Try.sizeFaultR rfl ?_; intro w8 hR8 hg8; have HR8 := hide hR8; have HG8 := hide hg8; clear hR8 hg8))
      refine bodyPost_ret (results1_cell Try.results21 rfl (run_loadVar_blk HR8.out Try.underlying26 rfl Try.sizeFaultR)) rfl ?_
      exact ⟨by rw [HE.out] <;> rfl, below_grownO HAW.out HG8.out (fun k hk => by cases hk; omega) HAW.out.size⟩
    have d1 : decide (0 < (hs.length : Int)) = false := decide_eq_false (by omega)
    have HKN := hide (show knownB ⟨n, id, te, vo, lo, ro, co, vs, ns, hs⟩ = true by unfold knownB; rw [ofB_no HN2.out, ofB_no HN2.out]; simp only; rw [decide_eq_true (show ns.length = 0 by omega), decide_eq_true (show hs.length = 0 by omega)]; rfl)
    have HVB := hide (votesB_one (x := ⟨n, id, te, vo, lo, ro, co, vs, ns, hs⟩) HRO.out)
    simp only at HVB
    have HHS := hide (Has_any _ vs id W (HH2.out W HAW.out))
    have HMJ := hide (Majority_any vs.length n W (by omega) (by omega))
    by_cases hm : id ∈ vs
    case neg =>
      have HE := hide (HK2.out.trans (if_pos (.inl (by rw [HVB.out, decide_eq_false hm]; simp))))
      have HDM := hide (decide_eq_false hm)
      clear hm
      go_upto_region 15 with (first
        | (go_at_call 50; refine HHS.out.mono ?_; rw [HDM.out]; rintro e w4 ⟨rfl, hw4⟩; rw [hw4]; clear hw4 w4))
      go_wp2_with (first
        | (refine wpList_load_blk HTW.out Try.underlying26 rfl Try.sizeFaultR rfl rfl rfl ?_)
        | (refine wpList_store_blk rfl rfl rfl rfl HRW.out rfl Try.sizeFaultR rfl ?_; intro w8 hR8 hg8; have HR8 := hide hR8; have HG8 := hide hg8; clear hR8 hg8))
      refine bodyPost_ret (results1_cell Try.results21 rfl (run_loadVar_blk HR8.out Try.underlying26 rfl Try.sizeFaultR)) rfl ?_
      exact ⟨by rw [HE.out] <;> rfl, below_grownO HAW.out HG8.out (fun k hk => by cases hk; omega) HAW.out.size⟩
    have HDM := hide (decide_eq_true hm)
    clear hm
    cases hmj : mostB vs.length n
    case true =>
      have HE := hide (HK2.out.trans (if_pos (.inl (by rw [HVB.out, hmj]; simp))))
      have HJ := hide hmj
      clear hmj
      go_upto_region 15 with (first
        | (go_at_call 50; refine HHS.out.mono ?_; rw [HDM.out]; rintro e w4 ⟨rfl, hw4⟩; rw [hw4]; clear hw4 w4)
        | (go_at_call 51; refine HMJ.out.mono ?_; rw [HJ.out]; rintro e w4 ⟨rfl, hw4⟩; rw [hw4]; clear hw4 w4))
      go_wp2_with (first
        | (refine wpList_load_blk HTW.out Try.underlying26 rfl Try.sizeFaultR rfl rfl rfl ?_)
        | (refine wpList_store_blk rfl rfl rfl rfl HRW.out rfl Try.sizeFaultR rfl ?_; intro w8 hR8 hg8; have HR8 := hide hR8; have HG8 := hide hg8; clear hR8 hg8))
      refine bodyPost_ret (results1_cell Try.results21 rfl (run_loadVar_blk HR8.out Try.underlying26 rfl Try.sizeFaultR)) rfl ?_
      exact ⟨by rw [HE.out] <;> rfl, below_grownO HAW.out HG8.out (fun k hk => by cases hk; omega) HAW.out.size⟩
    have HVB2 := hide (show votesB ⟨n, id, te, vo, lo, ro, co, vs, ns, hs⟩ = voGo n [] vs by rw [HVB.out, HDM.out, hmj]; simp)
    have HJ := hide hmj
    clear hmj HVB
    go_wp2_with (first
      | (go_at_call 50; refine HHS.out.mono ?_; rw [HDM.out]; rintro e w4 ⟨rfl, hw4⟩; rw [hw4]; clear hw4 w4)
      | (go_at_call 51; refine HMJ.out.mono ?_; rw [HJ.out]; rintro e w4 ⟨rfl, hw4⟩; rw [hw4]; clear hw4 w4))
    go_loopw [5] (fun iv wr => ∃ j : Nat, j ≤ vs.length ∧ iv = .int .i64 j ∧ voGo n (vs.take j) (vs.drop j) = voGo n [] vs ∧ Below W.heap.size W wr)
      (fun iv _ => vs.length - (intOf iv).toNat)
    case atStart => exact ⟨0, by omega, rfl, rfl, Below.refl _ _⟩
    case round =>
      obtain ⟨j, hj, rfl, hgo, hbr⟩ := hrel
      have HGO := hide hgo
      have HBR := hide hbr
      have hAr := HAW.out.trans (hbr.mono HAW.out.size)
      have HAR := hide hAr
      have HBr := hide (HBW.out.later hbr)
      have HRr := hide (HRW.out.later hbr)
      have HTr := hide (HTW.out.later hbr)
      have u0 := HBr.out.cell 0
      have u5 := HBr.out.cell 5
      have u7 := HBr.out.cell 7
      have ul := HBr.out.lt
      simp at u0 u5 u7
      have v0 := HTr.out.cell 0
      have vl := HTr.out.lt
      simp at v0
      clear hgo hbr
      by_cases hlt : j < vs.length
      · obtain ⟨v, hv⟩ : ∃ v, vs[j]? = some v := ⟨_, List.getElem?_eq_getElem hlt⟩
        have hrv := HH2.out wr hAr
        obtain ⟨b, off, rfl, hb, q⟩ := hrv.hereI hv
        have hk1 : (0 : Int) ≤ (j : Int) := by omega
        have hk2 : (j : Int) < (vs.length : Int) := by omega
        have hk3 : (j : Int) ≤ (cap2 : Int) := by omega
        have hk4 : (j : Int) ≤ (vs.length : Int) := by omega
        have HHJ := hide (fun m => Has_any _ (vs.take j) v (wr.drewN m) ((hrv.upto2 (hi := j) (by omega)).drewN m))
        have HT := hide (show vs.take (j + 1) = vs.take j ++ [v] by rw [List.take_add_one, hv]; rfl)
        rw [drop_consN hv, voGo_step] at HGO
        clear hv hrv hAr
        by_cases hlo : v < 0
        · have HE := hide (HK2.out.trans (if_pos (.inl (by rw [HVB2.out, ← HGO.out, wiB_false.2 (by omega)]; rfl))))
          have d1 : decide (v < 0) = true := decide_eq_true hlo
          go_wp2_with fail
          go_quiet (fail)
          go_upto_region 20 with fail
          go_wp2_with (first
            | (refine wpList_load_blk HTr.out Try.underlying26 rfl Try.sizeFaultR rfl rfl rfl ?_)
            | (refine wpList_store_blk rfl rfl rfl rfl HRr.out rfl Try.sizeFaultR rfl ?_; intro w8 hR8 hg8; have HR8 := hide hR8; have HG8 := hide hg8; clear hR8 hg8))
          refine bodyPost_ret (results1_cell Try.results21 rfl (run_loadVar_blk HR8.out Try.underlying26 rfl Try.sizeFaultR)) rfl ?_
          exact ⟨by rw [HE.out] <;> rfl, below_grownO (below_drewN HAR.out _) HG8.out (fun k hk => by cases hk; omega) (below_drewN HAR.out _).size⟩
        have d1 : decide (v < 0) = false := decide_eq_false hlo
        by_cases hhi : n ≤ v
        · have HE := hide (HK2.out.trans (if_pos (.inl (by rw [HVB2.out, ← HGO.out, wiB_false.2 (by omega)]; rfl))))
          have d2 : decide (n ≤ v) = true := decide_eq_true hhi
          go_wp2_with fail
          go_quiet (fail)
          go_upto_region 20 with fail
          go_wp2_with (first
            | (refine wpList_load_blk HTr.out Try.underlying26 rfl Try.sizeFaultR rfl rfl rfl ?_)
            | (refine wpList_store_blk rfl rfl rfl rfl HRr.out rfl Try.sizeFaultR rfl ?_; intro w8 hR8 hg8; have HR8 := hide hR8; have HG8 := hide hg8; clear hR8 hg8))
          refine bodyPost_ret (results1_cell Try.results21 rfl (run_loadVar_blk HR8.out Try.underlying26 rfl Try.sizeFaultR)) rfl ?_
          exact ⟨by rw [HE.out] <;> rfl, below_grownO (below_drewN HAR.out _) HG8.out (fun k hk => by cases hk; omega) (below_drewN HAR.out _).size⟩
        have d2 : decide (n ≤ v) = false := decide_eq_false hhi
        have HWI := hide (show wiB v 0 (n - 1) = true from wiB_true.2 (by omega))
        by_cases hmm : v ∈ vs.take j
        · have HE := hide (HK2.out.trans (if_pos (.inl (by rw [HVB2.out, ← HGO.out, decide_eq_true hmm]; simp))))
          have HDV := hide (decide_eq_true hmm)
          clear hmm
          go_wp2_with fail
          go_quiet (first | (go_at_call 50; exact Calls.quiet_of_same (HHJ.out _)))
          rw [HDV.out]
          go_upto_region 20 with fail
          go_wp2_with (first
            | (refine wpList_load_blk HTr.out Try.underlying26 rfl Try.sizeFaultR rfl rfl rfl ?_)
            | (refine wpList_store_blk rfl rfl rfl rfl HRr.out rfl Try.sizeFaultR rfl ?_; intro w8 hR8 hg8; have HR8 := hide hR8; have HG8 := hide hg8; clear hR8 hg8))
          refine bodyPost_ret (results1_cell Try.results21 rfl (run_loadVar_blk HR8.out Try.underlying26 rfl Try.sizeFaultR)) rfl ?_
          exact ⟨by rw [HE.out] <;> rfl, below_grownO (below_drewN HAR.out _) HG8.out (fun k hk => by cases hk; omega) (below_drewN HAR.out _).size⟩
        have HS := hide (show voGo n (vs.take (j + 1)) (vs.drop (j + 1)) = voGo n [] vs by rw [← HGO.out, HWI.out, HT.out, decide_eq_false hmm]; rfl)
        have HDV := hide (decide_eq_false hmm)
        clear hmm
        go_wp2_with fail
        go_quiet (first | (go_at_call 50; exact Calls.quiet_of_same (HHJ.out _)))
        rw [HDV.out]
        go_wp2_with fail
        go_roundw
        case rel => exact ⟨j + 1, by omega, by go_num, HS.out, below_drewN HBR.out _⟩
        case measure => simp [intOf]; omega
      · have hje : j = vs.length := by omega
        subst hje
        rw [List.drop_length, voGo] at HGO
        have HE := hide (HK2.out.trans (if_neg (by rw [HVB2.out, ← HGO.out, HKN.out]; simp)))
        clear hAr
        go_upto_region 29 with fail
        go_wp2_with (refine wpList_store_blk rfl rfl rfl rfl HRr.out rfl Try.sizeFaultR rfl ?_; intro w8 hR8 hg8; have HR8 := hide hR8; have HG8 := hide hg8; clear hR8 hg8)
        refine bodyPost_ret (results1_cell Try.results21 rfl (run_loadVar_blk HR8.out Try.underlying26 rfl Try.sizeFaultR)) rfl ?_
        exact ⟨by rw [HE.out] <;> rfl, below_grownO HAR.out HG8.out (fun k hk => by cases hk; omega) HAR.out.size⟩

end Go.Proofs.Ytddkjpojbflmjah

/-
  The walk over the document's NodeFault for the Role 2. (Written by rr3d.py.)
-/
namespace Go.Proofs.Ytddkjpojbflmjah
open Go.RowKit Go.Maps
set_option linter.unusedVariables false

set_option maxRecDepth 100000 in
set_option maxHeartbeats 16000000 in
theorem NodeFault_r2 (x : Nd) (lv vv nv hv : Value) (w : World) (hx : RdNd w x lv vv nv hv) (hok : (nmF x).1 = 0) (hrole : x.role = 2) :
    Calls Try.prog 21 #[ndV x lv vv nv hv] w fun e w' => e = .returned (flt (chkN x)) ∧ Below w.heap.size w w' := by
  have HX := hide hx
  have HROLE := hide hrole
  clear hrole
  obtain ⟨n, id, te, vo, lo, ro, co, vs, ns, hs⟩ := x
  obtain ⟨h1, h2, h3, h4⟩ := hx
  simp only at h1 h2 h3 h4
  obtain ⟨ao, cap, rfl, hc1, hc2⟩ := h1.shape
  obtain ⟨bo, cap2, rfl, hd1, hd2⟩ := h2.shape
  obtain ⟨no, cap3, rfl, _, _⟩ := h3.shape
  obtain ⟨ho, cap4, rfl, _, _⟩ := h4.shape
  have hA := below_alloc2 w (.cells #[.int .i64 n, .int .i64 id, .int .i64 te, .int .i64 vo, .slice ao lo.length cap, .int .i64 ro, .int .i64 co, .slice bo vs.length cap2, .slice no ns.length cap3, .slice ho hs.length cap4] 34) (.cells #[.int .i64 0, .int .i64 0] 26)
  have HB0 := hide (Blk.at0of2 w (.cells #[.int .i64 0, .int .i64 0] 26) 34 #[.int .i64 n, .int .i64 id, .int .i64 te, .int .i64 vo, .slice ao lo.length cap, .int .i64 ro, .int .i64 co, .slice bo vs.length cap2, .slice no ns.length cap3, .slice ho hs.length cap4])
  have HR0 := hide (Blk.at1 w (.cells #[.int .i64 n, .int .i64 id, .int .i64 te, .int .i64 vo, .slice ao lo.length cap, .int .i64 ro, .int .i64 co, .slice bo vs.length cap2, .slice no ns.length cap3, .slice ho hs.length cap4] 34) 26 #[.int .i64 0, .int .i64 0])
  have HA0 := hide hA
  have HLF := hide (LogFault_any _ lo _ (h1.below hA))
  have HLT := hide (fun W (hW : Below w.heap.size w W) => LastTerm_any _ lo W (h1.below hW))
  have HH2 := hide (fun W (hW : Below w.heap.size w W) => h2.below hW)
  have HH3 := hide (fun W (hW : Below w.heap.size w W) => h3.below hW)
  have HH4 := hide (fun W (hW : Below w.heap.size w W) => h4.below hW)
  have HNM : Hid (nmF ⟨n, id, te, vo, lo, ro, co, vs, ns, hs⟩ = if wiB n 1 7 = false ∨ wiB id 0 (n - 1) = false then (3, -1) else if numL te = false ∨ wiB vo 0 n = false ∨ wiB ro 0 2 = false ∨ wiB co 0 lo.length = false then (3, -2) else (0, 0)) := hide rfl
  have HLG : Hid (lgF ⟨n, id, te, vo, lo, ro, co, vs, ns, hs⟩ = if (chkE lo).1 ≠ 0 then chkE lo else if te < lastT lo then (11, -3) else (0, 0)) := hide rfl
  have HCK : Hid (chkN ⟨n, id, te, vo, lo, ro, co, vs, ns, hs⟩ = if (nmF ⟨n, id, te, vo, lo, ro, co, vs, ns, hs⟩).1 ≠ 0 then nmF ⟨n, id, te, vo, lo, ro, co, vs, ns, hs⟩ else if (lgF ⟨n, id, te, vo, lo, ro, co, vs, ns, hs⟩).1 ≠ 0 then lgF ⟨n, id, te, vo, lo, ro, co, vs, ns, hs⟩ else if votesB ⟨n, id, te, vo, lo, ro, co, vs, ns, hs⟩ = false ∨ knownB ⟨n, id, te, vo, lo, ro, co, vs, ns, hs⟩ = false then (5, -3) else (0, 0)) := hide rfl
  have HZE := hide (chkE_z lo)
  unfold maxLen at hd2 hc2
  clear h1 h2 h3 h4 hA
  unfold ndV ndA
  have HN0 := hide (show nmF ⟨n, id, te, vo, lo, ro, co, vs, ns, hs⟩ = (0, 0) from nmF_z _ hok)
  have hcc : (1 ≤ n ∧ n ≤ 7 ∧ 0 ≤ id ∧ id < n) ∧ numL te = true ∧ (0 ≤ vo ∧ vo ≤ n) ∧ (0 ≤ ro ∧ ro ≤ 2) ∧ 0 ≤ co ∧ co ≤ lo.length := by
    have h := HNM.out
    rw [HN0.out] at h
    by_cases h1 : wiB n 1 7 = false ∨ wiB id 0 (n - 1) = false
    · rw [if_pos h1] at h; simp at h
    rw [if_neg h1] at h
    by_cases h2 : numL te = false ∨ wiB vo 0 n = false ∨ wiB ro 0 2 = false ∨ wiB co 0 lo.length = false
    · rw [if_pos h2] at h; simp at h
    simp only [not_or, Bool.not_eq_false, wiB_true] at h1 h2
    exact ⟨⟨h1.1.1, h1.1.2, h1.2.1, by omega⟩, h2.1, h2.2.1, h2.2.2.1, h2.2.2.2⟩
  obtain ⟨⟨hn1, hn7, hi0, hin⟩, hnum, ⟨hv0, hvn⟩, ⟨hr0, hr2⟩, hc0, hcl⟩ := hcc
  have e0 : decide (n < 1) = false := decide_eq_false (by omega)
  have e1 : decide (7 < n) = false := decide_eq_false (by omega)
  have e2 : decide (id < 0) = false := decide_eq_false (by omega)
  have e3 : decide (n ≤ id) = false := decide_eq_false (by omega)
  have e5 : decide (vo < 0) = false := decide_eq_false (by omega)
  have e6 : decide (n < vo) = false := decide_eq_false (by omega)
  have e7 : decide (ro < 0) = false := decide_eq_false (by omega)
  have e8 : decide (2 < ro) = false := decide_eq_false (by omega)
  have e9 : decide (co < 0) = false := decide_eq_false (by omega)
  have e10 : decide ((lo.length : Int) < co) = false := decide_eq_false (by omega)
  have AN := hide hnum
  have HK1 := hide (show chkN ⟨n, id, te, vo, lo, ro, co, vs, ns, hs⟩ = if (lgF ⟨n, id, te, vo, lo, ro, co, vs, ns, hs⟩).1 ≠ 0 then lgF ⟨n, id, te, vo, lo, ro, co, vs, ns, hs⟩ else if votesB ⟨n, id, te, vo, lo, ro, co, vs, ns, hs⟩ = false ∨ knownB ⟨n, id, te, vo, lo, ro, co, vs, ns, hs⟩ = false then (5, -3) else (0, 0) by rw [HCK.out, HN0.out, if_neg (by simp)])
  clear HCK HNM hnum hok
  have HLL0 := hide (fun h => (chkE_fine (l := lo) h).2)
  generalize hK : chkE lo = K at *
  obtain ⟨p, q⟩ := K
  clear hK
  generalize hT : lastT lo = T at *
  clear hT
  go_enter Try.func21, Try.ntmps21
  go_wp2_with (go_at_call 49; refine (lNum_any te _).mono ?_; rw [AN.out]; rintro e w1 ⟨rfl, rfl⟩)
  refine HLF.out.mono ?_
  rintro e w1 ⟨rfl, hb1⟩
  have hN := below_allocG w1 (.cells #[.int .i64 p, .int .i64 q] 26)
  have hB := (HB0.out.later hb1).later hN
  have HB1 := hide hB
  have HR1 := hide ((HR0.out.later hb1).later hN)
  have hAA := HA0.out.trans (hb1.mono HA0.out.size)
  have HA1 := hide (hAA.trans (hN.mono hAA.size))
  have hW := Blk.new w1 26 #[.int .i64 p, .int .i64 q]
  have HT1 := hide hW
  have f0 := hW.cell 0
  have c2 := hB.cell 2
  have c4 := hB.cell 4
  have cl := hB.lt
  simp at f0 c2 c4 cl
  clear hb1 hN hB hAA hW HLF HB0 HR0 HA0
  unfold flt
  by_cases hp : p ≠ 0
  · have HE := hide (show chkN ⟨n, id, te, vo, lo, ro, co, vs, ns, hs⟩ = (p, q) by rw [HK1.out, show lgF ⟨n, id, te, vo, lo, ro, co, vs, ns, hs⟩ = (p, q) by rw [HLG.out, if_pos hp], if_pos hp])
    have hq2 : (p != 0) = true := by simp [hp]
    have hq : (p == 0) = false := beq_eq_false_iff_ne.2 hp
    clear hp
    go_wp2_with (first
      | (refine wpList_load_blk HT1.out Try.underlying26 rfl Try.sizeFaultR rfl rfl rfl ?_)
      | (refine wpList_store_blk rfl rfl rfl rfl HR1.out rfl Try.sizeFaultR rfl ?_; intro w8 hR8 hg8; have HR8 := hide hR8; have HG8 := hide hg8; clear hR8 hg8))
    refine bodyPost_ret (results1_cell Try.results21 rfl (run_loadVar_blk HR8.out Try.underlying26 rfl Try.sizeFaultR)) rfl ?_
    exact ⟨by rw [HE.out] <;> rfl, below_grownO HA1.out HG8.out (fun k hk => by cases hk; omega) HA1.out.size⟩
  obtain rfl : p = 0 := Decidable.not_not.1 hp
  obtain rfl : q = 0 := by have := HZE.out rfl; simpa using this
  have HLG2 := hide (show lgF ⟨n, id, te, vo, lo, ro, co, vs, ns, hs⟩ = if te < T then (11, -3) else (0, 0) by rw [HLG.out, if_neg (by simp)])
  have HLL := hide (HLL0.out rfl)
  clear hp HLG
  have HQ := hide (fun m => HLT.out ((w1.alloc (.cells #[.int .i64 0, .int .i64 0] 26)).drewN m) (below_drewN HA1.out m))
  by_cases hte : te < T
  · have HE := hide (show chkN ⟨n, id, te, vo, lo, ro, co, vs, ns, hs⟩ = (11, -3) by rw [HK1.out, show lgF ⟨n, id, te, vo, lo, ro, co, vs, ns, hs⟩ = (11, -3) by rw [HLG2.out, if_pos hte], if_pos (by simp)])
    go_wp2_with fail
    go_quiet (first | (go_at_call 11; exact Calls.quiet_of_same (HQ.out _)))
    go_wp2_with (first
      | (go_at_call 32; refine (lF_any _ _ _).mono ?_; rintro e w3 ⟨rfl, hb3⟩; have hd3 := (below_drewN (Below.refl _ _) _).trans hb3; have HR3 := hide (HR1.out.later hd3); have HA3 := hide (HA1.out.trans (hd3.mono HA1.out.size)); clear hb3 hd3; unfold flt)
      | (refine wpList_store_blk rfl rfl rfl rfl HR3.out rfl Try.sizeFaultR rfl ?_; intro w8 hR8 hg8; have HR8 := hide hR8; have HG8 := hide hg8; clear hR8 hg8))
    refine bodyPost_ret (results1_cell Try.results21 rfl (run_loadVar_blk HR8.out Try.underlying26 rfl Try.sizeFaultR)) rfl ?_
    exact ⟨by rw [HE.out] <;> rfl, below_grownO HA3.out HG8.out (fun k hk => by cases hk; omega) HA3.out.size⟩
  have HK2 := hide (show chkN ⟨n, id, te, vo, lo, ro, co, vs, ns, hs⟩ = if votesB ⟨n, id, te, vo, lo, ro, co, vs, ns, hs⟩ = false ∨ knownB ⟨n, id, te, vo, lo, ro, co, vs, ns, hs⟩ = false then (5, -3) else (0, 0) by rw [HK1.out, show lgF ⟨n, id, te, vo, lo, ro, co, vs, ns, hs⟩ = (0, 0) by rw [HLG2.out, if_neg hte], if_neg (by simp)])
  clear HK1 HLG2
  go_wp2_with fail
  go_quiet (first | (go_at_call 11; exact Calls.quiet_of_same (HQ.out _)))
  go_wp2_with fail
  refine (lF_any _ _ _).mono ?_
  rintro e w3 ⟨rfl, hb3⟩
  have hd3 := (below_drewN (Below.refl (w1.alloc (.cells #[.int .i64 0, .int .i64 0] 26)).heap.size (w1.alloc (.cells #[.int .i64 0, .int .i64 0] 26))) nq).trans hb3
  have hN := below_allocG w3 (.cells #[.int .i64 5, .int .i64 (-3)] 26)
  have HBW := hide ((HB1.out.later hd3).later hN)
  have HRW := hide ((HR1.out.later hd3).later hN)
  have hAA := HA1.out.trans (hd3.mono HA1.out.size)
  have HAW := hide (hAA.trans (hN.mono hAA.size))
  have HTW := hide (Blk.new w3 26 #[.int .i64 5, .int .i64 (-3)])
  have HSW := hide (show w.heap.size + 1 < w3.heap.size from (HR1.out.later hd3).lt)
  clear hb3 hd3 hN hAA f0 c2 c4 cl HB1 HR1 HA1 HT1 HQ hte e0 e1 e2 e3 e5 e6 e7 e8 e9 e10
  unfold flt
  go_upto_region 11 with fail
  generalize hWW : w3.alloc (.cells #[.int .i64 5, .int .i64 (-3)] 26) = W at HBW HRW HAW HTW ⊢
  clear hWW
  have g0 := HBW.out.cell 0
  have g1 := HBW.out.cell 1
  have g4 := HBW.out.cell 4
  have g5 := HBW.out.cell 5
  have g7 := HBW.out.cell 7
  have g8 := HBW.out.cell 8
  have g9 := HBW.out.cell 9
  have gl := HBW.out.lt
  simp at g0 g1 g4 g5 g7 g8 g9
  have t0 := HTW.out.cell 0
  simp at t0
  have hlc : (lo.length : Int) ≤ 100 := by
    have := HLL.out
    omega
  have hro : ro = 2 := HROLE.out
  have HRO := hide hro
  all_goals
    have HN1 := hide (show ro ≠ 1 by omega)
    have rr1 : (ro != 1) = true := by rw [hro]; rfl
    have rr2 : (ro != 2) = false := by rw [hro]; rfl
    have rr3 : (ro == 1) = false := by rw [hro]; rfl
    have rr4 : (ro == 2) = true := by rw [hro]; rfl
    clear hro hr0 hr2
    by_cases k0 : 0 < vs.length
    · have HE := hide (HK2.out.trans (if_pos (.inl (by rw [votesB_no HN1.out]; exact decide_eq_false (by simp only; omega)))))
      have d0 : decide (0 < (vs.length : Int)) = true := decide_eq_true (by omega)
      go_upto_region 12 with fail
      go_wp2_with (first
        | (refine wpList_load_blk HTW.out Try.underlying26 rfl Try.sizeFaultR rfl rfl rfl ?_)
        | (refine wpList_store_blk rfl rfl rfl rfl HRW.out rfl Try.sizeFaultR rfl ?_; intro w8 hR8 hg8; have HR8 := hide hR8; have HG8 := hide hg8; clear hR8 hg8))
      refine bodyPost_ret (results1_cell Try.results21 rfl (run_loadVar_blk HR8.out Try.underlying26 rfl Try.sizeFaultR)) rfl ?_
      exact ⟨by rw [HE.out] <;> rfl, below_grownO HAW.out HG8.out (fun k hk => by cases hk; omega) HAW.out.size⟩
    have d0 : decide (0 < (vs.length : Int)) = false := decide_eq_false (by omega)
    have HVT := hide (show votesB ⟨n, id, te, vo, lo, ro, co, vs, ns, hs⟩ = true by rw [votesB_no HN1.out]; exact decide_eq_true (by simp only; omega))
    by_cases k1 : (ns.length : Int) = n
    case neg =>
      have HE := hide (HK2.out.trans (if_pos (.inr (by unfold knownB; rw [ofB_two HRO.out]; simp only; rw [decide_eq_false k1]; rfl))))
      have d1 : ((ns.length : Int) != n) = true := by simp [k1]
      go_upto_region 23 with fail
      go_wp2_with (first
        | (refine wpList_load_blk HTW.out Try.underlying26 rfl Try.sizeFaultR rfl rfl rfl ?_)
        | (refine wpList_store_blk rfl rfl rfl rfl HRW.out rfl Try.sizeFaultR rfl ?_; intro w8 hR8 hg8; have HR8 := hide hR8; have HG8 := hide hg8; clear hR8 hg8))
      refine bodyPost_ret (results1_cell Try.results21 rfl (run_loadVar_blk HR8.out Try.underlying26 rfl Try.sizeFaultR)) rfl ?_
      exact ⟨by rw [HE.out] <;> rfl, below_grownO HAW.out HG8.out (fun k hk => by cases hk; omega) HAW.out.size⟩
    have d1 : ((ns.length : Int) != n) = false := by simp [k1]
    by_cases k2 : (hs.length : Int) = n
    case neg =>
      have HE := hide (HK2.out.trans (if_pos (.inr (by unfold knownB; rw [ofB_two (l := hs) HRO.out]; simp only; rw [decide_eq_false k2]; simp))))
      have d2 : ((hs.length : Int) != n) = true := by simp [k2]
      go_upto_region 23 with fail
      go_wp2_with (first
        | (refine wpList_load_blk HTW.out Try.underlying26 rfl Try.sizeFaultR rfl rfl rfl ?_)
        | (refine wpList_store_blk rfl rfl rfl rfl HRW.out rfl Try.sizeFaultR rfl ?_; intro w8 hR8 hg8; have HR8 := hide hR8; have HG8 := hide hg8; clear hR8 hg8))
      refine bodyPost_ret (results1_cell Try.results21 rfl (run_loadVar_blk HR8.out Try.underlying26 rfl Try.sizeFaultR)) rfl ?_
      exact ⟨by rw [HE.out] <;> rfl, below_grownO HAW.out HG8.out (fun k hk => by cases hk; omega) HAW.out.size⟩
    have d2 : ((hs.length : Int) != n) = false := by simp [k2]
    have HK12 := hide (And.intro k1 k2)
    clear k1 k2
    go_wp2_with fail
    go_loopw [6] (fun iv wr => ∃ j : Nat, (j : Int) ≤ n ∧ iv = .int .i64 j ∧ (∀ (i : Nat) u, i < j → ns[i]? = some u → 1 ≤ u ∧ u ≤ lo.length + 1) ∧ (∀ (i : Nat) u, i < j → hs[i]? = some u → 0 ≤ u ∧ u ≤ lo.length) ∧ Below W.heap.size W wr)
      (fun iv _ => n.toNat - (intOf iv).toNat)
    case atStart => exact ⟨0, by omega, rfl, fun i u h => by omega, fun i u h => by omega, Below.refl _ _⟩
    case round =>
      obtain ⟨j, hj, rfl, hg1, hg2, hbr⟩ := hrel
      have HG1 := hide hg1
      have HG2 := hide hg2
      have HBR := hide hbr
      have hAr := HAW.out.trans (hbr.mono HAW.out.size)
      have HAR := hide hAr
      have HBr := hide (HBW.out.later hbr)
      have HRr := hide (HRW.out.later hbr)
      have HTr := hide (HTW.out.later hbr)
      have u0 := HBr.out.cell 0
      have u4 := HBr.out.cell 4
      have u8 := HBr.out.cell 8
      have u9 := HBr.out.cell 9
      have ul := HBr.out.lt
      simp at u0 u4 u8 u9
      have v0 := HTr.out.cell 0
      have vl := HTr.out.lt
      simp at v0
      clear hg1 hg2 hbr
      have hll := hlc
      have hwl : IntKind.i64.wrap ((lo.length : Int) + 1) = (lo.length : Int) + 1 := by rw [IntKind.wrap_i64]; omega
      by_cases hlt : (j : Int) < n
      · have hd : decide ((j : Int) < n) = true := decide_eq_true hlt
        obtain ⟨a, ha⟩ : ∃ v, ns[j]? = some v := ⟨_, List.getElem?_eq_getElem (by have := HK12.out.1; omega)⟩
        obtain ⟨h', hh⟩ : ∃ v, hs[j]? = some v := ⟨_, List.getElem?_eq_getElem (by have := HK12.out.2; omega)⟩
        obtain ⟨b1, off1, rfl, hb1, q1⟩ := (HH3.out wr hAr).hereI ha
        obtain ⟨b2, off2, rfl, hb2, q2⟩ := (HH4.out wr hAr).hereI hh
        have hk1 : (0 : Int) ≤ (j : Int) := by omega
        have hk2 : (j : Int) < (ns.length : Int) := by have := HK12.out.1; omega
        have hk3 : (j : Int) < (hs.length : Int) := by have := HK12.out.2; omega
        have HAM := hide (List.mem_of_getElem? ha)
        have HHM := hide (List.mem_of_getElem? hh)
        have HAA := hide ha
        have HHH := hide hh
        clear ha hh hAr
        by_cases z0 : a < 1
        · have HE := hide (HK2.out.trans (if_pos (.inr (by unfold knownB; rw [ofB_out (x := ⟨n, id, te, vo, lo, ro, co, vs, ns, hs⟩) (l := ns) HRO.out HAM.out (by simp only; omega)]; rfl))))
          have y0 : decide (a < 1) = true := decide_eq_true z0
          go_wp2_with fail
          go_quiet (fail)
          go_upto_region 28 with fail
          go_wp2_with (first
            | (refine wpList_load_blk HTr.out Try.underlying26 rfl Try.sizeFaultR rfl rfl rfl ?_)
            | (refine wpList_store_blk rfl rfl rfl rfl HRr.out rfl Try.sizeFaultR rfl ?_; intro w8 hR8 hg8; have HR8 := hide hR8; have HG8 := hide hg8; clear hR8 hg8))
          refine bodyPost_ret (results1_cell Try.results21 rfl (run_loadVar_blk HR8.out Try.underlying26 rfl Try.sizeFaultR)) rfl ?_
          exact ⟨by rw [HE.out] <;> rfl, below_grownO (below_drewN HAR.out _) HG8.out (fun k hk => by cases hk; omega) (below_drewN HAR.out _).size⟩
        have y0 : decide (a < 1) = false := decide_eq_false z0
        by_cases z1 : (lo.length : Int) + 1 < a
        · have HE := hide (HK2.out.trans (if_pos (.inr (by unfold knownB; rw [ofB_out (x := ⟨n, id, te, vo, lo, ro, co, vs, ns, hs⟩) (l := ns) HRO.out HAM.out (by simp only; omega)]; rfl))))
          have y1 : decide ((lo.length : Int) + 1 < a) = true := decide_eq_true z1
          go_wp2_with fail
          go_quiet (fail)
          go_upto_region 28 with fail
          go_wp2_with (first
            | (refine wpList_load_blk HTr.out Try.underlying26 rfl Try.sizeFaultR rfl rfl rfl ?_)
            | (refine wpList_store_blk rfl rfl rfl rfl HRr.out rfl Try.sizeFaultR rfl ?_; intro w8 hR8 hg8; have HR8 := hide hR8; have HG8 := hide hg8; clear hR8 hg8))
          refine bodyPost_ret (results1_cell Try.results21 rfl (run_loadVar_blk HR8.out Try.underlying26 rfl Try.sizeFaultR)) rfl ?_
          exact ⟨by rw [HE.out] <;> rfl, below_grownO (below_drewN HAR.out _) HG8.out (fun k hk => by cases hk; omega) (below_drewN HAR.out _).size⟩
        have y1 : decide ((lo.length : Int) + 1 < a) = false := decide_eq_false z1
        by_cases z2 : h' < 0
        · have HE := hide (HK2.out.trans (if_pos (.inr (by unfold knownB; rw [ofB_out (x := ⟨n, id, te, vo, lo, ro, co, vs, ns, hs⟩) (l := hs) HRO.out HHM.out (by simp only; omega)]; simp))))
          have y2 : decide (h' < 0) = true := decide_eq_true z2
          go_wp2_with fail
          go_quiet (fail)
          go_upto_region 28 with fail
          go_wp2_with (first
            | (refine wpList_load_blk HTr.out Try.underlying26 rfl Try.sizeFaultR rfl rfl rfl ?_)
            | (refine wpList_store_blk rfl rfl rfl rfl HRr.out rfl Try.sizeFaultR rfl ?_; intro w8 hR8 hg8; have HR8 := hide hR8; have HG8 := hide hg8; clear hR8 hg8))
          refine bodyPost_ret (results1_cell Try.results21 rfl (run_loadVar_blk HR8.out Try.underlying26 rfl Try.sizeFaultR)) rfl ?_
          exact ⟨by rw [HE.out] <;> rfl, below_grownO (below_drewN HAR.out _) HG8.out (fun k hk => by cases hk; omega) (below_drewN HAR.out _).size⟩
        have y2 : decide (h' < 0) = false := decide_eq_false z2
        by_cases z3 : (lo.length : Int) < h'
        · have HE := hide (HK2.out.trans (if_pos (.inr (by unfold knownB; rw [ofB_out (x := ⟨n, id, te, vo, lo, ro, co, vs, ns, hs⟩) (l := hs) HRO.out HHM.out (by simp only; omega)]; simp))))
          have y3 : decide ((lo.length : Int) < h') = true := decide_eq_true z3
          go_wp2_with fail
          go_quiet (fail)
          go_upto_region 28 with fail
          go_wp2_with (first
            | (refine wpList_load_blk HTr.out Try.underlying26 rfl Try.sizeFaultR rfl rfl rfl ?_)
            | (refine wpList_store_blk rfl rfl rfl rfl HRr.out rfl Try.sizeFaultR rfl ?_; intro w8 hR8 hg8; have HR8 := hide hR8; have HG8 := hide hg8; clear hR8 hg8))
          refine bodyPost_ret (results1_cell Try.results21 rfl (run_loadVar_blk HR8.out Try.underlying26 rfl Try.sizeFaultR)) rfl ?_
          exact ⟨by rw [HE.out] <;> rfl, below_grownO (below_drewN HAR.out _) HG8.out (fun k hk => by cases hk; omega) (below_drewN HAR.out _).size⟩
        have y3 : decide ((lo.length : Int) < h') = false := decide_eq_false z3
        go_wp2_with fail
        go_quiet (fail)
        go_wp2_with fail
        go_roundw
        case rel => exact ⟨j + 1, by omega, by go_num, fun i u hi hu => by
          by_cases e : i = j
          · subst e
            rw [HAA.out] at hu
            cases hu
            omega
          · exact HG1.out i u (by omega) hu, fun i u hi hu => by
          by_cases e : i = j
          · subst e
            rw [HHH.out] at hu
            cases hu
            omega
          · exact HG2.out i u (by omega) hu, below_drewN HBR.out _⟩
        case measure => simp [intOf]; omega
      · have hd : decide ((j : Int) < n) = false := decide_eq_false hlt
        have HE := hide (HK2.out.trans (if_neg (by
          have e1 : ofB ⟨n, id, te, vo, lo, ro, co, vs, ns, hs⟩ ns 1 (lo.length + 1) = true := ofB_in HRO.out HK12.out.1 (fun u hu => by
            obtain ⟨i, hi, e⟩ := List.mem_iff_getElem.1 hu
            exact HG1.out i u (by have := HK12.out.1; omega) (by rw [List.getElem?_eq_getElem hi, e]))
          have e2 : ofB ⟨n, id, te, vo, lo, ro, co, vs, ns, hs⟩ hs 0 lo.length = true := ofB_in HRO.out HK12.out.2 (fun u hu => by
            obtain ⟨i, hi, e⟩ := List.mem_iff_getElem.1 hu
            exact HG2.out i u (by have := HK12.out.2; omega) (by rw [List.getElem?_eq_getElem hi, e]))
          have e3 : knownB ⟨n, id, te, vo, lo, ro, co, vs, ns, hs⟩ = true := by unfold knownB; simp only; rw [e1, e2]; rfl
          rw [HVT.out, e3]
          simp)))
        clear hAr
        go_upto_region 29 with fail
        go_wp2_with (refine wpList_store_blk rfl rfl rfl rfl HRr.out rfl Try.sizeFaultR rfl ?_; intro w8 hR8 hg8; have HR8 := hide hR8; have HG8 := hide hg8; clear hR8 hg8)
        refine bodyPost_ret (results1_cell Try.results21 rfl (run_loadVar_blk HR8.out Try.underlying26 rfl Try.sizeFaultR)) rfl ?_
        exact ⟨by rw [HE.out] <;> rfl, below_grownO HAR.out HG8.out (fun k hk => by cases hk; omega) HAR.out.size⟩

end Go.Proofs.Ytddkjpojbflmjah
