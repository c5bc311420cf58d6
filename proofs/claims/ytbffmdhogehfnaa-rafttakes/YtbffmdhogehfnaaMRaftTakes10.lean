/-
  Texts joined: RaftV1, RaftR3h, RaftR4, RaftR3, RaftR3l, RaftR3b0, RaftR3b1.
-/
import Derived.Test.YtbffmdhogehfnaaMRaftTakes9
/-
  The walk over the document's MailFine. (Written by rv1.py.)
-/
namespace Go.Proofs.Ytbffmdhogehfnaa
open Go.RowKit Go.Maps
set_option linter.unusedVariables false

theorem fieldFltV (a b : Int) (W : World) : (Instr.field 30 (.agg #[.int .i64 a, .int .i64 b]) 0).run Try.prog W = .ok (.int .i64 a) W := by
  kernel_rfl

def mfB (x : Nd) (m : Ml) : Bool := sentB x m && (numsB m && brgB m)

theorem mfB_true {x : Nd} {m : Ml} : mfB x m = true ↔ ((1 ≤ m.kind ∧ m.kind ≤ 4) ∧ m.to_ = x.id ∧ (0 ≤ m.frm ∧ m.frm ≤ x.n - 1) ∧ ¬ m.frm = x.id) ∧ (((1 ≤ m.term ∧ m.term ≤ 1000000000) ∧ numL m.a = true ∧ numL m.b = true ∧ numL m.c = true) ∧ brgB m = true) := by
  unfold mfB sentB numsB
  simp only [Bool.and_eq_true, decide_eq_true_eq, Bool.not_eq_true', decide_eq_false_iff_not, wiB_true]

set_option maxRecDepth 100000 in
set_option maxHeartbeats 8000000 in
theorem MailFine_any (x : Nd) (lv vv nv hv : Value) (m : Ml) (ev : Value) (w : World) (hx : RdNd w x lv vv nv hv) (he : RdG eE w ev m.ents) :
    Calls Try.prog 52 #[ndV x lv vv nv hv, mlV m ev] w fun e w' => e = .returned (.bool (mfB x m)) ∧ Below w.heap.size w w' := by
  obtain ⟨n, id, te, vo, lo, ro, co, vs, ns, hs⟩ := x
  obtain ⟨h1, h2, h3, h4⟩ := hx
  simp only at h1 h2 h3 h4
  obtain ⟨ao, cap, rfl, hc1, hc2⟩ := h1.shape
  obtain ⟨bo, cap2, rfl, hd1, hd2⟩ := h2.shape
  obtain ⟨no, cap3, rfl, _, _⟩ := h3.shape
  obtain ⟨ho, cap4, rfl, _, _⟩ := h4.shape
  obtain ⟨ki, fr, dt, mt, ma, mb, mc, es, ok⟩ := m
  simp only at he
  obtain ⟨eo, ec, rfl, he1, he2⟩ := he.shape
  have HE : Hid (brgB ⟨ki, fr, dt, mt, ma, mb, mc, es, ok⟩ = if es.length = 0 then true else decide (ki = 3) && (decide (es.length ≤ 5) && (decide ((chkE es).1 = 0) && decide (lastT es ≤ mt)))) := hide rfl
  have HT := hide (@mfB_true ⟨n, id, te, vo, lo, ro, co, vs, ns, hs⟩ ⟨ki, fr, dt, mt, ma, mb, mc, es, ok⟩)
  simp only at HT
  have HW := hide (below_alloc2 w (.cells #[.int .i64 n, .int .i64 id, .int .i64 te, .int .i64 vo, .slice ao lo.length cap, .int .i64 ro, .int .i64 co, .slice bo vs.length cap2, .slice no ns.length cap3, .slice ho hs.length cap4] 25) (.cells #[.int .i64 ki, .int .i64 fr, .int .i64 dt, .int .i64 mt, .int .i64 ma, .int .i64 mb, .int .i64 mc, .slice eo es.length ec, .bool ok] 44))
  have hP := Blk.at0of2 w (.cells #[.int .i64 ki, .int .i64 fr, .int .i64 dt, .int .i64 mt, .int .i64 ma, .int .i64 mb, .int .i64 mc, .slice eo es.length ec, .bool ok] 44) 25 #[.int .i64 n, .int .i64 id, .int .i64 te, .int .i64 vo, .slice ao lo.length cap, .int .i64 ro, .int .i64 co, .slice bo vs.length cap2, .slice no ns.length cap3, .slice ho hs.length cap4]
  have hM := Blk.at1 w (.cells #[.int .i64 n, .int .i64 id, .int .i64 te, .int .i64 vo, .slice ao lo.length cap, .int .i64 ro, .int .i64 co, .slice bo vs.length cap2, .slice no ns.length cap3, .slice ho hs.length cap4] 25) 44 #[.int .i64 ki, .int .i64 fr, .int .i64 dt, .int .i64 mt, .int .i64 ma, .int .i64 mb, .int .i64 mc, .slice eo es.length ec, .bool ok]
  have HM := hide hM
  have HEE := hide (he.below HW.out)
  have p0 := hP.cell 0
  have p1 := hP.cell 1
  have pl := hP.lt
  have m0 := hM.cell 0
  have m1 := hM.cell 1
  have m2 := hM.cell 2
  have m3 := hM.cell 3
  have m4 := hM.cell 4
  have m5 := hM.cell 5
  have m6 := hM.cell 6
  have m7 := hM.cell 7
  have ml := hM.lt
  simp at p0 p1 m0 m1 m2 m3 m4 m5 m6 m7
  unfold ndV ndA mlV mlA
  unfold maxLen at he2
  have hfld := fun (a b : Int) (W : World) => fieldFltV a b W
  clear h1 h2 h3 h4 he hP hM
  by_cases hc0 : ki < 1
  · have c0 : decide (ki < 1) = true := decide_eq_true hc0
    have HG := hide (show mfB ⟨n, id, te, vo, lo, ro, co, vs, ns, hs⟩ ⟨ki, fr, dt, mt, ma, mb, mc, es, ok⟩ = false from Bool.eq_false_iff.2 (fun h => by have := HT.out.1 h; omega))
    clear hc0
    go_enter Try.func52, Try.ntmps52
    go_wp2_with fail
    go_ret
    exact ⟨by rw [HG.out]; rfl, HW.out⟩
  have c0 : decide (ki < 1) = false := decide_eq_false hc0
  by_cases hc1 : 4 < ki
  · have c1 : decide (4 < ki) = true := decide_eq_true hc1
    have HG := hide (show mfB ⟨n, id, te, vo, lo, ro, co, vs, ns, hs⟩ ⟨ki, fr, dt, mt, ma, mb, mc, es, ok⟩ = false from Bool.eq_false_iff.2 (fun h => by have := HT.out.1 h; omega))
    clear hc0 hc1
    go_enter Try.func52, Try.ntmps52
    go_wp2_with fail
    go_ret
    exact ⟨by rw [HG.out]; rfl, HW.out⟩
  have c1 : decide (4 < ki) = false := decide_eq_false hc1
  by_cases hc2 : dt ≠ id
  · have c2 : (dt != id) = true := by simp [hc2]
    have HG := hide (show mfB ⟨n, id, te, vo, lo, ro, co, vs, ns, hs⟩ ⟨ki, fr, dt, mt, ma, mb, mc, es, ok⟩ = false from Bool.eq_false_iff.2 (fun h => by have := HT.out.1 h; omega))
    clear hc0 hc1 hc2
    go_enter Try.func52, Try.ntmps52
    go_wp2_with fail
    go_ret
    exact ⟨by rw [HG.out]; rfl, HW.out⟩
  have c2 : (dt != id) = false := by simp only [ne_eq, Decidable.not_not] at hc2; simp [hc2]
  by_cases hc3 : fr = id
  · have c3 : (fr == id) = true := by simp [hc3]
    have HG := hide (show mfB ⟨n, id, te, vo, lo, ro, co, vs, ns, hs⟩ ⟨ki, fr, dt, mt, ma, mb, mc, es, ok⟩ = false from Bool.eq_false_iff.2 (fun h => by have := HT.out.1 h; omega))
    clear hc0 hc1 hc2 hc3
    go_enter Try.func52, Try.ntmps52
    go_wp2_with fail
    go_ret
    exact ⟨by rw [HG.out]; rfl, HW.out⟩
  have c3 : (fr == id) = false := beq_eq_false_iff_ne.2 hc3
  by_cases hc4 : fr < 0
  · have c4 : decide (fr < 0) = true := decide_eq_true hc4
    have HG := hide (show mfB ⟨n, id, te, vo, lo, ro, co, vs, ns, hs⟩ ⟨ki, fr, dt, mt, ma, mb, mc, es, ok⟩ = false from Bool.eq_false_iff.2 (fun h => by have := HT.out.1 h; omega))
    clear hc0 hc1 hc2 hc3 hc4
    go_enter Try.func52, Try.ntmps52
    go_wp2_with fail
    go_ret
    exact ⟨by rw [HG.out]; rfl, HW.out⟩
  have c4 : decide (fr < 0) = false := decide_eq_false hc4
  by_cases hc5 : n ≤ fr
  · have c5 : decide (n ≤ fr) = true := decide_eq_true hc5
    have HG := hide (show mfB ⟨n, id, te, vo, lo, ro, co, vs, ns, hs⟩ ⟨ki, fr, dt, mt, ma, mb, mc, es, ok⟩ = false from Bool.eq_false_iff.2 (fun h => by have := HT.out.1 h; omega))
    clear hc0 hc1 hc2 hc3 hc4 hc5
    go_enter Try.func52, Try.ntmps52
    go_wp2_with fail
    go_ret
    exact ⟨by rw [HG.out]; rfl, HW.out⟩
  have c5 : decide (n ≤ fr) = false := decide_eq_false hc5
  by_cases hc6 : mt < 1
  · have c6 : decide (mt < 1) = true := decide_eq_true hc6
    have HG := hide (show mfB ⟨n, id, te, vo, lo, ro, co, vs, ns, hs⟩ ⟨ki, fr, dt, mt, ma, mb, mc, es, ok⟩ = false from Bool.eq_false_iff.2 (fun h => by have := HT.out.1 h; omega))
    clear hc0 hc1 hc2 hc3 hc4 hc5 hc6
    go_enter Try.func52, Try.ntmps52
    go_wp2_with fail
    go_ret
    exact ⟨by rw [HG.out]; rfl, HW.out⟩
  have c6 : decide (mt < 1) = false := decide_eq_false hc6
  cases n0 : numL mt
  · have HG := hide (show mfB ⟨n, id, te, vo, lo, ro, co, vs, ns, hs⟩ ⟨ki, fr, dt, mt, ma, mb, mc, es, ok⟩ = false from Bool.eq_false_iff.2 (fun h => by have := HT.out.1 h; simp only [numL, decide_eq_false_iff_not] at n0; omega))
    clear hc0 hc1 hc2 hc3 hc4 hc5 hc6
    go_enter Try.func52, Try.ntmps52
    go_wp2_with (go_at_call 41; refine (lNum_any _ _).mono ?_; rintro e w1 ⟨rfl, rfl⟩; first | rw [n0])
    go_ret
    exact ⟨by rw [HG.out]; rfl, HW.out⟩
  cases n1 : numL ma
  · have HG := hide (show mfB ⟨n, id, te, vo, lo, ro, co, vs, ns, hs⟩ ⟨ki, fr, dt, mt, ma, mb, mc, es, ok⟩ = false from Bool.eq_false_iff.2 (fun h => by have := HT.out.1 h; rw [n1] at this; simp at this))
    clear hc0 hc1 hc2 hc3 hc4 hc5 hc6
    go_enter Try.func52, Try.ntmps52
    go_wp2_with (go_at_call 41; refine (lNum_any _ _).mono ?_; rintro e w1 ⟨rfl, rfl⟩; first | rw [n0] | rw [n1])
    go_ret
    exact ⟨by rw [HG.out]; rfl, HW.out⟩
  cases n2 : numL mb
  · have HG := hide (show mfB ⟨n, id, te, vo, lo, ro, co, vs, ns, hs⟩ ⟨ki, fr, dt, mt, ma, mb, mc, es, ok⟩ = false from Bool.eq_false_iff.2 (fun h => by have := HT.out.1 h; rw [n2] at this; simp at this))
    clear hc0 hc1 hc2 hc3 hc4 hc5 hc6
    go_enter Try.func52, Try.ntmps52
    go_wp2_with (go_at_call 41; refine (lNum_any _ _).mono ?_; rintro e w1 ⟨rfl, rfl⟩; first | rw [n0] | rw [n1] | rw [n2])
    go_ret
    exact ⟨by rw [HG.out]; rfl, HW.out⟩
  cases n3 : numL mc
  · have HG := hide (show mfB ⟨n, id, te, vo, lo, ro, co, vs, ns, hs⟩ ⟨ki, fr, dt, mt, ma, mb, mc, es, ok⟩ = false from Bool.eq_false_iff.2 (fun h => by have := HT.out.1 h; rw [n3] at this; simp at this))
    clear hc0 hc1 hc2 hc3 hc4 hc5 hc6
    go_enter Try.func52, Try.ntmps52
    go_wp2_with (go_at_call 41; refine (lNum_any _ _).mono ?_; rintro e w1 ⟨rfl, rfl⟩; first | rw [n0] | rw [n1] | rw [n2] | rw [n3])
    go_ret
    exact ⟨by rw [HG.out]; rfl, HW.out⟩
  have HB := hide (show mfB ⟨n, id, te, vo, lo, ro, co, vs, ns, hs⟩ ⟨ki, fr, dt, mt, ma, mb, mc, es, ok⟩ = brgB ⟨ki, fr, dt, mt, ma, mb, mc, es, ok⟩ by
    cases hb : brgB ⟨ki, fr, dt, mt, ma, mb, mc, es, ok⟩
    · exact Bool.eq_false_iff.2 (fun h => by have := HT.out.1 h; rw [hb] at this; simp at this)
    · refine HT.out.2 ⟨⟨by omega, by omega, by omega, hc3⟩, ⟨⟨?_, n1, n2, n3⟩, hb⟩⟩
      simp only [numL, decide_eq_true_eq] at n0
      omega)
  have hmt : 1 ≤ mt := by omega
  clear hc0 hc1 hc2 hc3 hc4 hc5 hc6 HT
  by_cases h5 : es.length ≤ 5
  case neg =>
    have hq : decide ((es.length : Int) ≤ 5) = false := decide_eq_false (by omega)
    have HG := hide (show mfB ⟨n, id, te, vo, lo, ro, co, vs, ns, hs⟩ ⟨ki, fr, dt, mt, ma, mb, mc, es, ok⟩ = false by rw [HB.out, HE.out, if_neg (by omega)]; simp [h5])
    clear h5 hmt
    go_enter Try.func52, Try.ntmps52
    go_upto_region 3 with (go_at_call 41; refine (lNum_any _ _).mono ?_; rintro e w1 ⟨rfl, rfl⟩; first | rw [n0] | rw [n1] | rw [n2] | rw [n3])
    go_quiet (fail)
    go_wp2_with fail
    go_ret
    exact ⟨by rw [HG.out]; rfl, below_drewN HW.out _⟩
  have hq3 : decide ((es.length : Int) ≤ 5) = true := decide_eq_true (by omega)
  by_cases hk : ki = 3
  case neg =>
    have hq2 : (ki == 3) = false := beq_eq_false_iff_ne.2 hk
    by_cases h0 : es.length = 0
    case neg =>
      have hq4 : (((es.length : Nat) : Int) == 0) = false := beq_eq_false_iff_ne.2 (by omega)
      have HG := hide (show mfB ⟨n, id, te, vo, lo, ro, co, vs, ns, hs⟩ ⟨ki, fr, dt, mt, ma, mb, mc, es, ok⟩ = false by rw [HB.out, HE.out, if_neg h0]; simp [hk])
      clear h5 hmt h0 hk
      go_enter Try.func52, Try.ntmps52
      go_upto_region 3 with (go_at_call 41; refine (lNum_any _ _).mono ?_; rintro e w1 ⟨rfl, rfl⟩; first | rw [n0] | rw [n1] | rw [n2] | rw [n3])
      go_quiet (fail)
      go_wp2_with fail
      go_ret
      exact ⟨by rw [HG.out]; rfl, below_drewN HW.out _⟩
    have HG := hide (show mfB ⟨n, id, te, vo, lo, ro, co, vs, ns, hs⟩ ⟨ki, fr, dt, mt, ma, mb, mc, es, ok⟩ = true by rw [HB.out, HE.out, if_pos h0])
    have hes : es = [] := List.eq_nil_of_length_eq_zero h0
    have hq6 : (((es.length : Nat) : Int) == 0) = true := by simp [h0]
    have hq4 : decide ((0 : Int) ≤ mt) = true := decide_eq_true (by omega)
    have HZ0 : Hid (chkE es = (0, 0)) := hide (by rw [hes]; kernel_rfl)
    have HZ1 : Hid (lastT es = 0) := hide (by rw [hes]; kernel_rfl)
    clear h5 hmt h0 hk HE HB hes
    go_enter Try.func52, Try.ntmps52
    go_upto_region 3 with (go_at_call 41; refine (lNum_any _ _).mono ?_; rintro e w1 ⟨rfl, rfl⟩; first | rw [n0] | rw [n1] | rw [n2] | rw [n3])
    generalize hWA : ((w.alloc (.cells #[.int .i64 n, .int .i64 id, .int .i64 te, .int .i64 vo, .slice ao lo.length cap, .int .i64 ro, .int .i64 co, .slice bo vs.length cap2, .slice no ns.length cap3, .slice ho hs.length cap4] 25)).alloc (.cells #[.int .i64 ki, .int .i64 fr, .int .i64 dt, .int .i64 mt, .int .i64 ma, .int .i64 mb, .int .i64 mc, .slice eo es.length ec, .bool ok] 44)) = A at HW HM HEE pl ml ⊢
    clear p0 p1 m0 m1 m2 m3 m4 m5 m6 m7 ml
    have m0 := HM.out.cell 0
    have m3 := HM.out.cell 3
    have m7 := HM.out.cell 7
    have ml := HM.out.lt
    simp at m0 m3 m7
    have HCK := hide (fun W (h : Below A.heap.size A W) => (LogFault_any _ es W (HEE.out.below h)).mono fun e W' (h2 : _ ∧ _) => And.intro h2.1 (h.trans (h2.2.mono h.size)))
    have HLT := hide (fun W (h : Below A.heap.size A W) => LastTerm_any _ es W (HEE.out.below h))
    have HKEEP : Hid (∀ W, Below A.heap.size A W → W.cell? ⟨w.heap.size + 1, 0, none⟩ = some (.int .i64 ki) ∧ W.cell? ⟨w.heap.size + 1, 7, none⟩ = some (.slice eo es.length ec) ∧ W.cell? ⟨w.heap.size + 1, 3, none⟩ = some (.int .i64 mt)) := hide (fun W hW => ⟨(HM.out.later hW).cell 0, (HM.out.later hW).cell 7, (HM.out.later hW).cell 3⟩)
    have HDR := hide (show Below A.heap.size A A.drew from Below.drew (Below.refl _ _))
    clear hWA HM HEE
    rw [HZ0.out] at HCK
    rw [HZ1.out] at HLT
    unfold flt at HCK
    first | go_region_held3 (fun W => W.cell? ⟨w.heap.size + 1, 0, none⟩ = some (.int .i64 ki) ∧ W.cell? ⟨w.heap.size + 1, 7, none⟩ = some (.slice eo es.length ec) ∧ W.cell? ⟨w.heap.size + 1, 3, none⟩ = some (.int .i64 mt)) (first | exact HKEEP.out _ hbL1 | exact HKEEP.out _ (by go_grown)) (first
      | (go_at_call 43; refine (HLT.out _ hbL1).mono ?_; rintro e w9 ⟨rfl, rfl⟩)
      | (go_at_call 42; refine (HCK.out _ HDR.out).mono ?_; rintro e w8 ⟨rfl, hbL1⟩)) | fail
    all_goals
      go_wp2_with fail
      go_ret
      exact ⟨by rw [HG.out]; rfl, HW.out.trans (hbL1.mono HW.out.size)⟩
  have hq2 : (ki == 3) = true := by simp [hk]
  have HF2 := hide (show mfB ⟨n, id, te, vo, lo, ro, co, vs, ns, hs⟩ ⟨ki, fr, dt, mt, ma, mb, mc, es, ok⟩ = (decide ((chkE es).1 = 0) && decide (lastT es ≤ mt)) by
    rw [HB.out, HE.out]
    by_cases h0 : es.length = 0
    · obtain rfl : es = [] := List.eq_nil_of_length_eq_zero h0
      have e1 : (chkE []).1 = 0 := by kernel_rfl
      have e2 : lastT [] = 0 := by kernel_rfl
      rw [if_pos h0, e1, e2]
      simp
      omega
    · rw [if_neg h0]
      simp [h5, hk])
  clear HB HE hmt h5 hk
  go_enter Try.func52, Try.ntmps52
  go_upto_region 3 with (go_at_call 41; refine (lNum_any _ _).mono ?_; rintro e w1 ⟨rfl, rfl⟩; first | rw [n0] | rw [n1] | rw [n2] | rw [n3])
  generalize hWA : ((w.alloc (.cells #[.int .i64 n, .int .i64 id, .int .i64 te, .int .i64 vo, .slice ao lo.length cap, .int .i64 ro, .int .i64 co, .slice bo vs.length cap2, .slice no ns.length cap3, .slice ho hs.length cap4] 25)).alloc (.cells #[.int .i64 ki, .int .i64 fr, .int .i64 dt, .int .i64 mt, .int .i64 ma, .int .i64 mb, .int .i64 mc, .slice eo es.length ec, .bool ok] 44)) = A at HW HM HEE pl ml ⊢
  clear p0 p1 m0 m1 m2 m3 m4 m5 m6 m7 ml
  have m0 := HM.out.cell 0
  have m3 := HM.out.cell 3
  have m7 := HM.out.cell 7
  have ml := HM.out.lt
  simp at m0 m3 m7
  have HCK := hide (fun W (h : Below A.heap.size A W) => (LogFault_any _ es W (HEE.out.below h)).mono fun e W' (h2 : _ ∧ _) => And.intro h2.1 (h.trans (h2.2.mono h.size)))
  have HLT := hide (fun W (h : Below A.heap.size A W) => LastTerm_any _ es W (HEE.out.below h))
  have HKEEP : Hid (∀ W, Below A.heap.size A W → W.cell? ⟨w.heap.size + 1, 0, none⟩ = some (.int .i64 ki) ∧ W.cell? ⟨w.heap.size + 1, 7, none⟩ = some (.slice eo es.length ec) ∧ W.cell? ⟨w.heap.size + 1, 3, none⟩ = some (.int .i64 mt)) := hide (fun W hW => ⟨(HM.out.later hW).cell 0, (HM.out.later hW).cell 7, (HM.out.later hW).cell 3⟩)
  have HDR := hide (show Below A.heap.size A A.drew from Below.drew (Below.refl _ _))
  clear hWA HM HEE
  have HZ := hide (chkE_z es)
  generalize lastT es = L at HF2 HLT
  generalize chkE es = CK at HF2 HCK HZ
  obtain ⟨p, q⟩ := CK
  unfold flt at HCK
  by_cases hp : p ≠ 0
  · have hqp : (p == 0) = false := beq_eq_false_iff_ne.2 hp
    have HG := hide (show mfB ⟨n, id, te, vo, lo, ro, co, vs, ns, hs⟩ ⟨ki, fr, dt, mt, ma, mb, mc, es, ok⟩ = false by rw [HF2.out]; simp [hp])
    clear hp
    first | go_region_with (first | (go_at_call 42; refine (HCK.out _ HDR.out).mono ?_; rintro e w8 ⟨rfl, hbL1⟩)) | fail
    all_goals
      go_wp2_with fail
      go_ret
      exact ⟨by rw [HG.out]; rfl, HW.out.trans (hbL1.mono HW.out.size)⟩
  obtain rfl : p = 0 := Decidable.not_not.1 hp
  obtain rfl : q = 0 := by have := HZ.out rfl; simpa using this
  clear hp
  by_cases hl : L ≤ mt
  · have hq4 : decide (L ≤ mt) = true := decide_eq_true hl
    have HG := hide (show mfB ⟨n, id, te, vo, lo, ro, co, vs, ns, hs⟩ ⟨ki, fr, dt, mt, ma, mb, mc, es, ok⟩ = decide (L ≤ mt) by rw [HF2.out]; simp)
    rw [hq4] at HG
    clear hl
    refine wp_region_heldD (S := fun W => W.cell? ⟨w.heap.size + 1, 0, none⟩ = some (.int .i64 ki) ∧ W.cell? ⟨w.heap.size + 1, 7, none⟩ = some (.slice eo es.length ec) ∧ W.cell? ⟨w.heap.size + 1, 3, none⟩ = some (.int .i64 mt)) (n := 31) (l := (upB 31 0).toArray) (by kernel_rfl) (by kernel_rfl) (by kernel_rfl) (by kernel_rfl) (HKEEP.out _ HDR.out) (fun HNS hHeld => ?_)
    refine wpAnyH_takeD (l' := (upB 31 1).toArray) (i := 0) (fuel := 30) (v := ?v1x0) rfl HNS.out (by kernel_rfl) (by kernel_rfl) (by kernel_rfl) (fun _ _ _ h => h) (by kernel_rfl) ?y1x0 hHeld ?r1x0
    case y1x0 => (intro W hSw; go_simp; first | done | with_reducible rfl)
    try simp only [Act.put, List.setIfInBounds_toArray, List.set_cons_zero, List.set_cons_succ]
    refine wpAnyH_takeD (l' := (upB 31 2).toArray) (i := 1) (fuel := 29) (v := ?v1x1) rfl HNS.out (by kernel_rfl) (by kernel_rfl) (by kernel_rfl) (fun _ _ _ h => h) (by kernel_rfl) ?y1x1 hHeld ?r1x1
    case y1x1 => (intro W hSw; (try dsimp only at hSw); go_simp; first | done | with_reducible rfl)
    try simp only [Act.put, List.setIfInBounds_toArray, List.set_cons_zero, List.set_cons_succ]
    refine wpAnyH_takeD (l' := (upB 31 3).toArray) (i := 2) (fuel := 28) (v := ?v1x2) rfl HNS.out (by kernel_rfl) (by kernel_rfl) (by kernel_rfl) (fun _ _ _ h => h) (by kernel_rfl) ?y1x2 hHeld ?r1x2
    case y1x2 => (intro W hSw; go_simp; first | done | with_reducible rfl)
    try simp only [Act.put, List.setIfInBounds_toArray, List.set_cons_zero, List.set_cons_succ]
    refine wpAnyH_takeD (l' := (upB 31 4).toArray) (i := 3) (fuel := 27) (v := ?v1x3) rfl HNS.out (by kernel_rfl) (by kernel_rfl) (by kernel_rfl) (fun _ _ _ h => h) (by kernel_rfl) ?y1x3 hHeld ?r1x3
    case y1x3 => (intro W hSw; go_simp; first | done | with_reducible rfl)
    try simp only [Act.put, List.setIfInBounds_toArray, List.set_cons_zero, List.set_cons_succ]
    refine wpAnyH_takeD (l' := (upB 31 5).toArray) (i := 4) (fuel := 26) (v := ?v1x4) rfl HNS.out (by kernel_rfl) (by kernel_rfl) (by kernel_rfl) (fun _ _ _ h => h) (by kernel_rfl) ?y1x4 hHeld ?r1x4
    case y1x4 => (intro W hSw; go_simp; first | done | with_reducible rfl)
    try simp only [Act.put, List.setIfInBounds_toArray, List.set_cons_zero, List.set_cons_succ]
    refine wpAnyH_takeD (l' := (upB 31 6).toArray) (i := 5) (fuel := 25) (v := ?v1x5) rfl HNS.out (by kernel_rfl) (by kernel_rfl) (by kernel_rfl) (fun _ _ _ h => h) (by kernel_rfl) ?y1x5 hHeld ?r1x5
    case y1x5 => (intro W hSw; go_simp; first | done | with_reducible rfl)
    try simp only [Act.put, List.setIfInBounds_toArray, List.set_cons_zero, List.set_cons_succ]
    refine wpAnyH_takeD (l' := (upB 31 7).toArray) (i := 6) (fuel := 24) (v := ?v1x6) rfl HNS.out (by kernel_rfl) (by kernel_rfl) (by kernel_rfl) (fun _ _ _ h => h) (by kernel_rfl) ?y1x6 hHeld ?r1x6
    case y1x6 => (intro W hSw; (try dsimp only at hSw); go_simp; first | done | with_reducible rfl)
    try simp only [Act.put, List.setIfInBounds_toArray, List.set_cons_zero, List.set_cons_succ]
    refine wpAnyH_takeD (l' := (upB 31 8).toArray) (i := 7) (fuel := 23) (v := ?v1x7) rfl HNS.out (by kernel_rfl) (by kernel_rfl) (by kernel_rfl) (fun _ _ _ h => h) (by kernel_rfl) ?y1x7 hHeld ?r1x7
    case y1x7 => (intro W hSw; go_simp; first | done | with_reducible rfl)
    try simp only [Act.put, List.setIfInBounds_toArray, List.set_cons_zero, List.set_cons_succ]
    refine wpAnyH_takeD (l' := (upB 31 9).toArray) (i := 8) (fuel := 22) (v := ?v1x8) rfl HNS.out (by kernel_rfl) (by kernel_rfl) (by kernel_rfl) (fun _ _ _ h => h) (by kernel_rfl) ?y1x8 hHeld ?r1x8
    case y1x8 => (intro W hSw; go_simp; first | done | with_reducible rfl)
    try simp only [Act.put, List.setIfInBounds_toArray, List.set_cons_zero, List.set_cons_succ]
    refine wpAnyH_skipD (l' := (upB 31 10).toArray) (i := 9) (fuel := 21) rfl HNS.out (by kernel_rfl) (by kernel_rfl) (by kernel_rfl) (fun _ _ _ h => h) (by kernel_rfl) hHeld ?_
    try simp only [Act.put, List.setIfInBounds_toArray, List.set_cons_zero, List.set_cons_succ]
    refine wpAnyH_skipD (l' := (upB 31 11).toArray) (i := 10) (fuel := 20) rfl HNS.out (by kernel_rfl) (by kernel_rfl) (by kernel_rfl) (fun _ _ _ h => h) (by kernel_rfl) hHeld ?_
    try simp only [Act.put, List.setIfInBounds_toArray, List.set_cons_zero, List.set_cons_succ]
    refine wpAnyH_skipD (l' := (upB 31 12).toArray) (i := 11) (fuel := 19) rfl HNS.out (by kernel_rfl) (by kernel_rfl) (by kernel_rfl) (fun _ _ _ h => h) (by kernel_rfl) hHeld ?_
    try simp only [Act.put, List.setIfInBounds_toArray, List.set_cons_zero, List.set_cons_succ]
    refine wpAnyH_skipD (l' := (upB 31 13).toArray) (i := 12) (fuel := 18) rfl HNS.out (by kernel_rfl) (by kernel_rfl) (by kernel_rfl) (fun _ _ _ h => h) (by kernel_rfl) hHeld ?_
    try simp only [Act.put, List.setIfInBounds_toArray, List.set_cons_zero, List.set_cons_succ]
    refine wpAnyH_takeD (l' := (upB 31 14).toArray) (i := 13) (fuel := 17) (v := ?v1x13) rfl HNS.out (by kernel_rfl) (by kernel_rfl) (by kernel_rfl) (fun _ _ _ h => h) (by kernel_rfl) ?y1x13 hHeld ?r1x13
    case y1x13 => (intro W hSw; go_simp; first | done | with_reducible rfl)
    try simp only [Act.put, List.setIfInBounds_toArray, List.set_cons_zero, List.set_cons_succ]
    refine wpAnyH_takeD (l' := (upB 31 15).toArray) (i := 14) (fuel := 16) (v := ?v1x14) rfl HNS.out (by kernel_rfl) (by kernel_rfl) (by kernel_rfl) (fun _ _ _ h => h) (by kernel_rfl) ?y1x14 hHeld ?r1x14
    case y1x14 => (intro W hSw; go_simp; first | done | with_reducible rfl)
    try simp only [Act.put, List.setIfInBounds_toArray, List.set_cons_zero, List.set_cons_succ]
    refine wpAnyH_takeD (l' := (upB 31 16).toArray) (i := 15) (fuel := 15) (v := ?v1x15) rfl HNS.out (by kernel_rfl) (by kernel_rfl) (by kernel_rfl) (fun _ _ _ h => h) (by kernel_rfl) ?y1x15 hHeld ?r1x15
    case y1x15 => (intro W hSw; go_simp; first | done | with_reducible rfl)
    try simp only [Act.put, List.setIfInBounds_toArray, List.set_cons_zero, List.set_cons_succ]
    refine wpAnyH_takeD (l' := (upB 31 17).toArray) (i := 16) (fuel := 14) (v := ?v1x16) rfl HNS.out (by kernel_rfl) (by kernel_rfl) (by kernel_rfl) (fun _ _ _ h => h) (by kernel_rfl) ?y1x16 hHeld ?r1x16
    case y1x16 => (intro W hSw; go_simp; first | done | with_reducible rfl)
    try simp only [Act.put, List.setIfInBounds_toArray, List.set_cons_zero, List.set_cons_succ]
    refine wpAnyH_takeD (l' := (upB 31 18).toArray) (i := 17) (fuel := 13) (v := ?v1x17) rfl HNS.out (by kernel_rfl) (by kernel_rfl) (by kernel_rfl) (fun _ _ _ h => h) (by kernel_rfl) ?y1x17 hHeld ?r1x17
    case y1x17 => (intro W hSw; (try dsimp only at hSw); go_simp; first | done | with_reducible rfl)
    try simp only [Act.put, List.setIfInBounds_toArray, List.set_cons_zero, List.set_cons_succ]
    refine wpAnyH_oneD (l' := (upB 31 19).toArray) (i := 18) (fuel := 12) rfl (by kernel_rfl) (by kernel_rfl) (fun Kc hK => ?_)
    go_simp
    go_at_call 42
    refine (HCK.out _ HDR.out).mono ?_
    rintro e w8 ⟨rfl, hbL1⟩
    have k6 := HKEEP.out w8 hbL1
    go_wp2_with fail
    refine hK.out _ _ k6 (fun _ => ?_)
    clear hK Kc
    try simp only [Act.put, List.setIfInBounds_toArray, List.set_cons_zero, List.set_cons_succ]
    refine wpAnyH_takeD (l' := (upB 31 20).toArray) (i := 19) (fuel := 11) (v := ?v1x19) rfl HNS.out (by kernel_rfl) (by kernel_rfl) (by kernel_rfl) (fun _ _ _ h => h) (by kernel_rfl) ?y1x19 k6 ?r1x19
    case y1x19 => (intro W hSw; go_simp; first | done | with_reducible rfl)
    try simp only [Act.put, List.setIfInBounds_toArray, List.set_cons_zero, List.set_cons_succ]
    refine wpAnyH_takeD (l' := (upB 31 21).toArray) (i := 20) (fuel := 10) (v := ?v1x20) rfl HNS.out (by kernel_rfl) (by kernel_rfl) (by kernel_rfl) (fun _ _ _ h => h) (by kernel_rfl) ?y1x20 k6 ?r1x20
    case y1x20 => (intro W hSw; go_simp; first | done | with_reducible rfl)
    try simp only [Act.put, List.setIfInBounds_toArray, List.set_cons_zero, List.set_cons_succ]
    refine wpAnyH_takeD (l' := (upB 31 22).toArray) (i := 21) (fuel := 9) (v := ?v1x21) rfl HNS.out (by kernel_rfl) (by kernel_rfl) (by kernel_rfl) (fun _ _ _ h => h) (by kernel_rfl) ?y1x21 k6 ?r1x21
    case y1x21 => (intro W hSw; go_simp; first | done | with_reducible rfl)
    try simp only [Act.put, List.setIfInBounds_toArray, List.set_cons_zero, List.set_cons_succ]
    refine wpAnyH_takeD (l' := (upB 31 23).toArray) (i := 22) (fuel := 8) (v := ?v1x22) rfl HNS.out (by kernel_rfl) (by kernel_rfl) (by kernel_rfl) (fun _ _ _ h => h) (by kernel_rfl) ?y1x22 k6 ?r1x22
    case y1x22 => (intro W hSw; go_simp; first | done | with_reducible rfl)
    try simp only [Act.put, List.setIfInBounds_toArray, List.set_cons_zero, List.set_cons_succ]
    refine wpAnyH_takeD (l' := (upB 31 24).toArray) (i := 23) (fuel := 7) (v := ?v1x23) rfl HNS.out (by kernel_rfl) (by kernel_rfl) (by kernel_rfl) (fun _ _ _ h => h) (by kernel_rfl) ?y1x23 k6 ?r1x23
    case y1x23 => (intro W hSw; go_simp; first | done | with_reducible rfl)
    try simp only [Act.put, List.setIfInBounds_toArray, List.set_cons_zero, List.set_cons_succ]
    refine wpAnyH_takeD (l' := (upB 31 25).toArray) (i := 24) (fuel := 6) (v := ?v1x24) rfl HNS.out (by kernel_rfl) (by kernel_rfl) (by kernel_rfl) (fun _ _ _ h => h) (by kernel_rfl) ?y1x24 k6 ?r1x24
    case y1x24 => (intro W hSw; (try dsimp only at hSw); go_simp; first | done | with_reducible rfl)
    try simp only [Act.put, List.setIfInBounds_toArray, List.set_cons_zero, List.set_cons_succ]
    refine wpAnyH_takeD (l' := #[true, true, true, true, true, true, true, true, true, true, true, true, true, true, true, true, true, true, true, true, true, true, true, true, true, false, true, false, false, false, false]) (i := 26) (fuel := 5) (v := ?v1x26) rfl HNS.out (by kernel_rfl) (by kernel_rfl) (by kernel_rfl) (fun _ _ _ h => h) (by kernel_rfl) ?y1x26 k6 ?r1x26
    case y1x26 => (intro W hSw; go_simp; first | done | with_reducible rfl)
    try simp only [Act.put, List.setIfInBounds_toArray, List.set_cons_zero, List.set_cons_succ]
    refine wpAnyH_takeD (l' := #[true, true, true, true, true, true, true, true, true, true, true, true, true, true, true, true, true, true, true, true, true, true, true, true, true, false, true, true, false, false, false]) (i := 27) (fuel := 4) (v := ?v1x27) rfl HNS.out (by kernel_rfl) (by kernel_rfl) (by kernel_rfl) (fun _ _ _ h => h) (by kernel_rfl) ?y1x27 k6 ?r1x27
    case y1x27 => (intro W hSw; (try dsimp only at hSw); go_simp; first | done | with_reducible rfl)
    try simp only [Act.put, List.setIfInBounds_toArray, List.set_cons_zero, List.set_cons_succ]
    refine wpAnyH_oneD (l' := (upB 31 28).toArray) (i := 25) (fuel := 3) rfl (by kernel_rfl) (by kernel_rfl) (fun Kc hK => ?_)
    go_simp
    go_at_call 43
    refine (HLT.out _ hbL1).mono ?_
    rintro e w9 ⟨rfl, rfl⟩
    go_wp2_with fail
    refine hK.out _ _ k6 (fun _ => ?_)
    clear hK Kc
    try simp only [Act.put, List.setIfInBounds_toArray, List.set_cons_zero, List.set_cons_succ]
    refine wpAnyH_takeD (l' := (upB 31 29).toArray) (i := 28) (fuel := 2) (v := ?v1x28) rfl HNS.out (by kernel_rfl) (by kernel_rfl) (by kernel_rfl) (fun _ _ _ h => h) (by kernel_rfl) ?y1x28 k6 ?r1x28
    case y1x28 => (intro W hSw; go_simp; first | done | with_reducible rfl)
    try simp only [Act.put, List.setIfInBounds_toArray, List.set_cons_zero, List.set_cons_succ]
    refine wpAnyH_takeD (l' := (upB 31 30).toArray) (i := 29) (fuel := 1) (v := ?v1x29) rfl HNS.out (by kernel_rfl) (by kernel_rfl) (by kernel_rfl) (fun _ _ _ h => h) (by kernel_rfl) ?y1x29 k6 ?r1x29
    case y1x29 => (intro W hSw; go_simp; first | done | with_reducible rfl)
    try simp only [Act.put, List.setIfInBounds_toArray, List.set_cons_zero, List.set_cons_succ]
    refine wpAnyH_takeD (l' := (upB 31 31).toArray) (i := 30) (fuel := 0) (v := ?v1x30) rfl HNS.out (by kernel_rfl) (by kernel_rfl) (by kernel_rfl) (fun _ _ _ h => h) (by kernel_rfl) ?y1x30 k6 ?r1x30
    case y1x30 => (intro W hSw; go_simp; first | done | with_reducible rfl)
    try simp only [Act.put, List.setIfInBounds_toArray, List.set_cons_zero, List.set_cons_succ]
    refine wpAnyH_done (by kernel_rfl) ?_ _
    all_goals
      go_wp2_with fail
      go_ret
      exact ⟨by rw [HG.out]; rfl, HW.out.trans (hbL1.mono HW.out.size)⟩

  · have hq4 : decide (L ≤ mt) = false := decide_eq_false hl
    have HG := hide (show mfB ⟨n, id, te, vo, lo, ro, co, vs, ns, hs⟩ ⟨ki, fr, dt, mt, ma, mb, mc, es, ok⟩ = decide (L ≤ mt) by rw [HF2.out]; simp)
    rw [hq4] at HG
    clear hl
    refine wp_region_heldD (S := fun W => W.cell? ⟨w.heap.size + 1, 0, none⟩ = some (.int .i64 ki) ∧ W.cell? ⟨w.heap.size + 1, 7, none⟩ = some (.slice eo es.length ec) ∧ W.cell? ⟨w.heap.size + 1, 3, none⟩ = some (.int .i64 mt)) (n := 31) (l := (upB 31 0).toArray) (by kernel_rfl) (by kernel_rfl) (by kernel_rfl) (by kernel_rfl) (HKEEP.out _ HDR.out) (fun HNS hHeld => ?_)
    refine wpAnyH_takeD (l' := (upB 31 1).toArray) (i := 0) (fuel := 30) (v := ?v2x0) rfl HNS.out (by kernel_rfl) (by kernel_rfl) (by kernel_rfl) (fun _ _ _ h => h) (by kernel_rfl) ?y2x0 hHeld ?r2x0
    case y2x0 => (intro W hSw; go_simp; first | done | with_reducible rfl)
    try simp only [Act.put, List.setIfInBounds_toArray, List.set_cons_zero, List.set_cons_succ]
    refine wpAnyH_takeD (l' := (upB 31 2).toArray) (i := 1) (fuel := 29) (v := ?v2x1) rfl HNS.out (by kernel_rfl) (by kernel_rfl) (by kernel_rfl) (fun _ _ _ h => h) (by kernel_rfl) ?y2x1 hHeld ?r2x1
    case y2x1 => (intro W hSw; (try dsimp only at hSw); go_simp; first | done | with_reducible rfl)
    try simp only [Act.put, List.setIfInBounds_toArray, List.set_cons_zero, List.set_cons_succ]
    refine wpAnyH_takeD (l' := (upB 31 3).toArray) (i := 2) (fuel := 28) (v := ?v2x2) rfl HNS.out (by kernel_rfl) (by kernel_rfl) (by kernel_rfl) (fun _ _ _ h => h) (by kernel_rfl) ?y2x2 hHeld ?r2x2
    case y2x2 => (intro W hSw; go_simp; first | done | with_reducible rfl)
    try simp only [Act.put, List.setIfInBounds_toArray, List.set_cons_zero, List.set_cons_succ]
    refine wpAnyH_takeD (l' := (upB 31 4).toArray) (i := 3) (fuel := 27) (v := ?v2x3) rfl HNS.out (by kernel_rfl) (by kernel_rfl) (by kernel_rfl) (fun _ _ _ h => h) (by kernel_rfl) ?y2x3 hHeld ?r2x3
    case y2x3 => (intro W hSw; go_simp; first | done | with_reducible rfl)
    try simp only [Act.put, List.setIfInBounds_toArray, List.set_cons_zero, List.set_cons_succ]
    refine wpAnyH_takeD (l' := (upB 31 5).toArray) (i := 4) (fuel := 26) (v := ?v2x4) rfl HNS.out (by kernel_rfl) (by kernel_rfl) (by kernel_rfl) (fun _ _ _ h => h) (by kernel_rfl) ?y2x4 hHeld ?r2x4
    case y2x4 => (intro W hSw; go_simp; first | done | with_reducible rfl)
    try simp only [Act.put, List.setIfInBounds_toArray, List.set_cons_zero, List.set_cons_succ]
    refine wpAnyH_takeD (l' := (upB 31 6).toArray) (i := 5) (fuel := 25) (v := ?v2x5) rfl HNS.out (by kernel_rfl) (by kernel_rfl) (by kernel_rfl) (fun _ _ _ h => h) (by kernel_rfl) ?y2x5 hHeld ?r2x5
    case y2x5 => (intro W hSw; go_simp; first | done | with_reducible rfl)
    try simp only [Act.put, List.setIfInBounds_toArray, List.set_cons_zero, List.set_cons_succ]
    refine wpAnyH_takeD (l' := (upB 31 7).toArray) (i := 6) (fuel := 24) (v := ?v2x6) rfl HNS.out (by kernel_rfl) (by kernel_rfl) (by kernel_rfl) (fun _ _ _ h => h) (by kernel_rfl) ?y2x6 hHeld ?r2x6
    case y2x6 => (intro W hSw; (try dsimp only at hSw); go_simp; first | done | with_reducible rfl)
    try simp only [Act.put, List.setIfInBounds_toArray, List.set_cons_zero, List.set_cons_succ]
    refine wpAnyH_takeD (l' := (upB 31 8).toArray) (i := 7) (fuel := 23) (v := ?v2x7) rfl HNS.out (by kernel_rfl) (by kernel_rfl) (by kernel_rfl) (fun _ _ _ h => h) (by kernel_rfl) ?y2x7 hHeld ?r2x7
    case y2x7 => (intro W hSw; go_simp; first | done | with_reducible rfl)
    try simp only [Act.put, List.setIfInBounds_toArray, List.set_cons_zero, List.set_cons_succ]
    refine wpAnyH_takeD (l' := (upB 31 9).toArray) (i := 8) (fuel := 22) (v := ?v2x8) rfl HNS.out (by kernel_rfl) (by kernel_rfl) (by kernel_rfl) (fun _ _ _ h => h) (by kernel_rfl) ?y2x8 hHeld ?r2x8
    case y2x8 => (intro W hSw; go_simp; first | done | with_reducible rfl)
    try simp only [Act.put, List.setIfInBounds_toArray, List.set_cons_zero, List.set_cons_succ]
    refine wpAnyH_skipD (l' := (upB 31 10).toArray) (i := 9) (fuel := 21) rfl HNS.out (by kernel_rfl) (by kernel_rfl) (by kernel_rfl) (fun _ _ _ h => h) (by kernel_rfl) hHeld ?_
    try simp only [Act.put, List.setIfInBounds_toArray, List.set_cons_zero, List.set_cons_succ]
    refine wpAnyH_skipD (l' := (upB 31 11).toArray) (i := 10) (fuel := 20) rfl HNS.out (by kernel_rfl) (by kernel_rfl) (by kernel_rfl) (fun _ _ _ h => h) (by kernel_rfl) hHeld ?_
    try simp only [Act.put, List.setIfInBounds_toArray, List.set_cons_zero, List.set_cons_succ]
    refine wpAnyH_skipD (l' := (upB 31 12).toArray) (i := 11) (fuel := 19) rfl HNS.out (by kernel_rfl) (by kernel_rfl) (by kernel_rfl) (fun _ _ _ h => h) (by kernel_rfl) hHeld ?_
    try simp only [Act.put, List.setIfInBounds_toArray, List.set_cons_zero, List.set_cons_succ]
    refine wpAnyH_skipD (l' := (upB 31 13).toArray) (i := 12) (fuel := 18) rfl HNS.out (by kernel_rfl) (by kernel_rfl) (by kernel_rfl) (fun _ _ _ h => h) (by kernel_rfl) hHeld ?_
    try simp only [Act.put, List.setIfInBounds_toArray, List.set_cons_zero, List.set_cons_succ]
    refine wpAnyH_takeD (l' := (upB 31 14).toArray) (i := 13) (fuel := 17) (v := ?v2x13) rfl HNS.out (by kernel_rfl) (by kernel_rfl) (by kernel_rfl) (fun _ _ _ h => h) (by kernel_rfl) ?y2x13 hHeld ?r2x13
    case y2x13 => (intro W hSw; go_simp; first | done | with_reducible rfl)
    try simp only [Act.put, List.setIfInBounds_toArray, List.set_cons_zero, List.set_cons_succ]
    refine wpAnyH_takeD (l' := (upB 31 15).toArray) (i := 14) (fuel := 16) (v := ?v2x14) rfl HNS.out (by kernel_rfl) (by kernel_rfl) (by kernel_rfl) (fun _ _ _ h => h) (by kernel_rfl) ?y2x14 hHeld ?r2x14
    case y2x14 => (intro W hSw; go_simp; first | done | with_reducible rfl)
    try simp only [Act.put, List.setIfInBounds_toArray, List.set_cons_zero, List.set_cons_succ]
    refine wpAnyH_takeD (l' := (upB 31 16).toArray) (i := 15) (fuel := 15) (v := ?v2x15) rfl HNS.out (by kernel_rfl) (by kernel_rfl) (by kernel_rfl) (fun _ _ _ h => h) (by kernel_rfl) ?y2x15 hHeld ?r2x15
    case y2x15 => (intro W hSw; go_simp; first | done | with_reducible rfl)
    try simp only [Act.put, List.setIfInBounds_toArray, List.set_cons_zero, List.set_cons_succ]
    refine wpAnyH_takeD (l' := (upB 31 17).toArray) (i := 16) (fuel := 14) (v := ?v2x16) rfl HNS.out (by kernel_rfl) (by kernel_rfl) (by kernel_rfl) (fun _ _ _ h => h) (by kernel_rfl) ?y2x16 hHeld ?r2x16
    case y2x16 => (intro W hSw; go_simp; first | done | with_reducible rfl)
    try simp only [Act.put, List.setIfInBounds_toArray, List.set_cons_zero, List.set_cons_succ]
    refine wpAnyH_takeD (l' := (upB 31 18).toArray) (i := 17) (fuel := 13) (v := ?v2x17) rfl HNS.out (by kernel_rfl) (by kernel_rfl) (by kernel_rfl) (fun _ _ _ h => h) (by kernel_rfl) ?y2x17 hHeld ?r2x17
    case y2x17 => (intro W hSw; (try dsimp only at hSw); go_simp; first | done | with_reducible rfl)
    try simp only [Act.put, List.setIfInBounds_toArray, List.set_cons_zero, List.set_cons_succ]
    refine wpAnyH_oneD (l' := (upB 31 19).toArray) (i := 18) (fuel := 12) rfl (by kernel_rfl) (by kernel_rfl) (fun Kc hK => ?_)
    go_simp
    go_at_call 42
    refine (HCK.out _ HDR.out).mono ?_
    rintro e w8 ⟨rfl, hbL1⟩
    have k6 := HKEEP.out w8 hbL1
    go_wp2_with fail
    refine hK.out _ _ k6 (fun _ => ?_)
    clear hK Kc
    try simp only [Act.put, List.setIfInBounds_toArray, List.set_cons_zero, List.set_cons_succ]
    refine wpAnyH_takeD (l' := (upB 31 20).toArray) (i := 19) (fuel := 11) (v := ?v2x19) rfl HNS.out (by kernel_rfl) (by kernel_rfl) (by kernel_rfl) (fun _ _ _ h => h) (by kernel_rfl) ?y2x19 k6 ?r2x19
    case y2x19 => (intro W hSw; go_simp; first | done | with_reducible rfl)
    try simp only [Act.put, List.setIfInBounds_toArray, List.set_cons_zero, List.set_cons_succ]
    refine wpAnyH_takeD (l' := (upB 31 21).toArray) (i := 20) (fuel := 10) (v := ?v2x20) rfl HNS.out (by kernel_rfl) (by kernel_rfl) (by kernel_rfl) (fun _ _ _ h => h) (by kernel_rfl) ?y2x20 k6 ?r2x20
    case y2x20 => (intro W hSw; go_simp; first | done | with_reducible rfl)
    try simp only [Act.put, List.setIfInBounds_toArray, List.set_cons_zero, List.set_cons_succ]
    refine wpAnyH_takeD (l' := (upB 31 22).toArray) (i := 21) (fuel := 9) (v := ?v2x21) rfl HNS.out (by kernel_rfl) (by kernel_rfl) (by kernel_rfl) (fun _ _ _ h => h) (by kernel_rfl) ?y2x21 k6 ?r2x21
    case y2x21 => (intro W hSw; go_simp; first | done | with_reducible rfl)
    try simp only [Act.put, List.setIfInBounds_toArray, List.set_cons_zero, List.set_cons_succ]
    refine wpAnyH_takeD (l' := (upB 31 23).toArray) (i := 22) (fuel := 8) (v := ?v2x22) rfl HNS.out (by kernel_rfl) (by kernel_rfl) (by kernel_rfl) (fun _ _ _ h => h) (by kernel_rfl) ?y2x22 k6 ?r2x22
    case y2x22 => (intro W hSw; go_simp; first | done | with_reducible rfl)
    try simp only [Act.put, List.setIfInBounds_toArray, List.set_cons_zero, List.set_cons_succ]
    refine wpAnyH_takeD (l' := (upB 31 24).toArray) (i := 23) (fuel := 7) (v := ?v2x23) rfl HNS.out (by kernel_rfl) (by kernel_rfl) (by kernel_rfl) (fun _ _ _ h => h) (by kernel_rfl) ?y2x23 k6 ?r2x23
    case y2x23 => (intro W hSw; go_simp; first | done | with_reducible rfl)
    try simp only [Act.put, List.setIfInBounds_toArray, List.set_cons_zero, List.set_cons_succ]
    refine wpAnyH_takeD (l' := (upB 31 25).toArray) (i := 24) (fuel := 6) (v := ?v2x24) rfl HNS.out (by kernel_rfl) (by kernel_rfl) (by kernel_rfl) (fun _ _ _ h => h) (by kernel_rfl) ?y2x24 k6 ?r2x24
    case y2x24 => (intro W hSw; (try dsimp only at hSw); go_simp; first | done | with_reducible rfl)
    try simp only [Act.put, List.setIfInBounds_toArray, List.set_cons_zero, List.set_cons_succ]
    refine wpAnyH_takeD (l' := #[true, true, true, true, true, true, true, true, true, true, true, true, true, true, true, true, true, true, true, true, true, true, true, true, true, false, true, false, false, false, false]) (i := 26) (fuel := 5) (v := ?v2x26) rfl HNS.out (by kernel_rfl) (by kernel_rfl) (by kernel_rfl) (fun _ _ _ h => h) (by kernel_rfl) ?y2x26 k6 ?r2x26
    case y2x26 => (intro W hSw; go_simp; first | done | with_reducible rfl)
    try simp only [Act.put, List.setIfInBounds_toArray, List.set_cons_zero, List.set_cons_succ]
    refine wpAnyH_takeD (l' := #[true, true, true, true, true, true, true, true, true, true, true, true, true, true, true, true, true, true, true, true, true, true, true, true, true, false, true, true, false, false, false]) (i := 27) (fuel := 4) (v := ?v2x27) rfl HNS.out (by kernel_rfl) (by kernel_rfl) (by kernel_rfl) (fun _ _ _ h => h) (by kernel_rfl) ?y2x27 k6 ?r2x27
    case y2x27 => (intro W hSw; (try dsimp only at hSw); go_simp; first | done | with_reducible rfl)
    try simp only [Act.put, List.setIfInBounds_toArray, List.set_cons_zero, List.set_cons_succ]
    refine wpAnyH_oneD (l' := (upB 31 28).toArray) (i := 25) (fuel := 3) rfl (by kernel_rfl) (by kernel_rfl) (fun Kc hK => ?_)
    go_simp
    go_at_call 43
    refine (HLT.out _ hbL1).mono ?_
    rintro e w9 ⟨rfl, rfl⟩
    go_wp2_with fail
    refine hK.out _ _ k6 (fun _ => ?_)
    clear hK Kc
    try simp only [Act.put, List.setIfInBounds_toArray, List.set_cons_zero, List.set_cons_succ]
    refine wpAnyH_takeD (l' := (upB 31 29).toArray) (i := 28) (fuel := 2) (v := ?v2x28) rfl HNS.out (by kernel_rfl) (by kernel_rfl) (by kernel_rfl) (fun _ _ _ h => h) (by kernel_rfl) ?y2x28 k6 ?r2x28
    case y2x28 => (intro W hSw; go_simp; first | done | with_reducible rfl)
    try simp only [Act.put, List.setIfInBounds_toArray, List.set_cons_zero, List.set_cons_succ]
    refine wpAnyH_takeD (l' := (upB 31 30).toArray) (i := 29) (fuel := 1) (v := ?v2x29) rfl HNS.out (by kernel_rfl) (by kernel_rfl) (by kernel_rfl) (fun _ _ _ h => h) (by kernel_rfl) ?y2x29 k6 ?r2x29
    case y2x29 => (intro W hSw; go_simp; first | done | with_reducible rfl)
    try simp only [Act.put, List.setIfInBounds_toArray, List.set_cons_zero, List.set_cons_succ]
    refine wpAnyH_takeD (l' := (upB 31 31).toArray) (i := 30) (fuel := 0) (v := ?v2x30) rfl HNS.out (by kernel_rfl) (by kernel_rfl) (by kernel_rfl) (fun _ _ _ h => h) (by kernel_rfl) ?y2x30 k6 ?r2x30
    case y2x30 => (intro W hSw; go_simp; first | done | with_reducible rfl)
    try simp only [Act.put, List.setIfInBounds_toArray, List.set_cons_zero, List.set_cons_succ]
    refine wpAnyH_done (by kernel_rfl) ?_ _
    all_goals
      go_wp2_with fail
      go_ret
      exact ⟨by rw [HG.out]; rfl, HW.out.trans (hbL1.mono HW.out.size)⟩

end Go.Proofs.Ytbffmdhogehfnaa

/-
  The walks over the document's Has, Majority and NodeFault. (Written by rr3.py.)
-/
namespace Go.Proofs.Ytbffmdhogehfnaa
open Go.RowKit Go.Maps
set_option linter.unusedVariables false

set_option maxRecDepth 100000 in
theorem Majority_any (k : Nat) (n : Int) (w : World) (hn : 0 ≤ n) (hm : n ≤ 1000) : Calls Try.prog 45 #[.int .i64 k, .int .i64 n] w fun e w' => e = .returned (.bool (mostB k n)) ∧ w' = w := by
  have HE : Hid (mostB k n = decide (n / 2 < (k : Int))) := hide rfl
  have h0 : n.tdiv 2 = n / 2 := Int.tdiv_eq_ediv_of_nonneg hn
  generalize hp : n / 2 = p at *
  have h1 : IntKind.i64.wrap p = p := by rw [IntKind.wrap_i64]; omega
  go_enter Try.func45, Try.ntmps45
  go_wp2_with fail
  go_ret
  exact ⟨by rw [HE.out]; rfl, rfl⟩

set_option maxRecDepth 100000 in
set_option maxHeartbeats 1000000 in
theorem Has_any (v : Value) (l : List Int) (x : Int) (w : World) (hv : RdG iE w v l) :
    Calls Try.prog 44 #[v, .int .i64 x] w fun e w' => e = .returned (.bool (decide (x ∈ l))) ∧ w' = w := by
  have HV := hide hv
  obtain ⟨ao, cap, rfl, hc1, hc2⟩ := hv.shape
  unfold maxLen at hc2
  clear hv
  go_enter Try.func44, Try.ntmps44
  go_wp2_with fail
  go_loopw [5] (fun iv wr => ∃ j : Nat, j ≤ l.length ∧ iv = .int .i64 j ∧ (∀ (k : Nat) y, k < j → l[k]? = some y → y ≠ x) ∧ w = wr)
    (fun iv _ => l.length - (intOf iv).toNat)
  case atStart => exact ⟨0, by omega, rfl, fun k y h => by omega, rfl⟩
  case round =>
    obtain ⟨j, hj, rfl, hno, rfl⟩ := hrel
    have HNO := hide hno
    clear hno
    by_cases hlt : j < l.length
    · obtain ⟨y, hy⟩ : ∃ c, l[j]? = some c := ⟨_, List.getElem?_eq_getElem hlt⟩
      obtain ⟨b, off, rfl, hbb, q⟩ := HV.out.hereI hy
      have hk1 : (0 : Int) ≤ (j : Int) := by omega
      have hk2 : (j : Int) < (l.length : Int) := by omega
      have HY := hide hy
      clear hy
      by_cases hq : y = x
      · have hb : (y == x) = true := beq_iff_eq.2 hq
        have HM := hide (decide_eq_true (show x ∈ l by rw [← hq]; exact List.mem_of_getElem? HY.out))
        clear hq
        go_wp2_with fail
        go_ret
        exact ⟨by rw [HM.out]; rfl, rfl⟩
      · have hb : (y == x) = false := beq_eq_false_iff_ne.2 hq
        have HQ := hide hq
        clear hq
        go_wp2_with fail
        go_roundw
        case rel => exact ⟨j + 1, by omega, by go_num, fun k z h1 h2 => by
          by_cases e : k = j
          · subst e
            rw [HY.out] at h2
            cases h2
            exact HQ.out
          · exact HNO.out k z (by omega) h2, trivial⟩
        case measure => simp [intOf]; omega
    · have hje : j = l.length := by omega
      subst hje
      have HM := hide (decide_eq_false (show ¬ x ∈ l from fun hm => by
        obtain ⟨k, hk, e⟩ := List.mem_iff_getElem.1 hm
        exact HNO.out k x hk (by rw [List.getElem?_eq_getElem hk, e]) rfl))
      go_wp2_with fail
      go_ret
      exact ⟨by rw [HM.out]; rfl, rfl⟩

theorem voGo_step {n v : Int} {s r : List Int} : voGo n s (v :: r) = (wiB v 0 (n - 1) && !decide (v ∈ s) && voGo n (s ++ [v]) r) := rfl

end Go.Proofs.Ytbffmdhogehfnaa

/-
  The walks over the document's Follower and Counted. (Written by rr4.py.)
-/
namespace Go.Proofs.Ytbffmdhogehfnaa
open Go.RowKit Go.Maps
set_option linter.unusedVariables false

set_option maxRecDepth 100000 in
set_option maxHeartbeats 8000000 in
theorem Follower_any (x : Nd) (lv vv nv hv : Value) (w : World) (hx : RdNd w x lv vv nv hv) (hl1 : x.log.length ≤ 1000) :
    Calls Try.prog 46 #[ndV x lv vv nv hv] w fun e w' => ∃ lv', e = .returned (ndV x.follow lv' (.slice none 0 0) (.slice none 0 0) (.slice none 0 0)) ∧ w'.ownsRow w.heap.size 65 2 lv' x.log.length (eE.vs x.log) ∧ Below w.heap.size w w' := by
  obtain ⟨n, id, te, vo, lo, ro, co, vs, ns, hs⟩ := x
  obtain ⟨h1, h2, h3, h4⟩ := hx
  simp only at h1 h2 h3 h4
  obtain ⟨ao, cap, rfl, hc1, hc2⟩ := h1.shape
  obtain ⟨bo, cap2, rfl, hd1, hd2⟩ := h2.shape
  obtain ⟨no, cap3, rfl, _, _⟩ := h3.shape
  obtain ⟨ho, cap4, rfl, _, _⟩ := h4.shape
  simp only at hl1
  have hA := below_alloc2 w (.cells #[.int .i64 n, .int .i64 id, .int .i64 te, .int .i64 vo, .slice ao lo.length cap, .int .i64 ro, .int .i64 co, .slice bo vs.length cap2, .slice no ns.length cap3, .slice ho hs.length cap4] 25) (.cells #[.int .i64 0, .int .i64 0, .int .i64 0, .int .i64 0, .slice none 0 0, .int .i64 0, .int .i64 0, .slice none 0 0, .slice none 0 0, .slice none 0 0] 25)
  have hB := Blk.at0of2 w (.cells #[.int .i64 0, .int .i64 0, .int .i64 0, .int .i64 0, .slice none 0 0, .int .i64 0, .int .i64 0, .slice none 0 0, .slice none 0 0, .slice none 0 0] 25) 25 #[.int .i64 n, .int .i64 id, .int .i64 te, .int .i64 vo, .slice ao lo.length cap, .int .i64 ro, .int .i64 co, .slice bo vs.length cap2, .slice no ns.length cap3, .slice ho hs.length cap4]
  have hR := Blk.at1 w (.cells #[.int .i64 n, .int .i64 id, .int .i64 te, .int .i64 vo, .slice ao lo.length cap, .int .i64 ro, .int .i64 co, .slice bo vs.length cap2, .slice no ns.length cap3, .slice ho hs.length cap4] 25) 25 #[.int .i64 0, .int .i64 0, .int .i64 0, .int .i64 0, .slice none 0 0, .int .i64 0, .int .i64 0, .slice none 0 0, .slice none 0 0, .slice none 0 0]
  have hs0 : w.heap.size + 2 = ((w.alloc (.cells #[.int .i64 n, .int .i64 id, .int .i64 te, .int .i64 vo, .slice ao lo.length cap, .int .i64 ro, .int .i64 co, .slice bo vs.length cap2, .slice no ns.length cap3, .slice ho hs.length cap4] 25)).alloc (.cells #[.int .i64 0, .int .i64 0, .int .i64 0, .int .i64 0, .slice none 0 0, .int .i64 0, .int .i64 0, .slice none 0 0, .slice none 0 0, .slice none 0 0] 25)).heap.size := by simp
  have HV1 := hide (h1.below hA)
  unfold ndV ndA Nd.follow
  go_enter Try.func46, Try.ntmps46
  generalize hA0 : ((w.alloc (.cells #[.int .i64 n, .int .i64 id, .int .i64 te, .int .i64 vo, .slice ao lo.length cap, .int .i64 ro, .int .i64 co, .slice bo vs.length cap2, .slice no ns.length cap3, .slice ho hs.length cap4] 25)).alloc (.cells #[.int .i64 0, .int .i64 0, .int .i64 0, .int .i64 0, .slice none 0 0, .int .i64 0, .int .i64 0, .slice none 0 0, .slice none 0 0, .slice none 0 0] 25)) = A0 at hA hB hR hs0 HV1
  have HA := hide hA
  have HB := hide hB
  have HR := hide hR
  have HC1 := hide (CopyLog_any _ lo A0.drew HV1.out.drew (by omega))
  have HDR := hide (show Below A0.heap.size A0 A0.drew from Below.drew (Below.refl _ _))
  have HS0 := hide hs0
  clear h1 h2 h3 h4 hA hB hR hs0
  go_upto_region 1 with fail
  try rw [hA0]
  clear hA0
  have HKEEP : Hid (∀ W, Below (w.heap.size + 1) A0 W → W.cell? ⟨w.heap.size, 0, none⟩ = some (.int .i64 n) ∧ W.cell? ⟨w.heap.size, 1, none⟩ = some (.int .i64 id) ∧ W.cell? ⟨w.heap.size, 2, none⟩ = some (.int .i64 te) ∧ W.cell? ⟨w.heap.size, 3, none⟩ = some (.int .i64 vo) ∧ W.cell? ⟨w.heap.size, 4, none⟩ = some (.slice ao lo.length cap) ∧ W.cell? ⟨w.heap.size, 6, none⟩ = some (.int .i64 co)) := hide (fun W hW => by
    have hb := HB.out.below hW (by omega)
    exact ⟨hb.cell 0, hb.cell 1, hb.cell 2, hb.cell 3, hb.cell 4, hb.cell 6⟩)
  have hlt : w.heap.size + 1 < A0.heap.size := by have := HS0.out; omega
  go_region_held3 (fun W => W.cell? ⟨w.heap.size, 0, none⟩ = some (.int .i64 n) ∧ W.cell? ⟨w.heap.size, 1, none⟩ = some (.int .i64 id) ∧ W.cell? ⟨w.heap.size, 2, none⟩ = some (.int .i64 te) ∧ W.cell? ⟨w.heap.size, 3, none⟩ = some (.int .i64 vo) ∧ W.cell? ⟨w.heap.size, 4, none⟩ = some (.slice ao lo.length cap) ∧ W.cell? ⟨w.heap.size, 6, none⟩ = some (.int .i64 co)) (first | exact k9 | exact HKEEP.out _ (by go_grown)) (first
    | (go_at_call 22; refine HC1.out.mono ?_; rintro e w9 ⟨v9, rfl, ho9, hb9⟩; obtain ⟨so9, sc9, hv9⟩ := owns_shapeK ho9; subst hv9; have hb8 := HDR.out.trans (hb9.mono HDR.out.size); have HR9 := hide (HR.out.later hb8); have hb7 := hb8.mono (show w.heap.size + 1 ≤ A0.heap.size by omega); have rb0 := HR9.out.cell 0; have rbz0 := HR9.out.frozen 0; have rb1 := HR9.out.cell 1; have rbz1 := HR9.out.frozen 1; have rb2 := HR9.out.cell 2; have rbz2 := HR9.out.frozen 2; have rb3 := HR9.out.cell 3; have rbz3 := HR9.out.frozen 3; have rb4 := HR9.out.cell 4; have rbz4 := HR9.out.frozen 4; have rb5 := HR9.out.cell 5; have rbz5 := HR9.out.frozen 5; have rb6 := HR9.out.cell 6; have rbz6 := HR9.out.frozen 6; have rb7 := HR9.out.cell 7; have rbz7 := HR9.out.frozen 7; have rb8 := HR9.out.cell 8; have rbz8 := HR9.out.frozen 8; have rb9 := HR9.out.cell 9; have rbz9 := HR9.out.frozen 9; have rbl := HR9.out.lt; simp at rb0 rb1 rb2 rb3 rb4 rb5 rb6 rb7 rb8 rb9; clear hb9))
  all_goals
    have hbk := setL_blk [.int .i64 n, .int .i64 id, .int .i64 te, .int .i64 vo, .slice so9 lo.length sc9, .int .i64 0, .int .i64 co, .slice none 0 0, .slice none 0 0, .slice none 0 0] w9 0 _ HR9.out rfl
    simp only [List.take_zero, List.nil_append] at hbk
    have hgr := setL_grown (w.heap.size + 1) [.int .i64 n, .int .i64 id, .int .i64 te, .int .i64 vo, .slice so9 lo.length sc9, .int .i64 0, .int .i64 co, .slice none 0 0, .slice none 0 0, .slice none 0 0] w9 0
    have hAn2 := owns_offB ho9 hgr (by have := HS0.out; simp only [World.drew]; show w.heap.size + 1 < A0.heap.size; omega)
    have hbb := below_grownO (HA.out.trans (hb8.mono HA.out.size)) hgr (fun k hk => by cases hk; omega) (HA.out.trans (hb8.mono HA.out.size)).size
    have HR8 := hide hbk
    have HN8 := hide hAn2
    have HB8 := hide hbb
    simp only [setL] at HR8 HN8 HB8
    clear hbk hgr hAn2 hbb rb0 rbz0 rb1 rbz1 rb2 rbz2 rb3 rbz3 rb4 rbz4 rb5 rbz5 rb6 rbz6 rb7 rbz7 rb8 rbz8 rb9 rbz9 rbl ho9 hb8 hb7
    generalize ((((((((((w9.setCell ⟨w.heap.size + 1, 0, none⟩ (.int .i64 n)).setCell ⟨w.heap.size + 1, 1, none⟩ (.int .i64 id)).setCell ⟨w.heap.size + 1, 2, none⟩ (.int .i64 te)).setCell ⟨w.heap.size + 1, 3, none⟩ (.int .i64 vo)).setCell ⟨w.heap.size + 1, 4, none⟩ (.slice so9 lo.length sc9)).setCell ⟨w.heap.size + 1, 5, none⟩ (.int .i64 0)).setCell ⟨w.heap.size + 1, 6, none⟩ (.int .i64 co)).setCell ⟨w.heap.size + 1, 7, none⟩ (.slice none 0 0)).setCell ⟨w.heap.size + 1, 8, none⟩ (.slice none 0 0)).setCell ⟨w.heap.size + 1, 9, none⟩ (.slice none 0 0)) = wz at HR8 HN8 HB8 ⊢
    go_wp2_with fail
    refine bodyPost_ret (results1_cell Try.results46 rfl (run_loadVar_blk HR8.out Try.underlying25 rfl Try.sizeNode)) rfl ?_
    exact ⟨_, rfl, owns_baseR HN8.out (show w.heap.size ≤ A0.heap.size by have := HS0.out; omega), HB8.out⟩

set_option maxRecDepth 100000 in
set_option maxHeartbeats 8000000 in
theorem Counted_any (x : Nd) (lv vv nv hv : Value) (w : World) (hx : RdNd w x lv vv nv hv) (hn0 : 0 ≤ x.n) (hn7 : x.n ≤ 1000) (hll : x.log.length ≤ 1000) (hhl : x.hav.length ≤ 1000) (hc0 : 0 ≤ x.com) (hcl : x.com ≤ x.log.length) :
    Calls Try.prog 48 #[ndV x lv vv nv hv] w fun e w' => e = .returned (ndV x.count lv vv nv hv) ∧ Below w.heap.size w w' := by
  have HCN : Hid (x.count = { x with com := coGo x x.log.length }) := hide rfl
  have HL0 := hide (fun k => coGo_le (x := x) (k := k))
  have HY := hide (fun k => coGo_yes (x := x) (k := k))
  have HN := hide (fun k => coGo_no (x := x) (k := k))
  obtain ⟨X, hX⟩ : ∃ X, X = x := ⟨_, rfl⟩
  rw [← hX] at HCN HL0 HY HN ⊢
  obtain ⟨n, id, te, vo, lo, ro, co, vs, ns, hs⟩ := x
  obtain ⟨h1, h2, h3, h4⟩ := hx
  simp only at h1 h2 h3 h4
  obtain ⟨ao, cap, rfl, hc1, hc2⟩ := h1.shape
  obtain ⟨bo, cap2, rfl, hd1, hd2⟩ := h2.shape
  obtain ⟨no, cap3, rfl, _, _⟩ := h3.shape
  obtain ⟨ho, cap4, rfl, _, _⟩ := h4.shape
  simp only at hn0 hn7 hll hhl hc0 hcl
  have HXE := hide hX
  have hx1 : X.log = lo := by rw [hX]
  have hx2 : X.com = co := by rw [hX]
  have hx3 : X.term = te := by rw [hX]
  have hx4 : X.hav = hs := by rw [hX]
  have hx5 : X.n = n := by rw [hX]
  simp only [hx1, hx2, hx3, hx4, hx5] at HL0 HY HN
  have HVH := hide h4
  have HVL := hide h1
  have hA := below_alloc2 w (.cells #[.int .i64 n, .int .i64 id, .int .i64 te, .int .i64 vo, .slice ao lo.length cap, .int .i64 ro, .int .i64 co, .slice bo vs.length cap2, .slice no ns.length cap3, .slice ho hs.length cap4] 25) (.cells #[.int .i64 0, .int .i64 0, .int .i64 0, .int .i64 0, .slice none 0 0, .int .i64 0, .int .i64 0, .slice none 0 0, .slice none 0 0, .slice none 0 0] 25)
  have HB := hide (Blk.at0of2 w (.cells #[.int .i64 0, .int .i64 0, .int .i64 0, .int .i64 0, .slice none 0 0, .int .i64 0, .int .i64 0, .slice none 0 0, .slice none 0 0, .slice none 0 0] 25) 25 #[.int .i64 n, .int .i64 id, .int .i64 te, .int .i64 vo, .slice ao lo.length cap, .int .i64 ro, .int .i64 co, .slice bo vs.length cap2, .slice no ns.length cap3, .slice ho hs.length cap4])
  have HR := hide (Blk.at1 w (.cells #[.int .i64 n, .int .i64 id, .int .i64 te, .int .i64 vo, .slice ao lo.length cap, .int .i64 ro, .int .i64 co, .slice bo vs.length cap2, .slice no ns.length cap3, .slice ho hs.length cap4] 25) 25 #[.int .i64 0, .int .i64 0, .int .i64 0, .int .i64 0, .slice none 0 0, .int .i64 0, .int .i64 0, .slice none 0 0, .slice none 0 0, .slice none 0 0])
  have HS0 := hide (show w.heap.size + 2 = ((w.alloc (.cells #[.int .i64 n, .int .i64 id, .int .i64 te, .int .i64 vo, .slice ao lo.length cap, .int .i64 ro, .int .i64 co, .slice bo vs.length cap2, .slice no ns.length cap3, .slice ho hs.length cap4] 25)).alloc (.cells #[.int .i64 0, .int .i64 0, .int .i64 0, .int .i64 0, .slice none 0 0, .int .i64 0, .int .i64 0, .slice none 0 0, .slice none 0 0, .slice none 0 0] 25)).heap.size by simp)
  have HA := hide hA
  have HEV := hide (show ndV X (.slice ao lo.length cap) (.slice bo vs.length cap2) (.slice no ns.length cap3) (.slice ho hs.length cap4) = .agg #[.int .i64 n, .int .i64 id, .int .i64 te, .int .i64 vo, .slice ao lo.length cap, .int .i64 ro, .int .i64 co, .slice bo vs.length cap2, .slice no ns.length cap3, .slice ho hs.length cap4] by rw [hX]; rfl)
  have HEW := hide (show ∀ c : Int, ndV { X with com := c } (.slice ao lo.length cap) (.slice bo vs.length cap2) (.slice no ns.length cap3) (.slice ho hs.length cap4) = .agg #[.int .i64 n, .int .i64 id, .int .i64 te, .int .i64 vo, .slice ao lo.length cap, .int .i64 ro, .int .i64 c, .slice bo vs.length cap2, .slice no ns.length cap3, .slice ho hs.length cap4] by intro c; rw [hX]; rfl)
  rw [HEV.out]
  clear h1 h2 h3 h4 hA hX hx1 hx2 hx3 hx4 hx5
  obtain ⟨C, hC⟩ : ∃ C : Nat, co = C := ⟨co.toNat, by omega⟩
  have hw0 : IntKind.i64.wrap (co + 1) = ((C + 1 : Nat) : Int) := by rw [IntKind.wrap_i64]; omega
  have HCC := hide hC
  clear hC
  go_enter Try.func48, Try.ntmps48
  generalize hA0 : ((w.alloc (.cells #[.int .i64 n, .int .i64 id, .int .i64 te, .int .i64 vo, .slice ao lo.length cap, .int .i64 ro, .int .i64 co, .slice bo vs.length cap2, .slice no ns.length cap3, .slice ho hs.length cap4] 25)).alloc (.cells #[.int .i64 0, .int .i64 0, .int .i64 0, .int .i64 0, .slice none 0 0, .int .i64 0, .int .i64 0, .slice none 0 0, .slice none 0 0, .slice none 0 0] 25)) = A0 at HB HR HS0 HA
  go_upto_region 1 with fail
  try rw [hA0]
  clear hA0
  have b6 := HB.out.cell 6
  have bl := HB.out.lt
  simp at b6
  go_wp2_with fail
  go_loopw [3, 4] (fun bv kv wr => ∃ k : Nat, C ≤ k ∧ k ≤ lo.length ∧ kv = .int .i64 ((k + 1 : Nat) : Int) ∧ bv = .int .i64 (coGo X k) ∧ Below A0.heap.size A0 wr)
    (fun _ kv _ => lo.length + 1 - (intOf kv).toNat)
  case atStart => exact ⟨C, Nat.le_refl _, by have := HCC.out; omega, rfl, by rw [HL0.out C (by have := HCC.out; omega)], Below.refl _ _⟩
  case round =>
    obtain ⟨k, hk1, hk2, rfl, rfl, hbr⟩ := hrel
    have HBR := hide hbr
    have HBr := hide (HB.out.later hbr)
    have HRr := hide (HR.out.later hbr)
    have HAr := hide (HA.out.trans (hbr.mono HA.out.size))
    have d0 := HBr.out.cell 0
    have d2 := HBr.out.cell 2
    have d4 := HBr.out.cell 4
    have d9 := HBr.out.cell 9
    have dl := HBr.out.lt
    simp at d0 d2 d4 d9
    clear hbr b6
    obtain ⟨P, hP⟩ : ∃ P : Int, P = ((k + 1 : Nat) : Int) := ⟨_, rfl⟩
    rw [← hP]
    have HPP := hide hP
    generalize hBS : coGo X k = BS at *
    have HBS := hide hBS
    clear hBS
    by_cases hlt : k < lo.length
    · have hd : decide (P ≤ (lo.length : Int)) = true := decide_eq_true (by omega)
      clear hP
      obtain ⟨wo, hwo⟩ : ∃ wo, wo = wr := ⟨_, rfl⟩
      subst hwo
      go_wp2_with fail
      go_loopw [5, 6] (fun mv iv ws => ∃ i : Nat, i ≤ hs.length ∧ mv = .int .i64 (havN (hs.take i) P) ∧ iv = .int .i64 i ∧ Below A0.heap.size A0 ws)
        (fun _ iv _ => hs.length - (intOf iv).toNat)
      case atStart => exact ⟨0, by omega, rfl, rfl, HBR.out⟩
      case round =>
        obtain ⟨i, hi, rfl, rfl, hbs⟩ := hrel
        have HBS2 := hide hbs
        have HBs := hide (HB.out.later hbs)
        have HAs := hide (HA.out.trans (hbs.mono HA.out.size))
        have s0 := HBs.out.cell 0
        have s2 := HBs.out.cell 2
        have s4 := HBs.out.cell 4
        have s9 := HBs.out.cell 9
        have sl := HBs.out.lt
        simp at s0 s2 s4 s9
        clear hbs d0 d2 d4 d9 dl
        by_cases hil : i < hs.length
        · obtain ⟨y, hy⟩ : ∃ c, hs[i]? = some c := ⟨_, List.getElem?_eq_getElem hil⟩
          obtain ⟨b, off, rfl, hb, q⟩ := (HVH.out.below HAs.out).hereI hy
          have hj1 : (0 : Int) ≤ (i : Int) := by omega
          have hj2 : (i : Int) < (hs.length : Int) := by omega
          have HT := hide (show hs.take (i + 1) = hs.take i ++ [y] by rw [List.take_add_one, hy]; rfl)
          have hle : havN (hs.take i) P ≤ i := by
            unfold havN
            exact Nat.le_trans List.countP_le_length (by simp; omega)
          have HNN : Hid (havN (hs.take (i + 1)) P = havN (hs.take i) P + if P ≤ y then 1 else 0) := hide (by
            rw [HT.out]; unfold havN; rw [List.countP_append]; simp [List.countP_cons])
          generalize havN (hs.take i) P = Kk at *
          clear hy
          by_cases hp : P ≤ y
          · have HN2 := hide (HNN.out.trans (by rw [if_pos hp]))
            go_wp2_with fail
            go_roundw
            case rel => exact ⟨i + 1, by omega, by rw [HN2.out]; go_num, by go_num, HBS2.out⟩
            case measure => simp [intOf]; omega
          · have HN2 := hide (HNN.out.trans (by rw [if_neg hp]))
            go_wp2_with fail
            go_roundw
            case rel => exact ⟨i + 1, by omega, by rw [HN2.out]; rfl, by go_num, HBS2.out⟩
            case measure => simp [intOf]; omega
        · have hie : i = hs.length := by omega
          subst hie
          rw [List.take_length]
          obtain ⟨e, he⟩ : ∃ c, lo[k]? = some c := ⟨_, List.getElem?_eq_getElem hlt⟩
          have HTP := hide (show termP lo (k + 1) = e.term by rw [termP, he]; rfl)
          obtain ⟨b, off, rfl, hb, hat⟩ := (HVL.out.below HAs.out).here he
          obtain ⟨q0, q1⟩ := hat.ent
          have hj1 : (0 : Int) ≤ (k : Int) := by omega
          have hj2 : (k : Int) < (lo.length : Int) := by omega
          have hwk : IntKind.i64.wrap (P - 1) = (k : Int) := by rw [HPP.out, IntKind.wrap_i64]; omega
          have hwn : IntKind.i64.wrap (P + 1) = ((k + 1 + 1 : Nat) : Int) := by rw [HPP.out, IntKind.wrap_i64]; omega
          have HYk := hide (HY.out k)
          have HNk := hide (HN.out k)
          rw [← HPP.out, HTP.out] at HYk HNk
          have HLT := hide (show co < P by have := HPP.out; have := HCC.out; omega)
          obtain ⟨et, ex⟩ := e
          simp only at q0 q1 HYk HNk
          generalize hKk : havN hs P = Kk at *
          have HMJ := hide (fun m => Majority_any Kk n (wr.drewN m) hn0 hn7)
          clear he hat hKk
          by_cases ht : et = te
          · have ht2 : (et == te) = true := beq_iff_eq.2 ht
            cases hmo : mostB Kk n
            · have HE2 := hide (HNk.out HLT.out (by rw [hmo]; simp))
              have HM := hide hmo
              clear ht hmo
              go_wp2_with fail
              go_quiet (first | (go_at_call 45; exact Calls.quiet_of_same (HMJ.out _)))
              rw [HM.out]
              go_wp2_with fail
              go_roundw
              case rel => exact ⟨k + 1, by omega, by omega, by first | rfl | go_num, by rw [HE2.out, HBS.out], below_drewN HBS2.out _⟩
              case measure => simp [intOf]; have := HPP.out; omega
            · have HE2 := hide (HYk.out HLT.out ht hmo)
              have HM := hide hmo
              clear ht hmo
              go_wp2_with fail
              go_quiet (first | (go_at_call 45; exact Calls.quiet_of_same (HMJ.out _)))
              rw [HM.out]
              go_wp2_with fail
              go_roundw
              case rel => exact ⟨k + 1, by omega, by omega, by first | rfl | go_num, by rw [HE2.out], below_drewN HBS2.out _⟩
              case measure => simp [intOf]; have := HPP.out; omega
          · have ht2 : (et == te) = false := beq_eq_false_iff_ne.2 ht
            have HE2 := hide (HNk.out HLT.out (fun q => ht q.1))
            clear ht
            go_wp2_with fail
            go_quiet (fail)
            go_wp2_with fail
            go_roundw
            case rel => exact ⟨k + 1, by omega, by omega, by first | rfl | go_num, by rw [HE2.out, HBS.out], below_drewN HBS2.out _⟩
            case measure => simp [intOf]; have := HPP.out; omega
    · have hd : decide (P ≤ (lo.length : Int)) = false := decide_eq_false (by omega)
      obtain rfl : k = lo.length := by omega
      have HFI := hide (show X.count = { X with com := BS } by rw [HCN.out, show X.log.length = lo.length by rw [HXE.out], HBS.out])
      clear hP d0 d2 d9
      go_wp2_with (first
        | (refine wpList_store_int (k := 6) rfl rfl rfl rfl HBr.out rfl Try.sizeIntR ?_; intro w6 hB6 hg6; have HB6 := hide hB6; have HR6 := hide (HRr.out.grown hg6 (by simp)); have HA6 := hide (below_grownO HAr.out hg6 (fun k hk => by cases hk; omega) HAr.out.size); clear hB6 hg6)
        | (refine wpList_load_blk HB6.out Try.underlying25 rfl Try.sizeNode rfl rfl rfl ?_)
        | (refine wpList_store_blk rfl rfl rfl rfl HR6.out rfl Try.sizeNode rfl ?_; intro w9 hR9 hg9; have HR9 := hide hR9; have HG9 := hide hg9; clear hR9 hg9))
      refine bodyPost_ret (results1_cell Try.results48 rfl (run_loadVar_blk HR9.out Try.underlying25 rfl Try.sizeNode)) rfl ?_
      refine ⟨?_, below_grownO HA6.out HG9.out (fun k hk => by cases hk; omega) HA6.out.size⟩
      rw [HFI.out, HEW.out]
      rfl

end Go.Proofs.Ytbffmdhogehfnaa

/-
  The walks over the document's Has, Majority and NodeFault. (Written by rr3.py.)
-/
namespace Go.Proofs.Ytbffmdhogehfnaa
open Go.RowKit Go.Maps
set_option linter.unusedVariables false

set_option maxRecDepth 100000 in
set_option maxHeartbeats 16000000 in
theorem NodeFault_bad (x : Nd) (lv vv nv hv : Value) (w : World) (hx : RdNd w x lv vv nv hv) (hbad : (nmF x).1 ≠ 0) :
    Calls Try.prog 15 #[ndV x lv vv nv hv] w fun e w' => e = .returned (flt (chkN x)) ∧ Below w.heap.size w w' := by
  have HX := hide hx
  obtain ⟨n, id, te, vo, lo, ro, co, vs, ns, hs⟩ := x
  obtain ⟨h1, h2, h3, h4⟩ := hx
  simp only at h1 h2 h3 h4
  obtain ⟨ao, cap, rfl, hc1, hc2⟩ := h1.shape
  obtain ⟨bo, cap2, rfl, hd1, hd2⟩ := h2.shape
  obtain ⟨no, cap3, rfl, _, _⟩ := h3.shape
  obtain ⟨ho, cap4, rfl, _, _⟩ := h4.shape
  have hA := below_alloc2 w (.cells #[.int .i64 n, .int .i64 id, .int .i64 te, .int .i64 vo, .slice ao lo.length cap, .int .i64 ro, .int .i64 co, .slice bo vs.length cap2, .slice no ns.length cap3, .slice ho hs.length cap4] 25) (.cells #[.int .i64 0, .int .i64 0] 30)
  have HB0 := hide (Blk.at0of2 w (.cells #[.int .i64 0, .int .i64 0] 30) 25 #[.int .i64 n, .int .i64 id, .int .i64 te, .int .i64 vo, .slice ao lo.length cap, .int .i64 ro, .int .i64 co, .slice bo vs.length cap2, .slice no ns.length cap3, .slice ho hs.length cap4])
  have HR0 := hide (Blk.at1 w (.cells #[.int .i64 n, .int .i64 id, .int .i64 te, .int .i64 vo, .slice ao lo.length cap, .int .i64 ro, .int .i64 co, .slice bo vs.length cap2, .slice no ns.length cap3, .slice ho hs.length cap4] 25) 30 #[.int .i64 0, .int .i64 0])
  have HA0 := hide hA
  have HLF := hide (LogFault_any _ lo _ (h1.below hA))
  have HLT := hide (fun W (hW : Below w.heap.size w W) => LastTerm_any _ lo W (h1.below hW))
  have HH2 := hide (fun W (hW : Below w.heap.size w W) => h2.below hW)
  have HH3 := hide (fun W (hW : Below w.heap.size w W) => h3.below hW)
  have HH4 := hide (fun W (hW : Below w.heap.size w W) => h4.below hW)
  have HNM : Hid (nmF ⟨n, id, te, vo, lo, ro, co, vs, ns, hs⟩ = if wiB n 1 7 = false ∨ wiB id 0 (n - 1) = false then (3, -1) else if numL te = false ∨ wiB vo 0 n = false ∨ wiB ro 0 2 = false ∨ wiB co 0 lo.length = false then (3, -2) else (0, 0)) := hide rfl
  have HLG : Hid (lgF ⟨n, id, te, vo, lo, ro, co, vs, ns, hs⟩ = if (chkE lo).1 ≠ 0 then chkE lo else if te < lastT lo then (11, -3) else (0, 0)) := hide rfl
  have HCK : Hid (chkN ⟨n, id, te, vo, lo, ro, co, vs, ns, hs⟩ = if (nmF ⟨n, id, te, vo, lo, ro, co, vs, ns, hs⟩).1 ≠ 0 then nmF ⟨n, id, te, vo, lo, ro, co, vs, ns, hs⟩ else if (lgF ⟨n, id, te, vo, lo, ro, co, vs, ns, hs⟩).1 ≠ 0 then lgF ⟨n, id, te, vo, lo, ro, co, vs, ns, hs⟩ else if votesB ⟨n, id, te, vo, lo, ro, co, vs, ns, hs⟩ = false ∨ knownB ⟨n, id, te, vo, lo, ro, co, vs, ns, hs⟩ = false then (5, -3) else (0, 0)) := hide rfl
  have HZE := hide (chkE_z lo)
  unfold maxLen at hd2 hc2
  clear h1 h2 h3 h4 hA
  unfold ndV ndA
  by_cases c0 : n < 1
  · have HE := hide (show chkN ⟨n, id, te, vo, lo, ro, co, vs, ns, hs⟩ = (3, -1) by rw [HCK.out, show nmF ⟨n, id, te, vo, lo, ro, co, vs, ns, hs⟩ = (3, -1) by rw [HNM.out, if_pos (by simp only [wiB_false]; omega)], if_pos (by simp)])
    have e0 : decide (n < 1) = true := decide_eq_true c0
    go_enter Try.func15, Try.ntmps15
    go_wp2_with (first
      | (go_at_call 41; refine (lNum_any te _).mono ?_; skip; rintro e w1 ⟨rfl, rfl⟩)
      | (go_at_call 40; refine (lF_any _ _ _).mono ?_; rintro e w1 ⟨rfl, hb1⟩; have HR := hide (HR0.out.later hb1); have HBW := hide (HA0.out.trans (hb1.mono HA0.out.size)); clear hb1; unfold flt)
      | (refine wpList_store_blk rfl rfl rfl rfl HR.out rfl Try.sizeFaultR rfl ?_; intro w8 hR8 hg8; have HR8 := hide hR8; have HG8 := hide hg8; clear hR8 hg8))
    refine bodyPost_ret (results1_cell Try.results15 rfl (run_loadVar_blk HR8.out Try.underlying30 rfl Try.sizeFaultR)) rfl ?_
    exact ⟨by rw [HE.out] <;> rfl, below_grownO HBW.out HG8.out (fun k hk => by cases hk; omega) HBW.out.size⟩
  have e0 : decide (n < 1) = false := decide_eq_false c0
  by_cases c1 : 7 < n
  · have HE := hide (show chkN ⟨n, id, te, vo, lo, ro, co, vs, ns, hs⟩ = (3, -1) by rw [HCK.out, show nmF ⟨n, id, te, vo, lo, ro, co, vs, ns, hs⟩ = (3, -1) by rw [HNM.out, if_pos (by simp only [wiB_false]; omega)], if_pos (by simp)])
    have e1 : decide (7 < n) = true := decide_eq_true c1
    go_enter Try.func15, Try.ntmps15
    go_wp2_with (first
      | (go_at_call 41; refine (lNum_any te _).mono ?_; skip; rintro e w1 ⟨rfl, rfl⟩)
      | (go_at_call 40; refine (lF_any _ _ _).mono ?_; rintro e w1 ⟨rfl, hb1⟩; have HR := hide (HR0.out.later hb1); have HBW := hide (HA0.out.trans (hb1.mono HA0.out.size)); clear hb1; unfold flt)
      | (refine wpList_store_blk rfl rfl rfl rfl HR.out rfl Try.sizeFaultR rfl ?_; intro w8 hR8 hg8; have HR8 := hide hR8; have HG8 := hide hg8; clear hR8 hg8))
    refine bodyPost_ret (results1_cell Try.results15 rfl (run_loadVar_blk HR8.out Try.underlying30 rfl Try.sizeFaultR)) rfl ?_
    exact ⟨by rw [HE.out] <;> rfl, below_grownO HBW.out HG8.out (fun k hk => by cases hk; omega) HBW.out.size⟩
  have e1 : decide (7 < n) = false := decide_eq_false c1
  by_cases c2 : id < 0
  · have HE := hide (show chkN ⟨n, id, te, vo, lo, ro, co, vs, ns, hs⟩ = (3, -1) by rw [HCK.out, show nmF ⟨n, id, te, vo, lo, ro, co, vs, ns, hs⟩ = (3, -1) by rw [HNM.out, if_pos (by simp only [wiB_false]; omega)], if_pos (by simp)])
    have e2 : decide (id < 0) = true := decide_eq_true c2
    go_enter Try.func15, Try.ntmps15
    go_wp2_with (first
      | (go_at_call 41; refine (lNum_any te _).mono ?_; skip; rintro e w1 ⟨rfl, rfl⟩)
      | (go_at_call 40; refine (lF_any _ _ _).mono ?_; rintro e w1 ⟨rfl, hb1⟩; have HR := hide (HR0.out.later hb1); have HBW := hide (HA0.out.trans (hb1.mono HA0.out.size)); clear hb1; unfold flt)
      | (refine wpList_store_blk rfl rfl rfl rfl HR.out rfl Try.sizeFaultR rfl ?_; intro w8 hR8 hg8; have HR8 := hide hR8; have HG8 := hide hg8; clear hR8 hg8))
    refine bodyPost_ret (results1_cell Try.results15 rfl (run_loadVar_blk HR8.out Try.underlying30 rfl Try.sizeFaultR)) rfl ?_
    exact ⟨by rw [HE.out] <;> rfl, below_grownO HBW.out HG8.out (fun k hk => by cases hk; omega) HBW.out.size⟩
  have e2 : decide (id < 0) = false := decide_eq_false c2
  by_cases c3 : n ≤ id
  · have HE := hide (show chkN ⟨n, id, te, vo, lo, ro, co, vs, ns, hs⟩ = (3, -1) by rw [HCK.out, show nmF ⟨n, id, te, vo, lo, ro, co, vs, ns, hs⟩ = (3, -1) by rw [HNM.out, if_pos (by simp only [wiB_false]; omega)], if_pos (by simp)])
    have e3 : decide (n ≤ id) = true := decide_eq_true c3
    go_enter Try.func15, Try.ntmps15
    go_wp2_with (first
      | (go_at_call 41; refine (lNum_any te _).mono ?_; skip; rintro e w1 ⟨rfl, rfl⟩)
      | (go_at_call 40; refine (lF_any _ _ _).mono ?_; rintro e w1 ⟨rfl, hb1⟩; have HR := hide (HR0.out.later hb1); have HBW := hide (HA0.out.trans (hb1.mono HA0.out.size)); clear hb1; unfold flt)
      | (refine wpList_store_blk rfl rfl rfl rfl HR.out rfl Try.sizeFaultR rfl ?_; intro w8 hR8 hg8; have HR8 := hide hR8; have HG8 := hide hg8; clear hR8 hg8))
    refine bodyPost_ret (results1_cell Try.results15 rfl (run_loadVar_blk HR8.out Try.underlying30 rfl Try.sizeFaultR)) rfl ?_
    exact ⟨by rw [HE.out] <;> rfl, below_grownO HBW.out HG8.out (fun k hk => by cases hk; omega) HBW.out.size⟩
  have e3 : decide (n ≤ id) = false := decide_eq_false c3
  cases hnum : numL te
  · have HE := hide (show chkN ⟨n, id, te, vo, lo, ro, co, vs, ns, hs⟩ = (3, -2) by rw [HCK.out, show nmF ⟨n, id, te, vo, lo, ro, co, vs, ns, hs⟩ = (3, -2) by rw [HNM.out, if_neg (by simp only [not_or, Bool.not_eq_false, wiB_true]; omega), if_pos (.inl hnum)], if_pos (by simp)])
    have AN := hide hnum
    clear hnum
    go_enter Try.func15, Try.ntmps15
    go_wp2_with (first
      | (go_at_call 41; refine (lNum_any te _).mono ?_; rw [AN.out]; rintro e w1 ⟨rfl, rfl⟩)
      | (go_at_call 40; refine (lF_any _ _ _).mono ?_; rintro e w1 ⟨rfl, hb1⟩; have HR := hide (HR0.out.later hb1); have HBW := hide (HA0.out.trans (hb1.mono HA0.out.size)); clear hb1; unfold flt)
      | (refine wpList_store_blk rfl rfl rfl rfl HR.out rfl Try.sizeFaultR rfl ?_; intro w8 hR8 hg8; have HR8 := hide hR8; have HG8 := hide hg8; clear hR8 hg8))
    refine bodyPost_ret (results1_cell Try.results15 rfl (run_loadVar_blk HR8.out Try.underlying30 rfl Try.sizeFaultR)) rfl ?_
    exact ⟨by rw [HE.out] <;> rfl, below_grownO HBW.out HG8.out (fun k hk => by cases hk; omega) HBW.out.size⟩
  have AN := hide hnum
  by_cases c5 : vo < 0
  · have HE := hide (show chkN ⟨n, id, te, vo, lo, ro, co, vs, ns, hs⟩ = (3, -2) by rw [HCK.out, show nmF ⟨n, id, te, vo, lo, ro, co, vs, ns, hs⟩ = (3, -2) by rw [HNM.out, if_neg (by simp only [not_or, Bool.not_eq_false, wiB_true]; omega), if_pos (by simp only [wiB_false]; omega)], if_pos (by simp)])
    have e5 : decide (vo < 0) = true := decide_eq_true c5
    go_enter Try.func15, Try.ntmps15
    go_wp2_with (first
      | (go_at_call 41; refine (lNum_any te _).mono ?_; rw [AN.out]; rintro e w1 ⟨rfl, rfl⟩)
      | (go_at_call 40; refine (lF_any _ _ _).mono ?_; rintro e w1 ⟨rfl, hb1⟩; have HR := hide (HR0.out.later hb1); have HBW := hide (HA0.out.trans (hb1.mono HA0.out.size)); clear hb1; unfold flt)
      | (refine wpList_store_blk rfl rfl rfl rfl HR.out rfl Try.sizeFaultR rfl ?_; intro w8 hR8 hg8; have HR8 := hide hR8; have HG8 := hide hg8; clear hR8 hg8))
    refine bodyPost_ret (results1_cell Try.results15 rfl (run_loadVar_blk HR8.out Try.underlying30 rfl Try.sizeFaultR)) rfl ?_
    exact ⟨by rw [HE.out] <;> rfl, below_grownO HBW.out HG8.out (fun k hk => by cases hk; omega) HBW.out.size⟩
  have e5 : decide (vo < 0) = false := decide_eq_false c5
  by_cases c6 : n < vo
  · have HE := hide (show chkN ⟨n, id, te, vo, lo, ro, co, vs, ns, hs⟩ = (3, -2) by rw [HCK.out, show nmF ⟨n, id, te, vo, lo, ro, co, vs, ns, hs⟩ = (3, -2) by rw [HNM.out, if_neg (by simp only [not_or, Bool.not_eq_false, wiB_true]; omega), if_pos (by simp only [wiB_false]; omega)], if_pos (by simp)])
    have e6 : decide (n < vo) = true := decide_eq_true c6
    go_enter Try.func15, Try.ntmps15
    go_wp2_with (first
      | (go_at_call 41; refine (lNum_any te _).mono ?_; rw [AN.out]; rintro e w1 ⟨rfl, rfl⟩)
      | (go_at_call 40; refine (lF_any _ _ _).mono ?_; rintro e w1 ⟨rfl, hb1⟩; have HR := hide (HR0.out.later hb1); have HBW := hide (HA0.out.trans (hb1.mono HA0.out.size)); clear hb1; unfold flt)
      | (refine wpList_store_blk rfl rfl rfl rfl HR.out rfl Try.sizeFaultR rfl ?_; intro w8 hR8 hg8; have HR8 := hide hR8; have HG8 := hide hg8; clear hR8 hg8))
    refine bodyPost_ret (results1_cell Try.results15 rfl (run_loadVar_blk HR8.out Try.underlying30 rfl Try.sizeFaultR)) rfl ?_
    exact ⟨by rw [HE.out] <;> rfl, below_grownO HBW.out HG8.out (fun k hk => by cases hk; omega) HBW.out.size⟩
  have e6 : decide (n < vo) = false := decide_eq_false c6
  by_cases c7 : ro < 0
  · have HE := hide (show chkN ⟨n, id, te, vo, lo, ro, co, vs, ns, hs⟩ = (3, -2) by rw [HCK.out, show nmF ⟨n, id, te, vo, lo, ro, co, vs, ns, hs⟩ = (3, -2) by rw [HNM.out, if_neg (by simp only [not_or, Bool.not_eq_false, wiB_true]; omega), if_pos (by simp only [wiB_false]; omega)], if_pos (by simp)])
    have e7 : decide (ro < 0) = true := decide_eq_true c7
    go_enter Try.func15, Try.ntmps15
    go_wp2_with (first
      | (go_at_call 41; refine (lNum_any te _).mono ?_; rw [AN.out]; rintro e w1 ⟨rfl, rfl⟩)
      | (go_at_call 40; refine (lF_any _ _ _).mono ?_; rintro e w1 ⟨rfl, hb1⟩; have HR := hide (HR0.out.later hb1); have HBW := hide (HA0.out.trans (hb1.mono HA0.out.size)); clear hb1; unfold flt)
      | (refine wpList_store_blk rfl rfl rfl rfl HR.out rfl Try.sizeFaultR rfl ?_; intro w8 hR8 hg8; have HR8 := hide hR8; have HG8 := hide hg8; clear hR8 hg8))
    refine bodyPost_ret (results1_cell Try.results15 rfl (run_loadVar_blk HR8.out Try.underlying30 rfl Try.sizeFaultR)) rfl ?_
    exact ⟨by rw [HE.out] <;> rfl, below_grownO HBW.out HG8.out (fun k hk => by cases hk; omega) HBW.out.size⟩
  have e7 : decide (ro < 0) = false := decide_eq_false c7
  by_cases c8 : 2 < ro
  · have HE := hide (show chkN ⟨n, id, te, vo, lo, ro, co, vs, ns, hs⟩ = (3, -2) by rw [HCK.out, show nmF ⟨n, id, te, vo, lo, ro, co, vs, ns, hs⟩ = (3, -2) by rw [HNM.out, if_neg (by simp only [not_or, Bool.not_eq_false, wiB_true]; omega), if_pos (by simp only [wiB_false]; omega)], if_pos (by simp)])
    have e8 : decide (2 < ro) = true := decide_eq_true c8
    go_enter Try.func15, Try.ntmps15
    go_wp2_with (first
      | (go_at_call 41; refine (lNum_any te _).mono ?_; rw [AN.out]; rintro e w1 ⟨rfl, rfl⟩)
      | (go_at_call 40; refine (lF_any _ _ _).mono ?_; rintro e w1 ⟨rfl, hb1⟩; have HR := hide (HR0.out.later hb1); have HBW := hide (HA0.out.trans (hb1.mono HA0.out.size)); clear hb1; unfold flt)
      | (refine wpList_store_blk rfl rfl rfl rfl HR.out rfl Try.sizeFaultR rfl ?_; intro w8 hR8 hg8; have HR8 := hide hR8; have HG8 := hide hg8; clear hR8 hg8))
    refine bodyPost_ret (results1_cell Try.results15 rfl (run_loadVar_blk HR8.out Try.underlying30 rfl Try.sizeFaultR)) rfl ?_
    exact ⟨by rw [HE.out] <;> rfl, below_grownO HBW.out HG8.out (fun k hk => by cases hk; omega) HBW.out.size⟩
  have e8 : decide (2 < ro) = false := decide_eq_false c8
  by_cases c9 : co < 0
  · have HE := hide (show chkN ⟨n, id, te, vo, lo, ro, co, vs, ns, hs⟩ = (3, -2) by rw [HCK.out, show nmF ⟨n, id, te, vo, lo, ro, co, vs, ns, hs⟩ = (3, -2) by rw [HNM.out, if_neg (by simp only [not_or, Bool.not_eq_false, wiB_true]; omega), if_pos (by simp only [wiB_false]; omega)], if_pos (by simp)])
    have e9 : decide (co < 0) = true := decide_eq_true c9
    go_enter Try.func15, Try.ntmps15
    go_wp2_with (first
      | (go_at_call 41; refine (lNum_any te _).mono ?_; rw [AN.out]; rintro e w1 ⟨rfl, rfl⟩)
      | (go_at_call 40; refine (lF_any _ _ _).mono ?_; rintro e w1 ⟨rfl, hb1⟩; have HR := hide (HR0.out.later hb1); have HBW := hide (HA0.out.trans (hb1.mono HA0.out.size)); clear hb1; unfold flt)
      | (refine wpList_store_blk rfl rfl rfl rfl HR.out rfl Try.sizeFaultR rfl ?_; intro w8 hR8 hg8; have HR8 := hide hR8; have HG8 := hide hg8; clear hR8 hg8))
    refine bodyPost_ret (results1_cell Try.results15 rfl (run_loadVar_blk HR8.out Try.underlying30 rfl Try.sizeFaultR)) rfl ?_
    exact ⟨by rw [HE.out] <;> rfl, below_grownO HBW.out HG8.out (fun k hk => by cases hk; omega) HBW.out.size⟩
  have e9 : decide (co < 0) = false := decide_eq_false c9
  by_cases c10 : (lo.length : Int) < co
  · have HE := hide (show chkN ⟨n, id, te, vo, lo, ro, co, vs, ns, hs⟩ = (3, -2) by rw [HCK.out, show nmF ⟨n, id, te, vo, lo, ro, co, vs, ns, hs⟩ = (3, -2) by rw [HNM.out, if_neg (by simp only [not_or, Bool.not_eq_false, wiB_true]; omega), if_pos (by simp only [wiB_false]; omega)], if_pos (by simp)])
    have e10 : decide ((lo.length : Int) < co) = true := decide_eq_true c10
    go_enter Try.func15, Try.ntmps15
    go_wp2_with (first
      | (go_at_call 41; refine (lNum_any te _).mono ?_; rw [AN.out]; rintro e w1 ⟨rfl, rfl⟩)
      | (go_at_call 40; refine (lF_any _ _ _).mono ?_; rintro e w1 ⟨rfl, hb1⟩; have HR := hide (HR0.out.later hb1); have HBW := hide (HA0.out.trans (hb1.mono HA0.out.size)); clear hb1; unfold flt)
      | (refine wpList_store_blk rfl rfl rfl rfl HR.out rfl Try.sizeFaultR rfl ?_; intro w8 hR8 hg8; have HR8 := hide hR8; have HG8 := hide hg8; clear hR8 hg8))
    refine bodyPost_ret (results1_cell Try.results15 rfl (run_loadVar_blk HR8.out Try.underlying30 rfl Try.sizeFaultR)) rfl ?_
    exact ⟨by rw [HE.out] <;> rfl, below_grownO HBW.out HG8.out (fun k hk => by cases hk; omega) HBW.out.size⟩
  have e10 : decide ((lo.length : Int) < co) = false := decide_eq_false c10
  exact absurd (show (nmF ⟨n, id, te, vo, lo, ro, co, vs, ns, hs⟩).1 = 0 by rw [HNM.out, if_neg (by simp only [not_or, Bool.not_eq_false, wiB_true]; omega), if_neg (by simp only [not_or, Bool.not_eq_false, wiB_true]; exact ⟨hnum, by omega, by omega, by omega⟩)]) hbad

end Go.Proofs.Ytbffmdhogehfnaa

/-
  Votes, Next and Have by Role. (Written by rr3d.py.)
-/
namespace Go.Proofs.Ytbffmdhogehfnaa
open Go.RowKit Go.Maps
set_option linter.unusedVariables false

theorem votesB_no {x : Nd} (h : x.role ≠ 1) : votesB x = decide (x.votes.length = 0) := if_neg h
theorem votesB_one {x : Nd} (h : x.role = 1) : votesB x = (voGo x.n [] x.votes && (decide (x.id ∈ x.votes) && !mostB x.votes.length x.n)) := if_pos h
theorem ofB_no {x : Nd} {l : List Int} {a b : Int} (h : x.role ≠ 2) : ofB x l a b = decide (l.length = 0) := if_neg h
theorem ofB_two {x : Nd} {l : List Int} {a b : Int} (h : x.role = 2) : ofB x l a b = (decide ((l.length : Int) = x.n) && !(l.any fun v => !wiB v a b)) := if_pos h

theorem ofB_out {x : Nd} {l : List Int} {a b u : Int} (h : x.role = 2) (hu : u ∈ l) (ho : ¬ (a ≤ u ∧ u ≤ b)) : ofB x l a b = false := by
  rw [ofB_two h]
  have : (l.any fun v => !wiB v a b) = true := List.any_eq_true.2 ⟨u, hu, by rw [wiB_false.2 ho]; rfl⟩
  rw [this]
  simp

theorem ofB_in {x : Nd} {l : List Int} {a b : Int} (h : x.role = 2) (hl : (l.length : Int) = x.n) (ho : ∀ u ∈ l, a ≤ u ∧ u ≤ b) : ofB x l a b = true := by
  rw [ofB_two h, decide_eq_true hl]
  have : (l.any fun v => !wiB v a b) = false := List.any_eq_false.2 fun u hu => by rw [wiB_true.2 (ho u hu)]; simp
  rw [this]
  rfl

theorem RdG.upto2 {α : Type} {K : Nat} {E : En α K} {w : World} {ao : Option Addr} {n cap hi : Nat} {xs : List α} (h : RdG E w (.slice ao n cap) xs) (h1 : hi ≤ n) : RdG E w (.slice ao hi cap) (xs.take hi) := by
  obtain ⟨ao', cap', hv, h3, h4, h5, h6⟩ := h
  simp only [Value.slice.injEq] at hv
  obtain ⟨rfl, rfl, rfl⟩ := hv
  have hl : (xs.take hi).length = hi := by simp; omega
  refine ⟨ao, cap, by rw [hl], by omega, h4, h5, fun a ha j u hu => h6 a ha j u ?_⟩
  rw [← vs_take, List.getElem?_take] at hu
  split at hu
  · exact hu
  · cases hu

end Go.Proofs.Ytbffmdhogehfnaa

/-
  The walk over the document's NodeFault for the Role 0. (Written by rr3d.py.)
-/
namespace Go.Proofs.Ytbffmdhogehfnaa
open Go.RowKit Go.Maps
set_option linter.unusedVariables false

set_option maxRecDepth 100000 in
set_option maxHeartbeats 16000000 in
theorem NodeFault_r0 (x : Nd) (lv vv nv hv : Value) (w : World) (hx : RdNd w x lv vv nv hv) (hok : (nmF x).1 = 0) (hrole : x.role = 0) :
    Calls Try.prog 15 #[ndV x lv vv nv hv] w fun e w' => e = .returned (flt (chkN x)) ∧ Below w.heap.size w w' := by
  have HX := hide hx
  have HROLE := hide hrole
  clear hrole
  obtain ⟨n, id, te, vo, lo, ro, co, vs, ns, hs⟩ := x
  obtain ⟨h1, h2, h3, h4⟩ := hx
  simp only at h1 h2 h3 h4
  obtain ⟨ao, cap, rfl, hc1, hc2⟩ := h1.shape
  obtain ⟨bo, cap2, rfl, hd1, hd2⟩ := h2.shape
  obtain ⟨no, cap3, rfl, _, _⟩ := h3.shape
  obtain ⟨ho, cap4, rfl, _, _⟩ := h4.shape
  have hA := below_alloc2 w (.cells #[.int .i64 n, .int .i64 id, .int .i64 te, .int .i64 vo, .slice ao lo.length cap, .int .i64 ro, .int .i64 co, .slice bo vs.length cap2, .slice no ns.length cap3, .slice ho hs.length cap4] 25) (.cells #[.int .i64 0, .int .i64 0] 30)
  have HB0 := hide (Blk.at0of2 w (.cells #[.int .i64 0, .int .i64 0] 30) 25 #[.int .i64 n, .int .i64 id, .int .i64 te, .int .i64 vo, .slice ao lo.length cap, .int .i64 ro, .int .i64 co, .slice bo vs.length cap2, .slice no ns.length cap3, .slice ho hs.length cap4])
  have HR0 := hide (Blk.at1 w (.cells #[.int .i64 n, .int .i64 id, .int .i64 te, .int .i64 vo, .slice ao lo.length cap, .int .i64 ro, .int .i64 co, .slice bo vs.length cap2, .slice no ns.length cap3, .slice ho hs.length cap4] 25) 30 #[.int .i64 0, .int .i64 0])
  have HA0 := hide hA
  have HLF := hide (LogFault_any _ lo _ (h1.below hA))
  have HLT := hide (fun W (hW : Below w.heap.size w W) => LastTerm_any _ lo W (h1.below hW))
  have HH2 := hide (fun W (hW : Below w.heap.size w W) => h2.below hW)
  have HH3 := hide (fun W (hW : Below w.heap.size w W) => h3.below hW)
  have HH4 := hide (fun W (hW : Below w.heap.size w W) => h4.below hW)
  have HNM : Hid (nmF ⟨n, id, te, vo, lo, ro, co, vs, ns, hs⟩ = if wiB n 1 7 = false ∨ wiB id 0 (n - 1) = false then (3, -1) else if numL te = false ∨ wiB vo 0 n = false ∨ wiB ro 0 2 = false ∨ wiB co 0 lo.length = false then (3, -2) else (0, 0)) := hide rfl
  have HLG : Hid (lgF ⟨n, id, te, vo, lo, ro, co, vs, ns, hs⟩ = if (chkE lo).1 ≠ 0 then chkE lo else if te < lastT lo then (11, -3) else (0, 0)) := hide rfl
  have HCK : Hid (chkN ⟨n, id, te, vo, lo, ro, co, vs, ns, hs⟩ = if (nmF ⟨n, id, te, vo, lo, ro, co, vs, ns, hs⟩).1 ≠ 0 then nmF ⟨n, id, te, vo, lo, ro, co, vs, ns, hs⟩ else if (lgF ⟨n, id, te, vo, lo, ro, co, vs, ns, hs⟩).1 ≠ 0 then lgF ⟨n, id, te, vo, lo, ro, co, vs, ns, hs⟩ else if votesB ⟨n, id, te, vo, lo, ro, co, vs, ns, hs⟩ = false ∨ knownB ⟨n, id, te, vo, lo, ro, co, vs, ns, hs⟩ = false then (5, -3) else (0, 0)) := hide rfl
  have HZE := hide (chkE_z lo)
  unfold maxLen at hd2 hc2
  clear h1 h2 h3 h4 hA
  unfold ndV ndA
  have HN0 := hide (show nmF ⟨n, id, te, vo, lo, ro, co, vs, ns, hs⟩ = (0, 0) from nmF_z _ hok)
  have hcc : (1 ≤ n ∧ n ≤ 7 ∧ 0 ≤ id ∧ id < n) ∧ numL te = true ∧ (0 ≤ vo ∧ vo ≤ n) ∧ (0 ≤ ro ∧ ro ≤ 2) ∧ 0 ≤ co ∧ co ≤ lo.length := by
    have h := HNM.out
    rw [HN0.out] at h
    by_cases h1 : wiB n 1 7 = false ∨ wiB id 0 (n - 1) = false
    · rw [if_pos h1] at h; simp at h
    rw [if_neg h1] at h
    by_cases h2 : numL te = false ∨ wiB vo 0 n = false ∨ wiB ro 0 2 = false ∨ wiB co 0 lo.length = false
    · rw [if_pos h2] at h; simp at h
    simp only [not_or, Bool.not_eq_false, wiB_true] at h1 h2
    exact ⟨⟨h1.1.1, h1.1.2, h1.2.1, by omega⟩, h2.1, h2.2.1, h2.2.2.1, h2.2.2.2⟩
  obtain ⟨⟨hn1, hn7, hi0, hin⟩, hnum, ⟨hv0, hvn⟩, ⟨hr0, hr2⟩, hc0, hcl⟩ := hcc
  have e0 : decide (n < 1) = false := decide_eq_false (by omega)
  have e1 : decide (7 < n) = false := decide_eq_false (by omega)
  have e2 : decide (id < 0) = false := decide_eq_false (by omega)
  have e3 : decide (n ≤ id) = false := decide_eq_false (by omega)
  have e5 : decide (vo < 0) = false := decide_eq_false (by omega)
  have e6 : decide (n < vo) = false := decide_eq_false (by omega)
  have e7 : decide (ro < 0) = false := decide_eq_false (by omega)
  have e8 : decide (2 < ro) = false := decide_eq_false (by omega)
  have e9 : decide (co < 0) = false := decide_eq_false (by omega)
  have e10 : decide ((lo.length : Int) < co) = false := decide_eq_false (by omega)
  have AN := hide hnum
  have HK1 := hide (show chkN ⟨n, id, te, vo, lo, ro, co, vs, ns, hs⟩ = if (lgF ⟨n, id, te, vo, lo, ro, co, vs, ns, hs⟩).1 ≠ 0 then lgF ⟨n, id, te, vo, lo, ro, co, vs, ns, hs⟩ else if votesB ⟨n, id, te, vo, lo, ro, co, vs, ns, hs⟩ = false ∨ knownB ⟨n, id, te, vo, lo, ro, co, vs, ns, hs⟩ = false then (5, -3) else (0, 0) by rw [HCK.out, HN0.out, if_neg (by simp)])
  clear HCK HNM hnum hok
  have HLL0 := hide (fun h => (chkE_fine (l := lo) h).2)
  generalize hK : chkE lo = K at *
  obtain ⟨p, q⟩ := K
  clear hK
  generalize hT : lastT lo = T at *
  clear hT
  go_enter Try.func15, Try.ntmps15
  go_wp2_with (go_at_call 41; refine (lNum_any te _).mono ?_; rw [AN.out]; rintro e w1 ⟨rfl, rfl⟩)
  refine HLF.out.mono ?_
  rintro e w1 ⟨rfl, hb1⟩
  have hN := below_allocG w1 (.cells #[.int .i64 p, .int .i64 q] 30)
  have hB := (HB0.out.later hb1).later hN
  have HB1 := hide hB
  have HR1 := hide ((HR0.out.later hb1).later hN)
  have hAA := HA0.out.trans (hb1.mono HA0.out.size)
  have HA1 := hide (hAA.trans (hN.mono hAA.size))
  have hW := Blk.new w1 30 #[.int .i64 p, .int .i64 q]
  have HT1 := hide hW
  have f0 := hW.cell 0
  have c2 := hB.cell 2
  have c4 := hB.cell 4
  have cl := hB.lt
  simp at f0 c2 c4 cl
  clear hb1 hN hB hAA hW HLF HB0 HR0 HA0
  unfold flt
  by_cases hp : p ≠ 0
  · have HE := hide (show chkN ⟨n, id, te, vo, lo, ro, co, vs, ns, hs⟩ = (p, q) by rw [HK1.out, show lgF ⟨n, id, te, vo, lo, ro, co, vs, ns, hs⟩ = (p, q) by rw [HLG.out, if_pos hp], if_pos hp])
    have hq2 : (p != 0) = true := by simp [hp]
    have hq : (p == 0) = false := beq_eq_false_iff_ne.2 hp
    clear hp
    go_wp2_with (first
      | (refine wpList_load_blk HT1.out Try.underlying30 rfl Try.sizeFaultR rfl rfl rfl ?_)
      | (refine wpList_store_blk rfl rfl rfl rfl HR1.out rfl Try.sizeFaultR rfl ?_; intro w8 hR8 hg8; have HR8 := hide hR8; have HG8 := hide hg8; clear hR8 hg8))
    refine bodyPost_ret (results1_cell Try.results15 rfl (run_loadVar_blk HR8.out Try.underlying30 rfl Try.sizeFaultR)) rfl ?_
    exact ⟨by rw [HE.out] <;> rfl, below_grownO HA1.out HG8.out (fun k hk => by cases hk; omega) HA1.out.size⟩
  obtain rfl : p = 0 := Decidable.not_not.1 hp
  obtain rfl : q = 0 := by have := HZE.out rfl; simpa using this
  have HLG2 := hide (show lgF ⟨n, id, te, vo, lo, ro, co, vs, ns, hs⟩ = if te < T then (11, -3) else (0, 0) by rw [HLG.out, if_neg (by simp)])
  have HLL := hide (HLL0.out rfl)
  clear hp HLG
  have HQ := hide (fun m => HLT.out ((w1.alloc (.cells #[.int .i64 0, .int .i64 0] 30)).drewN m) (below_drewN HA1.out m))
  by_cases hte : te < T
  · have HE := hide (show chkN ⟨n, id, te, vo, lo, ro, co, vs, ns, hs⟩ = (11, -3) by rw [HK1.out, show lgF ⟨n, id, te, vo, lo, ro, co, vs, ns, hs⟩ = (11, -3) by rw [HLG2.out, if_pos hte], if_pos (by simp)])
    go_wp2_with fail
    go_quiet (first | (go_at_call 43; exact Calls.quiet_of_same (HQ.out _)))
    go_wp2_with (first
      | (go_at_call 40; refine (lF_any _ _ _).mono ?_; rintro e w3 ⟨rfl, hb3⟩; have hd3 := (below_drewN (Below.refl _ _) _).trans hb3; have HR3 := hide (HR1.out.later hd3); have HA3 := hide (HA1.out.trans (hd3.mono HA1.out.size)); clear hb3 hd3; unfold flt)
      | (refine wpList_store_blk rfl rfl rfl rfl HR3.out rfl Try.sizeFaultR rfl ?_; intro w8 hR8 hg8; have HR8 := hide hR8; have HG8 := hide hg8; clear hR8 hg8))
    refine bodyPost_ret (results1_cell Try.results15 rfl (run_loadVar_blk HR8.out Try.underlying30 rfl Try.sizeFaultR)) rfl ?_
    exact ⟨by rw [HE.out] <;> rfl, below_grownO HA3.out HG8.out (fun k hk => by cases hk; omega) HA3.out.size⟩
  have HK2 := hide (show chkN ⟨n, id, te, vo, lo, ro, co, vs, ns, hs⟩ = if votesB ⟨n, id, te, vo, lo, ro, co, vs, ns, hs⟩ = false ∨ knownB ⟨n, id, te, vo, lo, ro, co, vs, ns, hs⟩ = false then (5, -3) else (0, 0) by rw [HK1.out, show lgF ⟨n, id, te, vo, lo, ro, co, vs, ns, hs⟩ = (0, 0) by rw [HLG2.out, if_neg hte], if_neg (by simp)])
  clear HK1 HLG2
  go_wp2_with fail
  go_quiet (first | (go_at_call 43; exact Calls.quiet_of_same (HQ.out _)))
  go_wp2_with fail
  refine (lF_any _ _ _).mono ?_
  rintro e w3 ⟨rfl, hb3⟩
  have hd3 := (below_drewN (Below.refl (w1.alloc (.cells #[.int .i64 0, .int .i64 0] 30)).heap.size (w1.alloc (.cells #[.int .i64 0, .int .i64 0] 30))) nq).trans hb3
  have hN := below_allocG w3 (.cells #[.int .i64 5, .int .i64 (-3)] 30)
  have HBW := hide ((HB1.out.later hd3).later hN)
  have HRW := hide ((HR1.out.later hd3).later hN)
  have hAA := HA1.out.trans (hd3.mono HA1.out.size)
  have HAW := hide (hAA.trans (hN.mono hAA.size))
  have HTW := hide (Blk.new w3 30 #[.int .i64 5, .int .i64 (-3)])
  have HSW := hide (show w.heap.size + 1 < w3.heap.size from (HR1.out.later hd3).lt)
  clear hb3 hd3 hN hAA f0 c2 c4 cl HB1 HR1 HA1 HT1 HQ hte e0 e1 e2 e3 e5 e6 e7 e8 e9 e10
  unfold flt
  go_upto_region 11 with fail
  generalize hWW : w3.alloc (.cells #[.int .i64 5, .int .i64 (-3)] 30) = W at HBW HRW HAW HTW ⊢
  clear hWW
  have g0 := HBW.out.cell 0
  have g1 := HBW.out.cell 1
  have g4 := HBW.out.cell 4
  have g5 := HBW.out.cell 5
  have g7 := HBW.out.cell 7
  have g8 := HBW.out.cell 8
  have g9 := HBW.out.cell 9
  have gl := HBW.out.lt
  simp at g0 g1 g4 g5 g7 g8 g9
  have t0 := HTW.out.cell 0
  simp at t0
  have hlc : (lo.length : Int) ≤ 100 := by
    have := HLL.out
    omega
  have hro : ro = 0 := HROLE.out
  have HRO := hide hro
  all_goals
    have HN1 := hide (show ro ≠ 1 by omega)
    have HN2 := hide (show ro ≠ 2 by omega)
    have rr1 : (ro != 1) = true := by rw [hro]; rfl
    have rr2 : (ro != 2) = true := by rw [hro]; rfl
    have rr3 : (ro == 1) = false := by rw [hro]; rfl
    have rr4 : (ro == 2) = false := by rw [hro]; rfl
    clear hro hr0 hr2
    by_cases k0 : 0 < vs.length
    · have HE := hide (HK2.out.trans (if_pos (.inl (by rw [votesB_no HN1.out]; exact decide_eq_false (by simp only; omega)))))
      have d0 : decide (0 < (vs.length : Int)) = true := decide_eq_true (by omega)
      go_upto_region 12 with fail
      go_wp2_with (first
        | (refine wpList_load_blk HTW.out Try.underlying30 rfl Try.sizeFaultR rfl rfl rfl ?_)
        | (refine wpList_store_blk rfl rfl rfl rfl HRW.out rfl Try.sizeFaultR rfl ?_; intro w8 hR8 hg8; have HR8 := hide hR8; have HG8 := hide hg8; clear hR8 hg8))
      refine bodyPost_ret (results1_cell Try.results15 rfl (run_loadVar_blk HR8.out Try.underlying30 rfl Try.sizeFaultR)) rfl ?_
      exact ⟨by rw [HE.out] <;> rfl, below_grownO HAW.out HG8.out (fun k hk => by cases hk; omega) HAW.out.size⟩
    have d0 : decide (0 < (vs.length : Int)) = false := decide_eq_false (by omega)
    by_cases k1 : 0 < ns.length
    · have HE := hide (HK2.out.trans (if_pos (.inr (by unfold knownB; rw [ofB_no HN2.out]; simp only; rw [decide_eq_false (by omega)]; rfl))))
      have d1 : decide (0 < (ns.length : Int)) = true := decide_eq_true (by omega)
      go_upto_region 12 with fail
      go_wp2_with (first
        | (refine wpList_load_blk HTW.out Try.underlying30 rfl Try.sizeFaultR rfl rfl rfl ?_)
        | (refine wpList_store_blk rfl rfl rfl rfl HRW.out rfl Try.sizeFaultR rfl ?_; intro w8 hR8 hg8; have HR8 := hide hR8; have HG8 := hide hg8; clear hR8 hg8))
      refine bodyPost_ret (results1_cell Try.results15 rfl (run_loadVar_blk HR8.out Try.underlying30 rfl Try.sizeFaultR)) rfl ?_
      exact ⟨by rw [HE.out] <;> rfl, below_grownO HAW.out HG8.out (fun k hk => by cases hk; omega) HAW.out.size⟩
    have d1 : decide (0 < (ns.length : Int)) = false := decide_eq_false (by omega)
    by_cases k2 : 0 < hs.length
    · have HE := hide (HK2.out.trans (if_pos (.inr (by unfold knownB; rw [ofB_no HN2.out, ofB_no HN2.out]; simp only; rw [decide_eq_false (p := hs.length = 0) (by omega)]; simp))))
      have d2 : decide (0 < (hs.length : Int)) = true := decide_eq_true (by omega)
      go_upto_region 12 with fail
      go_wp2_with (first
        | (refine wpList_load_blk HTW.out Try.underlying30 rfl Try.sizeFaultR rfl rfl rfl ?_)
        | (refine wpList_store_blk rfl rfl rfl rfl HRW.out rfl Try.sizeFaultR rfl ?_; intro w8 hR8 hg8; have HR8 := hide hR8; have HG8 := hide hg8; clear hR8 hg8))
      refine bodyPost_ret (results1_cell Try.results15 rfl (run_loadVar_blk HR8.out Try.underlying30 rfl Try.sizeFaultR)) rfl ?_
      exact ⟨by rw [HE.out] <;> rfl, below_grownO HAW.out HG8.out (fun k hk => by cases hk; omega) HAW.out.size⟩
    have d2 : decide (0 < (hs.length : Int)) = false := decide_eq_false (by omega)
    have HE := hide (HK2.out.trans (if_neg (by rw [votesB_no HN1.out]; unfold knownB; rw [ofB_no HN2.out, ofB_no HN2.out]; simp only; rw [decide_eq_true (show vs.length = 0 by omega), decide_eq_true (show ns.length = 0 by omega), decide_eq_true (show hs.length = 0 by omega)]; simp)))
    go_upto_region 29 with fail
    go_wp2_with (refine wpList_store_blk rfl rfl rfl rfl HRW.out rfl Try.sizeFaultR rfl ?_; intro w8 hR8 hg8; have HR8 := hide hR8; have HG8 := hide hg8; clear hR8 hg8)
    refine bodyPost_ret (results1_cell Try.results15 rfl (run_loadVar_blk HR8.out Try.underlying30 rfl Try.sizeFaultR)) rfl ?_
    exact ⟨by rw [HE.out] <;> rfl, below_grownO HAW.out HG8.out (fun k hk => by cases hk; omega) HAW.out.size⟩

end Go.Proofs.Ytbffmdhogehfnaa

/-
  The walk over the document's NodeFault for the Role 1. (Written by rr3d.py.)
-/
namespace Go.Proofs.Ytbffmdhogehfnaa
open Go.RowKit Go.Maps
set_option linter.unusedVariables false

set_option maxRecDepth 100000 in
set_option maxHeartbeats 16000000 in
theorem NodeFault_r1 (x : Nd) (lv vv nv hv : Value) (w : World) (hx : RdNd w x lv vv nv hv) (hok : (nmF x).1 = 0) (hrole : x.role = 1) :
    Calls Try.prog 15 #[ndV x lv vv nv hv] w fun e w' => e = .returned (flt (chkN x)) ∧ Below w.heap.size w w' := by
  have HX := hide hx
  have HROLE := hide hrole
  clear hrole
  obtain ⟨n, id, te, vo, lo, ro, co, vs, ns, hs⟩ := x
  obtain ⟨h1, h2, h3, h4⟩ := hx
  simp only at h1 h2 h3 h4
  obtain ⟨ao, cap, rfl, hc1, hc2⟩ := h1.shape
  obtain ⟨bo, cap2, rfl, hd1, hd2⟩ := h2.shape
  obtain ⟨no, cap3, rfl, _, _⟩ := h3.shape
  obtain ⟨ho, cap4, rfl, _, _⟩ := h4.shape
  have hA := below_alloc2 w (.cells #[.int .i64 n, .int .i64 id, .int .i64 te, .int .i64 vo, .slice ao lo.length cap, .int .i64 ro, .int .i64 co, .slice bo vs.length cap2, .slice no ns.length cap3, .slice ho hs.length cap4] 25) (.cells #[.int .i64 0, .int .i64 0] 30)
  have HB0 := hide (Blk.at0of2 w (.cells #[.int .i64 0, .int .i64 0] 30) 25 #[.int .i64 n, .int .i64 id, .int .i64 te, .int .i64 vo, .slice ao lo.length cap, .int .i64 ro, .int .i64 co, .slice bo vs.length cap2, .slice no ns.length cap3, .slice ho hs.length cap4])
  have HR0 := hide (Blk.at1 w (.cells #[.int .i64 n, .int .i64 id, .int .i64 te, .int .i64 vo, .slice ao lo.length cap, .int .i64 ro, .int .i64 co, .slice bo vs.length cap2, .slice no ns.length cap3, .slice ho hs.length cap4] 25) 30 #[.int .i64 0, .int .i64 0])
  have HA0 := hide hA
  have HLF := hide (LogFault_any _ lo _ (h1.below hA))
  have HLT := hide (fun W (hW : Below w.heap.size w W) => LastTerm_any _ lo W (h1.below hW))
  have HH2 := hide (fun W (hW : Below w.heap.size w W) => h2.below hW)
  have HH3 := hide (fun W (hW : Below w.heap.size w W) => h3.below hW)
  have HH4 := hide (fun W (hW : Below w.heap.size w W) => h4.below hW)
  have HNM : Hid (nmF ⟨n, id, te, vo, lo, ro, co, vs, ns, hs⟩ = if wiB n 1 7 = false ∨ wiB id 0 (n - 1) = false then (3, -1) else if numL te = false ∨ wiB vo 0 n = false ∨ wiB ro 0 2 = false ∨ wiB co 0 lo.length = false then (3, -2) else (0, 0)) := hide rfl
  have HLG : Hid (lgF ⟨n, id, te, vo, lo, ro, co, vs, ns, hs⟩ = if (chkE lo).1 ≠ 0 then chkE lo else if te < lastT lo then (11, -3) else (0, 0)) := hide rfl
  have HCK : Hid (chkN ⟨n, id, te, vo, lo, ro, co, vs, ns, hs⟩ = if (nmF ⟨n, id, te, vo, lo, ro, co, vs, ns, hs⟩).1 ≠ 0 then nmF ⟨n, id, te, vo, lo, ro, co, vs, ns, hs⟩ else if (lgF ⟨n, id, te, vo, lo, ro, co, vs, ns, hs⟩).1 ≠ 0 then lgF ⟨n, id, te, vo, lo, ro, co, vs, ns, hs⟩ else if votesB ⟨n, id, te, vo, lo, ro, co, vs, ns, hs⟩ = false ∨ knownB ⟨n, id, te, vo, lo, ro, co, vs, ns, hs⟩ = false then (5, -3) else (0, 0)) := hide rfl
  have HZE := hide (chkE_z lo)
  unfold maxLen at hd2 hc2
  clear h1 h2 h3 h4 hA
  unfold ndV ndA
  have HN0 := hide (show nmF ⟨n, id, te, vo, lo, ro, co, vs, ns, hs⟩ = (0, 0) from nmF_z _ hok)
  have hcc : (1 ≤ n ∧ n ≤ 7 ∧ 0 ≤ id ∧ id < n) ∧ numL te = true ∧ (0 ≤ vo ∧ vo ≤ n) ∧ (0 ≤ ro ∧ ro ≤ 2) ∧ 0 ≤ co ∧ co ≤ lo.length := by
    have h := HNM.out
    rw [HN0.out] at h
    by_cases h1 : wiB n 1 7 = false ∨ wiB id 0 (n - 1) = false
    · rw [if_pos h1] at h; simp at h
    rw [if_neg h1] at h
    by_cases h2 : numL te = false ∨ wiB vo 0 n = false ∨ wiB ro 0 2 = false ∨ wiB co 0 lo.length = false
    · rw [if_pos h2] at h; simp at h
    simp only [not_or, Bool.not_eq_false, wiB_true] at h1 h2
    exact ⟨⟨h1.1.1, h1.1.2, h1.2.1, by omega⟩, h2.1, h2.2.1, h2.2.2.1, h2.2.2.2⟩
  obtain ⟨⟨hn1, hn7, hi0, hin⟩, hnum, ⟨hv0, hvn⟩, ⟨hr0, hr2⟩, hc0, hcl⟩ := hcc
  have e0 : decide (n < 1) = false := decide_eq_false (by omega)
  have e1 : decide (7 < n) = false := decide_eq_false (by omega)
  have e2 : decide (id < 0) = false := decide_eq_false (by omega)
  have e3 : decide (n ≤ id) = false := decide_eq_false (by omega)
  have e5 : decide (vo < 0) = false := decide_eq_false (by omega)
  have e6 : decide (n < vo) = false := decide_eq_false (by omega)
  have e7 : decide (ro < 0) = false := decide_eq_false (by omega)
  have e8 : decide (2 < ro) = false := decide_eq_false (by omega)
  have e9 : decide (co < 0) = false := decide_eq_false (by omega)
  have e10 : decide ((lo.length : Int) < co) = false := decide_eq_false (by omega)
  have AN := hide hnum
  have HK1 := hide (show chkN ⟨n, id, te, vo, lo, ro, co, vs, ns, hs⟩ = if (lgF ⟨n, id, te, vo, lo, ro, co, vs, ns, hs⟩).1 ≠ 0 then lgF ⟨n, id, te, vo, lo, ro, co, vs, ns, hs⟩ else if votesB ⟨n, id, te, vo, lo, ro, co, vs, ns, hs⟩ = false ∨ knownB ⟨n, id, te, vo, lo, ro, co, vs, ns, hs⟩ = false then (5, -3) else (0, 0) by rw [HCK.out, HN0.out, if_neg (by simp)])
  clear HCK HNM hnum hok
  have HLL0 := hide (fun h => (chkE_fine (l := lo) h).2)
  generalize hK : chkE lo = K at *
  obtain ⟨p, q⟩ := K
  clear hK
  generalize hT : lastT lo = T at *
  clear hT
  go_enter Try.func15, Try.ntmps15
  go_wp2_with (go_at_call 41; refine (lNum_any te _).mono ?_; rw [AN.out]; rintro e w1 ⟨rfl, rfl⟩)
  refine HLF.out.mono ?_
  rintro e w1 ⟨rfl, hb1⟩
  have hN := below_allocG w1 (.cells #[.int .i64 p, .int .i64 q] 30)
  have hB := (HB0.out.later hb1).later hN
  have HB1 := hide hB
  have HR1 := hide ((HR0.out.later hb1).later hN)
  have hAA := HA0.out.trans (hb1.mono HA0.out.size)
  have HA1 := hide (hAA.trans (hN.mono hAA.size))
  have hW := Blk.new w1 30 #[.int .i64 p, .int .i64 q]
  have HT1 := hide hW
  have f0 := hW.cell 0
  have c2 := hB.cell 2
  have c4 := hB.cell 4
  have cl := hB.lt
  simp at f0 c2 c4 cl
  clear hb1 hN hB hAA hW HLF HB0 HR0 HA0
  unfold flt
  by_cases hp : p ≠ 0
  · have HE := hide (show chkN ⟨n, id, te, vo, lo, ro, co, vs, ns, hs⟩ = (p, q) by rw [HK1.out, show lgF ⟨n, id, te, vo, lo, ro, co, vs, ns, hs⟩ = (p, q) by rw [HLG.out, if_pos hp], if_pos hp])
    have hq2 : (p != 0) = true := by simp [hp]
    have hq : (p == 0) = false := beq_eq_false_iff_ne.2 hp
    clear hp
    go_wp2_with (first
      | (refine wpList_load_blk HT1.out Try.underlying30 rfl Try.sizeFaultR rfl rfl rfl ?_)
      | (refine wpList_store_blk rfl rfl rfl rfl HR1.out rfl Try.sizeFaultR rfl ?_; intro w8 hR8 hg8; have HR8 := hide hR8; have HG8 := hide hg8; clear hR8 hg8))
    refine bodyPost_ret (results1_cell Try.results15 rfl (run_loadVar_blk HR8.out Try.underlying30 rfl Try.sizeFaultR)) rfl ?_
    exact ⟨by rw [HE.out] <;> rfl, below_grownO HA1.out HG8.out (fun k hk => by cases hk; omega) HA1.out.size⟩
  obtain rfl : p = 0 := Decidable.not_not.1 hp
  obtain rfl : q = 0 := by have := HZE.out rfl; simpa using this
  have HLG2 := hide (show lgF ⟨n, id, te, vo, lo, ro, co, vs, ns, hs⟩ = if te < T then (11, -3) else (0, 0) by rw [HLG.out, if_neg (by simp)])
  have HLL := hide (HLL0.out rfl)
  clear hp HLG
  have HQ := hide (fun m => HLT.out ((w1.alloc (.cells #[.int .i64 0, .int .i64 0] 30)).drewN m) (below_drewN HA1.out m))
  by_cases hte : te < T
  · have HE := hide (show chkN ⟨n, id, te, vo, lo, ro, co, vs, ns, hs⟩ = (11, -3) by rw [HK1.out, show lgF ⟨n, id, te, vo, lo, ro, co, vs, ns, hs⟩ = (11, -3) by rw [HLG2.out, if_pos hte], if_pos (by simp)])
    go_wp2_with fail
    go_quiet (first | (go_at_call 43; exact Calls.quiet_of_same (HQ.out _)))
    go_wp2_with (first
      | (go_at_call 40; refine (lF_any _ _ _).mono ?_; rintro e w3 ⟨rfl, hb3⟩; have hd3 := (below_drewN (Below.refl _ _) _).trans hb3; have HR3 := hide (HR1.out.later hd3); have HA3 := hide (HA1.out.trans (hd3.mono HA1.out.size)); clear hb3 hd3; unfold flt)
      | (refine wpList_store_blk rfl rfl rfl rfl HR3.out rfl Try.sizeFaultR rfl ?_; intro w8 hR8 hg8; have HR8 := hide hR8; have HG8 := hide hg8; clear hR8 hg8))
    refine bodyPost_ret (results1_cell Try.results15 rfl (run_loadVar_blk HR8.out Try.underlying30 rfl Try.sizeFaultR)) rfl ?_
    exact ⟨by rw [HE.out] <;> rfl, below_grownO HA3.out HG8.out (fun k hk => by cases hk; omega) HA3.out.size⟩
  have HK2 := hide (show chkN ⟨n, id, te, vo, lo, ro, co, vs, ns, hs⟩ = if votesB ⟨n, id, te, vo, lo, ro, co, vs, ns, hs⟩ = false ∨ knownB ⟨n, id, te, vo, lo, ro, co, vs, ns, hs⟩ = false then (5, -3) else (0, 0) by rw [HK1.out, show lgF ⟨n, id, te, vo, lo, ro, co, vs, ns, hs⟩ = (0, 0) by rw [HLG2.out, if_neg hte], if_neg (by simp)])
  clear HK1 HLG2
  go_wp2_with fail
  go_quiet (first | (go_at_call 43; exact Calls.quiet_of_same (HQ.out _)))
  go_wp2_with fail
  refine (lF_any _ _ _).mono ?_
  rintro e w3 ⟨rfl, hb3⟩
  have hd3 := (below_drewN (Below.refl (w1.alloc (.cells #[.int .i64 0, .int .i64 0] 30)).heap.size (w1.alloc (.cells #[.int .i64 0, .int .i64 0] 30))) nq).trans hb3
  have hN := below_allocG w3 (.cells #[.int .i64 5, .int .i64 (-3)] 30)
  have HBW := hide ((HB1.out.later hd3).later hN)
  have HRW := hide ((HR1.out.later hd3).later hN)
  have hAA := HA1.out.trans (hd3.mono HA1.out.size)
  have HAW := hide (hAA.trans (hN.mono hAA.size))
  have HTW := hide (Blk.new w3 30 #[.int .i64 5, .int .i64 (-3)])
  have HSW := hide (show w.heap.size + 1 < w3.heap.size from (HR1.out.later hd3).lt)
  clear hb3 hd3 hN hAA f0 c2 c4 cl HB1 HR1 HA1 HT1 HQ hte e0 e1 e2 e3 e5 e6 e7 e8 e9 e10
  unfold flt
  go_upto_region 11 with fail
  generalize hWW : w3.alloc (.cells #[.int .i64 5, .int .i64 (-3)] 30) = W at HBW HRW HAW HTW ⊢
  clear hWW
  have g0 := HBW.out.cell 0
  have g1 := HBW.out.cell 1
  have g4 := HBW.out.cell 4
  have g5 := HBW.out.cell 5
  have g7 := HBW.out.cell 7
  have g8 := HBW.out.cell 8
  have g9 := HBW.out.cell 9
  have gl := HBW.out.lt
  simp at g0 g1 g4 g5 g7 g8 g9
  have t0 := HTW.out.cell 0
  simp at t0
  have hlc : (lo.length : Int) ≤ 100 := by
    have := HLL.out
    omega
  have hro : ro = 1 := HROLE.out
  have HRO := hide hro
  all_goals
    have HN2 := hide (show ro ≠ 2 by omega)
    have rr1 : (ro != 1) = false := by rw [hro]; rfl
    have rr2 : (ro != 2) = true := by rw [hro]; rfl
    have rr3 : (ro == 1) = true := by rw [hro]; rfl
    have rr4 : (ro == 2) = false := by rw [hro]; rfl
    clear hro hr0 hr2
    by_cases k0 : 0 < ns.length
    · have HE := hide (HK2.out.trans (if_pos (.inr (by unfold knownB; rw [ofB_no HN2.out]; simp only; rw [decide_eq_false (by omega)]; rfl))))
      have d0 : decide (0 < (ns.length : Int)) = true := decide_eq_true (by omega)
      go_upto_region 12 with fail
      go_wp2_with (first
        | (refine wpList_load_blk HTW.out Try.underlying30 rfl Try.sizeFaultR rfl rfl rfl ?_)
        | (refine wpList_store_blk rfl rfl rfl rfl HRW.out rfl Try.sizeFaultR rfl ?_; intro w8 hR8 hg8; have HR8 := hide hR8; have HG8 := hide hg8; clear hR8 hg8))
      refine bodyPost_ret (results1_cell Try.results15 rfl (run_loadVar_blk HR8.out Try.underlying30 rfl Try.sizeFaultR)) rfl ?_
      exact ⟨by rw [HE.out] <;> rfl, below_grownO HAW.out HG8.out (fun k hk => by cases hk; omega) HAW.out.size⟩
    have d0 : decide (0 < (ns.length : Int)) = false := decide_eq_false (by omega)
    by_cases k1 : 0 < hs.length
    · have HE := hide (HK2.out.trans (if_pos (.inr (by unfold knownB; rw [ofB_no HN2.out, ofB_no HN2.out]; simp only; rw [decide_eq_false (p := hs.length = 0) (by omega)]; simp))))
      have d1 : decide (0 < (hs.length : Int)) = true := decide_eq_true (by omega)
      go_upto_region 12 with fail
      go_wp2_with (first
        | (refine wpList_load_blk HTW.out Try.underlying30 rfl Try.sizeFaultR rfl rfl rfl ?_)
        | (refine wpList_store_blk rfl rfl rfl rfl HRW.out rfl Try.sizeFaultR rfl ?_; intro w8 hR8 hg8; have HR8 := hide hR8; have HG8 := hide hg8; clear hR8 hg8))
      refine bodyPost_ret (results1_cell Try.results15 rfl (run_loadVar_blk HR8.out Try.underlying30 rfl Try.sizeFaultR)) rfl ?_
      exact ⟨by rw [HE.out] <;> rfl, below_grownO HAW.out HG8.out (fun k hk => by cases hk; omega) HAW.out.size⟩
    have d1 : decide (0 < (hs.length : Int)) = false := decide_eq_false (by omega)
    have HKN := hide (show knownB ⟨n, id, te, vo, lo, ro, co, vs, ns, hs⟩ = true by unfold knownB; rw [ofB_no HN2.out, ofB_no HN2.out]; simp only; rw [decide_eq_true (show ns.length = 0 by omega), decide_eq_true (show hs.length = 0 by omega)]; rfl)
    have HVB := hide (votesB_one (x := ⟨n, id, te, vo, lo, ro, co, vs, ns, hs⟩) HRO.out)
    simp only at HVB
    have HHS := hide (Has_any _ vs id W (HH2.out W HAW.out))
    have HMJ := hide (Majority_any vs.length n W (by omega) (by omega))
    by_cases hm : id ∈ vs
    case neg =>
      have HE := hide (HK2.out.trans (if_pos (.inl (by rw [HVB.out, decide_eq_false hm]; simp))))
      have HDM := hide (decide_eq_false hm)
      clear hm
      go_upto_region 15 with (first
        | (go_at_call 44; refine HHS.out.mono ?_; rw [HDM.out]; rintro e w4 ⟨rfl, hw4⟩; rw [hw4]; clear hw4 w4))
      go_wp2_with (first
        | (refine wpList_load_blk HTW.out Try.underlying30 rfl Try.sizeFaultR rfl rfl rfl ?_)
        | (refine wpList_store_blk rfl rfl rfl rfl HRW.out rfl Try.sizeFaultR rfl ?_; intro w8 hR8 hg8; have HR8 := hide hR8; have HG8 := hide hg8; clear hR8 hg8))
      refine bodyPost_ret (results1_cell Try.results15 rfl (run_loadVar_blk HR8.out Try.underlying30 rfl Try.sizeFaultR)) rfl ?_
      exact ⟨by rw [HE.out] <;> rfl, below_grownO HAW.out HG8.out (fun k hk => by cases hk; omega) HAW.out.size⟩
    have HDM := hide (decide_eq_true hm)
    clear hm
    cases hmj : mostB vs.length n
    case true =>
      have HE := hide (HK2.out.trans (if_pos (.inl (by rw [HVB.out, hmj]; simp))))
      have HJ := hide hmj
      clear hmj
      go_upto_region 15 with (first
        | (go_at_call 44; refine HHS.out.mono ?_; rw [HDM.out]; rintro e w4 ⟨rfl, hw4⟩; rw [hw4]; clear hw4 w4)
        | (go_at_call 45; refine HMJ.out.mono ?_; rw [HJ.out]; rintro e w4 ⟨rfl, hw4⟩; rw [hw4]; clear hw4 w4))
      go_wp2_with (first
        | (refine wpList_load_blk HTW.out Try.underlying30 rfl Try.sizeFaultR rfl rfl rfl ?_)
        | (refine wpList_store_blk rfl rfl rfl rfl HRW.out rfl Try.sizeFaultR rfl ?_; intro w8 hR8 hg8; have HR8 := hide hR8; have HG8 := hide hg8; clear hR8 hg8))
      refine bodyPost_ret (results1_cell Try.results15 rfl (run_loadVar_blk HR8.out Try.underlying30 rfl Try.sizeFaultR)) rfl ?_
      exact ⟨by rw [HE.out] <;> rfl, below_grownO HAW.out HG8.out (fun k hk => by cases hk; omega) HAW.out.size⟩
    have HVB2 := hide (show votesB ⟨n, id, te, vo, lo, ro, co, vs, ns, hs⟩ = voGo n [] vs by rw [HVB.out, HDM.out, hmj]; simp)
    have HJ := hide hmj
    clear hmj HVB
    go_wp2_with (first
      | (go_at_call 44; refine HHS.out.mono ?_; rw [HDM.out]; rintro e w4 ⟨rfl, hw4⟩; rw [hw4]; clear hw4 w4)
      | (go_at_call 45; refine HMJ.out.mono ?_; rw [HJ.out]; rintro e w4 ⟨rfl, hw4⟩; rw [hw4]; clear hw4 w4))
    go_loopw [5] (fun iv wr => ∃ j : Nat, j ≤ vs.length ∧ iv = .int .i64 j ∧ voGo n (vs.take j) (vs.drop j) = voGo n [] vs ∧ Below W.heap.size W wr)
      (fun iv _ => vs.length - (intOf iv).toNat)
    case atStart => exact ⟨0, by omega, rfl, rfl, Below.refl _ _⟩
    case round =>
      obtain ⟨j, hj, rfl, hgo, hbr⟩ := hrel
      have HGO := hide hgo
      have HBR := hide hbr
      have hAr := HAW.out.trans (hbr.mono HAW.out.size)
      have HAR := hide hAr
      have HBr := hide (HBW.out.later hbr)
      have HRr := hide (HRW.out.later hbr)
      have HTr := hide (HTW.out.later hbr)
      have u0 := HBr.out.cell 0
      have u5 := HBr.out.cell 5
      have u7 := HBr.out.cell 7
      have ul := HBr.out.lt
      simp at u0 u5 u7
      have v0 := HTr.out.cell 0
      have vl := HTr.out.lt
      simp at v0
      clear hgo hbr
      by_cases hlt : j < vs.length
      · obtain ⟨v, hv⟩ : ∃ v, vs[j]? = some v := ⟨_, List.getElem?_eq_getElem hlt⟩
        have hrv := HH2.out wr hAr
        obtain ⟨b, off, rfl, hb, q⟩ := hrv.hereI hv
        have hk1 : (0 : Int) ≤ (j : Int) := by omega
        have hk2 : (j : Int) < (vs.length : Int) := by omega
        have hk3 : (j : Int) ≤ (cap2 : Int) := by omega
        have hk4 : (j : Int) ≤ (vs.length : Int) := by omega
        have HHJ := hide (fun m => Has_any _ (vs.take j) v (wr.drewN m) ((hrv.upto2 (hi := j) (by omega)).drewN m))
        have HT := hide (show vs.take (j + 1) = vs.take j ++ [v] by rw [List.take_add_one, hv]; rfl)
        rw [drop_consN hv, voGo_step] at HGO
        clear hv hrv hAr
        by_cases hlo : v < 0
        · have HE := hide (HK2.out.trans (if_pos (.inl (by rw [HVB2.out, ← HGO.out, wiB_false.2 (by omega)]; rfl))))
          have d1 : decide (v < 0) = true := decide_eq_true hlo
          go_wp2_with fail
          go_quiet (fail)
          go_upto_region 20 with fail
          go_wp2_with (first
            | (refine wpList_load_blk HTr.out Try.underlying30 rfl Try.sizeFaultR rfl rfl rfl ?_)
            | (refine wpList_store_blk rfl rfl rfl rfl HRr.out rfl Try.sizeFaultR rfl ?_; intro w8 hR8 hg8; have HR8 := hide hR8; have HG8 := hide hg8; clear hR8 hg8))
          refine bodyPost_ret (results1_cell Try.results15 rfl (run_loadVar_blk HR8.out Try.underlying30 rfl Try.sizeFaultR)) rfl ?_
          exact ⟨by rw [HE.out] <;> rfl, below_grownO (below_drewN HAR.out _) HG8.out (fun k hk => by cases hk; omega) (below_drewN HAR.out _).size⟩
        have d1 : decide (v < 0) = false := decide_eq_false hlo
        by_cases hhi : n ≤ v
        · have HE := hide (HK2.out.trans (if_pos (.inl (by rw [HVB2.out, ← HGO.out, wiB_false.2 (by omega)]; rfl))))
          have d2 : decide (n ≤ v) = true := decide_eq_true hhi
          go_wp2_with fail
          go_quiet (fail)
          go_upto_region 20 with fail
          go_wp2_with (first
            | (refine wpList_load_blk HTr.out Try.underlying30 rfl Try.sizeFaultR rfl rfl rfl ?_)
            | (refine wpList_store_blk rfl rfl rfl rfl HRr.out rfl Try.sizeFaultR rfl ?_; intro w8 hR8 hg8; have HR8 := hide hR8; have HG8 := hide hg8; clear hR8 hg8))
          refine bodyPost_ret (results1_cell Try.results15 rfl (run_loadVar_blk HR8.out Try.underlying30 rfl Try.sizeFaultR)) rfl ?_
          exact ⟨by rw [HE.out] <;> rfl, below_grownO (below_drewN HAR.out _) HG8.out (fun k hk => by cases hk; omega) (below_drewN HAR.out _).size⟩
        have d2 : decide (n ≤ v) = false := decide_eq_false hhi
        have HWI := hide (show wiB v 0 (n - 1) = true from wiB_true.2 (by omega))
        by_cases hmm : v ∈ vs.take j
        · have HE := hide (HK2.out.trans (if_pos (.inl (by rw [HVB2.out, ← HGO.out, decide_eq_true hmm]; simp))))
          have HDV := hide (decide_eq_true hmm)
          clear hmm
          go_wp2_with fail
          go_quiet (first | (go_at_call 44; exact Calls.quiet_of_same (HHJ.out _)))
          rw [HDV.out]
          go_upto_region 20 with fail
          go_wp2_with (first
            | (refine wpList_load_blk HTr.out Try.underlying30 rfl Try.sizeFaultR rfl rfl rfl ?_)
            | (refine wpList_store_blk rfl rfl rfl rfl HRr.out rfl Try.sizeFaultR rfl ?_; intro w8 hR8 hg8; have HR8 := hide hR8; have HG8 := hide hg8; clear hR8 hg8))
          refine bodyPost_ret (results1_cell Try.results15 rfl (run_loadVar_blk HR8.out Try.underlying30 rfl Try.sizeFaultR)) rfl ?_
          exact ⟨by rw [HE.out] <;> rfl, below_grownO (below_drewN HAR.out _) HG8.out (fun k hk => by cases hk; omega) (below_drewN HAR.out _).size⟩
        have HS := hide (show voGo n (vs.take (j + 1)) (vs.drop (j + 1)) = voGo n [] vs by rw [← HGO.out, HWI.out, HT.out, decide_eq_false hmm]; rfl)
        have HDV := hide (decide_eq_false hmm)
        clear hmm
        go_wp2_with fail
        go_quiet (first | (go_at_call 44; exact Calls.quiet_of_same (HHJ.out _)))
        rw [HDV.out]
        go_wp2_with fail
        go_roundw
        case rel => exact ⟨j + 1, by omega, by go_num, HS.out, below_drewN HBR.out _⟩
        case measure => simp [intOf]; omega
      · have hje : j = vs.length := by omega
        subst hje
        rw [List.drop_length, voGo] at HGO
        have HE := hide (HK2.out.trans (if_neg (by rw [HVB2.out, ← HGO.out, HKN.out]; simp)))
        clear hAr
        go_upto_region 29 with fail
        go_wp2_with (refine wpList_store_blk rfl rfl rfl rfl HRr.out rfl Try.sizeFaultR rfl ?_; intro w8 hR8 hg8; have HR8 := hide hR8; have HG8 := hide hg8; clear hR8 hg8)
        refine bodyPost_ret (results1_cell Try.results15 rfl (run_loadVar_blk HR8.out Try.underlying30 rfl Try.sizeFaultR)) rfl ?_
        exact ⟨by rw [HE.out] <;> rfl, below_grownO HAR.out HG8.out (fun k hk => by cases hk; omega) HAR.out.size⟩

end Go.Proofs.Ytbffmdhogehfnaa
