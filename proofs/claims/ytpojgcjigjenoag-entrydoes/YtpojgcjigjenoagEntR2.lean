/-
  The walk over the document's PutLog.
-/
import Derived.Test.YtpojgcjigjenoagEntR1
import Derived.Test.YtpojgcjigjenoagGenX
namespace Go.Proofs.Ytpojgcjigjenoag
open Go.RowKit
set_option linter.unusedVariables false

theorem Blk.two0 {w : World} {B : Nat} {t : TypeId} {a b x y : Value} (h : Blk w B t #[a, b]) : Blk ((w.setCell ⟨B, 0, none⟩ x).setCell ⟨B, 1, none⟩ y) B t #[x, y] := by
  have := (h.set 0 x).set 1 y
  simpa using this

theorem RdG.two0 {w : World} {v : Value} {xs : List Et} {B : Nat} {t : TypeId} {a b x y : Int} (hr : RdG eE w v xs) (h : Blk w B t #[.int .i64 a, .int .i64 b]) : RdG eE ((w.setCell ⟨B, 0, none⟩ (.int .i64 x)).setCell ⟨B, 1, none⟩ (.int .i64 y)) v xs := by
  have h1 : Blk (w.setCell ⟨B, 0, none⟩ (.int .i64 x)) B t #[.int .i64 x, .int .i64 b] := by
    have := h.set 0 (.int .i64 x)
    simpa using this
  exact (hr.grownEnt (grown_setCell w B 0 _) h).grownEnt (grown_setCell _ B 1 _) h1

/-- Is the next one there? -/
def nxB (l m : List Et) (N j : Nat) : Bool := match m[j]? with
  | some e => hasE l (N + j + 1) e.term
  | none => false

theorem nxB_some {l m : List Et} {N j : Nat} {e : Et} (h : m[j]? = some e) : nxB l m N j = hasE l (N + j + 1) e.term := by unfold nxB; rw [h]
theorem nxB_none {l m : List Et} {N j : Nat} (h : m.length ≤ j) : nxB l m N j = false := by unfold nxB; rw [List.getElem?_eq_none h]

theorem set_selfE {l : List Et} {k : Nat} {e : Et} (h : l[k]? = some e) : l.set k e = l := by
  apply List.ext_getElem?
  intro i
  rw [List.getElem?_set]
  by_cases hi : k = i
  · subst hi
    have := (List.getElem?_eq_some_iff.1 h).1
    rw [if_pos rfl, if_pos this, h]
  · rw [if_neg hi]

set_option maxRecDepth 100000 in
set_option maxHeartbeats 8000000 in
theorem PutLog_any (v u : Value) (l m : List Et) (n t : Int) (w : World) (hv : RdG eE w v l) (hu : RdG eE w u m) :
    Calls Try.prog 41 #[v, .int .i64 n, .int .i64 t, u] w fun e w' => ∃ v', e = .returned (.tuple #[v', .bool (putI l n t m), flt (putX l n t m)]) ∧ RdG eE w' v' (putL l n t m) ∧ Below w.heap.size w w' := by
  have HF1 : Hid (putL l n t m = if (ptF l n t m).1 ≠ 0 then [] else if hasE l n.toNat t = false then l else if (outF (putGo l n.toNat m)).1 ≠ 0 then [] else putGo l n.toNat m) := hide rfl
  have HF2 : Hid (putI l n t m = if (ptF l n t m).1 ≠ 0 then false else if hasE l n.toNat t = false then false else if (outF (putGo l n.toNat m)).1 ≠ 0 then false else true) := hide rfl
  have HF3 : Hid (putX l n t m = if (ptF l n t m).1 ≠ 0 then ptF l n t m else if hasE l n.toNat t = false then (0, 0) else outF (putGo l n.toNat m)) := hide rfl
  have HPT : Hid (ptF l n t m = if (bothF l m).1 ≠ 0 then bothF l m else plF n t) := hide rfl
  have HI := hide (LogsFault_any v u l m _ (hv.alloc (.cells #[.int .i64 0, .int .i64 0] 29)) (hu.alloc _))
  have HV := hide hv
  have HU := hide hu
  obtain ⟨ao, cap, rfl, hcap1, hcap2⟩ := hv.shape
  obtain ⟨bo, cbp, rfl, hcbp1, hcbp2⟩ := hu.shape
  have HR0 := hide (Blk.new w 29 #[.int .i64 0, .int .i64 0])
  have HB0 := hide (below_allocG w (.cells #[.int .i64 0, .int .i64 0] 29))
  have HZ := hide (bothF_z l m)
  have HZP := hide (plF_z n t)
  have HOK := hide (fun h => ptF_ok (l := l) (n := n) (t := t) (m := m) h)
  generalize hK : bothF l m = K at *
  obtain ⟨x, y⟩ := K
  generalize hPL : plF n t = PL at *
  have HPL := hide hPL
  obtain ⟨p, q⟩ := PL
  generalize ptF l n t m = PT at *
  clear hv hK hu hPL
  generalize putL l n t m = RL at *
  generalize putI l n t m = RI at *
  generalize putX l n t m = RX at *
  go_enter Try.func41, Try.ntmps41
  go_wp2_with fail
  refine HI.out.mono ?_
  rintro e w1 ⟨rfl, hb1⟩
  have HBW := hide ((HB0.out.trans (hb1.mono HB0.out.size)).trans ((below_allocG w1 (.cells #[.int .i64 x, .int .i64 y] 29)).mono (HB0.out.trans (hb1.mono HB0.out.size)).size))
  have HR := hide ((HR0.out.later hb1).later (below_allocG w1 (.cells #[.int .i64 x, .int .i64 y] 29)))
  have HN1 := hide (Blk.new w1 29 #[.int .i64 x, .int .i64 y])
  have hrl := (HR0.out.later hb1).lt
  have HRw := hide (HR0.out.later hb1)
  have HBw := hide (HB0.out.trans (hb1.mono HB0.out.size))
  clear hb1 HI HR0 HB0
  unfold flt
  by_cases hx : x ≠ 0
  · have hPT := HPT.out.trans (if_pos hx)
    have HE1 := hide (show RL = [] by rw [HF1.out, hPT, if_pos hx])
    have HE2 := hide (show RI = false by rw [HF2.out, hPT, if_pos hx])
    have HE3 := hide (show RX = (x, y) by rw [HF3.out, hPT, if_pos hx])
    have hq : (x == 0) = false := beq_eq_false_iff_ne.2 hx
    have hq2 : (x != 0) = true := by simp [hx]
    clear hx hPT
    have r0 := HRw.out.cell 0
    have r1 := HRw.out.cell 1
    have z0 := HRw.out.frozen 0
    have z1 := HRw.out.frozen 1
    simp at r0 r1
    go_wp2_with fail
    go_region
    have hbw := HBw.out
    go_wp2_with fail
    refine bodyPost_ret (v := .tuple #[.slice none 0 0, .bool false, .agg #[.int .i64 x, .int .i64 y]]) (results3_ttc Try.results41 rfl rfl rfl (run_loadVar_blk (xs := #[.int .i64 x, .int .i64 y]) (HRw.out.two) Try.underlying29 rfl Try.sizeFaultE)) rfl ?_
    exact ⟨_, by rw [HE2.out, HE3.out]; rfl, by rw [HE1.out]; exact RdG.nil _, by go_grown⟩
  have HPT2 := hide (HPT.out.trans (if_neg hx))
  obtain rfl : x = 0 := Decidable.not_not.1 hx
  obtain rfl : y = 0 := by have := HZ.out rfl; simpa using this
  clear hx HPT
  go_upto_region 4 with (first
    | (go_at_call 39; refine (PlaceFault_any n t _).mono ?_; rw [HPL.out]; rintro e w2 ⟨rfl, hb2⟩; have HR2 := hide (HR.out.later hb2); have HN2 := hide (HN1.out.later hb2); have HB2 := hide (HBW.out.trans (hb2.mono HBW.out.size)); clear hb2; unfold flt)
    | (refine wpList_store_blk rfl rfl rfl rfl HN2.out rfl Try.sizeFaultE rfl ?_; intro w3 hN3 hg3; have HN3 := hide hN3; have HR3 := hide (HR2.out.grown hg3 (fun z => by simp at z; omega)); have HB3 := hide (below_grownO HB2.out hg3 (fun k hk => by cases hk; omega) HB2.out.size); clear hN3 hg3))
  clear HR HN1 HBW HR2 HN2 HB2
  have hn3 := HN3.out.lt
  have hr3 := HR3.out.lt
  have c0 := HN3.out.cell 0
  have c1 := HN3.out.cell 1
  simp at c0 c1
  by_cases hp : p ≠ 0
  · have HE1 := hide (show RL = [] by rw [HF1.out, HPT2.out, if_pos hp])
    have HE2 := hide (show RI = false by rw [HF2.out, HPT2.out, if_pos hp])
    have HE3 := hide (show RX = (p, q) by rw [HF3.out, HPT2.out, if_pos hp])
    have hq : (p == 0) = false := beq_eq_false_iff_ne.2 hp
    have hq2 : (p != 0) = true := by simp [hp]
    clear hp
    have r0 := HR3.out.cell 0
    have r1 := HR3.out.cell 1
    have z0 := HR3.out.frozen 0
    have z1 := HR3.out.frozen 1
    simp at r0 r1
    go_wp2_with fail
    go_region
    have hbw := HB3.out
    go_wp2_with fail
    refine bodyPost_ret (v := .tuple #[.slice none 0 0, .bool false, .agg #[.int .i64 p, .int .i64 q]]) (results3_ttc Try.results41 rfl rfl rfl (run_loadVar_blk (xs := #[.int .i64 p, .int .i64 q]) (HR3.out.two0) Try.underlying29 rfl Try.sizeFaultE)) rfl ?_
    exact ⟨_, by rw [HE2.out, HE3.out]; rfl, by rw [HE1.out]; exact RdG.nil _, by go_grown⟩
  obtain rfl : p = 0 := Decidable.not_not.1 hp
  obtain rfl : q = 0 := by have := HZP.out rfl; simpa using this
  clear hp HZP
  have HG1 := hide (show RL = if hasE l n.toNat t = false then l else if (outF (putGo l n.toNat m)).1 ≠ 0 then [] else putGo l n.toNat m by rw [HF1.out, HPT2.out, if_neg (by simp)])
  have HG2 := hide (show RI = if hasE l n.toNat t = false then false else if (outF (putGo l n.toNat m)).1 ≠ 0 then false else true by rw [HF2.out, HPT2.out, if_neg (by simp)])
  have HG3 := hide (show RX = if hasE l n.toNat t = false then (0, 0) else outF (putGo l n.toNat m) by rw [HF3.out, HPT2.out, if_neg (by simp)])
  obtain ⟨k1, k2, k3, k4⟩ := HOK.out (by rw [HPT2.out])
  obtain ⟨n0, n1⟩ := numL_iff.1 k3
  have l1 := (chkE_fine k1).2
  have l2 := (chkE_fine k2).2
  have HFN := hide (fun N => putGo_fine (k := N) (chkE_fine k1).1 (chkE_fine k2).1)
  have hnn : n = ((n.toNat : Nat) : Int) := by omega
  clear HF1 HF2 HF3 HOK k1 k2 k3 k4 HPT2
  generalize hN : n.toNat = N at *
  subst hnn
  clear hN
  have HV3 := hide (HV.out.below HB3.out)
  unfold maxLen at hcap2 hcbp2
  go_upto_region 6 with fail
  go_cut [53] (fun x wc => x = .bool (!hasE l N t) ∧ w3 = wc)
  case first =>
    by_cases hle : N ≤ l.length
    · have hd1 : decide ((l.length : Int) < (N : Int)) = false := decide_eq_false (by omega)
      have hd2 : decide (l.length < N) = false := decide_eq_false (by omega)
      by_cases hN0 : N = 0
      · have HE : Hid (hasE l N t = decide (t = 0)) := hide (by rw [hN0]; rfl)
        have h0 : ((N : Int) == 0) = true := by simp [hN0]
        have h5 : decide (0 < (N : Int)) = false := decide_eq_false (by omega)
        have h6 : decide (0 < N) = false := decide_eq_false (by omega)
        clear hN0
        by_cases ht : t = 0
        · have HE2 := hide (HE.out.trans (decide_eq_true ht))
          have hq : (t != 0) = false := by simp [ht]
          clear ht
          go_wp2_with fail
          go_meet
          case rel => exact ⟨by rw [HE2.out]; first | rfl | (simp; omega), rfl⟩
        · have HE2 := hide (HE.out.trans (decide_eq_false ht))
          have hq : (t != 0) = true := by simp [ht]
          clear ht
          go_wp2_with fail
          go_meet
          case rel => exact ⟨by rw [HE2.out]; first | rfl | (simp; omega), rfl⟩
      · obtain ⟨k, hk⟩ : ∃ k, N = k + 1 := ⟨N - 1, by omega⟩
        obtain ⟨f, hf⟩ : ∃ f, l[k]? = some f := ⟨_, List.getElem?_eq_getElem (by omega)⟩
        have HE := hide (show hasE l N t = decide (f.term = t) by rw [hk]; exact hasE_some (t := t) hf)
        obtain ⟨b, off, rfl, hb, hat⟩ := HV3.out.here hf
        obtain ⟨q0, q1⟩ := hat.ent
        have hw1 : IntKind.i64.wrap ((N : Int) - 1) = (k : Int) := by rw [IntKind.wrap_i64]; omega
        have h2 : (0 : Int) ≤ (k : Int) := by omega
        have h3 : (k : Int) < (l.length : Int) := by omega
        have h0 : ((N : Int) == 0) = false := beq_eq_false_iff_ne.2 (by omega)
        have h5 : decide (0 < (N : Int)) = true := decide_eq_true (by omega)
        have h6 : decide (0 < N) = true := decide_eq_true (by omega)
        clear hk hN0 hat hf
        by_cases ht : f.term = t
        · have HE2 := hide (HE.out.trans (decide_eq_true ht))
          have hq : (f.term != t) = false := by simp [ht]
          clear ht
          go_wp2_with fail
          go_meet
          case rel => exact ⟨by rw [HE2.out]; first | rfl | (simp; omega), rfl⟩
        · have HE2 := hide (HE.out.trans (decide_eq_false ht))
          have hq : (f.term != t) = true := by simp [ht]
          clear ht
          go_wp2_with fail
          go_meet
          case rel => exact ⟨by rw [HE2.out]; first | rfl | (simp; omega), rfl⟩
    · have HE := hide (show hasE l N t = false by rw [Bool.eq_false_iff]; intro q; exact hle (hasE_le q))
      have hd1 : decide ((l.length : Int) < (N : Int)) = true := decide_eq_true (by omega)
      have hd2 : decide (l.length < N) = true := decide_eq_true (by omega)
      go_wp2_with fail
      go_meet
      case rel => exact ⟨by rw [HE.out]; rfl, rfl⟩
  case rest =>
  obtain ⟨rfl, rfl⟩ := hcut
  cases hh : hasE l N t
  · have HE1 := hide (HG1.out.trans (if_pos hh))
    have HE2 := hide (HG2.out.trans (if_pos hh))
    have HE3 := hide (HG3.out.trans (if_pos hh))
    have HCP := hide (CopyLog_any _ l _ (HV3.out.drew) (by omega))
    have r0 := HR3.out.cell 0
    have r1 := HR3.out.cell 1
    have z0 := HR3.out.frozen 0
    have z1 := HR3.out.frozen 1
    simp at r0 r1
    clear hh
    go_wp2_with fail
    go_region_with (go_at_call 32; refine HCP.out.mono ?_; rintro e w5 ⟨v5, rfl, ho5, hb5⟩; obtain ⟨so, sc, rfl⟩ := owns_shapeE ho5; have HO5 := hide ho5; have hb6 := (Below.drew (Below.refl w3.heap.size w3)).trans (hb5.mono (Nat.le_refl _)); have HB5 := hide hb6; have hR5 := HR3.out.later hb6; have HR5 := hide hR5; have d0 := cell_belowG c0 hb6; have d1 := cell_belowG c1 hb6; have e0 := hR5.cell 0; have e1 := hR5.cell 1; have f0 := hR5.frozen 0; have f1 := hR5.frozen 1; simp at e0 e1; clear ho5 hb5 hb6 hR5)
    all_goals
      have hbw := HB3.out.trans (HB5.out.mono HB3.out.size)
      go_wp2_with fail
      refine bodyPost_ret (v := .tuple #[.slice so l.length sc, .bool false, .agg #[.int .i64 0, .int .i64 0]]) (results3_ttc Try.results41 rfl rfl rfl (run_loadVar_blk (xs := #[.int .i64 0, .int .i64 0]) (HR5.out.two0) Try.underlying29 rfl Try.sizeFaultE)) rfl ?_
      exact ⟨_, by rw [HE2.out, HE3.out]; rfl, by rw [HE1.out]; exact (RdG.ofOwns HO5.out).two0 HR5.out, by go_grown⟩
  have HH1 := hide (HG1.out.trans (if_neg (by rw [hh]; simp)))
  have HH2 := hide (HG2.out.trans (if_neg (by rw [hh]; simp)))
  have HH3 := hide (HG3.out.trans (if_neg (by rw [hh]; simp)))
  have hNle := hasE_le hh
  have HSM := hide (out_same (HFN.out N))
  have HGE := hide (putGo_len m l N)
  generalize hPG : putGo l N m = PG at *
  have HPG := hide hPG
  have HU3 := hide (HU.out.below HB3.out)
  clear hh hPG HG1 HG2 HG3
  go_wp2_with fail
  go_loopw [12] (fun iv wr => ∃ (j : Nat), j ≤ m.length ∧ iv = .int .i64 j ∧ N + j ≤ l.length ∧ putGo l (N + j) (m.drop j) = PG ∧ Below w3.heap.size w3 wr)
    (fun iv _ => m.length - (intOf iv).toNat)
  case atStart => exact ⟨0, by omega, rfl, by omega, HPG.out, Below.refl _ _⟩
  case round =>
    obtain ⟨j, hj, rfl, hNj, hgo, hbr⟩ := hrel
    have HGO := hide hgo
    have HBR := hide hbr
    clear hgo
    go_upto_region 9 with fail
    go_cut [83] (fun x wc => x = .bool (nxB l m N j) ∧ Below wr.heap.size wr wc)
    case first =>
      by_cases hlt : j < m.length
      · obtain ⟨e, he⟩ : ∃ e, m[j]? = some e := ⟨_, List.getElem?_eq_getElem hlt⟩
        have HE := hide (nxB_some (l := l) (N := N) he)
        obtain ⟨b2, off2, rfl, hb2, hat2⟩ := HU3.out.here he
        obtain ⟨q0, q1⟩ := (hat2.below hbr).ent
        have hd1 : decide ((j : Int) < (m.length : Int)) = true := decide_eq_true (by omega)
        have hd1' : decide (j < m.length) = true := decide_eq_true (by omega)
        have hk1 : (0 : Int) ≤ (j : Int) := by omega
        have hk2 : (j : Int) < (m.length : Int) := by omega
        have hwr : IntKind.i64.wrap ((N : Int) + (j : Int)) = (N : Int) + (j : Int) := by rw [IntKind.wrap_i64]; omega
        clear hat2 he
        by_cases hlt2 : N + j < l.length
        · obtain ⟨f, hf⟩ : ∃ f, l[N + j]? = some f := ⟨_, List.getElem?_eq_getElem hlt2⟩
          have HE2 := hide (HE.out.trans (hasE_some hf))
          obtain ⟨b, off, rfl, hb, hat⟩ := HV3.out.here hf
          obtain ⟨p0, p1⟩ := (hat.below hbr).ent
          have hd2 : decide ((N : Int) + (j : Int) < (l.length : Int)) = true := decide_eq_true (by omega)
          have hd3 : decide (N + j < l.length) = true := decide_eq_true (by omega)
          have hk3 : (0 : Int) ≤ (N : Int) + (j : Int) := by omega
          have hk4 : (N : Int) + (j : Int) < (l.length : Int) := by omega
          have hto : ((N : Int) + (j : Int)).toNat = N + j := by omega
          clear hat hf
          go_quiet (fail)
          go_wp2_with fail
          go_meet
          case rel => exact ⟨by rw [HE2.out]; first | rfl | simp, below_drewN (Below.refl _ _) _⟩
        · have HE2 := hide (HE.out.trans (hasE_none (by omega)))
          have hd2 : decide ((N : Int) + (j : Int) < (l.length : Int)) = false := decide_eq_false (by omega)
          have hd3 : decide (N + j < l.length) = false := decide_eq_false (by omega)
          go_quiet (fail)
          go_wp2_with fail
          go_meet
          case rel => exact ⟨by rw [HE2.out] <;> rfl, below_drewN (Below.refl _ _) _⟩
      · have HE := hide (nxB_none (l := l) (m := m) (N := N) (j := j) (by omega))
        have hd1 : decide ((j : Int) < (m.length : Int)) = false := decide_eq_false (by omega)
        have hd1' : decide (j < m.length) = false := decide_eq_false (by omega)
        go_quiet (fail)
        go_wp2_with fail
        go_meet
        case rel => exact ⟨by rw [HE.out] <;> rfl, below_drewN (Below.refl _ _) _⟩
    case rest =>
      obtain ⟨rfl, hbc⟩ := hcut
      have HBc := hide (HBR.out.trans (hbc.mono HBR.out.size))
      clear hbc hbr
      cases hnx : nxB l m N j
      · have HVc := hide (HV3.out.below HBc.out)
        have HUc := hide (HU3.out.below HBc.out)
        have HRc := hide (HR3.out.later HBc.out)
        have HNc := hide (HN3.out.later HBc.out)
        have HBWc := hide (HB3.out.trans (HBc.out.mono HB3.out.size))
        have hrc := HRc.out.lt
        have hnc := HNc.out.lt
        have HC1 := hide (CopyLog_any _ l _ HVc.out (by omega))
        have HNX := hide hnx
        clear hnx
        go_wp2_with fail
        refine HC1.out.mono ?_
        rintro e w4 ⟨v4, rfl, ho4, hb4⟩
        obtain ⟨so, sc, rfl⟩ := owns_shapeE ho4
        have HO4 := hide ho4
        have HB4 := hide hb4
        clear ho4 hb4 HC1
        go_upto_if 91 with fail
        go_cut [13] (fun x wd => ∃ s, s = x ∧ RdG eE wd s PG ∧ Below wc.heap.size wc wd)
        case first =>
          by_cases hlt : j < m.length
          · obtain ⟨e, he⟩ : ∃ e, m[j]? = some e := ⟨_, List.getElem?_eq_getElem hlt⟩
            have HPE := hide (show PG = l.take (N + j) ++ m.drop j by
              rw [← HGO.out, drop_consE he, putGo, if_neg]
              rw [nxB_some he] at HNX
              rw [HNX.out]
              simp)
            have HV4 := HVc.out.below HB4.out
            have HU4 := HUc.out.below HB4.out
            have hs1 := run_slice_uptoK (K := 2) (P := Try.prog) Try.underlying59 (by kernel_rfl) infoEntry ao l.length cap (N + j) ((N : Int) + (j : Int)) (by omega) (by omega)
            have hs2 := run_slice_fromK (K := 2) (P := Try.prog) Try.underlying59 (by kernel_rfl) infoEntry bo m.length cbp j j rfl hj
            have hr1 := HV4.upto (hi := N + j) hNj
            have hr2 := HU4.from (lo := j) hj
            obtain ⟨x1, hx1⟩ : ∃ x, Go.sliced ao 0 (N + j) cap 2 = x := ⟨_, rfl⟩
            obtain ⟨x2, hx2⟩ : ∃ x, Go.sliced bo j m.length cbp 2 = x := ⟨_, rfl⟩
            rw [hx1] at hs1 hr1
            rw [hx2] at hs2 hr2
            obtain ⟨y1, z1, hy1, _, _⟩ := hr1.shape
            obtain ⟨y2, z2, hy2, _, _⟩ := hr2.shape
            subst hy1 hy2
            have hL1 : (l.take (N + j)).length ≤ 1000 := by simp; omega
            have hL2 : (m.drop j).length ≤ 1000 := by simp; omega
            have hL3 : 0 < (m.drop j).length := by simp; omega
            have HCP := hide (CopyLog_any _ _ _ hr1.drew (by omega))
            have hwr : IntKind.i64.wrap ((N : Int) + (j : Int)) = (N : Int) + (j : Int) := by rw [IntKind.wrap_i64]; omega
            have hi0 : (0 : Int) ≤ (N : Int) + (j : Int) := by omega
            have hi1 : (N : Int) + (j : Int) ≤ (l.length : Int) := by omega
            have hi2 : (N : Int) + (j : Int) ≤ (cap : Int) := by omega
            have hi3 : (j : Int) ≤ (m.length : Int) := by omega
            have hd1 : decide ((j : Int) < (m.length : Int)) = true := decide_eq_true (by omega)
            have hd2 : decide (j < m.length) = true := decide_eq_true (by omega)
            have HGT := hide (show ∀ i e, j ≤ i → m[i]? = some e → PG[N + i]? = some e by
              intro i e hji hi
              rw [HPE.out, List.getElem?_append_right (by simp; omega), List.length_take, Nat.min_eq_left (by omega), List.getElem?_drop, show j + (N + i - (N + j)) = i by omega, hi])
            have HPL := hide (show PG.length = (l.take (N + j)).length + (m.drop j).length by rw [HPE.out, List.length_append])
            have HPN := hide (show PG.length = N + m.length by rw [HPE.out, List.length_append, List.length_take, List.length_drop]; omega)
            have HRD2 := hide hr2
            clear hx1 hx2 hr1 hr2 HV4 HU4 he
            generalize hL1g : l.take (N + j) = L1 at *
            generalize hL2g : m.drop j = L2 at *
            have hsz : L1.length + L2.length ≤ 1000000000 := by omega
            clear hL1g hL2g
            go_wp2_with fail
            go_region_held3 (fun _ => True) (trivial) (first
              | (go_at_call 32; refine HCP.out.mono ?_; rintro e w5 ⟨v5, rfl, ho5, hb5⟩; obtain ⟨so5, sc5, rfl⟩ := owns_shapeE ho5; have HO5 := hide ho5; have hb5' := (Below.drew (Below.refl w4.heap.size w4)).trans (hb5.mono (Nat.le_refl _)); have HB5 := hide hb5'; have HR25 := hide (HRD2.out.below hb5'); clear ho5 hb5 hb5')
              | (refine step_append_rdK HO5.out HR25.out Try.underlying59 infoEntry rfl rfl rfl rfl rfl hsz (by decide) HB5.out.size ?_; intro v6 w6 ho6 hg6; obtain ⟨so6, sc6, rfl⟩ := owns_shapeE ho6; have HO6 := hide ho6; have HG6 := hide hg6; clear ho6 hg6))
            have HB6 := hide (below_grownO HB5.out HG6.out (fun k hk => (HO5.out.lt k hk).1) HB5.out.size)
            have HO7 := hide (show w6.ownsRow w4.heap.size 72 2 (.slice so6 (L1.length + L2.length) sc6) (L1.length + L2.length) (eE.vs PG) by rw [HPE.out]; exact HO6.out)
            obtain ⟨g, gc, cur, hgv, hgb, _⟩ := owns_pos HO7.out (by omega)
            simp only [Value.slice.injEq] at hgv
            obtain ⟨rfl, _, rfl⟩ := hgv
            clear HO6 HO5 HG6 HB5 HR25 HPE
            generalize hn6 : L1.length + L2.length = n6 at HO7 HPL ⊢
            have hn61 : N + m.length ≤ n6 := by rw [← HPN.out, HPL.out]; exact Nat.le_refl _
            have hn62 : n6 ≤ 1000 := by rw [← HPL.out, HPN.out]; omega
            have HU6 := hide (HUc.out.below HB4.out)
            clear hn6
            go_wp2_with fail
            go_loopw [14] (fun iv wr => ∃ i : Nat, j ≤ i ∧ i ≤ m.length ∧ iv = .int .i64 i ∧ wr.ownsRow w4.heap.size 72 2 (.slice (some ⟨g, 0, none⟩) n6 sc6) n6 (eE.vs PG) ∧ Below w4.heap.size w4 wr)
              (fun iv _ => m.length - (intOf iv).toNat)
            case atStart => exact ⟨j, Nat.le_refl _, by omega, rfl, HO7.out, HB6.out⟩
            case round =>
              obtain ⟨i, hji, him, rfl, hown, hbr⟩ := hrel
              have HOW := hide hown
              have HBr := hide hbr
              by_cases hlt3 : i < m.length
              · obtain ⟨e, he⟩ : ∃ e, m[i]? = some e := ⟨_, List.getElem?_eq_getElem hlt3⟩
                obtain ⟨b, off, rfl, hb, hat⟩ := HU6.out.here he
                obtain ⟨q0, q1⟩ := (hat.below hbr).ent
                have HSE := hide (set_selfE (HGT.out i e hji he))
                have hk1 : (0 : Int) ≤ (i : Int) := by omega
                have hk2 : (i : Int) < (m.length : Int) := by omega
                have hwr2 : IntKind.i64.wrap ((N : Int) + (i : Int)) = (N : Int) + (i : Int) := by rw [IntKind.wrap_i64]; omega
                have hk3 : (0 : Int) ≤ (N : Int) + (i : Int) := by omega
                have hk4 : (N : Int) + (i : Int) < (n6 : Int) := by omega
                have hto : ((N : Int) + (i : Int)).toNat = N + i := by omega
                have hk5 : N + i < n6 := by omega
                clear hat he hown hbr
                go_wp2_with (refine wpList_store_own (E := eE) (cs := PG) (c := e) (k := N + i) HOW.out hk5 rfl rfl rfl rfl rfl rfl Try.sizeEntry ?_; intro w9 ho9 hg9; rw [HSE.out] at ho9; have HO9 := hide ho9; have HG9 := hide hg9; clear ho9 hg9)
                go_roundw
                case rel => exact ⟨i + 1, by omega, by omega, by go_num, HO9.out, below_grownO HBr.out HG9.out (fun k hk => by cases hk; exact hgb) HBr.out.size⟩
                case measure => simp [intOf]; omega
              · clear hown hbr
                go_wp2_with fail
                go_meet
                case rel => exact ⟨_, rfl, RdG.ofOwns HOW.out, HB4.out.trans (HBr.out.mono HB4.out.size)⟩
          · have HPE := hide (show PG = l by
              rw [← HGO.out, List.drop_of_length_le (by omega), putGo])
            have hd1 : decide ((j : Int) < (m.length : Int)) = false := decide_eq_false (by omega)
            have hd2 : decide (j < m.length) = false := decide_eq_false (by omega)
            go_wp2_with fail
            go_meet
            case rel => exact ⟨_, rfl, by rw [HPE.out]; exact RdG.ofOwns HO4.out, HB4.out⟩
        case rest =>
          obtain ⟨s, rfl, hrd, hbd⟩ := hcut
          obtain ⟨so2, sc2, rfl, _, _⟩ := hrd.shape
          have HRd := hide (HRc.out.later hbd)
          have HNd := hide (HNc.out.later hbd)
          have HBd := hide (HBWc.out.trans (hbd.mono HBWc.out.size))
          have HRD := hide hrd
          have HLF := hide (LogFault_any _ PG _ hrd)
          have HZC := hide (chkE_z PG)
          have HOR : Hid (outR PG = if (chkE PG).1 ≠ 0 then ((chkE PG).1, -1) else (0, 0)) := hide rfl
          rw [HSM.out] at HOR
          generalize hCK : chkE PG = CK at *
          obtain ⟨c, d⟩ := CK
          clear hrd hbd hCK
          go_wp2_with fail
          refine HLF.out.mono ?_
          rintro e w6 ⟨rfl, hb6⟩
          have HR6 := hide (HRd.out.later hb6)
          have HN6 := hide (HNd.out.later hb6)
          have HB6 := hide (HBd.out.trans (hb6.mono HBd.out.size))
          have HRD6 := hide (HRD.out.below hb6)
          have hn6 := HN6.out.lt
          clear hb6
          unfold flt
          go_upto_region 19 with (refine wpList_store_blk rfl rfl rfl rfl HN6.out rfl Try.sizeFaultE rfl ?_; intro w7 hN7 hg7; have HN7 := hide hN7; have HR7 := hide (HR6.out.grown hg7 (fun z => by simp at z; omega)); have HB7 := hide (below_grownO HB6.out hg7 (fun k hk => by cases hk; omega) HB6.out.size); have HRD7 := hide (HRD6.out.grownEnt hg7 HN6.out); clear hN7 hg7)
          have g0 := HN7.out.cell 0
          have g1 := HN7.out.cell 1
          have gl := HN7.out.lt
          simp at g0 g1
          by_cases hc : c ≠ 0
          · have hOF := HOR.out.trans (if_pos hc)
            have HE1 := hide (show RL = [] by rw [HH1.out, hOF, if_pos hc])
            have HE2 := hide (show RI = false by rw [HH2.out, hOF, if_pos hc])
            have HE3 := hide (show RX = (c, -1) by rw [HH3.out, hOF])
            have hq : (c == 0) = false := beq_eq_false_iff_ne.2 hc
            have hq2 : (c != 0) = true := by simp [hc]
            clear hc hOF
            go_wp2_with (first
              | (go_at_call 28; refine (lF_any _ _ _).mono ?_; rintro e w8 ⟨rfl, hb8⟩; have HR8 := hide (HR7.out.later hb8); have HB8 := hide (HB7.out.trans (hb8.mono HB7.out.size)); clear hb8; unfold flt)
              | (refine wpList_store_blk rfl rfl rfl rfl HR8.out rfl Try.sizeFaultE rfl ?_; intro w9 hR9 hg9; have HR9 := hide hR9; have HG9 := hide hg9; clear hR9 hg9))
            refine bodyPost_ret (v := .tuple #[.slice none 0 0, .bool false, .agg #[.int .i64 c, .int .i64 (-1)]]) (results3_ttc Try.results41 rfl rfl rfl (run_loadVar_blk HR9.out Try.underlying29 rfl Try.sizeFaultE)) rfl ?_
            exact ⟨_, by rw [HE2.out, HE3.out]; rfl, by rw [HE1.out]; exact RdG.nil _, below_grownO HB8.out HG9.out (fun k hk => by cases hk; omega) HB8.out.size⟩
          · have hOF := HOR.out.trans (if_neg hc)
            have HE1 := hide (show RL = PG by rw [HH1.out, hOF, if_neg (by simp)])
            have HE2 := hide (show RI = true by rw [HH2.out, hOF, if_neg (by simp)])
            have HE3 := hide (show RX = (0, 0) by rw [HH3.out, hOF])
            obtain rfl : c = 0 := Decidable.not_not.1 hc
            obtain rfl : d = 0 := by have := HZC.out rfl; simpa using this
            have r0 := HR7.out.cell 0
            have r1 := HR7.out.cell 1
            have z0 := HR7.out.frozen 0
            have z1 := HR7.out.frozen 1
            simp at r0 r1
            clear hc hOF
            go_wp2_with fail
            go_region
            have hbw := HB7.out
            go_wp2_with fail
            refine bodyPost_ret (v := .tuple #[.slice so2 PG.length sc2, .bool true, .agg #[.int .i64 0, .int .i64 0]]) (results3_ttc Try.results41 rfl rfl rfl (run_loadVar_blk (xs := #[.int .i64 0, .int .i64 0]) (HR7.out.two0) Try.underlying29 rfl Try.sizeFaultE)) rfl ?_
            exact ⟨_, by rw [HE2.out, HE3.out]; rfl, by rw [HE1.out]; exact HRD7.out.two0 HR7.out, by go_grown⟩
      · have hlt : j < m.length := by
          apply Decidable.byContradiction
          intro q
          rw [nxB_none (by omega)] at hnx
          contradiction
        obtain ⟨e, he⟩ : ∃ e, m[j]? = some e := ⟨_, List.getElem?_eq_getElem hlt⟩
        rw [nxB_some he] at hnx
        have hle2 := hasE_le hnx
        have HS := hide (show putGo l (N + (j + 1)) (m.drop (j + 1)) = PG by rw [← HGO.out, drop_consE he, putGo, if_pos hnx]; rfl)
        clear hnx he
        go_wp2_with fail
        go_roundw
        case rel => exact ⟨j + 1, by omega, by go_num, by omega, HS.out, HBc.out⟩
        case measure => simp [intOf]; omega

end Go.Proofs.Ytpojgcjigjenoag
