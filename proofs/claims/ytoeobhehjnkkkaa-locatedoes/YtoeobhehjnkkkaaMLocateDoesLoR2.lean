/-
  Texts joined: LoR2.
-/
import Derived.Test.YtoeobhehjnkkkaaMLocateDoesLoR1
/-
  The walks over the document's KnownFault, Meets and Learnt. (Written by lor2.py.)
-/
namespace Go.Proofs.Ytoeobhehjnkkkaa
open Go.RowKit Go.Maps
set_option linter.unusedVariables false

theorem ahK_walk (p q : Pt) : (p.to_.toList.isEmpty || (!Op.bytesLess p.to_.toList q.fr.toList && !(p.to_.toList == q.fr.toList))) = !ahK p q := by
  rw [gtS]
  unfold ahK
  cases p.to_.toList.isEmpty <;> simp

set_option maxRecDepth 100000 in
set_option maxHeartbeats 8000000 in
theorem KnownFault_any (v : Value) (l : List Kn) (w : World) (hv : RdG knE w v l) :
    Calls Try.prog 25 #[v] w fun e w' => e = .returned (flt (chkK l)) ∧ Below w.heap.size w w' := by
  have HV := hide hv
  obtain ⟨ao, cap, rfl, hc1, hc2⟩ := hv.shape
  unfold maxLen at hc2
  have HR0 := hide (Blk.new w 30 #[.int .i64 0, .int .i64 0])
  have HB0 := hide (below_allocG w (.cells #[.int .i64 0, .int .i64 0] 30))
  clear hv
  by_cases hm : 200 < l.length
  · have HE := hide (show chkK l = (2, -1) by rw [chkK, if_pos hm])
    have HFc := hide (rF_any 2 (-1))
    unfold flt at HFc
    go_enter Try.func25, Try.ntmps25
    go_wp2_with (first
      | (go_at_call 11; refine (HFc.out _).mono ?_; rintro e w7 ⟨rfl, hb7⟩; have HR7 := hide (HR0.out.later hb7); have HB7 := hide (HB0.out.trans (hb7.mono HB0.out.size)); clear hb7)
      | (refine wpList_store_blk rfl rfl rfl rfl HR7.out rfl Try.sizeFaultA rfl ?_; intro w8 hR8 hg8; have HR8 := hide hR8; have HB8 := hide (below_grownO HB7.out hg8 (fun k hk => by cases hk; omega) HB7.out.size); clear hR8 hg8))
    refine bodyPost_ret (v := .agg #[.int .i64 2, .int .i64 (-1)]) (results1_cell Try.results25 rfl (run_loadVar_blk HR8.out Try.underlying30 rfl Try.sizeFaultA)) rfl ?_
    exact ⟨by rw [HE.out]; rfl, HB8.out⟩
  · have HE := hide (show chkK l = chkKGo l l.length 0 by rw [chkK, if_neg hm])
    go_enter Try.func25, Try.ntmps25
    go_wp2_with fail
    go_loopw [3] (fun iv wr => ∃ k : Nat, k ≤ l.length ∧ iv = .int .i64 k ∧ chkKGo l (l.length - k) k = chkKGo l l.length 0 ∧ (∀ j, j < k → codeK l j = 0) ∧ Blk wr w.heap.size 30 #[.int .i64 0, .int .i64 0] ∧ Below w.heap.size w wr)
      (fun iv _ => l.length - (intOf iv).toNat)
    case atStart => exact ⟨0, by omega, rfl, rfl, fun j hj => by omega, HR0.out, HB0.out⟩
    case round =>
      obtain ⟨k, hk, rfl, hgo, hall, hrr, hbr⟩ := hrel
      have HRr := hide hrr
      have HG := hide (HE.out.trans hgo.symm)
      have HB := hide hbr
      have HALL := hide hall
      clear hgo hrr hall
      by_cases hlt : k < l.length
      · obtain ⟨p, hp⟩ : ∃ p, l[k]? = some p := ⟨_, List.getElem?_eq_getElem hlt⟩
        obtain ⟨b, off, rfl, hb, hat⟩ := HV.out.here hp
        have HAT := hide hat
        have hbw : b < wr.heap.size := Nat.lt_of_lt_of_le hb hbr.size
        obtain ⟨c0, c1, c2, c3, c4⟩ := (hat.below hbr).known
        have hgd : l.getD k zeroKn = p := by rw [List.getD_eq_getElem?_getD, hp]; rfl
        have hk1 : (0 : Int) ≤ (k : Int) := by omega
        have hk2 : (k : Int) < (l.length : Int) := by omega
        have HKC := hide (fun W => KnownCode_any p W)
        rw [show l.length - k = (l.length - (k + 1)) + 1 by omega] at HG
        clear hat hp hbr
        by_cases h0 : codeKn p.p = 0
        · simp only [h0] at HKC
          go_wp2_with (go_at_call 27; refine (HKC.out _).mono ?_; rintro e w1 ⟨rfl, hb1⟩; have HB1 := hide (HB.out.trans (hb1.mono HB.out.size)); have HR1 := hide (HRr.out.later hb1); clear hb1)
          clear HKC c0 c1 c2 c3 c4 hbw
          have HCZ : Hid (codeKn (l.getD k zeroKn).p = 0) := hide (by rw [hgd]; exact h0)
          clear h0
          go_loopw [4] (fun iv wr => ∃ j : Nat, j ≤ k ∧ iv = .int .i64 j ∧ (∀ i, i < j → ahK (l.getD i zeroKn).p p.p = true) ∧ Blk wr w.heap.size 30 #[.int .i64 0, .int .i64 0] ∧ Below w.heap.size w wr)
            (fun iv _ => k - (intOf iv).toNat)
          case atStart => exact ⟨0, by omega, rfl, fun i hi => by omega, HR1.out, HB1.out⟩
          case round =>
            obtain ⟨j, hj, rfl, haj, hrq, hbq⟩ := hrel
            have HRq := hide hrq
            have HBq := hide hbq
            have HAJ := hide haj
            clear hrq haj
            by_cases hjk : j < k
            · obtain ⟨q, hq⟩ : ∃ q, l[j]? = some q := ⟨_, List.getElem?_eq_getElem (by omega)⟩
              obtain ⟨b2, off2, hbe, hb2, hat2⟩ := HV.out.here hq
              simp only [Option.some.injEq, Addr.mk.injEq] at hbe
              obtain ⟨rfl, rfl, _⟩ := hbe
              have hgq : l.getD j zeroKn = q := by rw [List.getD_eq_getElem?_getD, hq]; rfl
              have HGQ := hide hgq
              have hbw : b < wr.heap.size := Nat.lt_of_lt_of_le hb hbq.size
              have HKEEP := hide (fun (W : World) (hW : Below wr.heap.size wr W) => show W.cell? ⟨b, off + j * 5 + 1, none⟩ = some (.string q.p.to_) ∧ W.cell? ⟨b, off + k * 5, none⟩ = some (.string p.p.fr) by
                have hb3 := HBq.out.trans (hW.mono HBq.out.size)
                obtain ⟨c0, c1, c2, c3, c4⟩ := (HAT.out.below hb3).known
                obtain ⟨d0, d1, d2, d3, d4⟩ := (hat2.below hb3).known
                exact ⟨d1, c0⟩)
              have hj1 : (0 : Int) ≤ (j : Int) := by omega
              have hj2 : (j : Int) < (l.length : Int) := by omega
              have hj3 : (j : Int) < (k : Int) := by omega
              have HAW := hide (ahK_walk q.p p.p)
              have HRd := hide (HRq.out.below (w' := wr.drew) (Below.drew (Below.refl _ _)) HRq.out.lt)
              have HBd := hide (Below.drew HBq.out)
              clear hat2 hq hbq hgq
              obtain ⟨d1, c0⟩ := HKEEP.out wr (Below.refl _ _)
              cases h3 : q.p.to_.toList.isEmpty <;> cases h5 : Op.bytesLess q.p.to_.toList p.p.fr.toList <;> cases h6 : (q.p.to_.toList == p.p.fr.toList)
              all_goals
                rw [h3, h5, h6] at HAW
                first
                | (have HA := hide (show ahK q.p p.p = false from by simpa using HAW.out)
                   have HCO := hide (codeK_some HALL.out hjk HCZ.out (by rw [hgd, HGQ.out]; exact HA.out))
                   rw [chkKGo_no (by rw [HCO.out]; decide), HCO.out] at HG
                   go_wp2_with fail
                   go_quiet (fail)
                   have HRn := hide (HRq.out.below (w' := wr.drewN nq) (below_drewN (Below.refl _ _) _) HRq.out.lt)
                   have HBn := hide (below_drewN HBq.out nq)
                   have HFc := hide (rF_any 10 k)
                   unfold flt at HFc
                   go_wp2_with (first
                     | (go_at_call 11; refine (HFc.out _).mono ?_; rintro e w7 ⟨rfl, hb7⟩; have HR7 := hide (HRn.out.later hb7); have HB7 := hide (HBn.out.trans (hb7.mono HBn.out.size)); clear hb7)
                     | (refine wpList_store_blk rfl rfl rfl rfl HR7.out rfl Try.sizeFaultA rfl ?_; intro w8 hR8 hg8; have HR8 := hide hR8; have HB8 := hide (below_grownO HB7.out hg8 (fun k hk => by cases hk; omega) HB7.out.size); clear hR8 hg8))
                   refine bodyPost_ret (v := .agg #[.int .i64 10, .int .i64 k]) (results1_cell Try.results25 rfl (run_loadVar_blk HR8.out Try.underlying30 rfl Try.sizeFaultA)) rfl ?_
                   exact ⟨by rw [HG.out]; rfl, HB8.out⟩)
                | (have HA := hide (show ahK q.p p.p = true from by simpa using HAW.out)
                   go_wp2_with fail
                   go_quiet (fail)
                   have HRn := hide (HRq.out.below (w' := wr.drewN nq) (below_drewN (Below.refl _ _) _) HRq.out.lt)
                   have HBn := hide (below_drewN HBq.out nq)
                   go_wp2_with fail
                   go_roundw
                   case rel => exact ⟨j + 1, by omega, by go_num, fun i hi => by
                     by_cases hij : i = j
                     · subst hij; rw [HGQ.out]; exact HA.out
                     · exact HAJ.out i (by omega), HRn.out, HBn.out⟩
                   case measure => simp [intOf]; omega)
            · have hjk2 : j = k := by omega
              subst hjk2
              have HC0 := hide (codeK_ok HCZ.out (fun h0 => by rw [hgd]; exact HAJ.out _ (by omega)))
              rw [chkKGo_ok HC0.out] at HG
              clear hbq
              go_wp2_with fail
              go_roundw
              case rel => exact ⟨j + 1, by omega, by go_num, by rw [← HG.out, HE.out], fun i hi => by
                by_cases hij : i = j
                · subst hij; exact HC0.out
                · exact HALL.out i (by omega), HRq.out, HBq.out⟩
              case measure => simp [intOf]; omega
        · have HC0 := hide (codeK_own (l := l) (i := k) (by rw [hgd]; exact h0))
          rw [hgd] at HC0
          rw [chkKGo_no (by rw [HC0.out]; exact h0), HC0.out] at HG
          have q1 : (codeKn p.p == 0) = false := beq_eq_false_iff_ne.2 h0
          have q2 : (codeKn p.p != 0) = true := by simp [h0]
          have HFc := hide (rF_any (codeKn p.p) k)
          unfold flt at HFc
          clear h0
          go_upto_region 7 with (go_at_call 27; refine (HKC.out _).mono ?_; rintro e w1 ⟨rfl, hb1⟩; have HB1 := hide (HB.out.trans (hb1.mono HB.out.size)); have HR1 := hide (HRr.out.later hb1); clear hb1)
          have hbw1 : b < w1.heap.size := Nat.lt_of_lt_of_le hb HB1.out.size
          clear c0 c1 c2 c3 c4
          obtain ⟨c0, c1, c2, c3, c4⟩ := (HAT.out.below HB1.out).known
          go_wp2_with (first
            | (go_at_call 27; refine (HKC.out _).mono ?_; rintro e w2 ⟨rfl, hb2⟩; have HB2 := hide (HB1.out.trans (hb2.mono HB1.out.size)); have HR2 := hide (HR1.out.later hb2); clear hb2)
            | (go_at_call 11; refine (HFc.out _).mono ?_; rintro e w7 ⟨rfl, hb7⟩; have HR7 := hide (HR2.out.later hb7); have HB7 := hide (HB2.out.trans (hb7.mono HB2.out.size)); clear hb7)
            | (refine wpList_store_blk rfl rfl rfl rfl HR7.out rfl Try.sizeFaultA rfl ?_; intro w8 hR8 hg8; have HR8 := hide hR8; have HB8 := hide (below_grownO HB7.out hg8 (fun k hk => by cases hk; omega) HB7.out.size); clear hR8 hg8))
          refine bodyPost_ret (v := .agg #[.int .i64 (codeKn p.p), .int .i64 k]) (results1_cell Try.results25 rfl (run_loadVar_blk HR8.out Try.underlying30 rfl Try.sizeFaultA)) rfl ?_
          exact ⟨by rw [HG.out]; rfl, HB8.out⟩
      · have hke : k = l.length := by omega
        subst hke
        rw [Nat.sub_self] at HG
        clear hbr
        go_wp2_with (refine wpList_store_blk rfl rfl rfl rfl HRr.out rfl Try.sizeFaultA rfl ?_; intro w8 hR8 hg8; have HR8 := hide hR8; have HB8 := hide (below_grownO HB.out hg8 (fun k hk => by cases hk; omega) HB.out.size); clear hR8 hg8)
        refine bodyPost_ret (v := .agg #[.int .i64 0, .int .i64 0]) (results1_cell Try.results25 rfl (run_loadVar_blk HR8.out Try.underlying30 rfl Try.sizeFaultA)) rfl ?_
        exact ⟨by rw [HG.out]; rfl, HB8.out⟩

end Go.Proofs.Ytoeobhehjnkkkaa
