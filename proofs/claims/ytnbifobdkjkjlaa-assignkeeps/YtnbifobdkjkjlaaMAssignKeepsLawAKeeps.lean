/-
  Texts joined: LawAKeeps.
-/
import Derived.Test.YtnbifobdkjkjlaaMAssignKeepsAsF3
import Derived.Test.YtnbifobdkjkjlaaMAssignKeepsAsK2
import Derived.Test.YtnbifobdkjkjlaaMAssignKeepsGenN
/-
  The walk over the law AssignKeeps. (Written by as26.py.)
-/
namespace Go.Proofs.Ytnbifobdkjkjlaa
open Go.RowKit Go.Maps
set_option linter.unusedVariables false

theorem FineB.wfho {b : Bd} (h : FineB b) : ∀ s ∈ b.sl, (Lit.int .i64 s.ho).wf = true := fun s hs => by
  have hf := h.sc s hs
  by_cases q : s.st = 0
  · rw [hf.off q]; decide
  · obtain ⟨x, hx, hxi, _⟩ := aliveB_of (hf.al q)
    have := oneB_iff.1 (h.hi x hx).1
    rw [← hxi]
    exact wf_num (numB_iff.2 ⟨by omega, by omega⟩)

theorem owns_offM {w : World} {b1 B n : Nat} {e1 : TypeId} {K1 : Nat} {v1 : Value} {n1 : Nat} {xs1 : List Value} {f : Int → Option Value} (h1 : w.ownsRow b1 e1 K1 v1 n1 xs1) (h2 : MpI w B n f) : v1.ownBlock ≠ some B := by
  obtain ⟨D, ⟨es, clock, hb, _⟩, _⟩ := h2
  rcases h1.2 with ⟨rfl, _⟩ | ⟨g1, c1, cur1, rfl, _, hg1, _⟩
  · simp [Value.ownBlock]
  · intro q
    simp only [Value.ownBlock, Option.some.injEq] at q
    subst q
    rw [hg1] at hb
    simp at hb

theorem ord_fine {b : Bd} {o : Od} (h : FineB b) : ordF b o = (stepB b o).2 ∧ ((stepB b o).2.1 = 0 → ordB b o = (stepB b o).1) := by
  have h0 := fineB_iff.2 h
  have e : ordF b o = (stepB b o).2 := by unfold ordF doFF; rw [if_neg (by simp [h0])]
  refine ⟨e, fun q => ?_⟩
  unfold ordB doBB
  have e2 : doFF b (stepB b o).2 = (stepB b o).2 := e
  rw [e2, if_pos q]

set_option maxRecDepth 100000 in
set_option maxHeartbeats 32000000 in
theorem assignKeeps_any (v : Value) (l : List Od) (row : ByteArray) (w : World) (hv : RdG odE w v l) :
    Calls Try.prog 5 #[v, .string row] w fun e w' => e = .returned (.bool true) ∧ Below w.heap.size w w' := by
  have HV := hide hv
  obtain ⟨ao, cap, rfl, hc1, hc2⟩ := hv.shape
  unfold maxLen at hc2
  have hmm := @run_makeMap Try.prog
  have HBG := hide (assignBegun_any w)
  clear hv
  go_enter Try.func5, Try.ntmps5
  go_upto_region 3 with (go_at_call 6; refine HBG.out.mono ?_; rintro e w1 ⟨rfl, hb1⟩; have HA1 := hide hb1; clear hb1)
  clear HBG
  by_cases hl : 150 < l.length
  · have d1 : decide ((150 : Int) < (l.length : Int)) = true := decide_eq_true (by omega)
    clear hl
    go_wp2_with fail
    go_ret
    exact ⟨rfl, HA1.out⟩
  have d1 : decide ((150 : Int) < (l.length : Int)) = false := decide_eq_false (by omega)
  have HL := hide (show l.length ≤ 150 by omega)
  clear hl
  go_upto_region 7 with fail
  clear d1
  have hbM := (below_allocG w1 (.map #[] 0)).trans ((below_allocG (w1.alloc (.map #[] 0)) (.map #[] 0)).mono (below_allocG w1 (.map #[] 0)).size)
  have hM1 := (MpI.made w1).later (below_allocG (w1.alloc (.map #[] 0)) (.map #[] 0))
  have hM2 := MpI.made (w1.alloc (.map #[] 0))
  have hsz1 : (w1.alloc (.map #[] 0)).heap.size = w1.heap.size + 1 := by simp
  rw [hsz1] at hM2
  have HA2 := hide (HA1.out.trans (hbM.mono HA1.out.size))
  have HM1 := hide hM1
  have HM2 := hide hM2
  have HZ1 := hide HA1.out.size
  generalize hwX : (w1.alloc (.map #[] 0)).alloc (.map #[] 0) = W2 at HA2 HM1 HM2 ⊢
  clear hwX hbM hM1 hM2 hsz1 HA1
  have HNW := hide (New_any W2)
  go_upto_region 8 with (go_at_call 12; refine HNW.out.mono ?_; rintro e w3 ⟨hv0, sv0, rfl, ho3, hp3, hb3⟩; obtain ⟨a1, c1, rfl⟩ := owns_shapeA ho3; obtain ⟨a2, c2, rfl⟩ := owns_shapeA hp3; have HO3 := hide (owns_base1 ho3 HA2.out.size); have HP3 := hide (owns_base1 hp3 HA2.out.size); have HB3 := hide hb3; clear ho3 hp3 hb3; unfold bdV)
  have hbT := below_allocG w3 (.cells #[.slice a1 newBd.hs.length c1, .slice a2 newBd.sl.length c2, .int .i64 newBd.tu, .int .i64 newBd.nx] 27)
  have hbX := HB3.out.trans (hbT.mono HB3.out.size)
  have HBb := hide (Blk.new w3 27 #[.slice a1 newBd.hs.length c1, .slice a2 newBd.sl.length c2, .int .i64 newBd.tu, .int .i64 newBd.nx])
  have HO4 := hide (owns_laterA HO3.out hbT)
  have HP4 := hide (owns_laterA HP3.out hbT)
  have HM3 := hide (HM1.out.later hbX)
  have HM4 := hide (HM2.out.later hbX)
  have HA4 := hide (HA2.out.trans (hbX.mono HA2.out.size))
  have HZ2 := hide (show w.heap.size ≤ w3.heap.size from Nat.le_trans HA2.out.size HB3.out.size)
  have HZ3 := hide (show w1.heap.size + 1 < w3.heap.size from Nat.lt_of_lt_of_le HM2.out.lt HB3.out.size)
  generalize hwX : w3.alloc (.cells #[.slice a1 newBd.hs.length c1, .slice a2 newBd.sl.length c2, .int .i64 newBd.tu, .int .i64 newBd.nx] 27) = X3 at HBb HO4 HP4 HM3 HM4 HA4 ⊢
  clear hwX hbT hbX HO3 HP3 HB3 HM1 HM2 HA2 HNW
  obtain ⟨bb, hbb⟩ : ∃ bb : Nat, w3.heap.size = bb := ⟨_, rfl⟩
  rw [hbb] at HBb HZ2 HZ3 ⊢
  clear hbb
  go_wp2_with fail
  go_loopw [8, 9, 10, 11, 12, 13, 14, 15, 16, 17] (fun iv _ _ _ _ _ _ _ _ _ wr => ∃ (i n : Nat) (c : Bd) (ca cb : Option Addr) (cc cd : Nat) (M : Int → Option (Int × Int)), i ≤ l.length ∧ iv = .int .i64 i ∧ FineB c ∧ Told c M ∧ Blk wr bb 27 #[.slice ca c.hs.length cc, .slice cb c.sl.length cd, .int .i64 c.tu, .int .i64 c.nx] ∧ wr.ownsRow w.heap.size 42 3 (.slice ca c.hs.length cc) c.hs.length (hoE.vs c.hs) ∧ wr.ownsRow w.heap.size 46 6 (.slice cb c.sl.length cd) c.sl.length (slE.vs c.sl) ∧ MpI wr w1.heap.size n (fun t => (M t).map (fun p => .int .i64 p.1)) ∧ MpI wr (w1.heap.size + 1) n (fun t => (M t).map (fun p => .int .i64 p.2)) ∧ n ≤ 200 * i ∧ Below w.heap.size w wr)
    (fun iv _ _ _ _ _ _ _ _ _ _ => l.length - (intOf iv).toNat)
  case atStart => exact ⟨0, 0, newBd, a1, a2, c1, c2, fun _ => none, by omega, rfl, fineB_iff.1 new_fine, (by intro t p h; cases h), HBb.out, HO4.out, HP4.out, HM3.out, HM4.out, by omega, HA4.out⟩
  case round =>
    obtain ⟨i, n, c, ca, cb, cc, cd, M, hi, rfl, hf, htl, hB, hO, hP, hm1, hm2, hn, hA⟩ := hrel
    have HF := hide hf
    have HTL := hide htl
    have HBr := hide hB
    have HOr := hide hO
    have HPr := hide hP
    have HMr := hide hm1
    have HNr := hide hm2
    have HAr := hide hA
    have HNn := hide hn
    clear hf htl hB hO hP hm1 hm2 hA hn HBb HO4 HP4 HM3 HM4 HA4
    by_cases hlt : i < l.length
    · obtain ⟨o, ho⟩ : ∃ o, l[i]? = some o := ⟨_, List.getElem?_eq_getElem hlt⟩
      obtain ⟨ob, oo, rfl, hobl, hat⟩ := (HV.out.below HAr.out).here ho
      obtain ⟨o0, o1, o2, o3, o4⟩ := hat.order
      have hk1 : (0 : Int) ≤ (i : Int) := by omega
      have hk2 : (i : Int) < (l.length : Int) := by omega
      have hln : c.sl.length ≤ 1000 := by have := HF.out.ok.sl; omega
      have hlh : c.hs.length ≤ 1000 := by have := HF.out.hl; omega
      have HDO := hide (fun W (hW : Below wr.heap.size wr W) => Do_any c (.slice ca c.hs.length cc) (.slice cb c.sl.length cd) o W ((RdG.ofOwns HOr.out).below hW) ((RdG.ofOwns HPr.out).below hW) hlh hln HF.out.wfp HF.out.wfho)
      have hof := ord_fine (o := o) HF.out
      obtain ⟨x, hxe⟩ : ∃ x, ordB c o = x := ⟨_, rfl⟩
      obtain ⟨fe, hfe⟩ : ∃ f, ordF c o = f := ⟨_, rfl⟩
      obtain ⟨fx, fy⟩ := fe
      rw [hxe, hfe] at hof
      simp only [hxe, hfe] at HDO
      unfold bdV odV flt at HDO
      dsimp only at HDO
      have HOF := hide hof
      have hs0 := HBr.out.cell 0
      have hs1 := HBr.out.cell 1
      have hs2 := HBr.out.cell 2
      have hs3 := HBr.out.cell 3
      simp at hs0 hs1 hs2 hs3
      have HKEEP : Hid (∀ W, Below wr.heap.size wr W → W.cell? ⟨bb, 0, none⟩ = some (.slice ca c.hs.length cc) ∧ W.cell? ⟨bb, 1, none⟩ = some (.slice cb c.sl.length cd) ∧ W.cell? ⟨bb, 2, none⟩ = some (.int .i64 c.tu) ∧ W.cell? ⟨bb, 3, none⟩ = some (.int .i64 c.nx) ∧ W.cell? ⟨ob, oo + i * 5, none⟩ = some (.int .i64 o.kind) ∧ W.cell? ⟨ob, oo + i * 5 + 1, none⟩ = some (.int .i64 o.id) ∧ W.cell? ⟨ob, oo + i * 5 + 2, none⟩ = some (.int .i64 o.ho) ∧ W.cell? ⟨ob, oo + i * 5 + 3, none⟩ = some (.int .i64 o.tu) ∧ W.cell? ⟨ob, oo + i * 5 + 4, none⟩ = some (.string o.row)) := hide (fun W hW => ⟨cell_belowG hs0 hW, cell_belowG hs1 hW, cell_belowG hs2 hW, cell_belowG hs3 hW, cell_belowG o0 hW, cell_belowG o1 hW, cell_belowG o2 hW, cell_belowG o3 hW, cell_belowG o4 hW⟩)
      have HDR := hide (show Below wr.heap.size wr wr.drew from Below.drew (Below.refl _ _))
      have HBASE := hide HAr.out.size
      clear hs0 hs1 hs2 hs3 o0 o1 o2 o3 o4 hof hxe hfe hat
      go_upto_region 11 with fail
      go_cut [9, 10] from 32 to 41 (fun av bv wx => ∃ (r1 r2 : Nat) (hv' sv' : Value), av = .pointer (some ⟨r1, 0, none⟩) ∧ bv = .pointer (some ⟨r2, 0, none⟩) ∧ Blk wx r1 27 #[hv', sv', .int .i64 x.tu, .int .i64 x.nx] ∧ Blk wx r2 30 #[.int .i64 fx, .int .i64 fy] ∧ wx.ownsRow w.heap.size 42 3 hv' x.hs.length (hoE.vs x.hs) ∧ wx.ownsRow w.heap.size 46 6 sv' x.sl.length (slE.vs x.sl) ∧ Below wr.heap.size wr wx ∧ wr.heap.size ≤ r1 ∧ wr.heap.size ≤ r2)
      case first =>
        as_aux_lemma =>
          refine wp_region_heldD (S := fun W => W.cell? ⟨bb, 0, none⟩ = some (.slice ca c.hs.length cc) ∧ W.cell? ⟨bb, 1, none⟩ = some (.slice cb c.sl.length cd) ∧ W.cell? ⟨bb, 2, none⟩ = some (.int .i64 c.tu) ∧ W.cell? ⟨bb, 3, none⟩ = some (.int .i64 c.nx) ∧ W.cell? ⟨ob, oo + i * 5, none⟩ = some (.int .i64 o.kind) ∧ W.cell? ⟨ob, oo + i * 5 + 1, none⟩ = some (.int .i64 o.id) ∧ W.cell? ⟨ob, oo + i * 5 + 2, none⟩ = some (.int .i64 o.ho) ∧ W.cell? ⟨ob, oo + i * 5 + 3, none⟩ = some (.int .i64 o.tu) ∧ W.cell? ⟨ob, oo + i * 5 + 4, none⟩ = some (.string o.row)) (n := 13) (l := (upB 13 0).toArray) (by kernel_rfl) (by kernel_rfl) (by kernel_rfl) (by kernel_rfl) (HKEEP.out _ HDR.out) (fun HNS hHeld => ?_)
          generalize hWd : wr.drew = Wd at HDR hHeld ⊢
          clear hWd
          refine wpAnyH_takeD (l' := (upB 13 1).toArray) (i := 0) (fuel := 12) (v := ?vdrax36) rfl HNS.out (by kernel_rfl) (by kernel_rfl) (by kernel_rfl) (fun _ _ _ h => h) (by kernel_rfl) ?ydrax36 hHeld ?rdrax36
          case ydrax36 => (intro W hSw; (try dsimp only at hSw); go_simp; first | done | with_reducible rfl)
          try simp only [Act.put, List.setIfInBounds_toArray, List.set_cons_zero, List.set_cons_succ]
          refine wpAnyH_takeD (l' := (upB 13 2).toArray) (i := 1) (fuel := 11) (v := ?vdrax37) rfl HNS.out (by kernel_rfl) (by kernel_rfl) (by kernel_rfl) (fun _ _ _ h => h) (by kernel_rfl) ?ydrax37 hHeld ?rdrax37
          case ydrax37 => (intro W hSw; go_simp; first | done | with_reducible rfl)
          try simp only [Act.put, List.setIfInBounds_toArray, List.set_cons_zero, List.set_cons_succ]
          refine wpAnyH_takeD (l' := (upB 13 3).toArray) (i := 2) (fuel := 10) (v := ?vdrax38) rfl HNS.out (by kernel_rfl) (by kernel_rfl) (by kernel_rfl) (fun _ _ _ h => h) (by kernel_rfl) ?ydrax38 hHeld ?rdrax38
          case ydrax38 => (intro W hSw; go_simp; first | done | with_reducible rfl)
          try simp only [Act.put, List.setIfInBounds_toArray, List.set_cons_zero, List.set_cons_succ]
          refine wpAnyH_takeD (l' := (upB 13 4).toArray) (i := 3) (fuel := 9) (v := ?vdrax39) rfl HNS.out (by kernel_rfl) (by kernel_rfl) (by kernel_rfl) (fun _ _ _ h => h) (by kernel_rfl) ?ydrax39 hHeld ?rdrax39
          case ydrax39 => (intro W hSw; go_simp; first | done | with_reducible rfl)
          try simp only [Act.put, List.setIfInBounds_toArray, List.set_cons_zero, List.set_cons_succ]
          refine wpAnyH_takeD (l' := (upB 13 5).toArray) (i := 4) (fuel := 8) (v := ?vdrax40) rfl HNS.out (by kernel_rfl) (by kernel_rfl) (by kernel_rfl) (fun _ _ _ h => h) (by kernel_rfl) ?ydrax40 hHeld ?rdrax40
          case ydrax40 => (intro W hSw; (try dsimp only at hSw); go_simp; first | done | with_reducible rfl)
          try simp only [Act.put, List.setIfInBounds_toArray, List.set_cons_zero, List.set_cons_succ]
          refine wpAnyH_threeD (li := (upB 13 6).toArray) (lj := #[true, true, true, true, true, false, false, false, false, true, false, false, false]) (lk := #[true, true, true, true, true, false, false, false, false, false, true, false, false]) (i := 5) (j := 9) (k := 10) (fuel := 7) rfl rfl rfl (by kernel_rfl) (by kernel_rfl) (by kernel_rfl) (by kernel_rfl) (fun Kc hK => ?_) (fun Kc hK => ?_) (fun Kc hK => ?_) 
          · skip
            go_simp
            go_at_call 13
            refine (HDO.out _ HDR.out).mono ?_
            rintro e w6 ⟨hv6, sv6, rfl, ho6, hp6, hb6⟩
            obtain ⟨a6, c6, rfl⟩ := owns_shapeA ho6
            obtain ⟨b6, d6, rfl⟩ := owns_shapeA hp6
            have HH6 := hide (owns_base1 ho6 (Nat.le_trans HBASE.out (Below.size HDR.out)))
            have HP6 := hide (owns_base1 hp6 (Nat.le_trans HBASE.out (Below.size HDR.out)))
            have HX6 := hide hb6
            have HL6 := hide (Below.trans HDR.out (hb6.mono (Below.size HDR.out)))
            clear ho6 hp6 hb6
            go_wp2_with fail
            refine hK.out _ _ (HKEEP.out _ HL6.out) (fun _ => ?_)
            clear hK Kc
            try simp only [Act.put, List.setIfInBounds_toArray, List.set_cons_zero, List.set_cons_succ]
            refine wpAnyH_takeD (l' := (upB 13 7).toArray) (i := 6) (fuel := 6) (v := ?vdrax42) rfl HNS.out (by kernel_rfl) (by kernel_rfl) (by kernel_rfl) (fun _ _ _ h => h) (by kernel_rfl) ?ydrax42 (HKEEP.out _ HL6.out) ?rdrax42
            case ydrax42 => (intro W hSw; go_simp; first | done | with_reducible rfl)
            try simp only [Act.put, List.setIfInBounds_toArray, List.set_cons_zero, List.set_cons_succ]
            refine wpAnyH_takeD (l' := (upB 13 8).toArray) (i := 7) (fuel := 5) (v := ?vdrax43) rfl HNS.out (by kernel_rfl) (by kernel_rfl) (by kernel_rfl) (fun _ _ _ h => h) (by kernel_rfl) ?ydrax43 (HKEEP.out _ HL6.out) ?rdrax43
            case ydrax43 => (intro W hSw; go_simp; first | done | with_reducible rfl)
            try simp only [Act.put, List.setIfInBounds_toArray, List.set_cons_zero, List.set_cons_succ]
            refine wpAnyH_takeD (l' := (upB 13 9).toArray) (i := 8) (fuel := 4) (v := ?vdrax44) rfl HNS.out (by kernel_rfl) (by kernel_rfl) (by kernel_rfl) (fun _ _ _ h => h) (by kernel_rfl) ?ydrax44 (HKEEP.out _ HL6.out) ?rdrax44
            case ydrax44 => (intro W hSw; go_simp; first | done | with_reducible rfl)
            try simp only [Act.put, List.setIfInBounds_toArray, List.set_cons_zero, List.set_cons_succ]
            refine wpAnyH_twoD (li := (upB 13 10).toArray) (lj := #[true, true, true, true, true, true, true, true, true, false, true, false, false]) (i := 9) (j := 10) (fuel := 3) rfl rfl (by kernel_rfl) (by kernel_rfl) (by kernel_rfl) (fun Kc hK => ?_) (fun Kc hK => ?_) 
            · skip
              go_simp
              go_wp2_with fail
              have HN45 := hide (Blk.new w6 27 #[.slice none 0 0, .slice none 0 0, .int .i64 0, .int .i64 0])
              have HS45 := hide (below_allocG w6 (.cells #[.slice none 0 0, .slice none 0 0, .int .i64 0, .int .i64 0] 27))
              have HL45 := hide (Below.trans HL6.out (HS45.out.mono (Below.size HL6.out)))
              have HE45 := hide (Below.size HL6.out)
              have HHq45 := hide (owns_laterA HH6.out HS45.out)
              have HPq45 := hide (owns_laterA HP6.out HS45.out)
              generalize hW45 : w6.alloc (.cells #[.slice none 0 0, .slice none 0 0, .int .i64 0, .int .i64 0] 27) = W45 at HN45 HS45 HL45 HHq45 HPq45 ⊢
              clear hW45
              refine hK.out _ _ (HKEEP.out _ HL45.out) (fun _ => ?_)
              clear hK Kc
              try simp only [Act.put, List.setIfInBounds_toArray, List.set_cons_zero, List.set_cons_succ]
              refine wpAnyH_oneD (l' := (upB 13 11).toArray) (i := 10) (fuel := 2) rfl (by kernel_rfl) (by kernel_rfl) (fun Kc hK => ?_)
              have HQ46 := hide (Blk.lt HN45.out)
              go_simp
              go_wp2_with fail
              have HN46 := hide (Blk.new W45 30 #[.int .i64 0, .int .i64 0])
              have HS46 := hide (below_allocG W45 (.cells #[.int .i64 0, .int .i64 0] 30))
              have HL46 := hide (Below.trans HL45.out (HS46.out.mono (Below.size HL45.out)))
              have HE46 := hide (Below.size HL45.out)
              have HA46 := hide (Blk.later HN45.out HS46.out)
              have HHq46 := hide (owns_laterA HHq45.out HS46.out)
              have HPq46 := hide (owns_laterA HPq45.out HS46.out)
              generalize hW46 : W45.alloc (.cells #[.int .i64 0, .int .i64 0] 30) = W46 at HN46 HS46 HL46 HA46 HHq46 HPq46 ⊢
              clear hW46
              refine hK.out _ _ (HKEEP.out _ HL46.out) (fun _ => ?_)
              clear hK Kc
              try simp only [Act.put, List.setIfInBounds_toArray, List.set_cons_zero, List.set_cons_succ]
              refine wpAnyH_oneD (l' := (upB 13 12).toArray) (i := 11) (fuel := 1) rfl (by kernel_rfl) (by kernel_rfl) (fun Kc hK => ?_)
              refine step_store_blk rfl rfl rfl rfl HA46.out rfl Try.sizeBoard rfl ?_
              intro w8 hA8 hg8
              have HA8 := hide hA8
              have HB8 := hide (Blk.grown HN46.out hg8 (fun q => by have q2 := Option.some.inj q; have := HQ46.out; omega))
              have HH8 := hide (owns_grownO HHq46.out hg8 (.inr (owns_off HHq46.out HA46.out (by decide))))
              have HP8 := hide (owns_grownO HPq46.out hg8 (.inr (owns_off HPq46.out HA46.out (by decide))))
              have HL8 := hide (below_grownO HL46.out hg8 (fun k hk => by cases hk; have := HE45.out; omega) (Below.size HL46.out))
              clear hA8 hg8
              refine hK.out _ _ (HKEEP.out _ HL8.out) (fun _ => ?_)
              clear hK Kc
              try simp only [Act.put]
              refine wpAnyH_oneD (l' := (upB 13 13).toArray) (i := 12) (fuel := 0) rfl (by kernel_rfl) (by kernel_rfl) (fun Kc hK => ?_)
              refine step_store_blk rfl rfl rfl rfl HB8.out rfl Try.sizeFaultA rfl ?_
              intro w9 hB9 hg9
              have HB9 := hide hB9
              have HA9 := hide (Blk.grown HA8.out hg9 (fun q => by have q2 := Option.some.inj q; have := HQ46.out; omega))
              have HH9 := hide (owns_grownO HH8.out hg9 (.inr (owns_off HH8.out HB8.out (by decide))))
              have HP9 := hide (owns_grownO HP8.out hg9 (.inr (owns_off HP8.out HB8.out (by decide))))
              have HL9 := hide (below_grownO HL8.out hg9 (fun k hk => by cases hk; have := HE46.out; omega) (Below.size HL8.out))
              clear hB9 hg9
              refine hK.out _ _ (HKEEP.out _ HL9.out) (fun _ => ?_)
              clear hK Kc
              try simp only [Act.put]
              refine wpAnyH_done (by kernel_rfl) ?_ _
              go_wp2_with fail
              go_meet
              case rel => exact ⟨_, _, _, _, rfl, rfl, HA9.out, HB9.out, HH9.out, HP9.out, HL9.out, by have := HE45.out; omega, by have := HE46.out; omega⟩
            · skip
              go_simp
              go_wp2_with fail
              have HN47 := hide (Blk.new w6 30 #[.int .i64 0, .int .i64 0])
              have HS47 := hide (below_allocG w6 (.cells #[.int .i64 0, .int .i64 0] 30))
              have HL47 := hide (Below.trans HL6.out (HS47.out.mono (Below.size HL6.out)))
              have HE47 := hide (Below.size HL6.out)
              have HHq47 := hide (owns_laterA HH6.out HS47.out)
              have HPq47 := hide (owns_laterA HP6.out HS47.out)
              generalize hW47 : w6.alloc (.cells #[.int .i64 0, .int .i64 0] 30) = W47 at HN47 HS47 HL47 HHq47 HPq47 ⊢
              clear hW47
              refine hK.out _ _ (HKEEP.out _ HL47.out) (fun _ => ?_)
              clear hK Kc
              try simp only [Act.put, List.setIfInBounds_toArray, List.set_cons_zero, List.set_cons_succ]
              refine wpAnyH_oneD (l' := (upB 13 11).toArray) (i := 9) (fuel := 2) rfl (by kernel_rfl) (by kernel_rfl) (fun Kc hK => ?_)
              have HQ48 := hide (Blk.lt HN47.out)
              go_simp
              go_wp2_with fail
              have HN48 := hide (Blk.new W47 27 #[.slice none 0 0, .slice none 0 0, .int .i64 0, .int .i64 0])
              have HS48 := hide (below_allocG W47 (.cells #[.slice none 0 0, .slice none 0 0, .int .i64 0, .int .i64 0] 27))
              have HL48 := hide (Below.trans HL47.out (HS48.out.mono (Below.size HL47.out)))
              have HE48 := hide (Below.size HL47.out)
              have HB48 := hide (Blk.later HN47.out HS48.out)
              have HHq48 := hide (owns_laterA HHq47.out HS48.out)
              have HPq48 := hide (owns_laterA HPq47.out HS48.out)
              generalize hW48 : W47.alloc (.cells #[.slice none 0 0, .slice none 0 0, .int .i64 0, .int .i64 0] 27) = W48 at HN48 HS48 HL48 HB48 HHq48 HPq48 ⊢
              clear hW48
              refine hK.out _ _ (HKEEP.out _ HL48.out) (fun _ => ?_)
              clear hK Kc
              try simp only [Act.put, List.setIfInBounds_toArray, List.set_cons_zero, List.set_cons_succ]
              refine wpAnyH_oneD (l' := (upB 13 12).toArray) (i := 11) (fuel := 1) rfl (by kernel_rfl) (by kernel_rfl) (fun Kc hK => ?_)
              refine step_store_blk rfl rfl rfl rfl HN48.out rfl Try.sizeBoard rfl ?_
              intro w8 hA8 hg8
              have HA8 := hide hA8
              have HB8 := hide (Blk.grown HB48.out hg8 (fun q => by have q2 := Option.some.inj q; have := HQ48.out; omega))
              have HH8 := hide (owns_grownO HHq48.out hg8 (.inr (owns_off HHq48.out HN48.out (by decide))))
              have HP8 := hide (owns_grownO HPq48.out hg8 (.inr (owns_off HPq48.out HN48.out (by decide))))
              have HL8 := hide (below_grownO HL48.out hg8 (fun k hk => by cases hk; have := HE48.out; omega) (Below.size HL48.out))
              clear hA8 hg8
              refine hK.out _ _ (HKEEP.out _ HL8.out) (fun _ => ?_)
              clear hK Kc
              try simp only [Act.put]
              refine wpAnyH_oneD (l' := (upB 13 13).toArray) (i := 12) (fuel := 0) rfl (by kernel_rfl) (by kernel_rfl) (fun Kc hK => ?_)
              refine step_store_blk rfl rfl rfl rfl HB8.out rfl Try.sizeFaultA rfl ?_
              intro w9 hB9 hg9
              have HB9 := hide hB9
              have HA9 := hide (Blk.grown HA8.out hg9 (fun q => by have q2 := Option.some.inj q; have := HQ48.out; omega))
              have HH9 := hide (owns_grownO HH8.out hg9 (.inr (owns_off HH8.out HB8.out (by decide))))
              have HP9 := hide (owns_grownO HP8.out hg9 (.inr (owns_off HP8.out HB8.out (by decide))))
              have HL9 := hide (below_grownO HL8.out hg9 (fun k hk => by cases hk; have := HE47.out; omega) (Below.size HL8.out))
              clear hB9 hg9
              refine hK.out _ _ (HKEEP.out _ HL9.out) (fun _ => ?_)
              clear hK Kc
              try simp only [Act.put]
              refine wpAnyH_done (by kernel_rfl) ?_ _
              go_wp2_with fail
              go_meet
              case rel => exact ⟨_, _, _, _, rfl, rfl, HA9.out, HB9.out, HH9.out, HP9.out, HL9.out, by have := HE48.out; omega, by have := HE47.out; omega⟩
          · skip
            go_simp
            go_wp2_with fail
            have HN49 := hide (Blk.new Wd 27 #[.slice none 0 0, .slice none 0 0, .int .i64 0, .int .i64 0])
            have HS49 := hide (below_allocG Wd (.cells #[.slice none 0 0, .slice none 0 0, .int .i64 0, .int .i64 0] 27))
            have HL49 := hide (Below.trans HDR.out (HS49.out.mono (Below.size HDR.out)))
            have HE49 := hide (Below.size HDR.out)
            generalize hW49 : Wd.alloc (.cells #[.slice none 0 0, .slice none 0 0, .int .i64 0, .int .i64 0] 27) = W49 at HN49 HS49 HL49 ⊢
            clear hW49
            refine hK.out _ _ (HKEEP.out _ HL49.out) (fun _ => ?_)
            clear hK Kc
            try simp only [Act.put, List.setIfInBounds_toArray, List.set_cons_zero, List.set_cons_succ]
            refine wpAnyH_twoD (li := #[true, true, true, true, true, true, false, false, false, true, false, false, false]) (lj := #[true, true, true, true, true, false, false, false, false, true, true, false, false]) (i := 5) (j := 10) (fuel := 6) rfl rfl (by kernel_rfl) (by kernel_rfl) (by kernel_rfl) (fun Kc hK => ?_) (fun Kc hK => ?_) 
            · skip
              go_simp
              go_at_call 13
              refine (HDO.out _ HL49.out).mono ?_
              rintro e w6 ⟨hv6, sv6, rfl, ho6, hp6, hb6⟩
              obtain ⟨a6, c6, rfl⟩ := owns_shapeA ho6
              obtain ⟨b6, d6, rfl⟩ := owns_shapeA hp6
              have HH6 := hide (owns_base1 ho6 (Nat.le_trans HBASE.out (Below.size HL49.out)))
              have HP6 := hide (owns_base1 hp6 (Nat.le_trans HBASE.out (Below.size HL49.out)))
              have HX6 := hide hb6
              have HL6 := hide (Below.trans HL49.out (hb6.mono (Below.size HL49.out)))
              clear ho6 hp6 hb6
              go_wp2_with fail
              refine hK.out _ _ (HKEEP.out _ HL6.out) (fun _ => ?_)
              clear hK Kc
              try simp only [Act.put, List.setIfInBounds_toArray, List.set_cons_zero, List.set_cons_succ]
              refine wpAnyH_takeD (l' := #[true, true, true, true, true, true, true, false, false, true, false, false, false]) (i := 6) (fuel := 5) (v := ?vdrax51) rfl HNS.out (by kernel_rfl) (by kernel_rfl) (by kernel_rfl) (fun _ _ _ h => h) (by kernel_rfl) ?ydrax51 (HKEEP.out _ HL6.out) ?rdrax51
              case ydrax51 => (intro W hSw; go_simp; first | done | with_reducible rfl)
              try simp only [Act.put, List.setIfInBounds_toArray, List.set_cons_zero, List.set_cons_succ]
              refine wpAnyH_takeD (l' := #[true, true, true, true, true, true, true, true, false, true, false, false, false]) (i := 7) (fuel := 4) (v := ?vdrax52) rfl HNS.out (by kernel_rfl) (by kernel_rfl) (by kernel_rfl) (fun _ _ _ h => h) (by kernel_rfl) ?ydrax52 (HKEEP.out _ HL6.out) ?rdrax52
              case ydrax52 => (intro W hSw; go_simp; first | done | with_reducible rfl)
              try simp only [Act.put, List.setIfInBounds_toArray, List.set_cons_zero, List.set_cons_succ]
              refine wpAnyH_takeD (l' := (upB 13 10).toArray) (i := 8) (fuel := 3) (v := ?vdrax53) rfl HNS.out (by kernel_rfl) (by kernel_rfl) (by kernel_rfl) (fun _ _ _ h => h) (by kernel_rfl) ?ydrax53 (HKEEP.out _ HL6.out) ?rdrax53
              case ydrax53 => (intro W hSw; go_simp; first | done | with_reducible rfl)
              try simp only [Act.put, List.setIfInBounds_toArray, List.set_cons_zero, List.set_cons_succ]
              refine wpAnyH_oneD (l' := (upB 13 11).toArray) (i := 10) (fuel := 2) rfl (by kernel_rfl) (by kernel_rfl) (fun Kc hK => ?_)
              have HQ54 := hide (Blk.lt (Blk.later HN49.out HX6.out))
              go_simp
              go_wp2_with fail
              have HN54 := hide (Blk.new w6 30 #[.int .i64 0, .int .i64 0])
              have HS54 := hide (below_allocG w6 (.cells #[.int .i64 0, .int .i64 0] 30))
              have HL54 := hide (Below.trans HL6.out (HS54.out.mono (Below.size HL6.out)))
              have HE54 := hide (Below.size HL6.out)
              have HA54 := hide (Blk.later (Blk.later HN49.out HX6.out) HS54.out)
              have HHq54 := hide (owns_laterA HH6.out HS54.out)
              have HPq54 := hide (owns_laterA HP6.out HS54.out)
              generalize hW54 : w6.alloc (.cells #[.int .i64 0, .int .i64 0] 30) = W54 at HN54 HS54 HL54 HA54 HHq54 HPq54 ⊢
              clear hW54
              refine hK.out _ _ (HKEEP.out _ HL54.out) (fun _ => ?_)
              clear hK Kc
              try simp only [Act.put, List.setIfInBounds_toArray, List.set_cons_zero, List.set_cons_succ]
              refine wpAnyH_oneD (l' := (upB 13 12).toArray) (i := 11) (fuel := 1) rfl (by kernel_rfl) (by kernel_rfl) (fun Kc hK => ?_)
              refine step_store_blk rfl rfl rfl rfl HA54.out rfl Try.sizeBoard rfl ?_
              intro w8 hA8 hg8
              have HA8 := hide hA8
              have HB8 := hide (Blk.grown HN54.out hg8 (fun q => by have q2 := Option.some.inj q; have := HQ54.out; omega))
              have HH8 := hide (owns_grownO HHq54.out hg8 (.inr (owns_off HHq54.out HA54.out (by decide))))
              have HP8 := hide (owns_grownO HPq54.out hg8 (.inr (owns_off HPq54.out HA54.out (by decide))))
              have HL8 := hide (below_grownO HL54.out hg8 (fun k hk => by cases hk; have := HE49.out; omega) (Below.size HL54.out))
              clear hA8 hg8
              refine hK.out _ _ (HKEEP.out _ HL8.out) (fun _ => ?_)
              clear hK Kc
              try simp only [Act.put]
              refine wpAnyH_oneD (l' := (upB 13 13).toArray) (i := 12) (fuel := 0) rfl (by kernel_rfl) (by kernel_rfl) (fun Kc hK => ?_)
              refine step_store_blk rfl rfl rfl rfl HB8.out rfl Try.sizeFaultA rfl ?_
              intro w9 hB9 hg9
              have HB9 := hide hB9
              have HA9 := hide (Blk.grown HA8.out hg9 (fun q => by have q2 := Option.some.inj q; have := HQ54.out; omega))
              have HH9 := hide (owns_grownO HH8.out hg9 (.inr (owns_off HH8.out HB8.out (by decide))))
              have HP9 := hide (owns_grownO HP8.out hg9 (.inr (owns_off HP8.out HB8.out (by decide))))
              have HL9 := hide (below_grownO HL8.out hg9 (fun k hk => by cases hk; have := HE54.out; omega) (Below.size HL8.out))
              clear hB9 hg9
              refine hK.out _ _ (HKEEP.out _ HL9.out) (fun _ => ?_)
              clear hK Kc
              try simp only [Act.put]
              refine wpAnyH_done (by kernel_rfl) ?_ _
              go_wp2_with fail
              go_meet
              case rel => exact ⟨_, _, _, _, rfl, rfl, HA9.out, HB9.out, HH9.out, HP9.out, HL9.out, by have := HE49.out; omega, by have := HE54.out; omega⟩
            · skip
              have HQ55 := hide (Blk.lt HN49.out)
              go_simp
              go_wp2_with fail
              have HN55 := hide (Blk.new W49 30 #[.int .i64 0, .int .i64 0])
              have HS55 := hide (below_allocG W49 (.cells #[.int .i64 0, .int .i64 0] 30))
              have HL55 := hide (Below.trans HL49.out (HS55.out.mono (Below.size HL49.out)))
              have HE55 := hide (Below.size HL49.out)
              have HA55 := hide (Blk.later HN49.out HS55.out)
              generalize hW55 : W49.alloc (.cells #[.int .i64 0, .int .i64 0] 30) = W55 at HN55 HS55 HL55 HA55 ⊢
              clear hW55
              refine hK.out _ _ (HKEEP.out _ HL55.out) (fun _ => ?_)
              clear hK Kc
              try simp only [Act.put, List.setIfInBounds_toArray, List.set_cons_zero, List.set_cons_succ]
              refine wpAnyH_oneD (l' := #[true, true, true, true, true, true, false, false, false, true, true, false, false]) (i := 5) (fuel := 5) rfl (by kernel_rfl) (by kernel_rfl) (fun Kc hK => ?_)
              go_simp
              go_at_call 13
              refine (HDO.out _ HL55.out).mono ?_
              rintro e w6 ⟨hv6, sv6, rfl, ho6, hp6, hb6⟩
              obtain ⟨a6, c6, rfl⟩ := owns_shapeA ho6
              obtain ⟨b6, d6, rfl⟩ := owns_shapeA hp6
              have HH6 := hide (owns_base1 ho6 (Nat.le_trans HBASE.out (Below.size HL55.out)))
              have HP6 := hide (owns_base1 hp6 (Nat.le_trans HBASE.out (Below.size HL55.out)))
              have HX6 := hide hb6
              have HL6 := hide (Below.trans HL55.out (hb6.mono (Below.size HL55.out)))
              clear ho6 hp6 hb6
              go_wp2_with fail
              refine hK.out _ _ (HKEEP.out _ HL6.out) (fun _ => ?_)
              clear hK Kc
              try simp only [Act.put, List.setIfInBounds_toArray, List.set_cons_zero, List.set_cons_succ]
              refine wpAnyH_takeD (l' := #[true, true, true, true, true, true, true, false, false, true, true, false, false]) (i := 6) (fuel := 4) (v := ?vdrax57) rfl HNS.out (by kernel_rfl) (by kernel_rfl) (by kernel_rfl) (fun _ _ _ h => h) (by kernel_rfl) ?ydrax57 (HKEEP.out _ HL6.out) ?rdrax57
              case ydrax57 => (intro W hSw; go_simp; first | done | with_reducible rfl)
              try simp only [Act.put, List.setIfInBounds_toArray, List.set_cons_zero, List.set_cons_succ]
              refine wpAnyH_takeD (l' := #[true, true, true, true, true, true, true, true, false, true, true, false, false]) (i := 7) (fuel := 3) (v := ?vdrax58) rfl HNS.out (by kernel_rfl) (by kernel_rfl) (by kernel_rfl) (fun _ _ _ h => h) (by kernel_rfl) ?ydrax58 (HKEEP.out _ HL6.out) ?rdrax58
              case ydrax58 => (intro W hSw; go_simp; first | done | with_reducible rfl)
              try simp only [Act.put, List.setIfInBounds_toArray, List.set_cons_zero, List.set_cons_succ]
              refine wpAnyH_takeD (l' := (upB 13 11).toArray) (i := 8) (fuel := 2) (v := ?vdrax59) rfl HNS.out (by kernel_rfl) (by kernel_rfl) (by kernel_rfl) (fun _ _ _ h => h) (by kernel_rfl) ?ydrax59 (HKEEP.out _ HL6.out) ?rdrax59
              case ydrax59 => (intro W hSw; go_simp; first | done | with_reducible rfl)
              try simp only [Act.put, List.setIfInBounds_toArray, List.set_cons_zero, List.set_cons_succ]
              refine wpAnyH_oneD (l' := (upB 13 12).toArray) (i := 11) (fuel := 1) rfl (by kernel_rfl) (by kernel_rfl) (fun Kc hK => ?_)
              refine step_store_blk rfl rfl rfl rfl (Blk.later HA55.out HX6.out) rfl Try.sizeBoard rfl ?_
              intro w8 hA8 hg8
              have HA8 := hide hA8
              have HB8 := hide (Blk.grown (Blk.later HN55.out HX6.out) hg8 (fun q => by have q2 := Option.some.inj q; have := HQ55.out; omega))
              have HH8 := hide (owns_grownO HH6.out hg8 (.inr (owns_off HH6.out (Blk.later HA55.out HX6.out) (by decide))))
              have HP8 := hide (owns_grownO HP6.out hg8 (.inr (owns_off HP6.out (Blk.later HA55.out HX6.out) (by decide))))
              have HL8 := hide (below_grownO HL6.out hg8 (fun k hk => by cases hk; have := HE49.out; omega) (Below.size HL6.out))
              clear hA8 hg8
              refine hK.out _ _ (HKEEP.out _ HL8.out) (fun _ => ?_)
              clear hK Kc
              try simp only [Act.put]
              refine wpAnyH_oneD (l' := (upB 13 13).toArray) (i := 12) (fuel := 0) rfl (by kernel_rfl) (by kernel_rfl) (fun Kc hK => ?_)
              refine step_store_blk rfl rfl rfl rfl HB8.out rfl Try.sizeFaultA rfl ?_
              intro w9 hB9 hg9
              have HB9 := hide hB9
              have HA9 := hide (Blk.grown HA8.out hg9 (fun q => by have q2 := Option.some.inj q; have := HQ55.out; omega))
              have HH9 := hide (owns_grownO HH8.out hg9 (.inr (owns_off HH8.out HB8.out (by decide))))
              have HP9 := hide (owns_grownO HP8.out hg9 (.inr (owns_off HP8.out HB8.out (by decide))))
              have HL9 := hide (below_grownO HL8.out hg9 (fun k hk => by cases hk; have := HE55.out; omega) (Below.size HL8.out))
              clear hB9 hg9
              refine hK.out _ _ (HKEEP.out _ HL9.out) (fun _ => ?_)
              clear hK Kc
              try simp only [Act.put]
              refine wpAnyH_done (by kernel_rfl) ?_ _
              go_wp2_with fail
              go_meet
              case rel => exact ⟨_, _, _, _, rfl, rfl, HA9.out, HB9.out, HH9.out, HP9.out, HL9.out, by have := HE49.out; omega, by have := HE55.out; omega⟩
          · skip
            go_simp
            go_wp2_with fail
            have HN60 := hide (Blk.new Wd 30 #[.int .i64 0, .int .i64 0])
            have HS60 := hide (below_allocG Wd (.cells #[.int .i64 0, .int .i64 0] 30))
            have HL60 := hide (Below.trans HDR.out (HS60.out.mono (Below.size HDR.out)))
            have HE60 := hide (Below.size HDR.out)
            generalize hW60 : Wd.alloc (.cells #[.int .i64 0, .int .i64 0] 30) = W60 at HN60 HS60 HL60 ⊢
            clear hW60
            refine hK.out _ _ (HKEEP.out _ HL60.out) (fun _ => ?_)
            clear hK Kc
            try simp only [Act.put, List.setIfInBounds_toArray, List.set_cons_zero, List.set_cons_succ]
            refine wpAnyH_twoD (li := #[true, true, true, true, true, true, false, false, false, false, true, false, false]) (lj := #[true, true, true, true, true, false, false, false, false, true, true, false, false]) (i := 5) (j := 9) (fuel := 6) rfl rfl (by kernel_rfl) (by kernel_rfl) (by kernel_rfl) (fun Kc hK => ?_) (fun Kc hK => ?_) 
            · skip
              go_simp
              go_at_call 13
              refine (HDO.out _ HL60.out).mono ?_
              rintro e w6 ⟨hv6, sv6, rfl, ho6, hp6, hb6⟩
              obtain ⟨a6, c6, rfl⟩ := owns_shapeA ho6
              obtain ⟨b6, d6, rfl⟩ := owns_shapeA hp6
              have HH6 := hide (owns_base1 ho6 (Nat.le_trans HBASE.out (Below.size HL60.out)))
              have HP6 := hide (owns_base1 hp6 (Nat.le_trans HBASE.out (Below.size HL60.out)))
              have HX6 := hide hb6
              have HL6 := hide (Below.trans HL60.out (hb6.mono (Below.size HL60.out)))
              clear ho6 hp6 hb6
              go_wp2_with fail
              refine hK.out _ _ (HKEEP.out _ HL6.out) (fun _ => ?_)
              clear hK Kc
              try simp only [Act.put, List.setIfInBounds_toArray, List.set_cons_zero, List.set_cons_succ]
              refine wpAnyH_takeD (l' := #[true, true, true, true, true, true, true, false, false, false, true, false, false]) (i := 6) (fuel := 5) (v := ?vdrax62) rfl HNS.out (by kernel_rfl) (by kernel_rfl) (by kernel_rfl) (fun _ _ _ h => h) (by kernel_rfl) ?ydrax62 (HKEEP.out _ HL6.out) ?rdrax62
              case ydrax62 => (intro W hSw; go_simp; first | done | with_reducible rfl)
              try simp only [Act.put, List.setIfInBounds_toArray, List.set_cons_zero, List.set_cons_succ]
              refine wpAnyH_takeD (l' := #[true, true, true, true, true, true, true, true, false, false, true, false, false]) (i := 7) (fuel := 4) (v := ?vdrax63) rfl HNS.out (by kernel_rfl) (by kernel_rfl) (by kernel_rfl) (fun _ _ _ h => h) (by kernel_rfl) ?ydrax63 (HKEEP.out _ HL6.out) ?rdrax63
              case ydrax63 => (intro W hSw; go_simp; first | done | with_reducible rfl)
              try simp only [Act.put, List.setIfInBounds_toArray, List.set_cons_zero, List.set_cons_succ]
              refine wpAnyH_takeD (l' := #[true, true, true, true, true, true, true, true, true, false, true, false, false]) (i := 8) (fuel := 3) (v := ?vdrax64) rfl HNS.out (by kernel_rfl) (by kernel_rfl) (by kernel_rfl) (fun _ _ _ h => h) (by kernel_rfl) ?ydrax64 (HKEEP.out _ HL6.out) ?rdrax64
              case ydrax64 => (intro W hSw; go_simp; first | done | with_reducible rfl)
              try simp only [Act.put, List.setIfInBounds_toArray, List.set_cons_zero, List.set_cons_succ]
              refine wpAnyH_oneD (l' := (upB 13 11).toArray) (i := 9) (fuel := 2) rfl (by kernel_rfl) (by kernel_rfl) (fun Kc hK => ?_)
              have HQ65 := hide (Blk.lt (Blk.later HN60.out HX6.out))
              go_simp
              go_wp2_with fail
              have HN65 := hide (Blk.new w6 27 #[.slice none 0 0, .slice none 0 0, .int .i64 0, .int .i64 0])
              have HS65 := hide (below_allocG w6 (.cells #[.slice none 0 0, .slice none 0 0, .int .i64 0, .int .i64 0] 27))
              have HL65 := hide (Below.trans HL6.out (HS65.out.mono (Below.size HL6.out)))
              have HE65 := hide (Below.size HL6.out)
              have HB65 := hide (Blk.later (Blk.later HN60.out HX6.out) HS65.out)
              have HHq65 := hide (owns_laterA HH6.out HS65.out)
              have HPq65 := hide (owns_laterA HP6.out HS65.out)
              generalize hW65 : w6.alloc (.cells #[.slice none 0 0, .slice none 0 0, .int .i64 0, .int .i64 0] 27) = W65 at HN65 HS65 HL65 HB65 HHq65 HPq65 ⊢
              clear hW65
              refine hK.out _ _ (HKEEP.out _ HL65.out) (fun _ => ?_)
              clear hK Kc
              try simp only [Act.put, List.setIfInBounds_toArray, List.set_cons_zero, List.set_cons_succ]
              refine wpAnyH_oneD (l' := (upB 13 12).toArray) (i := 11) (fuel := 1) rfl (by kernel_rfl) (by kernel_rfl) (fun Kc hK => ?_)
              refine step_store_blk rfl rfl rfl rfl HN65.out rfl Try.sizeBoard rfl ?_
              intro w8 hA8 hg8
              have HA8 := hide hA8
              have HB8 := hide (Blk.grown HB65.out hg8 (fun q => by have q2 := Option.some.inj q; have := HQ65.out; omega))
              have HH8 := hide (owns_grownO HHq65.out hg8 (.inr (owns_off HHq65.out HN65.out (by decide))))
              have HP8 := hide (owns_grownO HPq65.out hg8 (.inr (owns_off HPq65.out HN65.out (by decide))))
              have HL8 := hide (below_grownO HL65.out hg8 (fun k hk => by cases hk; have := HE65.out; omega) (Below.size HL65.out))
              clear hA8 hg8
              refine hK.out _ _ (HKEEP.out _ HL8.out) (fun _ => ?_)
              clear hK Kc
              try simp only [Act.put]
              refine wpAnyH_oneD (l' := (upB 13 13).toArray) (i := 12) (fuel := 0) rfl (by kernel_rfl) (by kernel_rfl) (fun Kc hK => ?_)
              refine step_store_blk rfl rfl rfl rfl HB8.out rfl Try.sizeFaultA rfl ?_
              intro w9 hB9 hg9
              have HB9 := hide hB9
              have HA9 := hide (Blk.grown HA8.out hg9 (fun q => by have q2 := Option.some.inj q; have := HQ65.out; omega))
              have HH9 := hide (owns_grownO HH8.out hg9 (.inr (owns_off HH8.out HB8.out (by decide))))
              have HP9 := hide (owns_grownO HP8.out hg9 (.inr (owns_off HP8.out HB8.out (by decide))))
              have HL9 := hide (below_grownO HL8.out hg9 (fun k hk => by cases hk; have := HE60.out; omega) (Below.size HL8.out))
              clear hB9 hg9
              refine hK.out _ _ (HKEEP.out _ HL9.out) (fun _ => ?_)
              clear hK Kc
              try simp only [Act.put]
              refine wpAnyH_done (by kernel_rfl) ?_ _
              go_wp2_with fail
              go_meet
              case rel => exact ⟨_, _, _, _, rfl, rfl, HA9.out, HB9.out, HH9.out, HP9.out, HL9.out, by have := HE65.out; omega, by have := HE60.out; omega⟩
            · skip
              have HQ66 := hide (Blk.lt HN60.out)
              go_simp
              go_wp2_with fail
              have HN66 := hide (Blk.new W60 27 #[.slice none 0 0, .slice none 0 0, .int .i64 0, .int .i64 0])
              have HS66 := hide (below_allocG W60 (.cells #[.slice none 0 0, .slice none 0 0, .int .i64 0, .int .i64 0] 27))
              have HL66 := hide (Below.trans HL60.out (HS66.out.mono (Below.size HL60.out)))
              have HE66 := hide (Below.size HL60.out)
              have HB66 := hide (Blk.later HN60.out HS66.out)
              generalize hW66 : W60.alloc (.cells #[.slice none 0 0, .slice none 0 0, .int .i64 0, .int .i64 0] 27) = W66 at HN66 HS66 HL66 HB66 ⊢
              clear hW66
              refine hK.out _ _ (HKEEP.out _ HL66.out) (fun _ => ?_)
              clear hK Kc
              try simp only [Act.put, List.setIfInBounds_toArray, List.set_cons_zero, List.set_cons_succ]
              refine wpAnyH_oneD (l' := #[true, true, true, true, true, true, false, false, false, true, true, false, false]) (i := 5) (fuel := 5) rfl (by kernel_rfl) (by kernel_rfl) (fun Kc hK => ?_)
              go_simp
              go_at_call 13
              refine (HDO.out _ HL66.out).mono ?_
              rintro e w6 ⟨hv6, sv6, rfl, ho6, hp6, hb6⟩
              obtain ⟨a6, c6, rfl⟩ := owns_shapeA ho6
              obtain ⟨b6, d6, rfl⟩ := owns_shapeA hp6
              have HH6 := hide (owns_base1 ho6 (Nat.le_trans HBASE.out (Below.size HL66.out)))
              have HP6 := hide (owns_base1 hp6 (Nat.le_trans HBASE.out (Below.size HL66.out)))
              have HX6 := hide hb6
              have HL6 := hide (Below.trans HL66.out (hb6.mono (Below.size HL66.out)))
              clear ho6 hp6 hb6
              go_wp2_with fail
              refine hK.out _ _ (HKEEP.out _ HL6.out) (fun _ => ?_)
              clear hK Kc
              try simp only [Act.put, List.setIfInBounds_toArray, List.set_cons_zero, List.set_cons_succ]
              refine wpAnyH_takeD (l' := #[true, true, true, true, true, true, true, false, false, true, true, false, false]) (i := 6) (fuel := 4) (v := ?vdrax68) rfl HNS.out (by kernel_rfl) (by kernel_rfl) (by kernel_rfl) (fun _ _ _ h => h) (by kernel_rfl) ?ydrax68 (HKEEP.out _ HL6.out) ?rdrax68
              case ydrax68 => (intro W hSw; go_simp; first | done | with_reducible rfl)
              try simp only [Act.put, List.setIfInBounds_toArray, List.set_cons_zero, List.set_cons_succ]
              refine wpAnyH_takeD (l' := #[true, true, true, true, true, true, true, true, false, true, true, false, false]) (i := 7) (fuel := 3) (v := ?vdrax69) rfl HNS.out (by kernel_rfl) (by kernel_rfl) (by kernel_rfl) (fun _ _ _ h => h) (by kernel_rfl) ?ydrax69 (HKEEP.out _ HL6.out) ?rdrax69
              case ydrax69 => (intro W hSw; go_simp; first | done | with_reducible rfl)
              try simp only [Act.put, List.setIfInBounds_toArray, List.set_cons_zero, List.set_cons_succ]
              refine wpAnyH_takeD (l' := (upB 13 11).toArray) (i := 8) (fuel := 2) (v := ?vdrax70) rfl HNS.out (by kernel_rfl) (by kernel_rfl) (by kernel_rfl) (fun _ _ _ h => h) (by kernel_rfl) ?ydrax70 (HKEEP.out _ HL6.out) ?rdrax70
              case ydrax70 => (intro W hSw; go_simp; first | done | with_reducible rfl)
              try simp only [Act.put, List.setIfInBounds_toArray, List.set_cons_zero, List.set_cons_succ]
              refine wpAnyH_oneD (l' := (upB 13 12).toArray) (i := 11) (fuel := 1) rfl (by kernel_rfl) (by kernel_rfl) (fun Kc hK => ?_)
              refine step_store_blk rfl rfl rfl rfl (Blk.later HN66.out HX6.out) rfl Try.sizeBoard rfl ?_
              intro w8 hA8 hg8
              have HA8 := hide hA8
              have HB8 := hide (Blk.grown (Blk.later HB66.out HX6.out) hg8 (fun q => by have q2 := Option.some.inj q; have := HQ66.out; omega))
              have HH8 := hide (owns_grownO HH6.out hg8 (.inr (owns_off HH6.out (Blk.later HN66.out HX6.out) (by decide))))
              have HP8 := hide (owns_grownO HP6.out hg8 (.inr (owns_off HP6.out (Blk.later HN66.out HX6.out) (by decide))))
              have HL8 := hide (below_grownO HL6.out hg8 (fun k hk => by cases hk; have := HE66.out; omega) (Below.size HL6.out))
              clear hA8 hg8
              refine hK.out _ _ (HKEEP.out _ HL8.out) (fun _ => ?_)
              clear hK Kc
              try simp only [Act.put]
              refine wpAnyH_oneD (l' := (upB 13 13).toArray) (i := 12) (fuel := 0) rfl (by kernel_rfl) (by kernel_rfl) (fun Kc hK => ?_)
              refine step_store_blk rfl rfl rfl rfl HB8.out rfl Try.sizeFaultA rfl ?_
              intro w9 hB9 hg9
              have HB9 := hide hB9
              have HA9 := hide (Blk.grown HA8.out hg9 (fun q => by have q2 := Option.some.inj q; have := HQ66.out; omega))
              have HH9 := hide (owns_grownO HH8.out hg9 (.inr (owns_off HH8.out HB8.out (by decide))))
              have HP9 := hide (owns_grownO HP8.out hg9 (.inr (owns_off HP8.out HB8.out (by decide))))
              have HL9 := hide (below_grownO HL8.out hg9 (fun k hk => by cases hk; have := HE60.out; omega) (Below.size HL8.out))
              clear hB9 hg9
              refine hK.out _ _ (HKEEP.out _ HL9.out) (fun _ => ?_)
              clear hK Kc
              try simp only [Act.put]
              refine wpAnyH_done (by kernel_rfl) ?_ _
              go_wp2_with fail
              go_meet
              case rel => exact ⟨_, _, _, _, rfl, rfl, HA9.out, HB9.out, HH9.out, HP9.out, HL9.out, by have := HE66.out; omega, by have := HE60.out; omega⟩
      case rest =>
        obtain ⟨r1, r2, xh, xs, rfl, rfl, hA1, hB1, hH1, hP1, hbx, hr1, hr2⟩ := hcut
        obtain ⟨xa, xc, rfl⟩ := owns_shapeA hH1
        obtain ⟨ya, yc, rfl⟩ := owns_shapeA hP1
        have HAq := hide hA1
        have HBq := hide hB1
        have HHq := hide hH1
        have HPq := hide hP1
        have HXq := hide hbx
        have HRq := hide (And.intro hr1 hr2)
        have hs0 := hB1.cell 0
        simp at hs0
        have HBs := hide (HBr.out.later hbx)
        have HOs := hide (owns_laterA HOr.out hbx)
        have HPs := hide (owns_laterA HPr.out hbx)
        have HMs := hide (HMr.out.later hbx)
        have HNs := hide (HNr.out.later hbx)
        have HAs := hide (HAr.out.trans (hbx.mono HAr.out.size))
        have hi15 : (i : Int) < 150 := by have := HL.out; omega
        clear hA1 hB1 hH1 hP1 hbx hr1 hr2
        by_cases hfx : fx = 0
        case neg =>
          go_wp2_with fail
          go_roundw
          case measure => simp [intOf]; omega
          case rel => exact ⟨i + 1, n, c, ca, cb, cc, cd, M, by omega, by go_num, HF.out, HTL.out, HBs.out, HOs.out, HPs.out, HMs.out, HNs.out, by have := HNn.out; omega, HAs.out⟩
        case pos =>
          have HX := hide (HOF.out.2 (by rw [← HOF.out.1]; exact hfx))
          have HFx : Hid (FineB x) := hide (by rw [HX.out]; exact step_fine HF.out)
          have hlnx : x.sl.length ≤ 1000 := by have := HFx.out.ok.sl; omega
          have hlhx : x.hs.length ≤ 1000 := by have := HFx.out.hl; omega
          have HDO2 := hide (fun W (hW : Below wc.heap.size wc W) => Do_any x (.slice xa x.hs.length xc) (.slice ya x.sl.length yc) o W ((RdG.ofOwns HHq.out).below hW) ((RdG.ofOwns HPq.out).below hW) hlhx hlnx HFx.out.wfp HFx.out.wfho)
          have hof := (ord_fine (o := o) HFx.out).1
          have hag : (stepB x o).2.1 ≠ 0 := by rw [HX.out]; exact step_again HF.out (by rw [← HOF.out.1]; exact hfx)
          rw [← hof] at hag
          obtain ⟨z, hze⟩ : ∃ z, ordB x o = z := ⟨_, rfl⟩
          obtain ⟨ge, hge⟩ : ∃ f, ordF x o = f := ⟨_, rfl⟩
          obtain ⟨gx, gy⟩ := ge
          rw [hge] at hag
          simp only [hze, hge] at HDO2
          unfold bdV odV flt at HDO2
          dsimp only at HDO2 hag
          have hq0 := HAq.out.cell 0
          have hq1 := HAq.out.cell 1
          have hq2 := HAq.out.cell 2
          have hq3 := HAq.out.cell 3
          simp at hq0 hq1 hq2 hq3
          obtain ⟨-, -, -, -, o0, o1, o2, o3, o4⟩ := HKEEP.out wc HXq.out
          have HKEEP2 : Hid (∀ W, Below wc.heap.size wc W → W.cell? ⟨r1, 0, none⟩ = some (.slice xa x.hs.length xc) ∧ W.cell? ⟨r1, 1, none⟩ = some (.slice ya x.sl.length yc) ∧ W.cell? ⟨r1, 2, none⟩ = some (.int .i64 x.tu) ∧ W.cell? ⟨r1, 3, none⟩ = some (.int .i64 x.nx) ∧ W.cell? ⟨ob, oo + i * 5, none⟩ = some (.int .i64 o.kind) ∧ W.cell? ⟨ob, oo + i * 5 + 1, none⟩ = some (.int .i64 o.id) ∧ W.cell? ⟨ob, oo + i * 5 + 2, none⟩ = some (.int .i64 o.ho) ∧ W.cell? ⟨ob, oo + i * 5 + 3, none⟩ = some (.int .i64 o.tu) ∧ W.cell? ⟨ob, oo + i * 5 + 4, none⟩ = some (.string o.row)) := hide (fun W hW => ⟨cell_belowG hq0 hW, cell_belowG hq1 hW, cell_belowG hq2 hW, cell_belowG hq3 hW, cell_belowG o0 hW, cell_belowG o1 hW, cell_belowG o2 hW, cell_belowG o3 hW, cell_belowG o4 hW⟩)
          have HDR2 := hide (show Below wc.heap.size wc wc.drew from Below.drew (Below.refl _ _))
          have HBASE2 := hide HAs.out.size
          clear hq0 hq1 hq2 hq3 o0 o1 o2 o3 o4 hof hze hge
          clear HBr HOr HPr HMr HNr
          go_upto_region 13 with fail
          clear hs0
          go_cut [11, 12] from 44 to 53 (fun av bv wx => ∃ (r1 r2 : Nat) (hv' sv' : Value), av = .pointer (some ⟨r1, 0, none⟩) ∧ bv = .pointer (some ⟨r2, 0, none⟩) ∧ Blk wx r1 27 #[hv', sv', .int .i64 z.tu, .int .i64 z.nx] ∧ Blk wx r2 30 #[.int .i64 gx, .int .i64 gy] ∧ wx.ownsRow w.heap.size 42 3 hv' z.hs.length (hoE.vs z.hs) ∧ wx.ownsRow w.heap.size 46 6 sv' z.sl.length (slE.vs z.sl) ∧ Below wc.heap.size wc wx ∧ wc.heap.size ≤ r1 ∧ wc.heap.size ≤ r2)
          case first =>
            as_aux_lemma =>
              refine wp_region_heldD (S := fun W => W.cell? ⟨r1, 0, none⟩ = some (.slice xa x.hs.length xc) ∧ W.cell? ⟨r1, 1, none⟩ = some (.slice ya x.sl.length yc) ∧ W.cell? ⟨r1, 2, none⟩ = some (.int .i64 x.tu) ∧ W.cell? ⟨r1, 3, none⟩ = some (.int .i64 x.nx) ∧ W.cell? ⟨ob, oo + i * 5, none⟩ = some (.int .i64 o.kind) ∧ W.cell? ⟨ob, oo + i * 5 + 1, none⟩ = some (.int .i64 o.id) ∧ W.cell? ⟨ob, oo + i * 5 + 2, none⟩ = some (.int .i64 o.ho) ∧ W.cell? ⟨ob, oo + i * 5 + 3, none⟩ = some (.int .i64 o.tu) ∧ W.cell? ⟨ob, oo + i * 5 + 4, none⟩ = some (.string o.row)) (n := 13) (l := (upB 13 0).toArray) (by kernel_rfl) (by kernel_rfl) (by kernel_rfl) (by kernel_rfl) (HKEEP2.out _ HDR2.out) (fun HNS hHeld => ?_)
              generalize hWd : wc.drew = Wd at HDR2 hHeld ⊢
              clear hWd
              refine wpAnyH_takeD (l' := (upB 13 1).toArray) (i := 0) (fuel := 12) (v := ?vdrbx1) rfl HNS.out (by kernel_rfl) (by kernel_rfl) (by kernel_rfl) (fun _ _ _ h => h) (by kernel_rfl) ?ydrbx1 hHeld ?rdrbx1
              case ydrbx1 => (intro W hSw; (try dsimp only at hSw); go_simp; first | done | with_reducible rfl)
              try simp only [Act.put, List.setIfInBounds_toArray, List.set_cons_zero, List.set_cons_succ]
              refine wpAnyH_takeD (l' := (upB 13 2).toArray) (i := 1) (fuel := 11) (v := ?vdrbx2) rfl HNS.out (by kernel_rfl) (by kernel_rfl) (by kernel_rfl) (fun _ _ _ h => h) (by kernel_rfl) ?ydrbx2 hHeld ?rdrbx2
              case ydrbx2 => (intro W hSw; go_simp; first | done | with_reducible rfl)
              try simp only [Act.put, List.setIfInBounds_toArray, List.set_cons_zero, List.set_cons_succ]
              refine wpAnyH_takeD (l' := (upB 13 3).toArray) (i := 2) (fuel := 10) (v := ?vdrbx3) rfl HNS.out (by kernel_rfl) (by kernel_rfl) (by kernel_rfl) (fun _ _ _ h => h) (by kernel_rfl) ?ydrbx3 hHeld ?rdrbx3
              case ydrbx3 => (intro W hSw; go_simp; first | done | with_reducible rfl)
              try simp only [Act.put, List.setIfInBounds_toArray, List.set_cons_zero, List.set_cons_succ]
              refine wpAnyH_takeD (l' := (upB 13 4).toArray) (i := 3) (fuel := 9) (v := ?vdrbx4) rfl HNS.out (by kernel_rfl) (by kernel_rfl) (by kernel_rfl) (fun _ _ _ h => h) (by kernel_rfl) ?ydrbx4 hHeld ?rdrbx4
              case ydrbx4 => (intro W hSw; go_simp; first | done | with_reducible rfl)
              try simp only [Act.put, List.setIfInBounds_toArray, List.set_cons_zero, List.set_cons_succ]
              refine wpAnyH_takeD (l' := (upB 13 5).toArray) (i := 4) (fuel := 8) (v := ?vdrbx5) rfl HNS.out (by kernel_rfl) (by kernel_rfl) (by kernel_rfl) (fun _ _ _ h => h) (by kernel_rfl) ?ydrbx5 hHeld ?rdrbx5
              case ydrbx5 => (intro W hSw; (try dsimp only at hSw); go_simp; first | done | with_reducible rfl)
              try simp only [Act.put, List.setIfInBounds_toArray, List.set_cons_zero, List.set_cons_succ]
              refine wpAnyH_threeD (li := (upB 13 6).toArray) (lj := #[true, true, true, true, true, false, false, false, false, true, false, false, false]) (lk := #[true, true, true, true, true, false, false, false, false, false, true, false, false]) (i := 5) (j := 9) (k := 10) (fuel := 7) rfl rfl rfl (by kernel_rfl) (by kernel_rfl) (by kernel_rfl) (by kernel_rfl) (fun Kc hK => ?_) (fun Kc hK => ?_) (fun Kc hK => ?_) 
              · skip
                go_simp
                go_at_call 13
                refine (HDO2.out _ HDR2.out).mono ?_
                rintro e w6 ⟨hv6, sv6, rfl, ho6, hp6, hb6⟩
                obtain ⟨a6, c6, rfl⟩ := owns_shapeA ho6
                obtain ⟨b6, d6, rfl⟩ := owns_shapeA hp6
                have HH6 := hide (owns_base1 ho6 (Nat.le_trans HBASE2.out (Below.size HDR2.out)))
                have HP6 := hide (owns_base1 hp6 (Nat.le_trans HBASE2.out (Below.size HDR2.out)))
                have HX6 := hide hb6
                have HL6 := hide (Below.trans HDR2.out (hb6.mono (Below.size HDR2.out)))
                clear ho6 hp6 hb6
                go_wp2_with fail
                refine hK.out _ _ (HKEEP2.out _ HL6.out) (fun _ => ?_)
                clear hK Kc
                try simp only [Act.put, List.setIfInBounds_toArray, List.set_cons_zero, List.set_cons_succ]
                refine wpAnyH_takeD (l' := (upB 13 7).toArray) (i := 6) (fuel := 6) (v := ?vdrbx7) rfl HNS.out (by kernel_rfl) (by kernel_rfl) (by kernel_rfl) (fun _ _ _ h => h) (by kernel_rfl) ?ydrbx7 (HKEEP2.out _ HL6.out) ?rdrbx7
                case ydrbx7 => (intro W hSw; go_simp; first | done | with_reducible rfl)
                try simp only [Act.put, List.setIfInBounds_toArray, List.set_cons_zero, List.set_cons_succ]
                refine wpAnyH_takeD (l' := (upB 13 8).toArray) (i := 7) (fuel := 5) (v := ?vdrbx8) rfl HNS.out (by kernel_rfl) (by kernel_rfl) (by kernel_rfl) (fun _ _ _ h => h) (by kernel_rfl) ?ydrbx8 (HKEEP2.out _ HL6.out) ?rdrbx8
                case ydrbx8 => (intro W hSw; go_simp; first | done | with_reducible rfl)
                try simp only [Act.put, List.setIfInBounds_toArray, List.set_cons_zero, List.set_cons_succ]
                refine wpAnyH_takeD (l' := (upB 13 9).toArray) (i := 8) (fuel := 4) (v := ?vdrbx9) rfl HNS.out (by kernel_rfl) (by kernel_rfl) (by kernel_rfl) (fun _ _ _ h => h) (by kernel_rfl) ?ydrbx9 (HKEEP2.out _ HL6.out) ?rdrbx9
                case ydrbx9 => (intro W hSw; go_simp; first | done | with_reducible rfl)
                try simp only [Act.put, List.setIfInBounds_toArray, List.set_cons_zero, List.set_cons_succ]
                refine wpAnyH_twoD (li := (upB 13 10).toArray) (lj := #[true, true, true, true, true, true, true, true, true, false, true, false, false]) (i := 9) (j := 10) (fuel := 3) rfl rfl (by kernel_rfl) (by kernel_rfl) (by kernel_rfl) (fun Kc hK => ?_) (fun Kc hK => ?_) 
                · skip
                  go_simp
                  go_wp2_with fail
                  have HN10 := hide (Blk.new w6 27 #[.slice none 0 0, .slice none 0 0, .int .i64 0, .int .i64 0])
                  have HS10 := hide (below_allocG w6 (.cells #[.slice none 0 0, .slice none 0 0, .int .i64 0, .int .i64 0] 27))
                  have HL10 := hide (Below.trans HL6.out (HS10.out.mono (Below.size HL6.out)))
                  have HE10 := hide (Below.size HL6.out)
                  have HHq10 := hide (owns_laterA HH6.out HS10.out)
                  have HPq10 := hide (owns_laterA HP6.out HS10.out)
                  generalize hW10 : w6.alloc (.cells #[.slice none 0 0, .slice none 0 0, .int .i64 0, .int .i64 0] 27) = W10 at HN10 HS10 HL10 HHq10 HPq10 ⊢
                  clear hW10
                  refine hK.out _ _ (HKEEP2.out _ HL10.out) (fun _ => ?_)
                  clear hK Kc
                  try simp only [Act.put, List.setIfInBounds_toArray, List.set_cons_zero, List.set_cons_succ]
                  refine wpAnyH_oneD (l' := (upB 13 11).toArray) (i := 10) (fuel := 2) rfl (by kernel_rfl) (by kernel_rfl) (fun Kc hK => ?_)
                  have HQ11 := hide (Blk.lt HN10.out)
                  go_simp
                  go_wp2_with fail
                  have HN11 := hide (Blk.new W10 30 #[.int .i64 0, .int .i64 0])
                  have HS11 := hide (below_allocG W10 (.cells #[.int .i64 0, .int .i64 0] 30))
                  have HL11 := hide (Below.trans HL10.out (HS11.out.mono (Below.size HL10.out)))
                  have HE11 := hide (Below.size HL10.out)
                  have HA11 := hide (Blk.later HN10.out HS11.out)
                  have HHq11 := hide (owns_laterA HHq10.out HS11.out)
                  have HPq11 := hide (owns_laterA HPq10.out HS11.out)
                  generalize hW11 : W10.alloc (.cells #[.int .i64 0, .int .i64 0] 30) = W11 at HN11 HS11 HL11 HA11 HHq11 HPq11 ⊢
                  clear hW11
                  refine hK.out _ _ (HKEEP2.out _ HL11.out) (fun _ => ?_)
                  clear hK Kc
                  try simp only [Act.put, List.setIfInBounds_toArray, List.set_cons_zero, List.set_cons_succ]
                  refine wpAnyH_oneD (l' := (upB 13 12).toArray) (i := 11) (fuel := 1) rfl (by kernel_rfl) (by kernel_rfl) (fun Kc hK => ?_)
                  refine step_store_blk rfl rfl rfl rfl HA11.out rfl Try.sizeBoard rfl ?_
                  intro w8 hA8 hg8
                  have HA8 := hide hA8
                  have HB8 := hide (Blk.grown HN11.out hg8 (fun q => by have q2 := Option.some.inj q; have := HQ11.out; omega))
                  have HH8 := hide (owns_grownO HHq11.out hg8 (.inr (owns_off HHq11.out HA11.out (by decide))))
                  have HP8 := hide (owns_grownO HPq11.out hg8 (.inr (owns_off HPq11.out HA11.out (by decide))))
                  have HL8 := hide (below_grownO HL11.out hg8 (fun k hk => by cases hk; have := HE10.out; omega) (Below.size HL11.out))
                  clear hA8 hg8
                  refine hK.out _ _ (HKEEP2.out _ HL8.out) (fun _ => ?_)
                  clear hK Kc
                  try simp only [Act.put]
                  refine wpAnyH_oneD (l' := (upB 13 13).toArray) (i := 12) (fuel := 0) rfl (by kernel_rfl) (by kernel_rfl) (fun Kc hK => ?_)
                  refine step_store_blk rfl rfl rfl rfl HB8.out rfl Try.sizeFaultA rfl ?_
                  intro w9 hB9 hg9
                  have HB9 := hide hB9
                  have HA9 := hide (Blk.grown HA8.out hg9 (fun q => by have q2 := Option.some.inj q; have := HQ11.out; omega))
                  have HH9 := hide (owns_grownO HH8.out hg9 (.inr (owns_off HH8.out HB8.out (by decide))))
                  have HP9 := hide (owns_grownO HP8.out hg9 (.inr (owns_off HP8.out HB8.out (by decide))))
                  have HL9 := hide (below_grownO HL8.out hg9 (fun k hk => by cases hk; have := HE11.out; omega) (Below.size HL8.out))
                  clear hB9 hg9
                  refine hK.out _ _ (HKEEP2.out _ HL9.out) (fun _ => ?_)
                  clear hK Kc
                  try simp only [Act.put]
                  refine wpAnyH_done (by kernel_rfl) ?_ _
                  go_wp2_with fail
                  go_meet
                  case rel => exact ⟨_, _, _, _, rfl, rfl, HA9.out, HB9.out, HH9.out, HP9.out, HL9.out, by have := HE10.out; omega, by have := HE11.out; omega⟩
                · skip
                  go_simp
                  go_wp2_with fail
                  have HN12 := hide (Blk.new w6 30 #[.int .i64 0, .int .i64 0])
                  have HS12 := hide (below_allocG w6 (.cells #[.int .i64 0, .int .i64 0] 30))
                  have HL12 := hide (Below.trans HL6.out (HS12.out.mono (Below.size HL6.out)))
                  have HE12 := hide (Below.size HL6.out)
                  have HHq12 := hide (owns_laterA HH6.out HS12.out)
                  have HPq12 := hide (owns_laterA HP6.out HS12.out)
                  generalize hW12 : w6.alloc (.cells #[.int .i64 0, .int .i64 0] 30) = W12 at HN12 HS12 HL12 HHq12 HPq12 ⊢
                  clear hW12
                  refine hK.out _ _ (HKEEP2.out _ HL12.out) (fun _ => ?_)
                  clear hK Kc
                  try simp only [Act.put, List.setIfInBounds_toArray, List.set_cons_zero, List.set_cons_succ]
                  refine wpAnyH_oneD (l' := (upB 13 11).toArray) (i := 9) (fuel := 2) rfl (by kernel_rfl) (by kernel_rfl) (fun Kc hK => ?_)
                  have HQ13 := hide (Blk.lt HN12.out)
                  go_simp
                  go_wp2_with fail
                  have HN13 := hide (Blk.new W12 27 #[.slice none 0 0, .slice none 0 0, .int .i64 0, .int .i64 0])
                  have HS13 := hide (below_allocG W12 (.cells #[.slice none 0 0, .slice none 0 0, .int .i64 0, .int .i64 0] 27))
                  have HL13 := hide (Below.trans HL12.out (HS13.out.mono (Below.size HL12.out)))
                  have HE13 := hide (Below.size HL12.out)
                  have HB13 := hide (Blk.later HN12.out HS13.out)
                  have HHq13 := hide (owns_laterA HHq12.out HS13.out)
                  have HPq13 := hide (owns_laterA HPq12.out HS13.out)
                  generalize hW13 : W12.alloc (.cells #[.slice none 0 0, .slice none 0 0, .int .i64 0, .int .i64 0] 27) = W13 at HN13 HS13 HL13 HB13 HHq13 HPq13 ⊢
                  clear hW13
                  refine hK.out _ _ (HKEEP2.out _ HL13.out) (fun _ => ?_)
                  clear hK Kc
                  try simp only [Act.put, List.setIfInBounds_toArray, List.set_cons_zero, List.set_cons_succ]
                  refine wpAnyH_oneD (l' := (upB 13 12).toArray) (i := 11) (fuel := 1) rfl (by kernel_rfl) (by kernel_rfl) (fun Kc hK => ?_)
                  refine step_store_blk rfl rfl rfl rfl HN13.out rfl Try.sizeBoard rfl ?_
                  intro w8 hA8 hg8
                  have HA8 := hide hA8
                  have HB8 := hide (Blk.grown HB13.out hg8 (fun q => by have q2 := Option.some.inj q; have := HQ13.out; omega))
                  have HH8 := hide (owns_grownO HHq13.out hg8 (.inr (owns_off HHq13.out HN13.out (by decide))))
                  have HP8 := hide (owns_grownO HPq13.out hg8 (.inr (owns_off HPq13.out HN13.out (by decide))))
                  have HL8 := hide (below_grownO HL13.out hg8 (fun k hk => by cases hk; have := HE13.out; omega) (Below.size HL13.out))
                  clear hA8 hg8
                  refine hK.out _ _ (HKEEP2.out _ HL8.out) (fun _ => ?_)
                  clear hK Kc
                  try simp only [Act.put]
                  refine wpAnyH_oneD (l' := (upB 13 13).toArray) (i := 12) (fuel := 0) rfl (by kernel_rfl) (by kernel_rfl) (fun Kc hK => ?_)
                  refine step_store_blk rfl rfl rfl rfl HB8.out rfl Try.sizeFaultA rfl ?_
                  intro w9 hB9 hg9
                  have HB9 := hide hB9
                  have HA9 := hide (Blk.grown HA8.out hg9 (fun q => by have q2 := Option.some.inj q; have := HQ13.out; omega))
                  have HH9 := hide (owns_grownO HH8.out hg9 (.inr (owns_off HH8.out HB8.out (by decide))))
                  have HP9 := hide (owns_grownO HP8.out hg9 (.inr (owns_off HP8.out HB8.out (by decide))))
                  have HL9 := hide (below_grownO HL8.out hg9 (fun k hk => by cases hk; have := HE12.out; omega) (Below.size HL8.out))
                  clear hB9 hg9
                  refine hK.out _ _ (HKEEP2.out _ HL9.out) (fun _ => ?_)
                  clear hK Kc
                  try simp only [Act.put]
                  refine wpAnyH_done (by kernel_rfl) ?_ _
                  go_wp2_with fail
                  go_meet
                  case rel => exact ⟨_, _, _, _, rfl, rfl, HA9.out, HB9.out, HH9.out, HP9.out, HL9.out, by have := HE13.out; omega, by have := HE12.out; omega⟩
              · skip
                go_simp
                go_wp2_with fail
                have HN14 := hide (Blk.new Wd 27 #[.slice none 0 0, .slice none 0 0, .int .i64 0, .int .i64 0])
                have HS14 := hide (below_allocG Wd (.cells #[.slice none 0 0, .slice none 0 0, .int .i64 0, .int .i64 0] 27))
                have HL14 := hide (Below.trans HDR2.out (HS14.out.mono (Below.size HDR2.out)))
                have HE14 := hide (Below.size HDR2.out)
                generalize hW14 : Wd.alloc (.cells #[.slice none 0 0, .slice none 0 0, .int .i64 0, .int .i64 0] 27) = W14 at HN14 HS14 HL14 ⊢
                clear hW14
                refine hK.out _ _ (HKEEP2.out _ HL14.out) (fun _ => ?_)
                clear hK Kc
                try simp only [Act.put, List.setIfInBounds_toArray, List.set_cons_zero, List.set_cons_succ]
                refine wpAnyH_twoD (li := #[true, true, true, true, true, true, false, false, false, true, false, false, false]) (lj := #[true, true, true, true, true, false, false, false, false, true, true, false, false]) (i := 5) (j := 10) (fuel := 6) rfl rfl (by kernel_rfl) (by kernel_rfl) (by kernel_rfl) (fun Kc hK => ?_) (fun Kc hK => ?_) 
                · skip
                  go_simp
                  go_at_call 13
                  refine (HDO2.out _ HL14.out).mono ?_
                  rintro e w6 ⟨hv6, sv6, rfl, ho6, hp6, hb6⟩
                  obtain ⟨a6, c6, rfl⟩ := owns_shapeA ho6
                  obtain ⟨b6, d6, rfl⟩ := owns_shapeA hp6
                  have HH6 := hide (owns_base1 ho6 (Nat.le_trans HBASE2.out (Below.size HL14.out)))
                  have HP6 := hide (owns_base1 hp6 (Nat.le_trans HBASE2.out (Below.size HL14.out)))
                  have HX6 := hide hb6
                  have HL6 := hide (Below.trans HL14.out (hb6.mono (Below.size HL14.out)))
                  clear ho6 hp6 hb6
                  go_wp2_with fail
                  refine hK.out _ _ (HKEEP2.out _ HL6.out) (fun _ => ?_)
                  clear hK Kc
                  try simp only [Act.put, List.setIfInBounds_toArray, List.set_cons_zero, List.set_cons_succ]
                  refine wpAnyH_takeD (l' := #[true, true, true, true, true, true, true, false, false, true, false, false, false]) (i := 6) (fuel := 5) (v := ?vdrbx16) rfl HNS.out (by kernel_rfl) (by kernel_rfl) (by kernel_rfl) (fun _ _ _ h => h) (by kernel_rfl) ?ydrbx16 (HKEEP2.out _ HL6.out) ?rdrbx16
                  case ydrbx16 => (intro W hSw; go_simp; first | done | with_reducible rfl)
                  try simp only [Act.put, List.setIfInBounds_toArray, List.set_cons_zero, List.set_cons_succ]
                  refine wpAnyH_takeD (l' := #[true, true, true, true, true, true, true, true, false, true, false, false, false]) (i := 7) (fuel := 4) (v := ?vdrbx17) rfl HNS.out (by kernel_rfl) (by kernel_rfl) (by kernel_rfl) (fun _ _ _ h => h) (by kernel_rfl) ?ydrbx17 (HKEEP2.out _ HL6.out) ?rdrbx17
                  case ydrbx17 => (intro W hSw; go_simp; first | done | with_reducible rfl)
                  try simp only [Act.put, List.setIfInBounds_toArray, List.set_cons_zero, List.set_cons_succ]
                  refine wpAnyH_takeD (l' := (upB 13 10).toArray) (i := 8) (fuel := 3) (v := ?vdrbx18) rfl HNS.out (by kernel_rfl) (by kernel_rfl) (by kernel_rfl) (fun _ _ _ h => h) (by kernel_rfl) ?ydrbx18 (HKEEP2.out _ HL6.out) ?rdrbx18
                  case ydrbx18 => (intro W hSw; go_simp; first | done | with_reducible rfl)
                  try simp only [Act.put, List.setIfInBounds_toArray, List.set_cons_zero, List.set_cons_succ]
                  refine wpAnyH_oneD (l' := (upB 13 11).toArray) (i := 10) (fuel := 2) rfl (by kernel_rfl) (by kernel_rfl) (fun Kc hK => ?_)
                  have HQ19 := hide (Blk.lt (Blk.later HN14.out HX6.out))
                  go_simp
                  go_wp2_with fail
                  have HN19 := hide (Blk.new w6 30 #[.int .i64 0, .int .i64 0])
                  have HS19 := hide (below_allocG w6 (.cells #[.int .i64 0, .int .i64 0] 30))
                  have HL19 := hide (Below.trans HL6.out (HS19.out.mono (Below.size HL6.out)))
                  have HE19 := hide (Below.size HL6.out)
                  have HA19 := hide (Blk.later (Blk.later HN14.out HX6.out) HS19.out)
                  have HHq19 := hide (owns_laterA HH6.out HS19.out)
                  have HPq19 := hide (owns_laterA HP6.out HS19.out)
                  generalize hW19 : w6.alloc (.cells #[.int .i64 0, .int .i64 0] 30) = W19 at HN19 HS19 HL19 HA19 HHq19 HPq19 ⊢
                  clear hW19
                  refine hK.out _ _ (HKEEP2.out _ HL19.out) (fun _ => ?_)
                  clear hK Kc
                  try simp only [Act.put, List.setIfInBounds_toArray, List.set_cons_zero, List.set_cons_succ]
                  refine wpAnyH_oneD (l' := (upB 13 12).toArray) (i := 11) (fuel := 1) rfl (by kernel_rfl) (by kernel_rfl) (fun Kc hK => ?_)
                  refine step_store_blk rfl rfl rfl rfl HA19.out rfl Try.sizeBoard rfl ?_
                  intro w8 hA8 hg8
                  have HA8 := hide hA8
                  have HB8 := hide (Blk.grown HN19.out hg8 (fun q => by have q2 := Option.some.inj q; have := HQ19.out; omega))
                  have HH8 := hide (owns_grownO HHq19.out hg8 (.inr (owns_off HHq19.out HA19.out (by decide))))
                  have HP8 := hide (owns_grownO HPq19.out hg8 (.inr (owns_off HPq19.out HA19.out (by decide))))
                  have HL8 := hide (below_grownO HL19.out hg8 (fun k hk => by cases hk; have := HE14.out; omega) (Below.size HL19.out))
                  clear hA8 hg8
                  refine hK.out _ _ (HKEEP2.out _ HL8.out) (fun _ => ?_)
                  clear hK Kc
                  try simp only [Act.put]
                  refine wpAnyH_oneD (l' := (upB 13 13).toArray) (i := 12) (fuel := 0) rfl (by kernel_rfl) (by kernel_rfl) (fun Kc hK => ?_)
                  refine step_store_blk rfl rfl rfl rfl HB8.out rfl Try.sizeFaultA rfl ?_
                  intro w9 hB9 hg9
                  have HB9 := hide hB9
                  have HA9 := hide (Blk.grown HA8.out hg9 (fun q => by have q2 := Option.some.inj q; have := HQ19.out; omega))
                  have HH9 := hide (owns_grownO HH8.out hg9 (.inr (owns_off HH8.out HB8.out (by decide))))
                  have HP9 := hide (owns_grownO HP8.out hg9 (.inr (owns_off HP8.out HB8.out (by decide))))
                  have HL9 := hide (below_grownO HL8.out hg9 (fun k hk => by cases hk; have := HE19.out; omega) (Below.size HL8.out))
                  clear hB9 hg9
                  refine hK.out _ _ (HKEEP2.out _ HL9.out) (fun _ => ?_)
                  clear hK Kc
                  try simp only [Act.put]
                  refine wpAnyH_done (by kernel_rfl) ?_ _
                  go_wp2_with fail
                  go_meet
                  case rel => exact ⟨_, _, _, _, rfl, rfl, HA9.out, HB9.out, HH9.out, HP9.out, HL9.out, by have := HE14.out; omega, by have := HE19.out; omega⟩
                · skip
                  have HQ20 := hide (Blk.lt HN14.out)
                  go_simp
                  go_wp2_with fail
                  have HN20 := hide (Blk.new W14 30 #[.int .i64 0, .int .i64 0])
                  have HS20 := hide (below_allocG W14 (.cells #[.int .i64 0, .int .i64 0] 30))
                  have HL20 := hide (Below.trans HL14.out (HS20.out.mono (Below.size HL14.out)))
                  have HE20 := hide (Below.size HL14.out)
                  have HA20 := hide (Blk.later HN14.out HS20.out)
                  generalize hW20 : W14.alloc (.cells #[.int .i64 0, .int .i64 0] 30) = W20 at HN20 HS20 HL20 HA20 ⊢
                  clear hW20
                  refine hK.out _ _ (HKEEP2.out _ HL20.out) (fun _ => ?_)
                  clear hK Kc
                  try simp only [Act.put, List.setIfInBounds_toArray, List.set_cons_zero, List.set_cons_succ]
                  refine wpAnyH_oneD (l' := #[true, true, true, true, true, true, false, false, false, true, true, false, false]) (i := 5) (fuel := 5) rfl (by kernel_rfl) (by kernel_rfl) (fun Kc hK => ?_)
                  go_simp
                  go_at_call 13
                  refine (HDO2.out _ HL20.out).mono ?_
                  rintro e w6 ⟨hv6, sv6, rfl, ho6, hp6, hb6⟩
                  obtain ⟨a6, c6, rfl⟩ := owns_shapeA ho6
                  obtain ⟨b6, d6, rfl⟩ := owns_shapeA hp6
                  have HH6 := hide (owns_base1 ho6 (Nat.le_trans HBASE2.out (Below.size HL20.out)))
                  have HP6 := hide (owns_base1 hp6 (Nat.le_trans HBASE2.out (Below.size HL20.out)))
                  have HX6 := hide hb6
                  have HL6 := hide (Below.trans HL20.out (hb6.mono (Below.size HL20.out)))
                  clear ho6 hp6 hb6
                  go_wp2_with fail
                  refine hK.out _ _ (HKEEP2.out _ HL6.out) (fun _ => ?_)
                  clear hK Kc
                  try simp only [Act.put, List.setIfInBounds_toArray, List.set_cons_zero, List.set_cons_succ]
                  refine wpAnyH_takeD (l' := #[true, true, true, true, true, true, true, false, false, true, true, false, false]) (i := 6) (fuel := 4) (v := ?vdrbx22) rfl HNS.out (by kernel_rfl) (by kernel_rfl) (by kernel_rfl) (fun _ _ _ h => h) (by kernel_rfl) ?ydrbx22 (HKEEP2.out _ HL6.out) ?rdrbx22
                  case ydrbx22 => (intro W hSw; go_simp; first | done | with_reducible rfl)
                  try simp only [Act.put, List.setIfInBounds_toArray, List.set_cons_zero, List.set_cons_succ]
                  refine wpAnyH_takeD (l' := #[true, true, true, true, true, true, true, true, false, true, true, false, false]) (i := 7) (fuel := 3) (v := ?vdrbx23) rfl HNS.out (by kernel_rfl) (by kernel_rfl) (by kernel_rfl) (fun _ _ _ h => h) (by kernel_rfl) ?ydrbx23 (HKEEP2.out _ HL6.out) ?rdrbx23
                  case ydrbx23 => (intro W hSw; go_simp; first | done | with_reducible rfl)
                  try simp only [Act.put, List.setIfInBounds_toArray, List.set_cons_zero, List.set_cons_succ]
                  refine wpAnyH_takeD (l' := (upB 13 11).toArray) (i := 8) (fuel := 2) (v := ?vdrbx24) rfl HNS.out (by kernel_rfl) (by kernel_rfl) (by kernel_rfl) (fun _ _ _ h => h) (by kernel_rfl) ?ydrbx24 (HKEEP2.out _ HL6.out) ?rdrbx24
                  case ydrbx24 => (intro W hSw; go_simp; first | done | with_reducible rfl)
                  try simp only [Act.put, List.setIfInBounds_toArray, List.set_cons_zero, List.set_cons_succ]
                  refine wpAnyH_oneD (l' := (upB 13 12).toArray) (i := 11) (fuel := 1) rfl (by kernel_rfl) (by kernel_rfl) (fun Kc hK => ?_)
                  refine step_store_blk rfl rfl rfl rfl (Blk.later HA20.out HX6.out) rfl Try.sizeBoard rfl ?_
                  intro w8 hA8 hg8
                  have HA8 := hide hA8
                  have HB8 := hide (Blk.grown (Blk.later HN20.out HX6.out) hg8 (fun q => by have q2 := Option.some.inj q; have := HQ20.out; omega))
                  have HH8 := hide (owns_grownO HH6.out hg8 (.inr (owns_off HH6.out (Blk.later HA20.out HX6.out) (by decide))))
                  have HP8 := hide (owns_grownO HP6.out hg8 (.inr (owns_off HP6.out (Blk.later HA20.out HX6.out) (by decide))))
                  have HL8 := hide (below_grownO HL6.out hg8 (fun k hk => by cases hk; have := HE14.out; omega) (Below.size HL6.out))
                  clear hA8 hg8
                  refine hK.out _ _ (HKEEP2.out _ HL8.out) (fun _ => ?_)
                  clear hK Kc
                  try simp only [Act.put]
                  refine wpAnyH_oneD (l' := (upB 13 13).toArray) (i := 12) (fuel := 0) rfl (by kernel_rfl) (by kernel_rfl) (fun Kc hK => ?_)
                  refine step_store_blk rfl rfl rfl rfl HB8.out rfl Try.sizeFaultA rfl ?_
                  intro w9 hB9 hg9
                  have HB9 := hide hB9
                  have HA9 := hide (Blk.grown HA8.out hg9 (fun q => by have q2 := Option.some.inj q; have := HQ20.out; omega))
                  have HH9 := hide (owns_grownO HH8.out hg9 (.inr (owns_off HH8.out HB8.out (by decide))))
                  have HP9 := hide (owns_grownO HP8.out hg9 (.inr (owns_off HP8.out HB8.out (by decide))))
                  have HL9 := hide (below_grownO HL8.out hg9 (fun k hk => by cases hk; have := HE20.out; omega) (Below.size HL8.out))
                  clear hB9 hg9
                  refine hK.out _ _ (HKEEP2.out _ HL9.out) (fun _ => ?_)
                  clear hK Kc
                  try simp only [Act.put]
                  refine wpAnyH_done (by kernel_rfl) ?_ _
                  go_wp2_with fail
                  go_meet
                  case rel => exact ⟨_, _, _, _, rfl, rfl, HA9.out, HB9.out, HH9.out, HP9.out, HL9.out, by have := HE14.out; omega, by have := HE20.out; omega⟩
              · skip
                go_simp
                go_wp2_with fail
                have HN25 := hide (Blk.new Wd 30 #[.int .i64 0, .int .i64 0])
                have HS25 := hide (below_allocG Wd (.cells #[.int .i64 0, .int .i64 0] 30))
                have HL25 := hide (Below.trans HDR2.out (HS25.out.mono (Below.size HDR2.out)))
                have HE25 := hide (Below.size HDR2.out)
                generalize hW25 : Wd.alloc (.cells #[.int .i64 0, .int .i64 0] 30) = W25 at HN25 HS25 HL25 ⊢
                clear hW25
                refine hK.out _ _ (HKEEP2.out _ HL25.out) (fun _ => ?_)
                clear hK Kc
                try simp only [Act.put, List.setIfInBounds_toArray, List.set_cons_zero, List.set_cons_succ]
                refine wpAnyH_twoD (li := #[true, true, true, true, true, true, false, false, false, false, true, false, false]) (lj := #[true, true, true, true, true, false, false, false, false, true, true, false, false]) (i := 5) (j := 9) (fuel := 6) rfl rfl (by kernel_rfl) (by kernel_rfl) (by kernel_rfl) (fun Kc hK => ?_) (fun Kc hK => ?_) 
                · skip
                  go_simp
                  go_at_call 13
                  refine (HDO2.out _ HL25.out).mono ?_
                  rintro e w6 ⟨hv6, sv6, rfl, ho6, hp6, hb6⟩
                  obtain ⟨a6, c6, rfl⟩ := owns_shapeA ho6
                  obtain ⟨b6, d6, rfl⟩ := owns_shapeA hp6
                  have HH6 := hide (owns_base1 ho6 (Nat.le_trans HBASE2.out (Below.size HL25.out)))
                  have HP6 := hide (owns_base1 hp6 (Nat.le_trans HBASE2.out (Below.size HL25.out)))
                  have HX6 := hide hb6
                  have HL6 := hide (Below.trans HL25.out (hb6.mono (Below.size HL25.out)))
                  clear ho6 hp6 hb6
                  go_wp2_with fail
                  refine hK.out _ _ (HKEEP2.out _ HL6.out) (fun _ => ?_)
                  clear hK Kc
                  try simp only [Act.put, List.setIfInBounds_toArray, List.set_cons_zero, List.set_cons_succ]
                  refine wpAnyH_takeD (l' := #[true, true, true, true, true, true, true, false, false, false, true, false, false]) (i := 6) (fuel := 5) (v := ?vdrbx27) rfl HNS.out (by kernel_rfl) (by kernel_rfl) (by kernel_rfl) (fun _ _ _ h => h) (by kernel_rfl) ?ydrbx27 (HKEEP2.out _ HL6.out) ?rdrbx27
                  case ydrbx27 => (intro W hSw; go_simp; first | done | with_reducible rfl)
                  try simp only [Act.put, List.setIfInBounds_toArray, List.set_cons_zero, List.set_cons_succ]
                  refine wpAnyH_takeD (l' := #[true, true, true, true, true, true, true, true, false, false, true, false, false]) (i := 7) (fuel := 4) (v := ?vdrbx28) rfl HNS.out (by kernel_rfl) (by kernel_rfl) (by kernel_rfl) (fun _ _ _ h => h) (by kernel_rfl) ?ydrbx28 (HKEEP2.out _ HL6.out) ?rdrbx28
                  case ydrbx28 => (intro W hSw; go_simp; first | done | with_reducible rfl)
                  try simp only [Act.put, List.setIfInBounds_toArray, List.set_cons_zero, List.set_cons_succ]
                  refine wpAnyH_takeD (l' := #[true, true, true, true, true, true, true, true, true, false, true, false, false]) (i := 8) (fuel := 3) (v := ?vdrbx29) rfl HNS.out (by kernel_rfl) (by kernel_rfl) (by kernel_rfl) (fun _ _ _ h => h) (by kernel_rfl) ?ydrbx29 (HKEEP2.out _ HL6.out) ?rdrbx29
                  case ydrbx29 => (intro W hSw; go_simp; first | done | with_reducible rfl)
                  try simp only [Act.put, List.setIfInBounds_toArray, List.set_cons_zero, List.set_cons_succ]
                  refine wpAnyH_oneD (l' := (upB 13 11).toArray) (i := 9) (fuel := 2) rfl (by kernel_rfl) (by kernel_rfl) (fun Kc hK => ?_)
                  have HQ30 := hide (Blk.lt (Blk.later HN25.out HX6.out))
                  go_simp
                  go_wp2_with fail
                  have HN30 := hide (Blk.new w6 27 #[.slice none 0 0, .slice none 0 0, .int .i64 0, .int .i64 0])
                  have HS30 := hide (below_allocG w6 (.cells #[.slice none 0 0, .slice none 0 0, .int .i64 0, .int .i64 0] 27))
                  have HL30 := hide (Below.trans HL6.out (HS30.out.mono (Below.size HL6.out)))
                  have HE30 := hide (Below.size HL6.out)
                  have HB30 := hide (Blk.later (Blk.later HN25.out HX6.out) HS30.out)
                  have HHq30 := hide (owns_laterA HH6.out HS30.out)
                  have HPq30 := hide (owns_laterA HP6.out HS30.out)
                  generalize hW30 : w6.alloc (.cells #[.slice none 0 0, .slice none 0 0, .int .i64 0, .int .i64 0] 27) = W30 at HN30 HS30 HL30 HB30 HHq30 HPq30 ⊢
                  clear hW30
                  refine hK.out _ _ (HKEEP2.out _ HL30.out) (fun _ => ?_)
                  clear hK Kc
                  try simp only [Act.put, List.setIfInBounds_toArray, List.set_cons_zero, List.set_cons_succ]
                  refine wpAnyH_oneD (l' := (upB 13 12).toArray) (i := 11) (fuel := 1) rfl (by kernel_rfl) (by kernel_rfl) (fun Kc hK => ?_)
                  refine step_store_blk rfl rfl rfl rfl HN30.out rfl Try.sizeBoard rfl ?_
                  intro w8 hA8 hg8
                  have HA8 := hide hA8
                  have HB8 := hide (Blk.grown HB30.out hg8 (fun q => by have q2 := Option.some.inj q; have := HQ30.out; omega))
                  have HH8 := hide (owns_grownO HHq30.out hg8 (.inr (owns_off HHq30.out HN30.out (by decide))))
                  have HP8 := hide (owns_grownO HPq30.out hg8 (.inr (owns_off HPq30.out HN30.out (by decide))))
                  have HL8 := hide (below_grownO HL30.out hg8 (fun k hk => by cases hk; have := HE30.out; omega) (Below.size HL30.out))
                  clear hA8 hg8
                  refine hK.out _ _ (HKEEP2.out _ HL8.out) (fun _ => ?_)
                  clear hK Kc
                  try simp only [Act.put]
                  refine wpAnyH_oneD (l' := (upB 13 13).toArray) (i := 12) (fuel := 0) rfl (by kernel_rfl) (by kernel_rfl) (fun Kc hK => ?_)
                  refine step_store_blk rfl rfl rfl rfl HB8.out rfl Try.sizeFaultA rfl ?_
                  intro w9 hB9 hg9
                  have HB9 := hide hB9
                  have HA9 := hide (Blk.grown HA8.out hg9 (fun q => by have q2 := Option.some.inj q; have := HQ30.out; omega))
                  have HH9 := hide (owns_grownO HH8.out hg9 (.inr (owns_off HH8.out HB8.out (by decide))))
                  have HP9 := hide (owns_grownO HP8.out hg9 (.inr (owns_off HP8.out HB8.out (by decide))))
                  have HL9 := hide (below_grownO HL8.out hg9 (fun k hk => by cases hk; have := HE25.out; omega) (Below.size HL8.out))
                  clear hB9 hg9
                  refine hK.out _ _ (HKEEP2.out _ HL9.out) (fun _ => ?_)
                  clear hK Kc
                  try simp only [Act.put]
                  refine wpAnyH_done (by kernel_rfl) ?_ _
                  go_wp2_with fail
                  go_meet
                  case rel => exact ⟨_, _, _, _, rfl, rfl, HA9.out, HB9.out, HH9.out, HP9.out, HL9.out, by have := HE30.out; omega, by have := HE25.out; omega⟩
                · skip
                  have HQ31 := hide (Blk.lt HN25.out)
                  go_simp
                  go_wp2_with fail
                  have HN31 := hide (Blk.new W25 27 #[.slice none 0 0, .slice none 0 0, .int .i64 0, .int .i64 0])
                  have HS31 := hide (below_allocG W25 (.cells #[.slice none 0 0, .slice none 0 0, .int .i64 0, .int .i64 0] 27))
                  have HL31 := hide (Below.trans HL25.out (HS31.out.mono (Below.size HL25.out)))
                  have HE31 := hide (Below.size HL25.out)
                  have HB31 := hide (Blk.later HN25.out HS31.out)
                  generalize hW31 : W25.alloc (.cells #[.slice none 0 0, .slice none 0 0, .int .i64 0, .int .i64 0] 27) = W31 at HN31 HS31 HL31 HB31 ⊢
                  clear hW31
                  refine hK.out _ _ (HKEEP2.out _ HL31.out) (fun _ => ?_)
                  clear hK Kc
                  try simp only [Act.put, List.setIfInBounds_toArray, List.set_cons_zero, List.set_cons_succ]
                  refine wpAnyH_oneD (l' := #[true, true, true, true, true, true, false, false, false, true, true, false, false]) (i := 5) (fuel := 5) rfl (by kernel_rfl) (by kernel_rfl) (fun Kc hK => ?_)
                  go_simp
                  go_at_call 13
                  refine (HDO2.out _ HL31.out).mono ?_
                  rintro e w6 ⟨hv6, sv6, rfl, ho6, hp6, hb6⟩
                  obtain ⟨a6, c6, rfl⟩ := owns_shapeA ho6
                  obtain ⟨b6, d6, rfl⟩ := owns_shapeA hp6
                  have HH6 := hide (owns_base1 ho6 (Nat.le_trans HBASE2.out (Below.size HL31.out)))
                  have HP6 := hide (owns_base1 hp6 (Nat.le_trans HBASE2.out (Below.size HL31.out)))
                  have HX6 := hide hb6
                  have HL6 := hide (Below.trans HL31.out (hb6.mono (Below.size HL31.out)))
                  clear ho6 hp6 hb6
                  go_wp2_with fail
                  refine hK.out _ _ (HKEEP2.out _ HL6.out) (fun _ => ?_)
                  clear hK Kc
                  try simp only [Act.put, List.setIfInBounds_toArray, List.set_cons_zero, List.set_cons_succ]
                  refine wpAnyH_takeD (l' := #[true, true, true, true, true, true, true, false, false, true, true, false, false]) (i := 6) (fuel := 4) (v := ?vdrbx33) rfl HNS.out (by kernel_rfl) (by kernel_rfl) (by kernel_rfl) (fun _ _ _ h => h) (by kernel_rfl) ?ydrbx33 (HKEEP2.out _ HL6.out) ?rdrbx33
                  case ydrbx33 => (intro W hSw; go_simp; first | done | with_reducible rfl)
                  try simp only [Act.put, List.setIfInBounds_toArray, List.set_cons_zero, List.set_cons_succ]
                  refine wpAnyH_takeD (l' := #[true, true, true, true, true, true, true, true, false, true, true, false, false]) (i := 7) (fuel := 3) (v := ?vdrbx34) rfl HNS.out (by kernel_rfl) (by kernel_rfl) (by kernel_rfl) (fun _ _ _ h => h) (by kernel_rfl) ?ydrbx34 (HKEEP2.out _ HL6.out) ?rdrbx34
                  case ydrbx34 => (intro W hSw; go_simp; first | done | with_reducible rfl)
                  try simp only [Act.put, List.setIfInBounds_toArray, List.set_cons_zero, List.set_cons_succ]
                  refine wpAnyH_takeD (l' := (upB 13 11).toArray) (i := 8) (fuel := 2) (v := ?vdrbx35) rfl HNS.out (by kernel_rfl) (by kernel_rfl) (by kernel_rfl) (fun _ _ _ h => h) (by kernel_rfl) ?ydrbx35 (HKEEP2.out _ HL6.out) ?rdrbx35
                  case ydrbx35 => (intro W hSw; go_simp; first | done | with_reducible rfl)
                  try simp only [Act.put, List.setIfInBounds_toArray, List.set_cons_zero, List.set_cons_succ]
                  refine wpAnyH_oneD (l' := (upB 13 12).toArray) (i := 11) (fuel := 1) rfl (by kernel_rfl) (by kernel_rfl) (fun Kc hK => ?_)
                  refine step_store_blk rfl rfl rfl rfl (Blk.later HN31.out HX6.out) rfl Try.sizeBoard rfl ?_
                  intro w8 hA8 hg8
                  have HA8 := hide hA8
                  have HB8 := hide (Blk.grown (Blk.later HB31.out HX6.out) hg8 (fun q => by have q2 := Option.some.inj q; have := HQ31.out; omega))
                  have HH8 := hide (owns_grownO HH6.out hg8 (.inr (owns_off HH6.out (Blk.later HN31.out HX6.out) (by decide))))
                  have HP8 := hide (owns_grownO HP6.out hg8 (.inr (owns_off HP6.out (Blk.later HN31.out HX6.out) (by decide))))
                  have HL8 := hide (below_grownO HL6.out hg8 (fun k hk => by cases hk; have := HE31.out; omega) (Below.size HL6.out))
                  clear hA8 hg8
                  refine hK.out _ _ (HKEEP2.out _ HL8.out) (fun _ => ?_)
                  clear hK Kc
                  try simp only [Act.put]
                  refine wpAnyH_oneD (l' := (upB 13 13).toArray) (i := 12) (fuel := 0) rfl (by kernel_rfl) (by kernel_rfl) (fun Kc hK => ?_)
                  refine step_store_blk rfl rfl rfl rfl HB8.out rfl Try.sizeFaultA rfl ?_
                  intro w9 hB9 hg9
                  have HB9 := hide hB9
                  have HA9 := hide (Blk.grown HA8.out hg9 (fun q => by have q2 := Option.some.inj q; have := HQ31.out; omega))
                  have HH9 := hide (owns_grownO HH8.out hg9 (.inr (owns_off HH8.out HB8.out (by decide))))
                  have HP9 := hide (owns_grownO HP8.out hg9 (.inr (owns_off HP8.out HB8.out (by decide))))
                  have HL9 := hide (below_grownO HL8.out hg9 (fun k hk => by cases hk; have := HE25.out; omega) (Below.size HL8.out))
                  clear hB9 hg9
                  refine hK.out _ _ (HKEEP2.out _ HL9.out) (fun _ => ?_)
                  clear hK Kc
                  try simp only [Act.put]
                  refine wpAnyH_done (by kernel_rfl) ?_ _
                  go_wp2_with fail
                  go_meet
                  case rel => exact ⟨_, _, _, _, rfl, rfl, HA9.out, HB9.out, HH9.out, HP9.out, HL9.out, by have := HE31.out; omega, by have := HE25.out; omega⟩
          case rest =>
            obtain ⟨r3, r4, zh, zs, rfl, rfl, -, hB2, -, -, hby, -, -⟩ := hcut
            have hg0 := hB2.cell 0
            simp at hg0
            have HAq2 := hide (HAq.out.later hby)
            have HHq2 := hide (owns_laterA HHq.out hby)
            have HPq2 := hide (owns_laterA HPq.out hby)
            have HBt := hide (HBs.out.later hby)
            have HMt := hide (HMs.out.later hby)
            have HNt := hide (HNs.out.later hby)
            have HAt := hide (HAs.out.trans (hby.mono HAs.out.size))
            clear hB2 hby HAq HBq HHq HPq HBs HOs HPs HMs HNs HDO HDO2 HKEEP HKEEP2 HDR HDR2
            have HGO : Hid (Goes c x) := hide (by rw [HX.out]; exact step_goes)
            have ht1 : ¬ (x.tu < c.tu) := by have := HGO.out.tu; omega
            have ht2 : ¬ (x.nx < c.nx) := by have := HGO.out.nx; omega
            have hq0 := HAq2.out.cell 0
            have hq1 := HAq2.out.cell 1
            have hq2 := HAq2.out.cell 2
            have hq3 := HAq2.out.cell 3
            have hb2 := HBt.out.cell 2
            have hb3 := HBt.out.cell 3
            simp at hq0 hq1 hq2 hq3 hb2 hb3
            have HBF := hide (fun W (hW : Below wc.heap.size wc W) => BoardFault_fine x (.slice xa x.hs.length xc) (.slice ya x.sl.length yc) W HFx.out ((RdG.ofOwns HHq2.out).below hW) ((RdG.ofOwns HPq2.out).below hW))
            have hfd : ∀ W : World, (Instr.field 30 (.agg #[.int .i64 0, .int .i64 0]) 0).run Try.prog W = .ok (.int .i64 0) W := fun _ => by kernel_rfl
            unfold bdV flt at HBF
            dsimp only at HBF
            have HB0 := HBt
            have HM0 := HMt
            have HN0 := HNt
            have HW0 := HAt
            have HH0 := HHq2
            have HP0 := HPq2
            clear HBt HMt HNt HAt HHq2 HPq2
            go_upto_if 14 with (first
              | (go_at_call 15; refine (HBF.out _ (Below.refl _ _)).mono ?_; rintro e w7 ⟨rfl, hb7⟩; have HB7 := hide (HB0.out.later hb7); have HH7 := hide (owns_laterA HH0.out hb7); have HP7 := hide (owns_laterA HP0.out hb7); have HM7 := hide (HM0.out.later hb7); have HN7 := hide (HN0.out.later hb7); have HW7 := hide (HW0.out.trans (hb7.mono HW0.out.size)); have HAq7 := hide (HAq2.out.later hb7); clear hb7)
              | (refine wpList_load_blk HAq7.out Try.underlying27 rfl Try.sizeBoard rfl rfl rfl ?_)
              | (refine wpList_store_blk rfl rfl rfl rfl HB7.out rfl Try.sizeBoard rfl ?_; intro w8 hB8 hg8; have HB8 := hide hB8; have HH8 := hide (owns_grownO HH7.out hg8 (.inr (owns_off HH7.out HB7.out (by decide)))); have HP8 := hide (owns_grownO HP7.out hg8 (.inr (owns_off HP7.out HB7.out (by decide)))); have HM8 := hide (HM7.out.kept hg8 (fun q => by have q2 := Option.some.inj q; have := HZ3.out; omega)); have HN8 := hide (HN7.out.kept hg8 (fun q => by have q2 := Option.some.inj q; have := HZ3.out; omega)); have HW8 := hide (below_grownO HW7.out hg8 (fun k hk => by cases hk; exact HZ2.out) HW7.out.size); clear hB8 hg8))
            clear HB0 HM0 HN0 HW0 HH0 HP0 HB7 HM7 HN7 HW7 HH7 HP7 HAq7 HBF HXq HRq hg0 hq0 hq1 hq2 hq3 hb2 hb3 ht1 ht2 hag hfd
            have HT8 := hide (HTL.out.goes HGO.out)
            clear HGO HTL HX
            go_loopw [13, 14, 15, 16, 17] (fun nv kv _ _ _ wq => ∃ (k m : Nat) (N : Int → Option (Int × Int)), k ≤ x.sl.length ∧ kv = .int .i64 k ∧ nv = .int .i64 (cntR (x.sl.take k) row) ∧ Told x N ∧ Blk wq bb 27 #[.slice xa x.hs.length xc, .slice ya x.sl.length yc, .int .i64 x.tu, .int .i64 x.nx] ∧ wq.ownsRow w.heap.size 42 3 (.slice xa x.hs.length xc) x.hs.length (hoE.vs x.hs) ∧ wq.ownsRow w.heap.size 46 6 (.slice ya x.sl.length yc) x.sl.length (slE.vs x.sl) ∧ MpI wq w1.heap.size m (fun t => (N t).map (fun p => .int .i64 p.1)) ∧ MpI wq (w1.heap.size + 1) m (fun t => (N t).map (fun p => .int .i64 p.2)) ∧ m ≤ n + k ∧ Below w.heap.size w wq)
              (fun _ kv _ _ _ _ => x.sl.length - (intOf kv).toNat)
            case atStart => exact ⟨0, n, M, by omega, rfl, rfl, HT8.out, HB8.out, HH8.out, HP8.out, HM8.out, HN8.out, by omega, HW8.out⟩
            case round =>
              obtain ⟨k, m, N, hk, rfl, rfl, htq, hB, hH, hP, hM, hN, hmn, hW⟩ := hrel
              have HTQ := hide htq
              have HBq := hide hB
              have HHq := hide hH
              have HPq := hide hP
              have HMq := hide hM
              have HNq := hide hN
              have HWq := hide hW
              have b1 := hB.cell 1
              have bl := hB.lt
              simp at b1
              clear htq hB hH hP hM hN hW HB8 HH8 HP8 HM8 HN8 HW8 HT8
              have hm200 : m ≤ 200 * i + k := by have := HNn.out; omega
              by_cases hlk : k < x.sl.length
              · obtain ⟨s, hs⟩ : ∃ s, x.sl[k]? = some s := ⟨_, List.getElem?_eq_getElem hlk⟩
                have HMEM := hide (List.mem_of_getElem? hs)
                have HCN := hide (cntR_snoc (r := row) hs)
                obtain ⟨sb, so, rfl, hsbl, hat⟩ := (RdG.ofOwns HPq.out).here hs
                obtain ⟨s0, s1, s2, s3, s4, s5⟩ := hat.slot
                have hk3 : (0 : Int) ≤ (k : Int) := by omega
                have hk4 : (k : Int) < (x.sl.length : Int) := by omega
                clear hat
                go_upto_region 22 with fail
                have hbd := below_allocG wr (.cells #[.string s.p.fr, .string s.p.to_, .int .i64 s.p.id, .int .i64 s.st, .int .i64 s.ho, .int .i64 s.tu] 46)
                have HSd := hide (Blk.new wr 46 #[.string s.p.fr, .string s.p.to_, .int .i64 s.p.id, .int .i64 s.st, .int .i64 s.ho, .int .i64 s.tu])
                have HBd := hide (HBq.out.later hbd)
                have HHd := hide (owns_laterA HHq.out hbd)
                have HPd := hide (owns_laterA HPq.out hbd)
                have HMd := hide (HMq.out.later hbd)
                have HNd := hide (HNq.out.later hbd)
                have HWd := hide (HWq.out.trans (hbd.mono HWq.out.size))
                generalize hwd : wr.alloc (.cells #[.string s.p.fr, .string s.p.to_, .int .i64 s.p.id, .int .i64 s.st, .int .i64 s.ho, .int .i64 s.tu] 46) = wd at HSd HBd HHd HPd HMd HNd HWd ⊢
                have bl' := bl
                clear hwd hbd HBq HHq HPq HMq HNq HWq s0 s1 s2 s3 s4 s5 b1 bl
                have HVB := hide (show bb < wr.heap.size from bl')
                obtain ⟨vb, hvb⟩ : ∃ vb : Nat, wr.heap.size = vb := ⟨_, rfl⟩
                rw [hvb] at HSd HVB ⊢
                clear hvb
                have s0 := HSd.out.cell 0
                have s1 := HSd.out.cell 1
                have s2 := HSd.out.cell 2
                simp at s0 s1 s2
                have HIP := hide (fun W => InPart_any s.p row W)
                obtain ⟨q, hq⟩ : ∃ q, cntR (x.sl.take k) row = q := ⟨_, rfl⟩
                have hqb : (q : Int) ≤ 1000 := by
                  have h1 : q ≤ (x.sl.take k).length := by rw [← hq]; exact List.length_filter_le _ _
                  have h2 := List.length_take_le k x.sl
                  omega
                have hq0 : (0 : Int) ≤ (q : Int) := by omega
                rw [hq] at HCN ⊢
                clear hq
                by_cases hin : inB row s.p.fr s.p.to_ = true
                · rw [if_pos hin] at HCN
                  go_upto_region 24 with (go_at_call 16; refine (HIP.out _).mono ?_; rintro e we ⟨rfl, hbe⟩; have HBe := hide (HBd.out.later hbe); have HHe := hide (owns_laterA HHd.out hbe); have HPe := hide (owns_laterA HPd.out hbe); have HMe := hide (HMd.out.later hbe); have HNe := hide (HNd.out.later hbe); have HWe := hide (HWd.out.trans (hbe.mono HWd.out.size)); have HSe := hide (HSd.out.later hbe); clear hbe)
                  clear s0 s1 s2 hin HIP HSd HBd HHd HPd HMd HNd HWd
                  have s2 := HSe.out.cell 2
                  have s3 := HSe.out.cell 3
                  have s4 := HSe.out.cell 4
                  have s5 := HSe.out.cell 5
                  simp at s2 s3 s4 s5
                  by_cases hst : s.st = 0
                  · go_wp2_with fail
                    go_roundw
                    case measure => simp [intOf]; omega
                    case rel => exact ⟨k + 1, m, N, by omega, by go_num, by rw [HCN.out]; first | rfl | go_num, HTQ.out, HBe.out, HHe.out, HPe.out, HMe.out, HNe.out, by omega, HWe.out⟩
                  have hhi := hoIn_alive (i := 0) (aliveB_of ((HFx.out.sc s (HMEM.out)).al hst))
                  have hhi2 : ¬ (hoIn x.hs s.ho true 0 < 0) := by simpa using hhi
                  have HHI := hide (fun W (hW : Below we.heap.size we W) => HostIn_any x (.slice xa x.hs.length xc) (.slice (some ⟨sb, so, none⟩) x.sl.length yc) s.ho true W ((RdG.ofOwns HHe.out).below hW) hlhx)
                  unfold bdV at HHI
                  try dsimp only at HHI
                  have b0 := HBe.out.cell 0
                  have b1 := HBe.out.cell 1
                  have b2 := HBe.out.cell 2
                  have b3 := HBe.out.cell 3
                  simp at b0 b1 b2 b3
                  have hwt : (Lit.int .i64 s.tu).wf = true := WalkArith.wf_i64 (by have h1 := (HFx.out.sc s HMEM.out).t0; have h2 := (HFx.out.sc s HMEM.out).t1; have h3 := numB_iff.1 HFx.out.tu; omega)
                  have mE1 : (fun t => if t = s.tu then some (Value.int .i64 s.ho) else (N t).map (fun p => Value.int .i64 p.1)) = (fun t => ((if t = s.tu then some (s.ho, s.p.id) else N t).map (fun p : Int × Int => Value.int .i64 p.1))) := by funext t; split <;> rfl
                  have mE2 : (fun t => if t = s.tu then some (Value.int .i64 s.p.id) else (N t).map (fun p => Value.int .i64 p.2)) = (fun t => ((if t = s.tu then some (s.ho, s.p.id) else N t).map (fun p : Int × Int => Value.int .i64 p.2))) := by funext t; split <;> rfl
                  rcases hNs : N s.tu with _ | p
                  · have HNS := hide hNs
                    clear hNs hhi
                    go_wp2_with (first
                      | (at_lookup; refine wpList_lookupI_ok rfl rfl Try.underlying53 (zeroInt8 _) rfl rfl HMe.out hwt ?_; rw [HNS.out]; dsimp only [Option.map, Option.getD, Option.isSome])
                      | (go_at_call 17; refine (HHI.out _ (Below.refl _ _)).mono ?_; rintro e wf ⟨rfl, hbf⟩; have HBf := hide (HBe.out.later hbf); have HHf := hide (owns_laterA HHe.out hbf); have HPf := hide (owns_laterA HPe.out hbf); have HMf := hide (HMe.out.later hbf); have HNf := hide (HNe.out.later hbf); have HWf := hide (HWe.out.trans (hbf.mono HWe.out.size)); have HSf := hide (HSe.out.later hbf); have s2 := HSf.out.cell 2; have s3 := HSf.out.cell 3; have s4 := HSf.out.cell 4; have s5 := HSf.out.cell 5; simp at s2 s3 s4 s5; clear hbf)
                      | (at_mapUpdate; refine wpList_updateI (u := .int .i64 s.ho) rfl rfl Try.underlying53 rfl rfl rfl HMf.out (by unfold maxLen; omega) hwt ?_; intro w6 hM6 hg6; have HBg := hide (Blk.grown HBf.out hg6 (fun q => by have q2 := Option.some.inj q; have := HZ3.out; have := HVB.out; omega)); have HSg := hide (Blk.grown HSf.out hg6 (fun q => by have q2 := Option.some.inj q; have := HZ3.out; have := HVB.out; omega)); have HHg := hide (owns_grownO HHf.out hg6 (.inr (owns_offM HHf.out HMf.out))); have HPg := hide (owns_grownO HPf.out hg6 (.inr (owns_offM HPf.out HMf.out))); have HWg := hide (below_grownO HWf.out hg6 (fun k hk => by cases hk; have := HZ1.out; omega) HWf.out.size); have HNg := hide (HNf.out.kept hg6 (fun q => by have q2 := Option.some.inj q; omega)); have HMg := hide hM6; have s2 := HSg.out.cell 2; have s3 := HSg.out.cell 3; have s4 := HSg.out.cell 4; have s5 := HSg.out.cell 5; simp at s2 s3 s4 s5; clear hM6 hg6)
                      | (at_mapUpdate; refine wpList_updateI (u := .int .i64 s.p.id) rfl rfl Try.underlying53 rfl rfl rfl HNg.out (by unfold maxLen; omega) hwt ?_; intro w9 hM9 hg9; have HBh := hide (Blk.grown HBg.out hg9 (fun q => by have q2 := Option.some.inj q; have := HZ3.out; have := HVB.out; omega)); have HSh := hide (Blk.grown HSg.out hg9 (fun q => by have q2 := Option.some.inj q; have := HZ3.out; have := HVB.out; omega)); have HHh := hide (owns_grownO HHg.out hg9 (.inr (owns_offM HHg.out HNg.out))); have HPh := hide (owns_grownO HPg.out hg9 (.inr (owns_offM HPg.out HNg.out))); have HWh := hide (below_grownO HWg.out hg9 (fun k hk => by cases hk; have := HZ1.out; omega) HWg.out.size); have HMh := hide (HMg.out.kept hg9 (fun q => by have q2 := Option.some.inj q; omega)); have HNh := hide hM9; clear hM9 hg9))
                    go_roundw
                    case measure => simp [intOf]; omega
                    case rel => exact ⟨k + 1, m + 1, fun t => if t = s.tu then some (s.ho, s.p.id) else N t, by omega, by go_num, by rw [HCN.out]; first | rfl | go_num, HTQ.out.put HFx.out HMEM.out hst, HBh.out, HHh.out, HPh.out, by have h := HMh.out; rw [mE1] at h; exact h, by have h := HNh.out; rw [mE2] at h; exact h, by omega, HWh.out⟩
                  · have hTo := (HTQ.out _ _ hNs).2 s HMEM.out hst rfl
                    obtain ⟨p1, p2⟩ := p
                    obtain ⟨rfl, rfl⟩ := hTo
                    have hlk := run_lookupI (w := we) (id := s.tu) Try.underlying53 (zeroInt8 _) HNe.out hwt
                    try dsimp only at hlk
                    rw [hNs] at hlk
                    dsimp only [Option.map, Option.getD] at hlk
                    have HNS := hide hNs
                    clear hNs hhi
                    go_wp2_with (first
                      | (at_lookup; refine wpList_lookupI_ok rfl rfl Try.underlying53 (zeroInt8 _) rfl rfl HMe.out hwt ?_; rw [HNS.out]; dsimp only [Option.map, Option.getD, Option.isSome])
                      | (go_at_call 17; refine (HHI.out _ (Below.refl _ _)).mono ?_; rintro e wf ⟨rfl, hbf⟩; have HBf := hide (HBe.out.later hbf); have HHf := hide (owns_laterA HHe.out hbf); have HPf := hide (owns_laterA HPe.out hbf); have HMf := hide (HMe.out.later hbf); have HNf := hide (HNe.out.later hbf); have HWf := hide (HWe.out.trans (hbf.mono HWe.out.size)); have HSf := hide (HSe.out.later hbf); have s2 := HSf.out.cell 2; have s3 := HSf.out.cell 3; have s4 := HSf.out.cell 4; have s5 := HSf.out.cell 5; simp at s2 s3 s4 s5; clear hbf)
                      | (at_mapUpdate; refine wpList_updateI (u := .int .i64 s.ho) rfl rfl Try.underlying53 rfl rfl rfl HMf.out (by unfold maxLen; omega) hwt ?_; intro w6 hM6 hg6; have HBg := hide (Blk.grown HBf.out hg6 (fun q => by have q2 := Option.some.inj q; have := HZ3.out; have := HVB.out; omega)); have HSg := hide (Blk.grown HSf.out hg6 (fun q => by have q2 := Option.some.inj q; have := HZ3.out; have := HVB.out; omega)); have HHg := hide (owns_grownO HHf.out hg6 (.inr (owns_offM HHf.out HMf.out))); have HPg := hide (owns_grownO HPf.out hg6 (.inr (owns_offM HPf.out HMf.out))); have HWg := hide (below_grownO HWf.out hg6 (fun k hk => by cases hk; have := HZ1.out; omega) HWf.out.size); have HNg := hide (HNf.out.kept hg6 (fun q => by have q2 := Option.some.inj q; omega)); have HMg := hide hM6; have s2 := HSg.out.cell 2; have s3 := HSg.out.cell 3; have s4 := HSg.out.cell 4; have s5 := HSg.out.cell 5; simp at s2 s3 s4 s5; clear hM6 hg6)
                      | (at_mapUpdate; refine wpList_updateI (u := .int .i64 s.p.id) rfl rfl Try.underlying53 rfl rfl rfl HNg.out (by unfold maxLen; omega) hwt ?_; intro w9 hM9 hg9; have HBh := hide (Blk.grown HBg.out hg9 (fun q => by have q2 := Option.some.inj q; have := HZ3.out; have := HVB.out; omega)); have HSh := hide (Blk.grown HSg.out hg9 (fun q => by have q2 := Option.some.inj q; have := HZ3.out; have := HVB.out; omega)); have HHh := hide (owns_grownO HHg.out hg9 (.inr (owns_offM HHg.out HNg.out))); have HPh := hide (owns_grownO HPg.out hg9 (.inr (owns_offM HPg.out HNg.out))); have HWh := hide (below_grownO HWg.out hg9 (fun k hk => by cases hk; have := HZ1.out; omega) HWg.out.size); have HMh := hide (HMg.out.kept hg9 (fun q => by have q2 := Option.some.inj q; omega)); have HNh := hide hM9; clear hM9 hg9))
                    go_roundw
                    case measure => simp [intOf]; omega
                    case rel => exact ⟨k + 1, m + 1, fun t => if t = s.tu then some (s.ho, s.p.id) else N t, by omega, by go_num, by rw [HCN.out]; first | rfl | go_num, HTQ.out.put HFx.out HMEM.out hst, HBh.out, HHh.out, HPh.out, by have h := HMh.out; rw [mE1] at h; exact h, by have h := HNh.out; rw [mE2] at h; exact h, by omega, HWh.out⟩
                · rw [if_neg hin] at HCN
                  go_upto_region 24 with (go_at_call 16; refine (HIP.out _).mono ?_; rintro e we ⟨rfl, hbe⟩; have HBe := hide (HBd.out.later hbe); have HHe := hide (owns_laterA HHd.out hbe); have HPe := hide (owns_laterA HPd.out hbe); have HMe := hide (HMd.out.later hbe); have HNe := hide (HNd.out.later hbe); have HWe := hide (HWd.out.trans (hbe.mono HWd.out.size)); have HSe := hide (HSd.out.later hbe); clear hbe)
                  clear s0 s1 s2 hin HIP HSd HBd HHd HPd HMd HNd HWd
                  have s2 := HSe.out.cell 2
                  have s3 := HSe.out.cell 3
                  have s4 := HSe.out.cell 4
                  have s5 := HSe.out.cell 5
                  simp at s2 s3 s4 s5
                  by_cases hst : s.st = 0
                  · go_wp2_with fail
                    go_roundw
                    case measure => simp [intOf]; omega
                    case rel => exact ⟨k + 1, m, N, by omega, by go_num, by rw [HCN.out]; first | rfl | go_num, HTQ.out, HBe.out, HHe.out, HPe.out, HMe.out, HNe.out, by omega, HWe.out⟩
                  have hhi := hoIn_alive (i := 0) (aliveB_of ((HFx.out.sc s (HMEM.out)).al hst))
                  have hhi2 : ¬ (hoIn x.hs s.ho true 0 < 0) := by simpa using hhi
                  have HHI := hide (fun W (hW : Below we.heap.size we W) => HostIn_any x (.slice xa x.hs.length xc) (.slice (some ⟨sb, so, none⟩) x.sl.length yc) s.ho true W ((RdG.ofOwns HHe.out).below hW) hlhx)
                  unfold bdV at HHI
                  try dsimp only at HHI
                  have b0 := HBe.out.cell 0
                  have b1 := HBe.out.cell 1
                  have b2 := HBe.out.cell 2
                  have b3 := HBe.out.cell 3
                  simp at b0 b1 b2 b3
                  have hwt : (Lit.int .i64 s.tu).wf = true := WalkArith.wf_i64 (by have h1 := (HFx.out.sc s HMEM.out).t0; have h2 := (HFx.out.sc s HMEM.out).t1; have h3 := numB_iff.1 HFx.out.tu; omega)
                  have mE1 : (fun t => if t = s.tu then some (Value.int .i64 s.ho) else (N t).map (fun p => Value.int .i64 p.1)) = (fun t => ((if t = s.tu then some (s.ho, s.p.id) else N t).map (fun p : Int × Int => Value.int .i64 p.1))) := by funext t; split <;> rfl
                  have mE2 : (fun t => if t = s.tu then some (Value.int .i64 s.p.id) else (N t).map (fun p => Value.int .i64 p.2)) = (fun t => ((if t = s.tu then some (s.ho, s.p.id) else N t).map (fun p : Int × Int => Value.int .i64 p.2))) := by funext t; split <;> rfl
                  rcases hNs : N s.tu with _ | p
                  · have HNS := hide hNs
                    clear hNs hhi
                    go_wp2_with (first
                      | (at_lookup; refine wpList_lookupI_ok rfl rfl Try.underlying53 (zeroInt8 _) rfl rfl HMe.out hwt ?_; rw [HNS.out]; dsimp only [Option.map, Option.getD, Option.isSome])
                      | (go_at_call 17; refine (HHI.out _ (Below.refl _ _)).mono ?_; rintro e wf ⟨rfl, hbf⟩; have HBf := hide (HBe.out.later hbf); have HHf := hide (owns_laterA HHe.out hbf); have HPf := hide (owns_laterA HPe.out hbf); have HMf := hide (HMe.out.later hbf); have HNf := hide (HNe.out.later hbf); have HWf := hide (HWe.out.trans (hbf.mono HWe.out.size)); have HSf := hide (HSe.out.later hbf); have s2 := HSf.out.cell 2; have s3 := HSf.out.cell 3; have s4 := HSf.out.cell 4; have s5 := HSf.out.cell 5; simp at s2 s3 s4 s5; clear hbf)
                      | (at_mapUpdate; refine wpList_updateI (u := .int .i64 s.ho) rfl rfl Try.underlying53 rfl rfl rfl HMf.out (by unfold maxLen; omega) hwt ?_; intro w6 hM6 hg6; have HBg := hide (Blk.grown HBf.out hg6 (fun q => by have q2 := Option.some.inj q; have := HZ3.out; have := HVB.out; omega)); have HSg := hide (Blk.grown HSf.out hg6 (fun q => by have q2 := Option.some.inj q; have := HZ3.out; have := HVB.out; omega)); have HHg := hide (owns_grownO HHf.out hg6 (.inr (owns_offM HHf.out HMf.out))); have HPg := hide (owns_grownO HPf.out hg6 (.inr (owns_offM HPf.out HMf.out))); have HWg := hide (below_grownO HWf.out hg6 (fun k hk => by cases hk; have := HZ1.out; omega) HWf.out.size); have HNg := hide (HNf.out.kept hg6 (fun q => by have q2 := Option.some.inj q; omega)); have HMg := hide hM6; have s2 := HSg.out.cell 2; have s3 := HSg.out.cell 3; have s4 := HSg.out.cell 4; have s5 := HSg.out.cell 5; simp at s2 s3 s4 s5; clear hM6 hg6)
                      | (at_mapUpdate; refine wpList_updateI (u := .int .i64 s.p.id) rfl rfl Try.underlying53 rfl rfl rfl HNg.out (by unfold maxLen; omega) hwt ?_; intro w9 hM9 hg9; have HBh := hide (Blk.grown HBg.out hg9 (fun q => by have q2 := Option.some.inj q; have := HZ3.out; have := HVB.out; omega)); have HSh := hide (Blk.grown HSg.out hg9 (fun q => by have q2 := Option.some.inj q; have := HZ3.out; have := HVB.out; omega)); have HHh := hide (owns_grownO HHg.out hg9 (.inr (owns_offM HHg.out HNg.out))); have HPh := hide (owns_grownO HPg.out hg9 (.inr (owns_offM HPg.out HNg.out))); have HWh := hide (below_grownO HWg.out hg9 (fun k hk => by cases hk; have := HZ1.out; omega) HWg.out.size); have HMh := hide (HMg.out.kept hg9 (fun q => by have q2 := Option.some.inj q; omega)); have HNh := hide hM9; clear hM9 hg9))
                    go_roundw
                    case measure => simp [intOf]; omega
                    case rel => exact ⟨k + 1, m + 1, fun t => if t = s.tu then some (s.ho, s.p.id) else N t, by omega, by go_num, by rw [HCN.out]; first | rfl | go_num, HTQ.out.put HFx.out HMEM.out hst, HBh.out, HHh.out, HPh.out, by have h := HMh.out; rw [mE1] at h; exact h, by have h := HNh.out; rw [mE2] at h; exact h, by omega, HWh.out⟩
                  · have hTo := (HTQ.out _ _ hNs).2 s HMEM.out hst rfl
                    obtain ⟨p1, p2⟩ := p
                    obtain ⟨rfl, rfl⟩ := hTo
                    have hlk := run_lookupI (w := we) (id := s.tu) Try.underlying53 (zeroInt8 _) HNe.out hwt
                    try dsimp only at hlk
                    rw [hNs] at hlk
                    dsimp only [Option.map, Option.getD] at hlk
                    have HNS := hide hNs
                    clear hNs hhi
                    go_wp2_with (first
                      | (at_lookup; refine wpList_lookupI_ok rfl rfl Try.underlying53 (zeroInt8 _) rfl rfl HMe.out hwt ?_; rw [HNS.out]; dsimp only [Option.map, Option.getD, Option.isSome])
                      | (go_at_call 17; refine (HHI.out _ (Below.refl _ _)).mono ?_; rintro e wf ⟨rfl, hbf⟩; have HBf := hide (HBe.out.later hbf); have HHf := hide (owns_laterA HHe.out hbf); have HPf := hide (owns_laterA HPe.out hbf); have HMf := hide (HMe.out.later hbf); have HNf := hide (HNe.out.later hbf); have HWf := hide (HWe.out.trans (hbf.mono HWe.out.size)); have HSf := hide (HSe.out.later hbf); have s2 := HSf.out.cell 2; have s3 := HSf.out.cell 3; have s4 := HSf.out.cell 4; have s5 := HSf.out.cell 5; simp at s2 s3 s4 s5; clear hbf)
                      | (at_mapUpdate; refine wpList_updateI (u := .int .i64 s.ho) rfl rfl Try.underlying53 rfl rfl rfl HMf.out (by unfold maxLen; omega) hwt ?_; intro w6 hM6 hg6; have HBg := hide (Blk.grown HBf.out hg6 (fun q => by have q2 := Option.some.inj q; have := HZ3.out; have := HVB.out; omega)); have HSg := hide (Blk.grown HSf.out hg6 (fun q => by have q2 := Option.some.inj q; have := HZ3.out; have := HVB.out; omega)); have HHg := hide (owns_grownO HHf.out hg6 (.inr (owns_offM HHf.out HMf.out))); have HPg := hide (owns_grownO HPf.out hg6 (.inr (owns_offM HPf.out HMf.out))); have HWg := hide (below_grownO HWf.out hg6 (fun k hk => by cases hk; have := HZ1.out; omega) HWf.out.size); have HNg := hide (HNf.out.kept hg6 (fun q => by have q2 := Option.some.inj q; omega)); have HMg := hide hM6; have s2 := HSg.out.cell 2; have s3 := HSg.out.cell 3; have s4 := HSg.out.cell 4; have s5 := HSg.out.cell 5; simp at s2 s3 s4 s5; clear hM6 hg6)
                      | (at_mapUpdate; refine wpList_updateI (u := .int .i64 s.p.id) rfl rfl Try.underlying53 rfl rfl rfl HNg.out (by unfold maxLen; omega) hwt ?_; intro w9 hM9 hg9; have HBh := hide (Blk.grown HBg.out hg9 (fun q => by have q2 := Option.some.inj q; have := HZ3.out; have := HVB.out; omega)); have HSh := hide (Blk.grown HSg.out hg9 (fun q => by have q2 := Option.some.inj q; have := HZ3.out; have := HVB.out; omega)); have HHh := hide (owns_grownO HHg.out hg9 (.inr (owns_offM HHg.out HNg.out))); have HPh := hide (owns_grownO HPg.out hg9 (.inr (owns_offM HPg.out HNg.out))); have HWh := hide (below_grownO HWg.out hg9 (fun k hk => by cases hk; have := HZ1.out; omega) HWg.out.size); have HMh := hide (HMg.out.kept hg9 (fun q => by have q2 := Option.some.inj q; omega)); have HNh := hide hM9; clear hM9 hg9))
                    go_roundw
                    case measure => simp [intOf]; omega
                    case rel => exact ⟨k + 1, m + 1, fun t => if t = s.tu then some (s.ho, s.p.id) else N t, by omega, by go_num, by rw [HCN.out]; first | rfl | go_num, HTQ.out.put HFx.out HMEM.out hst, HBh.out, HHh.out, HPh.out, by have h := HMh.out; rw [mE1] at h; exact h, by have h := HNh.out; rw [mE2] at h; exact h, by omega, HWh.out⟩
              · obtain rfl : k = x.sl.length := by omega
                have hcn : cntR (x.sl.take x.sl.length) row = 1 := by rw [List.take_length]; exact cntR_one HFx.out row
                rw [hcn]
                have hk9 : ¬ ((x.sl.length : Int) < (x.sl.length : Int)) := by omega
                go_wp2_with fail
                go_roundw
                case measure => simp [intOf]; omega
                case rel => exact ⟨i + 1, m, x, xa, ya, xc, yc, N, by omega, by go_num, HFx.out, HTQ.out, HBq.out, HHq.out, HPq.out, HMq.out, HNq.out, by have := HFx.out.ok.sl; omega, HWq.out⟩
    · obtain rfl : i = l.length := by omega
      have hk9 : ¬ ((l.length : Int) < (l.length : Int)) := by omega
      go_wp2_with fail
      go_ret
      exact ⟨rfl, HAr.out⟩

end Go.Proofs.Ytnbifobdkjkjlaa
