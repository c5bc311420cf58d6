/-
  The walk over the law MergeCompacts.
-/
import Derived.Test.YtlebbkbbmgmmjacLawJoins
import Derived.Test.YtlebbkbbmgmmjacMergeC1
namespace Go.Proofs.Ytlebbkbbmgmmjac
open Go.RowKit

set_option maxRecDepth 100000 in
set_option maxHeartbeats 4000000 in
theorem mergeCompacts_any (v : Value) (t : Int) (ls : List (List Cl)) (wh : Bool) (w : World) (hv : RdL w v ls) (_ht : -9223372036854775808 ≤ t ∧ t ≤ 9223372036854775807) (hb : ∀ l ∈ ls, l.length ≤ 2199023255552) :
    Calls Try.prog 8 #[v, .int .i64 t, .bool wh] w fun e w' => e = .returned (.bool true) ∧ Below w.heap.size w w' := by
  obtain ⟨ao, cap, hvv, hc1, hc2⟩ := hv.shape
  subst hvv
  unfold maxLen at hc2
  have HBL := hide hb
  clear hb
  go_enter Try.func8, Try.ntmps8
  go_wp2_with fail
  have hS0 := (Bk.new w 3 #[.int .i64 t]).below (below_alloc' _ (.cells #[.bool wh] 4)) (by simp)
  have hW0 := Bk.new2 w (.cells #[.int .i64 t] 3) 4 #[.bool wh]
  have hb00 : Below w.heap.size w ((w.alloc (.cells #[.int .i64 t] 3)).alloc (.cells #[.bool wh] 4)) := (below_alloc' _ _).trans ((below_alloc' _ _).mono (by simp))
  refine (mergeBegun_any _).mono ?_
  rintro e w1 ⟨rfl, hb1⟩
  have hS1 := hS0.below hb1 (by simp; omega)
  have hW1 := hW0.below hb1 (by simp)
  have hbw1 : Below w.heap.size w w1 := hb00.trans (hb1.mono (by simp; omega))
  have hz1 := hbw1.size
  have hv1 := hv.below hbw1
  clear hS0 hW0 hb00 hb1
  cases hq1 : vastB ls
  case true =>
    go_wp2_with (go_at_call 32; refine (vastLists_any _ ls _ hv1 HBL.out).mono ?_; rintro e w2 ⟨rfl, hb2⟩; rw [hq1])
    go_ret
    exact ⟨rfl, hbw1.trans (hb2.mono hz1)⟩
  obtain ⟨hl100, hl3000⟩ := vastB_false hq1
  have hbm : ∀ l ∈ ls, l.length ≤ 1000000 := fun l hl => Nat.le_trans (tlen_mem' hl) (by omega)
  have HBM := hide hbm
  clear hbm
  go_wp2_with (go_at_call 32; refine (vastLists_any _ ls _ hv1 HBL.out).mono ?_; rintro e w2 ⟨rfl, hb2⟩; rw [hq1])
  have hS2 := hS1.below hb2 hS1.lt
  have hW2 := hW1.below hb2 hW1.lt
  have hbw2 : Below w.heap.size w w2 := hbw1.trans (hb2.mono hz1)
  have hz2 := hbw2.size
  clear hS1 hW1 hb2 hbw1 hv1 hq1 HBL
  generalize hCP : cmpR ls t wh = CP
  obtain ⟨cs, sx, sy⟩ := CP
  have HCP := hide hCP
  clear hCP
  have hkeep : ∀ W, Below w2.heap.size w2 W → W.cell? ⟨w.heap.size, 0, none⟩ = some (.int .i64 t) ∧ W.cell? ⟨w.heap.size + 1, 0, none⟩ = some (.bool wh) := fun W h =>
    ⟨(hS2.below h hS2.lt).cell 0, (hW2.below h hW2.lt).cell 0⟩
  have hvall : ∀ W, Below w2.heap.size w2 W → RdL W (.slice ao ls.length cap) ls := fun W h => hv.below (hbw2.trans (h.mono hz2))
  obtain ⟨a0, a1⟩ := hkeep w2 (Below.refl _ _)
  have HKEEP := hide hkeep
  have HVALL := hide hvall
  clear hkeep hvall
  go_cut [7, 8] (fun v7 p wx => ∃ (so : Option Addr) (scap z : Nat), v7 = .slice so cs.length scap ∧ p = .pointer (some ⟨z, 0, none⟩) ∧ Bk wx z 26 #[.int .i64 sx, .int .i64 sy] ∧ RdC wx (.slice so cs.length scap) cs ∧ Below w2.heap.size w2 wx)
  case first =>
    as_aux_lemma =>
      go_region_held3 (fun W => W.cell? ⟨w.heap.size, 0, none⟩ = some (.int .i64 t) ∧ W.cell? ⟨w.heap.size + 1, 0, none⟩ = some (.bool wh)) (exact HKEEP.out _ (by go_grown)) (first
        | (go_at_call 42; refine (Compact_any _ ls t wh _ (by exact hr3.below (by go_grown))).mono ?_; rintro e w4 ⟨v4, rfl, hr4, hb4, hn4⟩; rw [HCP.out] at hr4 ⊢; unfold fltC; simp only at hr4 ⊢; have hb34 : Below w3.heap.size w3 w4 := Below.trans (by go_grown) (hb4.mono (by simp <;> omega)); have hb24 := hb23.trans (hb34.mono hz23); have hz24 := hb24.size; obtain ⟨ao4, cap4, hv4, _, _⟩ := hr4.shape; subst hv4; (first | (have tF : Bk w4 w3.heap.size 26 #[.int .i64 0, .int .i64 0] := Bk.below (w := w3.alloc (.cells #[.int .i64 0, .int .i64 0] 26)) (Bk.new w3 _ _) hb4 (by simp); have f0 := tF.cell 0; have f1 := tF.cell 1; have f2 := tF.frozen 0; have f3 := tF.frozen 1; have f4 := tF.lt; simp at f0 f1) | (have tF := tF0.below hb34 tF0.lt; have f0 := tF.cell 0; have f1 := tF.cell 1; have f2 := tF.frozen 0; have f3 := tF.frozen 1; have f4 := tF.lt; simp at f0 f1) | skip))
        | (go_at_call 34; refine (ownLists_any _ ls _ (by exact HVALL.out _ (by go_grown)) hl100 HBM.out).mono ?_; rintro e w3 ⟨v3, rfl, hr3, hx3, hb3⟩; clear hx3; have hb23 : Below w2.heap.size w2 w3 := Below.trans (by go_grown) (hb3.mono (by simp <;> omega)); have hz23 := hb23.size; obtain ⟨ao3, cap3, hv3, _, _⟩ := hr3.shape; subst hv3; (first | (have tF0 : Bk w3 w2.heap.size 26 #[.int .i64 0, .int .i64 0] := Bk.below (w := (w2.alloc (.cells #[.int .i64 0, .int .i64 0] 26)).drew) (show Bk (w2.alloc (.cells #[.int .i64 0, .int .i64 0] 26)) _ _ _ from Bk.new w2 _ _) hb3 (by simp)) | skip)))
      all_goals
        go_wp2_with fail
        go_meet
        case rel =>
          first
          | exact ⟨_, _, _, rfl, rfl, Bk.new _ _ _, hr4.alloc _, hb24.alloc hz24 _⟩
          | exact ⟨_, _, _, rfl, rfl, (tF.set 0 _).set 1 _, (hr4.setNew hn4 tF0.lt _).setNew hn4 tF0.lt _, by go_grown⟩
          | exact ⟨_, _, _, rfl, rfl, (tF.set 0 _).set 1 _, (hr4.setNew hn4 (lt_alloc _ _) _).setNew hn4 (lt_alloc _ _) _, by go_grown⟩
  case rest =>
    as_aux_lemma =>
      obtain ⟨so, scap, z8, rfl, rfl, hF8, hs, hby⟩ := hcut
      have hSC := hS2.below hby hS2.lt
      have hWC := hW2.below hby hW2.lt
      have hbwC : Below w.heap.size w wc := hbw2.trans (hby.mono hz2)
      have hzC := hbwC.size
      have hlF8 := hF8.lt
      have hlS := hSC.lt
      have hlW := hWC.lt
      clear hS2 hW2 hbw2 hby HKEEP HVALL a0 a1
      go_wp2_with fail
      refine (lListsFault_any _ ls _ (hv.below hbwC)).mono ?_
      rintro e w7 ⟨rfl, hb7⟩
      generalize hLF : lfR ls = LF at *
      obtain ⟨lx, ly⟩ := LF
      have HLF := hide hLF
      clear hLF
      have hS7 := hSC.below hb7 hlS
      have hW7 := hWC.below hb7 hlW
      have hF8 := hF8.below hb7 hlF8
      have hs7 := hs.below hb7
      have hbw7 : Below w.heap.size w w7 := hbwC.trans (hb7.mono hzC)
      have hz7 := hbw7.size
      clear hSC hWC hs hb7 hbwC
      have hb78 : Below w7.heap.size w7 ((w7.alloc (.cells #[.int .i64 lx, .int .i64 ly] 26)).alloc (.cells #[.slice none 0 0] 22)) := (below_alloc' _ _).alloc (by simp) _
      have hF9 : Bk ((w7.alloc (.cells #[.int .i64 lx, .int .i64 ly] 26)).alloc (.cells #[.slice none 0 0] 22)) w7.heap.size 26 #[.int .i64 lx, .int .i64 ly] := (Bk.new w7 _ _).below (below_alloc' _ _) (by simp)
      have hT10 : Bk ((w7.alloc (.cells #[.int .i64 lx, .int .i64 ly] 26)).alloc (.cells #[.slice none 0 0] 22)) (w7.heap.size + 1) 22 #[.slice none 0 0] := Bk.new2 w7 _ _ _
      have hz8 : ((w7.alloc (.cells #[.int .i64 lx, .int .i64 ly] 26)).alloc (.cells #[.slice none 0 0] 22)).heap.size = w7.heap.size + 2 := by simp
      have HB78 := hide hb78
      have HF9 := hide hF9
      have HT10 := hide hT10
      have HZ8 := hide hz8
      clear hb78 hF9 hT10 hz8
      unfold fltC
      go_upto_region 8 with fail
      generalize (w7.alloc (.cells #[.int .i64 lx, .int .i64 ly] 26)).alloc (.cells #[.slice none 0 0] 22) = w8 at HB78 HF9 HT10 HZ8 ⊢
      have hl87 := hF8.lt
      have hlS7 := hS7.lt
      have hlW7 := hW7.lt
      have hS8 := hS7.below HB78.out hS7.lt
      have hW8 := hW7.below HB78.out hW7.lt
      have hF8 := hF8.below HB78.out hF8.lt
      have hs8 := hs7.below HB78.out
      have hbw8 : Below w.heap.size w w8 := hbw7.trans (HB78.out.mono hz7)
      have hF9 := HF9.out
      have hT10 := HT10.out
      clear HF9 HT10 hS7 hW7 hs7 hbw7 HB78
      have hz8 := hbw8.size
      by_cases hlx : lx = 0
      case neg =>
        have hcb : (lx == 0) = false := beq_eq_false_iff_ne.2 hlx
        have e1 := jnR_bad (ls := ls) (by rw [HLF.out]; exact hlx)
        rw [HLF.out] at e1
        have e2 := @cmpR_bad ls t wh (by rw [e1]; exact hlx)
        rw [HCP.out, e1] at e2
        simp only [Prod.mk.injEq] at e2
        obtain ⟨h1, h4, h5⟩ := e2
        have h4' := h4.symm
        have h5' := h5.symm
        subst h1 h4' h5'
        clear e1
        have d0 := hF9.cell 0
        have d1 := hF9.cell 1
        have d2 := hF8.cell 0
        have d3 := hF8.cell 1
        simp at d0 d1 d2 d3
        go_wp2_with fail
        refine (cellsAsC1_true _ _ _ _ [] lx ly _ hs8 (fun _ => rfl) (fun h => absurd h hlx)).mono ?_
        rintro e w9 ⟨rfl, hb9⟩
        go_wp2_with fail
        go_ret
        exact ⟨rfl, hbw8.trans (hb9.mono hz8)⟩
      subst hlx
      obtain ⟨hl00, hl20, hfine⟩ := lfR_zero (ls := ls) (by rw [HLF.out])
      have hly : ly = 0 := by rw [HLF.out] at hl00; exact (Prod.mk.injEq _ _ _ _ ▸ hl00).2
      subst hly
      have hlf0 : (lfR ls).1 = 0 := by rw [HLF.out]
      have HPW := hide (show ∀ l ∈ ls, l.Pairwise Lt from fun l hl => fine_pw (hfine l hl))
      have hfin : Fin' (joinR ls) := ⟨joinR_pw HPW.out, joinR_code hfine⟩
      clear hl00 hfine
      have c0 := hF9.cell 0
      simp at c0
      go_wp2_with fail
      refine (together_any _ ls _ (hv.below hbw8) HPW.out hl100 hl3000).mono ?_
      rintro e w9 ⟨va, rfl, hra, hb9⟩
      obtain ⟨aoa, capa, hva, _, _⟩ := hra.shape
      subst hva
      have hz89 := hb9.size
      have hjb : 1000 < (joinR ls).length → cs = [] ∧ sx = 9 ∧ sy = -1 := fun h => by
        have e1 := jnR_much hlf0 h
        have e := @cmpR_bad ls t wh (by rw [e1]; decide)
        rw [HCP.out, e1] at e
        simpa using e
      have hjr : (joinR ls).length ≤ 1000 → isNumB t = false → cs = [] ∧ sx = 3 ∧ sy = -1 := fun h hn => by
        have e1 := jnR_ok hlf0 h
        have e := @cmpR_range ls t wh (by rw [e1]) hn
        rw [HCP.out] at e
        simpa using e
      have hjs : (joinR ls).length ≤ 1000 → isNumB t = true → cs = docUp t wh (joinR ls) (joinR ls).length ∧ sx = 0 ∧ sy = 0 := fun h hn => by
        have e1 := jnR_ok hlf0 h
        have e := @cmpR_ok ls t wh (by rw [e1]) hn
        rw [HCP.out, e1] at e
        rw [docUp_comp hfin]
        simpa using e
      have hlJ : (joinR ls).length ≤ 3000 := Nat.le_trans (joinR_len ls) hl3000
      have HJB := hide hjb
      have HJR := hide hjr
      have HJS := hide hjs
      clear hjb hjr hjs hfin HCP HLF HPW hlf0 HBM
      generalize joinR ls = J at *
      have g1 : w.heap.size ≠ w7.heap.size + 1 := by omega
      have g2 : w.heap.size + 1 ≠ w7.heap.size + 1 := by omega
      have g3 : z8 ≠ w7.heap.size + 1 := by omega
      have g4 : w7.heap.size ≠ w7.heap.size + 1 := by omega
      have hT9 := hT10.below hb9 hT10.lt
      have hS10 := (hS8.below hb9 hS8.lt).setP (p := ⟨w7.heap.size + 1, 0, none⟩) g1 (.slice aoa J.length capa)
      have hW10 := (hW8.below hb9 hW8.lt).setP (p := ⟨w7.heap.size + 1, 0, none⟩) g2 (.slice aoa J.length capa)
      have hF810 := (hF8.below hb9 hF8.lt).setP (p := ⟨w7.heap.size + 1, 0, none⟩) g3 (.slice aoa J.length capa)
      have hF910 := (hF9.below hb9 hF9.lt).setP (p := ⟨w7.heap.size + 1, 0, none⟩) g4 (.slice aoa J.length capa)
      have hT10s : Bk (w9.setCell ⟨w7.heap.size + 1, 0, none⟩ (.slice aoa J.length capa)) (w7.heap.size + 1) 22 #[(.slice aoa J.length capa)] := hT9.set 0 (.slice aoa J.length capa)
      have hs10 := (hs8.below hb9).setApart hT9 (no_text_sl _ _ _) 0 (.slice aoa J.length capa)
      have hra10 := hra.setApart hT9 (no_text_sl _ _ _) 0 (.slice aoa J.length capa)
      have hbw10 := (hbw8.trans (hb9.mono hz8)).setCell (p := ⟨w7.heap.size + 1, 0, none⟩) (by simp only; omega) (.slice aoa J.length capa)
      have t0 := hT9.cell 0
      have t1 := hT9.frozen 0
      have hlT9 := hT9.lt
      simp at t0
      have HS10 := hide hS10
      have HW10 := hide hW10
      have HF8 := hide hF810
      have HF9 := hide hF910
      have HT10 := hide hT10s
      have HC10 := hide hs10
      have HRA10 := hide hra10
      have HBW10 := hide hbw10
      clear hS10 hW10 hF810 hF910 hT10s hs10 hra10 hbw10 hS8 hW8 hF8 hF9 hT10 hs8 hbw8 hb9 hra c0 hT9
      go_upto_region 10 with fail
      generalize w9.setCell ⟨w7.heap.size + 1, 0, none⟩ (.slice aoa J.length capa) = w10 at HS10 HW10 HF8 HF9 HT10 HC10 HRA10 HBW10 ⊢
      clear t0 t1 hlT9 hz89
      have t0 := HT10.out.cell 0
      have hz10 := HBW10.out.size
      have y0 := HF9.out.cell 0
      have y1 := HF9.out.cell 1
      have s0 := HS10.out.cell 0
      simp at t0 y0 y1 s0
      have g5 : z8 ≠ w7.heap.size := by omega
      have hzz : w.heap.size ≤ w7.heap.size := hz7
      -- what is left when a fault has been put into the block F9
      have hend : ∀ (p q : Int) (w11 : World), cs = [] → sx = p → sy = q → p ≠ 0 → Below w10.heap.size w10 w11 →
          RdC ((w11.setCell ⟨w7.heap.size, 0, none⟩ (.int .i64 p)).setCell ⟨w7.heap.size, 1, none⟩ (.int .i64 q)) (.slice so cs.length scap) [] ∧
          Bk ((w11.setCell ⟨w7.heap.size, 0, none⟩ (.int .i64 p)).setCell ⟨w7.heap.size, 1, none⟩ (.int .i64 q)) w7.heap.size 26 #[.int .i64 p, .int .i64 q] ∧
          Bk ((w11.setCell ⟨w7.heap.size, 0, none⟩ (.int .i64 p)).setCell ⟨w7.heap.size, 1, none⟩ (.int .i64 q)) z8 26 #[.int .i64 p, .int .i64 q] ∧
          Below w.heap.size w ((w11.setCell ⟨w7.heap.size, 0, none⟩ (.int .i64 p)).setCell ⟨w7.heap.size, 1, none⟩ (.int .i64 q)) := by
        intro p q w11 hcs hsx hsy hp hb11
        have hF9b := HF9.out.below hb11 HF9.out.lt
        have hF9c : Bk (w11.setCell ⟨w7.heap.size, 0, none⟩ (.int .i64 p)) w7.heap.size 26 #[.int .i64 p, .int .i64 0] := hF9b.set 0 (.int .i64 p)
        have hF9d : Bk ((w11.setCell ⟨w7.heap.size, 0, none⟩ (.int .i64 p)).setCell ⟨w7.heap.size, 1, none⟩ (.int .i64 q)) w7.heap.size 26 #[.int .i64 p, .int .i64 q] := hF9c.set 1 (.int .i64 q)
        have hF812 := ((HF8.out.below hb11 HF8.out.lt).setP (p := ⟨w7.heap.size, 0, none⟩) g5 (.int .i64 p)).setP (p := ⟨w7.heap.size, 1, none⟩) g5 (.int .i64 q)
        have hs12 := ((HC10.out.below hb11).setApart hF9b (no_text_flt _ _) 0 (.int .i64 p)).setApart hF9c (no_text_flt _ _) 1 (.int .i64 q)
        have hbw12 := ((HBW10.out.trans (hb11.mono hz10)).setCell (p := ⟨w7.heap.size, 0, none⟩) (by simp only; omega) (.int .i64 p)).setCell (p := ⟨w7.heap.size, 1, none⟩) (by simp only; omega) (.int .i64 q)
        rw [hsx, hsy] at hF812
        exact ⟨by rw [hcs] at hs12 ⊢; exact hs12, hF9d, hF812, hbw12⟩
      have HEND := hide hend
      clear hend
      by_cases hbig : 1000 < J.length
      · obtain ⟨k1, k2, k3⟩ := HJB.out hbig
        have hd : decide ((1000 : Int) < (J.length : Int)) = true := by simp; omega
        have hd2 : decide (1000 < J.length) = true := by simp; omega
        go_wp2_with fail
        refine (FC_any 9 (-1) _).mono ?_
        rintro e w11 ⟨rfl, hb11⟩
        obtain ⟨m1, m2, m3, m4⟩ := HEND.out 9 (-1) w11 k1 k2 k3 (by decide) hb11
        have hF9b := HF9.out.below hb11 HF9.out.lt
        have y4 := hF9b.cell 0
        have y5 := hF9b.cell 1
        have y6 := hF9b.frozen 0
        have y7 := hF9b.frozen 1
        have hlF9 := hF9b.lt
        simp at y4 y5
        have M1 := hide m1
        have M2 := hide m2
        have M3 := hide m3
        have M4 := hide m4
        clear m1 m2 m3 m4 hF9b y0 y1 s0 t0 hb11 HEND HJB HJR HJS k1 k2 k3 HS10 HW10 HF8 HF9 HT10 HC10 HRA10 HBW10
        unfold fltC
        go_upto_region 12 with fail
        generalize (w11.setCell ⟨w7.heap.size, 0, none⟩ (.int .i64 9)).setCell ⟨w7.heap.size, 1, none⟩ (.int .i64 (-1)) = w12 at M1 M2 M3 M4 ⊢
        clear y4 y5 y6 y7 hlF9
        have d0 := M2.out.cell 0
        have d1 := M2.out.cell 1
        have d2 := M3.out.cell 0
        have d3 := M3.out.cell 1
        simp at d0 d1 d2 d3
        go_wp2_with fail
        refine (cellsAsC1_true _ _ _ _ [] 9 (-1) _ M1.out (fun _ => rfl) (fun h => absurd h (by decide))).mono ?_
        rintro e w13 ⟨rfl, hb13⟩
        go_wp2_with fail
        go_ret
        exact ⟨rfl, M4.out.trans (hb13.mono M4.out.size)⟩
      have hd : decide ((1000 : Int) < (J.length : Int)) = false := by simp; omega
      have hd2 : decide (1000 < J.length) = false := by simp; omega
      have hJ1 : J.length ≤ 1000 := by omega
      clear HJB
      by_cases hn : 0 ≤ t ∧ t ≤ 1000000000
      · have hnb : isNumB t = true := by unfold isNumB; simpa using hn
        obtain ⟨k1, k2, k3⟩ := HJS.out hJ1 hnb
        subst k2 k3
        have K1 := hide k1
        have n1 : decide (t < 0) = false := by simp; omega
        have n2 : decide (1000000000 < t) = false := by simp; omega
        have d2 := HF8.out.cell 0
        have d3 := HF8.out.cell 1
        simp at d2 d3
        clear k1 HJR HJS HEND hnb
        go_wp2_with fail
        refine (cellsAsC1_true _ _ _ _ cs 0 0 _ HC10.out (fun h => absurd rfl h) (fun _ W hW => by rw [K1.out]; exact Compacts1_any _ _ _ _ J t wh W ((HT10.out.below hW HT10.out.lt).cell 0) ((HS10.out.below hW HS10.out.lt).cell 0) ((HW10.out.below hW HW10.out.lt).cell 0) (HRA10.out.below hW) hJ1)).mono ?_
        rintro e w13 ⟨rfl, hb13⟩
        go_wp2_with fail
        go_ret
        exact ⟨rfl, HBW10.out.trans (hb13.mono hz10)⟩
      have hnb : isNumB t = false := by unfold isNumB; simpa using hn
      obtain ⟨k1, k2, k3⟩ := HJR.out hJ1 hnb
      have hcs : decide (t < 0) = true ∨ decide (t < 0) = false ∧ decide (1000000000 < t) = true := by
        by_cases h : t < 0
        · left; simpa using h
        · right; simp; omega
      clear HJR HJS hnb
      rcases hcs with n1 | ⟨n1, n2⟩
      all_goals
        go_wp2_with fail
        refine (FC_any 3 (-1) _).mono ?_
        rintro e w11 ⟨rfl, hb11⟩
        obtain ⟨m1, m2, m3, m4⟩ := HEND.out 3 (-1) w11 k1 k2 k3 (by decide) hb11
        have hF9b := HF9.out.below hb11 HF9.out.lt
        have y4 := hF9b.cell 0
        have y5 := hF9b.cell 1
        have y6 := hF9b.frozen 0
        have y7 := hF9b.frozen 1
        have hlF9 := hF9b.lt
        simp at y4 y5
        have M1 := hide m1
        have M2 := hide m2
        have M3 := hide m3
        have M4 := hide m4
        clear m1 m2 m3 m4 hF9b y0 y1 s0 t0 hb11 HEND k1 k2 k3 HS10 HW10 HF8 HF9 HT10 HC10 HRA10 HBW10
        unfold fltC
        go_upto_region 14 with fail
        generalize (w11.setCell ⟨w7.heap.size, 0, none⟩ (.int .i64 3)).setCell ⟨w7.heap.size, 1, none⟩ (.int .i64 (-1)) = w12 at M1 M2 M3 M4 ⊢
        clear y4 y5 y6 y7 hlF9
        have d0 := M2.out.cell 0
        have d1 := M2.out.cell 1
        have d2 := M3.out.cell 0
        have d3 := M3.out.cell 1
        simp at d0 d1 d2 d3
        go_wp2_with fail
        refine (cellsAsC1_true _ _ _ _ [] 3 (-1) _ M1.out (fun _ => rfl) (fun h => absurd h (by decide))).mono ?_
        rintro e w13 ⟨rfl, hb13⟩
        go_wp2_with fail
        go_ret
        exact ⟨rfl, M4.out.trans (hb13.mono M4.out.size)⟩

end Go.Proofs.Ytlebbkbbmgmmjac
