/-
  The law DiskDoes: its walk.
-/
import Derived.Test.YtlebbkbbmgmmjaaDoesMath
namespace Go.Proofs.Ytlebbkbbmgmmjaa
open Go.RowKit

/-- The two blocks that a call's results are laid in. -/
theorem two_new {wy wp : World} {v : Value} {xs : List Value} (hb : Below wy.heap.size wy wp) (hr : Rd wp v xs) (D F : TypeId) (x y c a : Value) :
    Tb ((wp.alloc (.cells #[x, y] D)).alloc (.cells #[c, a] F)) wp.heap.size D x y ∧ Tb ((wp.alloc (.cells #[x, y] D)).alloc (.cells #[c, a] F)) (wp.heap.size + 1) F c a ∧ Rd ((wp.alloc (.cells #[x, y] D)).alloc (.cells #[c, a] F)) v xs ∧ Below wy.heap.size wy ((wp.alloc (.cells #[x, y] D)).alloc (.cells #[c, a] F)) := by
  refine ⟨(Tb.new wp _ _ _).below (below_alloc _ _), ?_, (hr.alloc _).alloc _, (hb.alloc hb.size _).alloc (by have := hb.size; simp; omega) _⟩
  have := Tb.new (wp.alloc (.cells #[x, y] D)) F c a
  simpa using this

set_option maxRecDepth 100000 in
set_option maxHeartbeats 8000000 in
theorem diskDoes_any (u : Value) (k : Int) (x : Value) (n : Int) (bs ys : List UInt8) (w : World) (h1 : Rd w u (bc bs)) (hk : -9223372036854775808 ≤ k ∧ k ≤ 9223372036854775807) (h2 : Rd w x (bc ys)) (hn : -9223372036854775808 ≤ n ∧ n ≤ 9223372036854775807) :
    Calls Try.prog 8 #[.agg #[u, .int .i64 k], x, .int .i64 n] w fun e w' => e = .returned (.bool true) ∧ Below w.heap.size w w' := by
  obtain ⟨ao, cap, hu, hc1, hc2⟩ := h1.shape
  obtain ⟨bo, cbp, hu2, hd1, hd2⟩ := h2.shape
  rw [bc_length] at hc1 hu hd1 hu2
  subst hu hu2
  unfold maxLen at hc2 hd2
  go_enter Try.func8, Try.ntmps8
  go_wp2_with fail
  refine (diskBegun_any _).mono ?_
  rintro e w1 ⟨rfl, hb1⟩
  have hD1 : Tb w1 w.heap.size 67 (.slice ao bs.length cap) (.int .i64 k) := (((Tb.new w _ _ _).below (below_alloc _ _)).below (below_alloc _ _)).below hb1
  have hB1 : Ob w1 (w.heap.size + 1) 23 (.slice bo ys.length cbp) := by
    have := ((Ob.new (w.alloc (.cells #[.slice ao bs.length cap, .int .i64 k] 67)) 23 (.slice bo ys.length cbp)).below (below_alloc _ (.cells #[.int .i64 n] 3))).below hb1
    simpa using this
  have hN1 : Ob w1 (w.heap.size + 1 + 1) 3 (.int .i64 n) := by
    have := (Ob.new ((w.alloc (.cells #[.slice ao bs.length cap, .int .i64 k] 67)).alloc (.cells #[.slice bo ys.length cbp] 23)) 3 (.int .i64 n)).below hb1
    simpa using this
  have hbw1 : Below w.heap.size w w1 := (below_alloc _ _).trans (((below_alloc _ _).mono (by simp)).trans (((below_alloc _ _).mono (by simp; omega)).trans (hb1.mono (by simp; omega))))
  have hsz1 : w.heap.size + 3 ≤ w1.heap.size := by
    have := hb1.size
    simp at this
    omega
  clear hb1
  obtain ⟨d0, d1, d2, d3, d4⟩ := hD1.facts
  obtain ⟨b0, b2, b4⟩ := hB1.facts
  by_cases hg1 : 100000 < bs.length
  · go_wp2_with fail
    go_ret
    exact ⟨rfl, hbw1⟩
  by_cases hg2 : 100000 < ys.length
  · go_wp2_with fail
    go_ret
    exact ⟨rfl, hbw1⟩
  go_wp2_with fail
  refine (ownDisk_any _ bs k _ (h1.below hbw1) (by omega)).mono ?_
  rintro e w2 ⟨vx, rfl, hx2, hb2, hnx2⟩
  obtain ⟨vxo, vxc, hvx, _, _⟩ := hx2.shape
  rw [bc_length] at hvx
  subst hvx
  unfold dsk
  go_upto_region 6 with fail
  have hbC := below_alloc w2 (.cells #[.slice vxo bs.length vxc, .int .i64 k] 67)
  have hX3 := Tb.new w2 67 (.slice vxo bs.length vxc) (.int .i64 k)
  have hb13 : Below w1.heap.size w1 _ := hb2.trans (hbC.mono hb2.size)
  have hx3 := hx2.below hbC
  have hz2 := hb2.size
  clear hb2 hnx2 hx2 hbC
  generalize w2.alloc (.cells #[.slice vxo bs.length vxc, .int .i64 k] 67) = w3 at hX3 hb13 hx3 ⊢
  generalize w2.heap.size = zX at hX3 ⊢
  obtain ⟨x0, x1, x2, x3, x4⟩ := hX3.facts
  go_wp2_with fail
  refine (Check_any _ bs k _ hx3).mono ?_
  rintro e w4 ⟨rfl, hb34⟩
  generalize hCK : checkR bs k = chk
  have HCK := hide hCK
  clear hCK
  unfold flt
  have hz4 := hb34.size
  go_upto_region 7 with fail
  have hbC := below_alloc w4 (.cells #[.int .i64 chk, .int .i64 0] 26)
  have hC5 := Tb.new w4 26 (.int .i64 chk) (.int .i64 0)
  have hb35 : Below w3.heap.size w3 _ := hb34.trans (hbC.mono hz4)
  have hX5 := hX3.below hb35
  have hx5 := hx3.below hb35
  have hb15 : Below w1.heap.size w1 _ := hb13.trans (hb35.mono hb13.size)
  clear hb34 hbC hX3 hx3 hb35 hb13 x0 x1 x2 x3
  generalize w4.alloc (.cells #[.int .i64 chk, .int .i64 0] 26) = wx at hC5 hX5 hx5 hb15 ⊢
  generalize w4.heap.size = zC at hC5 ⊢
  have hbwx := hbw1.trans (hb15.mono (by omega))
  have hD5 := hD1.below hb15
  have hB5 := hB1.below hb15
  have hN5 := hN1.below hb15
  have hu5 := h1.below hbwx
  have hy5 := h2.below hbwx
  have hszx := hbwx.size
  clear hD1 hB1 hN1 d0 d1 d2 d3 d4 b0 b2 b4 hb15
  have hkeep : ∀ W, Below wx.heap.size wx W → W.cell? ⟨zX, 0, none⟩ = some (.slice vxo bs.length vxc) ∧ W.cell? ⟨zX, 1, none⟩ = some (.int .i64 k) ∧ W.cell? ⟨w.heap.size + 1, 0, none⟩ = some (.slice bo ys.length cbp) := fun W h => ⟨(hX5.below h).facts.1, (hX5.below h).facts.2.1, (hB5.below h).facts.1⟩
  have hall : ∀ W, Below wx.heap.size wx W → Rd W (.slice bo ys.length cbp) (bc ys) ∧ Rd W (.slice vxo bs.length vxc) (bc bs) := fun W h => ⟨hy5.below h, hx5.below h⟩
  have HKEEP := hide hkeep
  have HALL := hide hall
  have HYL := hide (show ys.length ≤ 1000000000 by omega)
  obtain ⟨x0, x1, x2, x3, x5⟩ := hX5.facts
  obtain ⟨b0, b2, b4⟩ := hB5.facts
  generalize hA1 : appendR bs k ys = R1
  obtain ⟨b1, k1, c1⟩ := R1
  have HA1 := hide hA1
  clear hA1 hkeep hall
  go_cut [9, 10] (fun pE pF wy => ∃ (zE zF : Nat) (v' : Value), pE = .pointer (some ⟨zE, 0, none⟩) ∧ pF = .pointer (some ⟨zF, 0, none⟩) ∧ Tb wy zE 67 v' (.int .i64 k1) ∧ Tb wy zF 26 (.int .i64 c1) (.int .i64 0) ∧ Rd wy v' (bc b1) ∧ Below wx.heap.size wx wy)
  case first =>
    as_aux_lemma =>
      go_region_held3 (fun W => W.cell? ⟨zX, 0, none⟩ = some (.slice vxo bs.length vxc) ∧ W.cell? ⟨zX, 1, none⟩ = some (.int .i64 k) ∧ W.cell? ⟨w.heap.size + 1, 0, none⟩ = some (.slice bo ys.length cbp)) (exact HKEEP.out _ (by go_grown)) (first
          | (go_at_call 39; refine (Append_any _ bs k _ ys _ (by exact (HALL.out _ (by go_grown)).2) (by exact hr2.below (by go_grown))).mono ?_; rw [HA1.out]; rintro e w3 ⟨v3, rfl, hr3, hb3, hn3⟩; simp only [dsk, flt]; obtain ⟨ao3, cap3, hv3, _, _⟩ := hr3.shape; rw [bc_length] at hv3; subst hv3; have hb23 : Below w2.heap.size w2 w3 := Below.trans (by go_grown) (hb3.mono (by simp <;> omega)); have hz3 := hb23.size; have hbx3 := hbx2.trans (hb23.mono hzx2); have hzx3 := hbx3.size; (first | (have tDy := Tb.below (w := ((w2.alloc (.cells #[.slice none 0 0, .int .i64 0] 67)).alloc (.cells #[.int .i64 0, .int .i64 0] 26))) (by exact (show Tb ((w2.alloc (.cells #[.slice none 0 0, .int .i64 0] 67)).alloc (.cells #[.int .i64 0, .int .i64 0] 26)) w2.heap.size 67 (.slice none 0 0) (.int .i64 0) from (Tb.new w2 67 (.slice none 0 0) (.int .i64 0)).below (below_alloc _ _))) hb3; have tFy := Tb.below (w := ((w2.alloc (.cells #[.slice none 0 0, .int .i64 0] 67)).alloc (.cells #[.int .i64 0, .int .i64 0] 26))) (by exact (show Tb ((w2.alloc (.cells #[.slice none 0 0, .int .i64 0] 67)).alloc (.cells #[.int .i64 0, .int .i64 0] 26)) (w2.alloc (.cells #[.slice none 0 0, .int .i64 0] 67)).heap.size 26 (.int .i64 0) (.int .i64 0) from Tb.new (w2.alloc (.cells #[.slice none 0 0, .int .i64 0] 67)) 26 (.int .i64 0) (.int .i64 0))) hb3; simp only [World.size_alloc] at tFy; obtain ⟨tDy0, tDy1, tDy2, tDy3, tDy4⟩ := tDy.facts; obtain ⟨tFy0, tFy1, tFy2, tFy3, tFy4⟩ := tFy.facts) | (have tFy := Tb.below (w := ((w2.alloc (.cells #[.int .i64 0, .int .i64 0] 26)).alloc (.cells #[.slice none 0 0, .int .i64 0] 67))) (by exact (show Tb ((w2.alloc (.cells #[.int .i64 0, .int .i64 0] 26)).alloc (.cells #[.slice none 0 0, .int .i64 0] 67)) w2.heap.size 26 (.int .i64 0) (.int .i64 0) from (Tb.new w2 26 (.int .i64 0) (.int .i64 0)).below (below_alloc _ _))) hb3; have tDy := Tb.below (w := ((w2.alloc (.cells #[.int .i64 0, .int .i64 0] 26)).alloc (.cells #[.slice none 0 0, .int .i64 0] 67))) (by exact (show Tb ((w2.alloc (.cells #[.int .i64 0, .int .i64 0] 26)).alloc (.cells #[.slice none 0 0, .int .i64 0] 67)) (w2.alloc (.cells #[.int .i64 0, .int .i64 0] 26)).heap.size 67 (.slice none 0 0) (.int .i64 0) from Tb.new (w2.alloc (.cells #[.int .i64 0, .int .i64 0] 26)) 67 (.slice none 0 0) (.int .i64 0))) hb3; simp only [World.size_alloc] at tDy; obtain ⟨tFy0, tFy1, tFy2, tFy3, tFy4⟩ := tFy.facts; obtain ⟨tDy0, tDy1, tDy2, tDy3, tDy4⟩ := tDy.facts) | (have tDy := Tb.below (w := (w2.alloc (.cells #[.slice none 0 0, .int .i64 0] 67))) (by exact (show Tb (w2.alloc (.cells #[.slice none 0 0, .int .i64 0] 67)) w2.heap.size 67 (.slice none 0 0) (.int .i64 0) from Tb.new w2 67 (.slice none 0 0) (.int .i64 0))) hb3; obtain ⟨tDy0, tDy1, tDy2, tDy3, tDy4⟩ := tDy.facts) | (have tFy := Tb.below (w := (w2.alloc (.cells #[.int .i64 0, .int .i64 0] 26))) (by exact (show Tb (w2.alloc (.cells #[.int .i64 0, .int .i64 0] 26)) w2.heap.size 26 (.int .i64 0) (.int .i64 0) from Tb.new w2 26 (.int .i64 0) (.int .i64 0))) hb3; obtain ⟨tFy0, tFy1, tFy2, tFy3, tFy4⟩ := tFy.facts) | skip); (first | (have tDz := tDx.below hb23; obtain ⟨tDz0, tDz1, tDz2, tDz3, tDz4⟩ := tDz.facts) | skip); (first | (have tFz := tFx.below hb23; obtain ⟨tFz0, tFz1, tFz2, tFz3, tFz4⟩ := tFz.facts) | skip))
          | (go_at_call 13; refine (ownBytes_any _ ys _ (by exact (HALL.out _ (by go_grown)).1) (by exact HYL.out)).mono ?_; rintro e w2 ⟨v2, rfl, hr2, hb2, hn2⟩; have hbx2 : Below wx.heap.size wx w2 := Below.trans (by go_grown) (hb2.mono (by simp <;> omega)); have hzx2 := hbx2.size; (first | (have tDx := Tb.below (w := ((wx.alloc (.cells #[.slice none 0 0, .int .i64 0] 67)).alloc (.cells #[.int .i64 0, .int .i64 0] 26)).drew) (by exact (show Tb ((wx.alloc (.cells #[.slice none 0 0, .int .i64 0] 67)).alloc (.cells #[.int .i64 0, .int .i64 0] 26)) wx.heap.size 67 (.slice none 0 0) (.int .i64 0) from (Tb.new wx 67 (.slice none 0 0) (.int .i64 0)).below (below_alloc _ _))) hb2; have tFx := Tb.below (w := ((wx.alloc (.cells #[.slice none 0 0, .int .i64 0] 67)).alloc (.cells #[.int .i64 0, .int .i64 0] 26)).drew) (by exact (show Tb ((wx.alloc (.cells #[.slice none 0 0, .int .i64 0] 67)).alloc (.cells #[.int .i64 0, .int .i64 0] 26)) (wx.alloc (.cells #[.slice none 0 0, .int .i64 0] 67)).heap.size 26 (.int .i64 0) (.int .i64 0) from Tb.new (wx.alloc (.cells #[.slice none 0 0, .int .i64 0] 67)) 26 (.int .i64 0) (.int .i64 0))) hb2; simp only [World.size_alloc] at tFx; obtain ⟨tDx0, tDx1, tDx2, tDx3, tDx4⟩ := tDx.facts; obtain ⟨tFx0, tFx1, tFx2, tFx3, tFx4⟩ := tFx.facts) | (have tFx := Tb.below (w := ((wx.alloc (.cells #[.int .i64 0, .int .i64 0] 26)).alloc (.cells #[.slice none 0 0, .int .i64 0] 67)).drew) (by exact (show Tb ((wx.alloc (.cells #[.int .i64 0, .int .i64 0] 26)).alloc (.cells #[.slice none 0 0, .int .i64 0] 67)) wx.heap.size 26 (.int .i64 0) (.int .i64 0) from (Tb.new wx 26 (.int .i64 0) (.int .i64 0)).below (below_alloc _ _))) hb2; have tDx := Tb.below (w := ((wx.alloc (.cells #[.int .i64 0, .int .i64 0] 26)).alloc (.cells #[.slice none 0 0, .int .i64 0] 67)).drew) (by exact (show Tb ((wx.alloc (.cells #[.int .i64 0, .int .i64 0] 26)).alloc (.cells #[.slice none 0 0, .int .i64 0] 67)) (wx.alloc (.cells #[.int .i64 0, .int .i64 0] 26)).heap.size 67 (.slice none 0 0) (.int .i64 0) from Tb.new (wx.alloc (.cells #[.int .i64 0, .int .i64 0] 26)) 67 (.slice none 0 0) (.int .i64 0))) hb2; simp only [World.size_alloc] at tDx; obtain ⟨tFx0, tFx1, tFx2, tFx3, tFx4⟩ := tFx.facts; obtain ⟨tDx0, tDx1, tDx2, tDx3, tDx4⟩ := tDx.facts) | (have tDx := Tb.below (w := (wx.alloc (.cells #[.slice none 0 0, .int .i64 0] 67)).drew) (by exact (show Tb (wx.alloc (.cells #[.slice none 0 0, .int .i64 0] 67)) wx.heap.size 67 (.slice none 0 0) (.int .i64 0) from Tb.new wx 67 (.slice none 0 0) (.int .i64 0))) hb2; obtain ⟨tDx0, tDx1, tDx2, tDx3, tDx4⟩ := tDx.facts) | (have tFx := Tb.below (w := (wx.alloc (.cells #[.int .i64 0, .int .i64 0] 26)).drew) (by exact (show Tb (wx.alloc (.cells #[.int .i64 0, .int .i64 0] 26)) wx.heap.size 26 (.int .i64 0) (.int .i64 0) from Tb.new wx 26 (.int .i64 0) (.int .i64 0))) hb2; obtain ⟨tFx0, tFx1, tFx2, tFx3, tFx4⟩ := tFx.facts) | skip)))
      · have hbel3 := hbx3
        go_wp2_with fail
        go_meet
        case rel =>
          refine ⟨_, _, .slice ao3 b1.length cap3, rfl, rfl, ?_, ?_, ?_, ?_⟩
          · exact (Tb.new w3 _ _ _).below (below_alloc _ _)
          · simpa using Tb.new (w3.alloc (.cells #[.slice ao3 b1.length cap3, .int .i64 k1] 67)) 26 (.int .i64 c1) (.int .i64 0)
          · exact (hr3.alloc _).alloc _
          · exact (hbel3.alloc (by omega) _).alloc (by simp; omega) _
      · have hbel3 := hbx3
        go_wp2_with fail
        go_meet
        case rel =>
          refine ⟨_, _, .slice ao3 b1.length cap3, rfl, rfl, ?_, ?_, ?_, ?_⟩
          · simpa using Tb.new (w3.alloc (.cells #[.int .i64 c1, .int .i64 0] 26)) 67 (.slice ao3 b1.length cap3) (.int .i64 k1)
          · exact (Tb.new w3 _ _ _).below (below_alloc _ _)
          · exact (hr3.alloc _).alloc _
          · exact (hbel3.alloc (by omega) _).alloc (by simp; omega) _
      · have hbel3 := hbx3
        go_wp2_with fail
        go_meet
        case rel =>
          refine ⟨_, _, .slice ao3 b1.length cap3, rfl, rfl, ?_, ?_, ?_, ?_⟩
          · exact (tDy.set _ _).below (below_alloc _ _)
          · have k9 := Tb.new ((w3.setCell ⟨w2.heap.size, 0, none⟩ (.slice ao3 b1.length cap3)).setCell ⟨w2.heap.size, 1, none⟩ (.int .i64 k1)) 26 (.int .i64 c1) (.int .i64 0); simp only [World.size_setCell] at k9; exact k9
          · exact ((hr3.setNew hn3 (by first | (simp only; omega) | (simp only [World.size_alloc]; omega)) _).setNew hn3 (by first | (simp only; omega) | (simp only [World.size_alloc]; omega)) _).alloc _
          · exact ((hbel3.setCell (by simp only; omega) _).setCell (by simp only; omega) _).alloc (by simp; omega) _
      · have hbel3 := hbx3
        go_wp2_with fail
        go_meet
        case rel =>
          refine ⟨_, _, .slice ao3 b1.length cap3, rfl, rfl, ?_, ?_, ?_, ?_⟩
          · exact ((tDy.set _ _).far (by simp only; omega) _).far (by simp only; omega) _
          · exact ((tFy.far (by simp only; omega) _).far (by simp only; omega) _).set _ _
          · exact (((hr3.setNew hn3 (by first | (simp only; omega) | (simp only [World.size_alloc]; omega)) _).setNew hn3 (by first | (simp only; omega) | (simp only [World.size_alloc]; omega)) _).setNew hn3 (by first | (simp only; omega) | (simp only [World.size_alloc]; omega)) _).setNew hn3 (by first | (simp only; omega) | (simp only [World.size_alloc]; omega)) _
          · exact (((hbel3.setCell (by simp only; omega) _).setCell (by simp only; omega) _).setCell (by simp only; omega) _).setCell (by simp only; omega) _
      · have hbel3 := hbx3
        go_wp2_with fail
        go_meet
        case rel =>
          refine ⟨_, _, .slice ao3 b1.length cap3, rfl, rfl, ?_, ?_, ?_, ?_⟩
          · have k9 := Tb.new ((w3.setCell ⟨w2.heap.size, 0, none⟩ (.int .i64 c1)).setCell ⟨w2.heap.size, 1, none⟩ (.int .i64 0)) 67 (.slice ao3 b1.length cap3) (.int .i64 k1); simp only [World.size_setCell] at k9; exact k9
          · exact (tFy.set _ _).below (below_alloc _ _)
          · exact ((hr3.setNew hn3 (by first | (simp only; omega) | (simp only [World.size_alloc]; omega)) _).setNew hn3 (by first | (simp only; omega) | (simp only [World.size_alloc]; omega)) _).alloc _
          · exact ((hbel3.setCell (by simp only; omega) _).setCell (by simp only; omega) _).alloc (by simp; omega) _
      · have hbel3 := hbx3
        go_wp2_with fail
        go_meet
        case rel =>
          refine ⟨_, _, .slice ao3 b1.length cap3, rfl, rfl, ?_, ?_, ?_, ?_⟩
          · exact ((tDy.set _ _).far (by simp only; omega) _).far (by simp only; omega) _
          · exact ((tFy.far (by simp only; omega) _).far (by simp only; omega) _).set _ _
          · exact (((hr3.setNew hn3 (by first | (simp only; omega) | (simp only [World.size_alloc]; omega)) _).setNew hn3 (by first | (simp only; omega) | (simp only [World.size_alloc]; omega)) _).setNew hn3 (by first | (simp only; omega) | (simp only [World.size_alloc]; omega)) _).setNew hn3 (by first | (simp only; omega) | (simp only [World.size_alloc]; omega)) _
          · exact (((hbel3.setCell (by simp only; omega) _).setCell (by simp only; omega) _).setCell (by simp only; omega) _).setCell (by simp only; omega) _
      · have hbel3 := hbx3
        go_wp2_with fail
        go_meet
        case rel =>
          refine ⟨_, _, .slice ao3 b1.length cap3, rfl, rfl, ?_, ?_, ?_, ?_⟩
          · exact (tDz.set _ _).below (below_alloc _ _)
          · have k9 := Tb.new ((w3.setCell ⟨wx.heap.size, 0, none⟩ (.slice ao3 b1.length cap3)).setCell ⟨wx.heap.size, 1, none⟩ (.int .i64 k1)) 26 (.int .i64 c1) (.int .i64 0); simp only [World.size_setCell] at k9; exact k9
          · exact ((hr3.setNew hn3 (by first | (simp only; omega) | (simp only [World.size_alloc]; omega)) _).setNew hn3 (by first | (simp only; omega) | (simp only [World.size_alloc]; omega)) _).alloc _
          · exact ((hbel3.setCell (by simp only; omega) _).setCell (by simp only; omega) _).alloc (by simp; omega) _
      · have hbel3 := hbx3
        go_wp2_with fail
        go_meet
        case rel =>
          refine ⟨_, _, .slice ao3 b1.length cap3, rfl, rfl, ?_, ?_, ?_, ?_⟩
          · exact ((tDz.set _ _).far (by simp only; omega) _).far (by simp only; omega) _
          · exact ((tFy.far (by simp only; omega) _).far (by simp only; omega) _).set _ _
          · exact (((hr3.setNew hn3 (by first | (simp only; omega) | (simp only [World.size_alloc]; omega)) _).setNew hn3 (by first | (simp only; omega) | (simp only [World.size_alloc]; omega)) _).setNew hn3 (by first | (simp only; omega) | (simp only [World.size_alloc]; omega)) _).setNew hn3 (by first | (simp only; omega) | (simp only [World.size_alloc]; omega)) _
          · exact (((hbel3.setCell (by simp only; omega) _).setCell (by simp only; omega) _).setCell (by simp only; omega) _).setCell (by simp only; omega) _
      · have hbel3 := hbx3
        go_wp2_with fail
        go_meet
        case rel =>
          refine ⟨_, _, .slice ao3 b1.length cap3, rfl, rfl, ?_, ?_, ?_, ?_⟩
          · exact ((tDz.set _ _).far (by simp only; omega) _).far (by simp only; omega) _
          · exact ((tFz.far (by simp only; omega) _).far (by simp only; omega) _).set _ _
          · exact (((hr3.setNew hn3 (by first | (simp only; omega) | (simp only [World.size_alloc]; omega)) _).setNew hn3 (by first | (simp only; omega) | (simp only [World.size_alloc]; omega)) _).setNew hn3 (by first | (simp only; omega) | (simp only [World.size_alloc]; omega)) _).setNew hn3 (by first | (simp only; omega) | (simp only [World.size_alloc]; omega)) _
          · exact (((hbel3.setCell (by simp only; omega) _).setCell (by simp only; omega) _).setCell (by simp only; omega) _).setCell (by simp only; omega) _
      · have hbel3 := hbx3
        go_wp2_with fail
        go_meet
        case rel =>
          refine ⟨_, _, .slice ao3 b1.length cap3, rfl, rfl, ?_, ?_, ?_, ?_⟩
          · have k9 := Tb.new ((w3.setCell ⟨wx.heap.size, 0, none⟩ (.int .i64 c1)).setCell ⟨wx.heap.size, 1, none⟩ (.int .i64 0)) 67 (.slice ao3 b1.length cap3) (.int .i64 k1); simp only [World.size_setCell] at k9; exact k9
          · exact (tFz.set _ _).below (below_alloc _ _)
          · exact ((hr3.setNew hn3 (by first | (simp only; omega) | (simp only [World.size_alloc]; omega)) _).setNew hn3 (by first | (simp only; omega) | (simp only [World.size_alloc]; omega)) _).alloc _
          · exact ((hbel3.setCell (by simp only; omega) _).setCell (by simp only; omega) _).alloc (by simp; omega) _
      · have hbel3 := hbx3
        go_wp2_with fail
        go_meet
        case rel =>
          refine ⟨_, _, .slice ao3 b1.length cap3, rfl, rfl, ?_, ?_, ?_, ?_⟩
          · exact ((tDy.set _ _).far (by simp only; omega) _).far (by simp only; omega) _
          · exact ((tFz.far (by simp only; omega) _).far (by simp only; omega) _).set _ _
          · exact (((hr3.setNew hn3 (by first | (simp only; omega) | (simp only [World.size_alloc]; omega)) _).setNew hn3 (by first | (simp only; omega) | (simp only [World.size_alloc]; omega)) _).setNew hn3 (by first | (simp only; omega) | (simp only [World.size_alloc]; omega)) _).setNew hn3 (by first | (simp only; omega) | (simp only [World.size_alloc]; omega)) _
          · exact (((hbel3.setCell (by simp only; omega) _).setCell (by simp only; omega) _).setCell (by simp only; omega) _).setCell (by simp only; omega) _
      · have hbel3 := hbx3
        go_wp2_with fail
        go_meet
        case rel =>
          refine ⟨_, _, .slice ao3 b1.length cap3, rfl, rfl, ?_, ?_, ?_, ?_⟩
          · exact ((tDz.set _ _).far (by simp only; omega) _).far (by simp only; omega) _
          · exact ((tFz.far (by simp only; omega) _).far (by simp only; omega) _).set _ _
          · exact (((hr3.setNew hn3 (by first | (simp only; omega) | (simp only [World.size_alloc]; omega)) _).setNew hn3 (by first | (simp only; omega) | (simp only [World.size_alloc]; omega)) _).setNew hn3 (by first | (simp only; omega) | (simp only [World.size_alloc]; omega)) _).setNew hn3 (by first | (simp only; omega) | (simp only [World.size_alloc]; omega)) _
          · exact (((hbel3.setCell (by simp only; omega) _).setCell (by simp only; omega) _).setCell (by simp only; omega) _).setCell (by simp only; omega) _
  case rest =>
    as_aux_lemma =>
      obtain ⟨zA1, zF1, v1, rfl, rfl, hA1, hF1, hr1, hxy⟩ := hcut
      rename World => wy
      have hzy := hxy.size
      obtain ⟨v1o, v1c, hv1v, _, _⟩ := hr1.shape
      rw [bc_length] at hv1v
      subst hv1v
      have hXy := hX5.below hxy
      have hxvy := hx5.below hxy
      clear hX5 hx5 x0 x1 x2 x3 x5 b0 b2 b4 HKEEP HALL HYL
      obtain ⟨x0, x1, x2, x3, x5⟩ := hXy.facts
      -- Sync
      generalize hA2 : trimR bs k bs.length = R2
      obtain ⟨b2, k2, c2, a2⟩ := R2
      obtain ⟨hce, hae, _, _⟩ := sync_c hA2 HCK.out
      subst hae
      have hce := hce.symm
      subst hce
      have HA2 := hide hA2
      clear hA2
      go_wp2_with fail
      refine (Sync_any _ bs k _ hxvy).mono ?_
      rw [HA2.out]
      rintro e wp ⟨v2, rfl, hr2, hbp, hn2⟩
      simp only [dsk, flt] at hr2 ⊢
      obtain ⟨v2o, v2c, hv2, _, _⟩ := hr2.shape
      rw [bc_length] at hv2
      subst hv2
      go_upto_region 9 with fail
      obtain ⟨hA2, hF2, hr2', hyz⟩ := two_new hbp hr2 67 26 (.slice v2o b2.length v2c) (.int .i64 k2) (.int .i64 chk) (.int .i64 0)
      clear hr2 hn2 x0 x1 x2 x3 x5
      have hXz := hXy.below hyz
      have hxvz := hxvy.below hyz
      have hxz := hxy.trans (hyz.mono hzy)
      have hzp := hbp.size
      clear hbp hXy hxvy
      generalize (wp.alloc (.cells #[.slice v2o b2.length v2c, .int .i64 k2] 67)).alloc (.cells #[.int .i64 chk, .int .i64 0] 26) = wz at hA2 hF2 hr2' hyz hXz hxvz hxz ⊢
      obtain ⟨zA2, hzA2⟩ : ∃ z, z = wp.heap.size := ⟨_, rfl⟩
      rw [← hzA2] at hA2 hF2 ⊢
      clear hzA2
      obtain ⟨x0, x1, x2, x3, x5⟩ := hXz.facts
      have hNz := (hN5.below hxz)
      obtain ⟨n0, n2, n4⟩ := hNz.facts
      generalize hA3 : crashR bs k n = R3
      obtain ⟨b3, k3, c3, a3⟩ := R3
      have HA3 := hide hA3
      clear hA3
      go_wp2_with fail
      refine (Crash_any _ bs k n _ hxvz).mono ?_
      rw [HA3.out]
      rintro e wp ⟨v3, rfl, hr3, hbp, hn3⟩
      simp only [dsk, flt] at hr3 ⊢
      obtain ⟨v3o, v3c, hv3, _, _⟩ := hr3.shape
      rw [bc_length] at hv3
      subst hv3
      go_upto_region 10 with fail
      obtain ⟨hA3, hF3, hr3', hzq⟩ := two_new hbp hr3 67 26 (.slice v3o b3.length v3c) (.int .i64 k3) (.int .i64 c3) (.int .i64 a3)
      clear hr3 hn3 x0 x1 x2 x3 x5 n0 n2 n4 hNz
      have hXq := hXz.below hzq
      have hxvq := hxvz.below hzq
      have hxq := hxz.trans (hzq.mono hxz.size)
      clear hbp hXz hxvz
      generalize (wp.alloc (.cells #[.slice v3o b3.length v3c, .int .i64 k3] 67)).alloc (.cells #[.int .i64 c3, .int .i64 a3] 26) = wq at hA3 hF3 hr3' hzq hXq hxvq hxq ⊢
      obtain ⟨zA3, hzA3⟩ : ∃ z, z = wp.heap.size := ⟨_, rfl⟩
      rw [← hzA3] at hA3 hF3 ⊢
      clear hzA3
      obtain ⟨x0, x1, x2, x3, x5⟩ := hXq.facts
      have hNq := (hN5.below hxq)
      obtain ⟨n0, n2, n4⟩ := hNq.facts
      generalize hA4 : trimR bs k n = R4
      obtain ⟨b4, k4, c4, a4⟩ := R4
      have HA4 := hide hA4
      clear hA4
      go_wp2_with fail
      refine (Trim_any _ bs k n _ hxvq).mono ?_
      rw [HA4.out]
      rintro e wp ⟨v4, rfl, hr4, hbp, hn4⟩
      simp only [dsk, flt] at hr4 ⊢
      obtain ⟨v4o, v4c, hv4, _, _⟩ := hr4.shape
      rw [bc_length] at hv4
      subst hv4
      go_upto_region 11 with fail
      obtain ⟨hA4, hF4, hr4', hqr⟩ := two_new hbp hr4 67 26 (.slice v4o b4.length v4c) (.int .i64 k4) (.int .i64 c4) (.int .i64 a4)
      clear hr4 hn4 x0 x1 x2 x3 x5 n0 n2 n4 hNq
      have hXr := hXq.below hqr
      have hxvr := hxvq.below hqr
      have hxr := hxq.trans (hqr.mono hxq.size)
      clear hbp hXq hxvq
      generalize (wp.alloc (.cells #[.slice v4o b4.length v4c, .int .i64 k4] 67)).alloc (.cells #[.int .i64 c4, .int .i64 a4] 26) = wr at hA4 hF4 hr4' hqr hXr hxvr hxr ⊢
      obtain ⟨zA4, hzA4⟩ : ∃ z, z = wp.heap.size := ⟨_, rfl⟩
      rw [← hzA4] at hA4 hF4 ⊢
      clear hzA4
      obtain ⟨x0, x1, x2, x3, x5⟩ := hXr.facts
      have hNr := (hN5.below hxr)
      obtain ⟨n0, n2, n4⟩ := hNr.facts
      generalize hA5 : recoverR bs k = R5
      obtain ⟨b5, k5, l5, c5⟩ := R5
      have HA5 := hide hA5
      clear hA5
      go_wp2_with fail
      refine (Recover_any _ bs k _ hxvr).mono ?_
      rw [HA5.out]
      rintro e wp ⟨v5, l5v, rfl, hr5, hl5, hbp, hn5⟩
      simp only [dsk, flt] at hr5 hl5 ⊢
      obtain ⟨v5o, v5c, hv5, _, _⟩ := hr5.shape
      rw [bc_length] at hv5
      subst hv5
      obtain ⟨l5o, l5c, hl5v, _, _⟩ := hl5.shape
      subst hl5v
      go_upto_region 12 with fail
      obtain ⟨hA5, hF5, hr5', hrs⟩ := two_new hbp hr5 67 26 (.slice v5o b5.length v5c) (.int .i64 k5) (.int .i64 c5) (.int .i64 0)
      have hl5' := (hl5.below (below_alloc wp (.cells #[.slice v5o b5.length v5c, .int .i64 k5] 67))).below (below_alloc (wp.alloc (.cells #[.slice v5o b5.length v5c, .int .i64 k5] 67)) (.cells #[.int .i64 c5, .int .i64 0] 26))
      clear hl5
      clear hr5 hn5 x0 x1 x2 x3 x5 n0 n2 n4 hNr
      have hXs := hXr.below hrs
      have hxvs := hxvr.below hrs
      have hxs := hxr.trans (hrs.mono hxr.size)
      clear hbp hXr hxvr
      generalize (wp.alloc (.cells #[.slice v5o b5.length v5c, .int .i64 k5] 67)).alloc (.cells #[.int .i64 c5, .int .i64 0] 26) = ws at hA5 hF5 hr5' hrs hXs hxvs hxs hl5' ⊢
      obtain ⟨zA5, hzA5⟩ : ∃ z, z = wp.heap.size := ⟨_, rfl⟩
      rw [← hzA5] at hA5 hF5 ⊢
      clear hzA5
      obtain ⟨x0, x1, x2, x3, x5⟩ := hXs.facts
      have hNs := (hN5.below hxs)
      obtain ⟨n0, n2, n4⟩ := hNs.facts
      -- all facts, at whatever world that keeps what is there now
      have hys := hyz.trans (hzq.mono hyz.size) |>.trans ((hqr.mono (Nat.le_trans hyz.size hzq.size)).trans (hrs.mono (Nat.le_trans (Nat.le_trans hyz.size hzq.size) hqr.size)))
      have hzs := hzq.trans (hqr.mono hzq.size) |>.trans (hrs.mono (Nat.le_trans hzq.size hqr.size))
      have hqs := hqr.trans (hrs.mono hqr.size)
      have hsw : Below w.heap.size w ws := hbwx.trans (hxs.mono hszx)
      have h1s : Tb ws zA1 67 (.slice v1o b1.length v1c) (.int .i64 k1) ∧ Tb ws zF1 26 (.int .i64 c1) (.int .i64 0) ∧ Rd ws (.slice v1o b1.length v1c) (bc b1) := ⟨hA1.below hys, hF1.below hys, hr1.below hys⟩
      have h2s := And.intro (hA2.below hzs) (And.intro (hF2.below hzs) (hr2'.below hzs))
      have h3s := And.intro (hA3.below hqs) (And.intro (hF3.below hqs) (hr3'.below hqs))
      have h4s := And.intro (hA4.below hrs) (And.intro (hF4.below hrs) (hr4'.below hrs))
      have h5s := And.intro hA5 (And.intro hF5 (And.intro hr5' hl5'.toB))
      have hBs := And.intro (hD5.below hxs) (And.intro (hB5.below hxs) (And.intro hNs (And.intro (hu5.below hxs) (hy5.below hxs))))
      have hCs := And.intro (hC5.below hxs) (And.intro hXs hxvs)
      clear hA1 hF1 hr1 hA2 hF2 hr2' hA3 hF3 hr3' hA4 hF4 hr4' hA5 hF5 hr5' hl5' hD5 hB5 hN5 hu5 hy5 hC5 hXs hxvs hNs hys hzs hqs hxs hxr hxq hxz hxy hyz hzq hqr hrs hbwx hzy x0 x1 x2 x3 x5 n0 n2 n4
      have H1 := hide h1s
      have H2 := hide h2s
      have H3 := hide h3s
      have H4 := hide h4s
      have H5 := hide h5s
      have HB := hide hBs
      have HC := hide hCs
      have HSW := hide hsw
      clear h1s h2s h3s h4s h5s hBs hCs hsw
      obtain ⟨d0, d1, d2, d3, d4⟩ := HB.out.1.facts
      go_wp2_with fail
      refine (DiskFault_any _ bs k _ HB.out.2.2.2.1).mono ?_
      rw [HCK.out]
      rintro e wp ⟨rfl, hbp⟩
      simp only [flt]
      have hsp := hbp.size
      go_upto_region 13 with fail
      have hW := Tb.new wp 26 (.int .i64 chk) (.int .i64 0)
      have hbC := below_alloc wp (.cells #[.int .i64 chk, .int .i64 0] 26)
      have hbt : Below ws.heap.size ws _ := hbp.trans (hbC.mono hsp)
      clear hbC hbp d0 d1 d2 d3 d4
      generalize wp.alloc (.cells #[.int .i64 chk, .int .i64 0] 26) = wt at hW hbt ⊢
      generalize wp.heap.size = zW at hW hsp ⊢
      obtain ⟨q0, q1, q2, q3, q4⟩ := hW.facts
      obtain ⟨r0, r1, r2, r3, r4⟩ := (HC.out.1.below hbt).facts
      obtain ⟨x0, x1, x2, x3, x5⟩ := (HC.out.2.1.below hbt).facts
      obtain ⟨d0, d1, d2, d3, d4⟩ := (HB.out.1.below hbt).facts
      go_wp2_with fail
      refine (SameDisk_any _ _ bs bs k k _ (HC.out.2.2.below hbt) (HB.out.2.2.2.1.below hbt)).mono ?_
      rintro e wu ⟨rfl, hbu⟩
      have hsb : (k == k && bs == bs) = true := by simp
      rw [hsb]
      have hWu := hW.below hbu
      have hsu : Below ws.heap.size ws wu := hbt.trans (hbu.mono hbt.size)
      clear hW hbt hbu q0 q1 q2 q3 q4 r0 r1 r2 r3 r4 x0 x1 x2 x3 x5 d0 d1 d2 d3 d4
      obtain ⟨q0, q1, q2, q3, q4⟩ := hWu.facts
      go_upto_region 16 with fail
      have hbC := below_alloc wu (.cells #[.int .i64 chk, .int .i64 0] 26)
      have hVc := Tb.new wu 26 (.int .i64 chk) (.int .i64 0)
      have hWc := hWu.below hbC
      have hs : Below ws.heap.size ws _ := hsu.trans (hbC.mono hsu.size)
      have hVz := hsu.size
      have hWV : zW ≠ wu.heap.size := by have := hWu.facts.2.2.2.2; omega
      have HM1 := hide (app_c HA1.out HCK.out)
      have HM2 := hide (sync_c HA2.out HCK.out)
      have HM3 := hide (crash_c HA3.out HCK.out)
      have HM4 := hide (trim_c HA4.out HCK.out)
      have HM5 := hide (rec_c HA5.out HCK.out)
      clear hbC hWu hsu q0 q1 q2 q3 q4
      generalize wu.alloc (.cells #[.int .i64 chk, .int .i64 0] 26) = wv at hVc hWc hs ⊢
      generalize wu.heap.size = zV at hVc hVz hWV ⊢
      go_cut [92] (fun cc wc => cc = .bool (decide (chk = 0 ∧ 60000 < bs.length + ys.length)) ∧ Below ws.heap.size ws wc ∧ Tb wc zW 26 (.int .i64 chk) (.int .i64 0) ∧ Tb wc zV 26 (.int .i64 chk) (.int .i64 0))
      case first =>
        as_aux_lemma =>
          obtain ⟨d0, d1, d2, d3, d4⟩ := (HB.out.1.below hs).facts
          obtain ⟨e0, e1, e2⟩ := (HB.out.2.1.below hs).facts
          obtain ⟨n0, n2, n4⟩ := (HB.out.2.2.1.below hs).facts
          obtain ⟨y0, y1, y2, y3, y4⟩ := hVc.facts
          by_cases hc0 : chk = 0
          · obtain ⟨hz1, hz2, hz3⟩ := checkR_zero (HCK.out.trans hc0)
            subst hc0
            by_cases hm : 60000 < bs.length + ys.length
            · go_wp2_with fail
              go_meet
              case rel => exact ⟨by simp <;> omega, hs, hWc, hVc⟩
            · go_wp2_with fail
              go_meet
              case rel => exact ⟨by simp <;> omega, hs, hWc, hVc⟩
          · have hcb : (chk == 0) = false := by simp [hc0]
            have HC0 := hide hc0
            clear hc0
            go_wp2_with fail
            go_meet
            case rel => exact ⟨by have := HC0.out; simp [this], hs, hWc, hVc⟩
      case rest =>
        as_aux_lemma =>
          obtain ⟨rfl, hs', hWc', hVc'⟩ := hcut
          clear hs hWc hVc
          rename World => wk
          have hs := hs'
          have hWc := hWc'
          have hVc := hVc'
          clear hs' hWc' hVc'
          go_upto_if 92 with fail
          go_cut [] (fun wc => Below ws.heap.size ws wc ∧ Tb wc zW 26 (.int .i64 chk) (.int .i64 0) ∧ Tb wc zV 26 (.int .i64 c1) (.int .i64 0))
          case first =>
            as_aux_lemma =>
              obtain ⟨y0, y1, y2, y3, y4⟩ := hVc.facts
              by_cases hP : chk = 0 ∧ 60000 < bs.length + ys.length
              · have HW := hide (HM1.out.2.1 hP.1 hP.2)
                have hPb : decide (chk = 0 ∧ 60000 < bs.length + ys.length) = true := decide_eq_true hP
                clear hP
                rw [hPb]
                go_wp2_with fail
                refine (F_any 9 (0) _).mono ?_
                rintro e wg ⟨rfl, rfl⟩
                simp only [flt]
                go_wp2_with fail
                go_meet
                case rel => exact ⟨((hs.setCell (p := ⟨zV, 0, none⟩) hVz _).setCell (p := ⟨zV, 1, none⟩) hVz _).alloc (by simp; exact hs.size) _, ((hWc.far (p := ⟨zV, 0, none⟩) hWV _).far (p := ⟨zV, 1, none⟩) hWV _).below (below_alloc _ _), by rw [HW.out]; exact (hVc.set _ _).below (below_alloc _ _)⟩
              · have HW : Hid (c1 = chk) := by
                  show c1 = chk
                  by_cases hc0 : chk = 0
                  · rw [HM1.out.2.2.1 hc0 (fun h => hP ⟨hc0, h⟩), hc0]
                  · exact HM1.out.1 hc0
                have hPb : decide (chk = 0 ∧ 60000 < bs.length + ys.length) = false := decide_eq_false hP
                clear hP
                rw [hPb]
                go_wp2_with fail
                go_meet
                case rel => exact ⟨hs, hWc, by rw [HW.out]; exact hVc⟩
          case rest =>
            as_aux_lemma =>
              obtain ⟨hs', hWc', hVc'⟩ := hcut
              clear hs hWc hVc
              rename World => wm
              have hs := hs'
              have hWc := hWc'
              have hVc := hVc'
              clear hs' hWc' hVc'
              obtain ⟨s0, s1, s2, s3, s4⟩ := (H1.out.1.below hs).facts
              obtain ⟨t0, t1, t2, t3, t4⟩ := (H1.out.2.1.below hs).facts
              obtain ⟨y0, y1, y2, y3, y4⟩ := hVc.facts
              go_wp2_with fail
              refine (diskAs1_true _ _ _ b1 k1 c1 0 _ (H1.out.2.2.below hs) HM1.out.2.2.2.1 ?_).mono ?_
              · intro hc W hW
                have hsW := hs.trans (hW.mono hs.size)
                obtain ⟨h0, h3, h4, h5⟩ := HM1.out.2.2.2.2 hc
                rw [h3, h4]
                exact (Does1_any _ _ _ _ bs ys k W (HB.out.1.below hsW) (HB.out.2.1.below hsW).facts.1 (HB.out.2.2.2.1.below hsW) (HB.out.2.2.2.2.below hsW) (by omega))
              rintro e wn ⟨rfl, hbn⟩
              have hs2 := hs.trans (hbn.mono hs.size)
              have hW2 := hWc.below hbn
              have hV2 := hVc.below hbn
              clear hs hWc hVc hbn s0 s1 s2 s3 s4 t0 t1 t2 t3 t4 y0 y1 y2 y3 y4
              have hs := hs2
              have hWc := hW2
              have hVc := hV2
              clear hs2 hW2 hV2
              obtain ⟨s0, s1, s2, s3, s4⟩ := (H2.out.1.below hs).facts
              obtain ⟨t0, t1, t2, t3, t4⟩ := (H2.out.2.1.below hs).facts
              obtain ⟨y0, y1, y2, y3, y4⟩ := hWc.facts
              go_wp2_with fail
              refine (diskAs2_true _ _ b2 k2 chk 0 _ (H2.out.2.2.below hs) HM2.out.2.2.1 ?_).mono ?_
              · intro hc W hW
                have hsW := hs.trans (hW.mono hs.size)
                obtain ⟨h3, h4⟩ := HM2.out.2.2.2 hc
                rw [h3, h4]
                exact (Does2_any _ _ bs k W (HB.out.1.below hsW) (HB.out.2.2.2.1.below hsW))
              rintro e wn ⟨rfl, hbn⟩
              have hs2 := hs.trans (hbn.mono hs.size)
              have hW2 := hWc.below hbn
              have hV2 := hVc.below hbn
              clear hs hWc hVc hbn s0 s1 s2 s3 s4 t0 t1 t2 t3 t4 y0 y1 y2 y3 y4
              have hs := hs2
              have hWc := hW2
              have hVc := hV2
              clear hs2 hW2 hV2
              -- v = w again
              obtain ⟨y0, y1, y2, y3, y4⟩ := hVc.facts
              obtain ⟨z0, z1, z2, z3, z4⟩ := hWc.facts
              go_upto_region 23 with fail
              have hs2 := (hs.setCell (p := ⟨zV, 0, none⟩) hVz (.int .i64 chk)).setCell (p := ⟨zV, 1, none⟩) hVz (.int .i64 0)
              have hW2 := (hWc.far (p := ⟨zV, 0, none⟩) hWV (.int .i64 chk)).far (p := ⟨zV, 1, none⟩) hWV (.int .i64 0)
              have hV2 := hVc.set (.int .i64 chk) (.int .i64 0)
              clear hs hWc hVc y0 y1 y2 y3 y4 z0 z1 z2 z3 z4
              have hs := hs2
              have hWc := hW2
              have hVc := hV2
              clear hs2 hW2 hV2
              generalize (wn.setCell ⟨zV, 0, none⟩ (.int .i64 chk)).setCell ⟨zV, 1, none⟩ (.int .i64 0) = wo at hs hWc hVc ⊢
              go_cut [123] (fun cc wc => cc = .bool (decide (chk = 0 ∧ (n < 0 ∨ (bs.length : Int) - k < n))) ∧ Below ws.heap.size ws wc ∧ Tb wc zW 26 (.int .i64 chk) (.int .i64 0) ∧ Tb wc zV 26 (.int .i64 chk) (.int .i64 0))
              case first =>
                as_aux_lemma =>
                  obtain ⟨d0, d1, d2, d3, d4⟩ := (HB.out.1.below hs).facts
                  obtain ⟨e0, e1, e2⟩ := (HB.out.2.1.below hs).facts
                  obtain ⟨n0, n2, n4⟩ := (HB.out.2.2.1.below hs).facts
                  obtain ⟨y0, y1, y2, y3, y4⟩ := hVc.facts
                  by_cases hc0 : chk = 0
                  · obtain ⟨hz1, hz2, hz3⟩ := checkR_zero (HCK.out.trans hc0)
                    subst hc0
                    by_cases hm : n < 0
                    · go_wp2_with fail
                      go_meet
                      case rel => exact ⟨by simp <;> omega, hs, hWc, hVc⟩
                    · by_cases hm2 : (bs.length : Int) - k < n
                      · go_wp2_with fail
                        go_meet
                        case rel => exact ⟨by simp <;> omega, hs, hWc, hVc⟩
                      · go_wp2_with fail
                        go_meet
                        case rel => exact ⟨by simp <;> omega, hs, hWc, hVc⟩
                  · have hcb : (chk == 0) = false := by simp [hc0]
                    have HC0 := hide hc0
                    clear hc0
                    go_wp2_with fail
                    go_meet
                    case rel => exact ⟨by have := HC0.out; simp [this], hs, hWc, hVc⟩
              case rest =>
                as_aux_lemma =>
                  obtain ⟨rfl, hs', hWc', hVc'⟩ := hcut
                  clear hs hWc hVc
                  rename World => wk
                  have hs := hs'
                  have hWc := hWc'
                  have hVc := hVc'
                  clear hs' hWc' hVc'
                  go_upto_if 123 with fail
                  go_cut [] (fun wc => Below ws.heap.size ws wc ∧ Tb wc zW 26 (.int .i64 chk) (.int .i64 0) ∧ Tb wc zV 26 (.int .i64 c3) (.int .i64 a3))
                  case first =>
                    as_aux_lemma =>
                      obtain ⟨y0, y1, y2, y3, y4⟩ := hVc.facts
                      by_cases hP : chk = 0 ∧ (n < 0 ∨ (bs.length : Int) - k < n)
                      · have HW := hide (HM3.out.2.1 hP.1 hP.2)
                        have hPb : decide (chk = 0 ∧ (n < 0 ∨ (bs.length : Int) - k < n)) = true := decide_eq_true hP
                        clear hP
                        rw [hPb]
                        go_wp2_with fail
                        refine (F_any 3 (-1) _).mono ?_
                        rintro e wg ⟨rfl, rfl⟩
                        simp only [flt]
                        go_wp2_with fail
                        go_meet
                        case rel => exact ⟨((hs.setCell (p := ⟨zV, 0, none⟩) hVz _).setCell (p := ⟨zV, 1, none⟩) hVz _).alloc (by simp; exact hs.size) _, ((hWc.far (p := ⟨zV, 0, none⟩) hWV _).far (p := ⟨zV, 1, none⟩) hWV _).below (below_alloc _ _), by rw [HW.out.1, HW.out.2]; exact (hVc.set _ _).below (below_alloc _ _)⟩
                      · have HW : Hid (c3 = chk ∧ a3 = 0) := by
                          show c3 = chk ∧ a3 = 0
                          by_cases hc0 : chk = 0
                          · have := HM3.out.2.2.1 hc0 (fun h => hP ⟨hc0, h⟩)
                            rw [hc0]
                            exact this
                          · exact HM3.out.1 hc0
                        have hPb : decide (chk = 0 ∧ (n < 0 ∨ (bs.length : Int) - k < n)) = false := decide_eq_false hP
                        clear hP
                        rw [hPb]
                        go_wp2_with fail
                        go_meet
                        case rel => exact ⟨hs, hWc, by rw [HW.out.1, HW.out.2]; exact hVc⟩
                  case rest =>
                    as_aux_lemma =>
                      obtain ⟨hs', hWc', hVc'⟩ := hcut
                      clear hs hWc hVc
                      rename World => wm
                      have hs := hs'
                      have hWc := hWc'
                      have hVc := hVc'
                      clear hs' hWc' hVc'
                      obtain ⟨s0, s1, s2, s3, s4⟩ := (H3.out.1.below hs).facts
                      obtain ⟨t0, t1, t2, t3, t4⟩ := (H3.out.2.1.below hs).facts
                      obtain ⟨y0, y1, y2, y3, y4⟩ := hVc.facts
                      go_wp2_with fail
                      refine (diskAs3_true _ _ _ b3 k3 c3 a3 _ (H3.out.2.2.below hs) HM3.out.2.2.2.1 ?_).mono ?_
                      · intro hc W hW
                        have hsW := hs.trans (hW.mono hs.size)
                        obtain ⟨h0, h3, h4, h5⟩ := HM3.out.2.2.2.2 hc
                        obtain ⟨hz1, hz2, hz3⟩ := checkR_zero (HCK.out.trans h0)
                        obtain ⟨m, hm⟩ : ∃ m : Nat, n = (m : Int) := ⟨n.toNat, by omega⟩
                        obtain ⟨kn, hkn⟩ : ∃ kn : Nat, k = (kn : Int) := ⟨k.toNat, by omega⟩
                        have e1 : (k + n).toNat = kn + m := by omega
                        have e2 : k + n = ((kn + m : Nat) : Int) := by omega
                        rw [h4, h5, e1, e2]
                        have hD := HB.out.1.below hsW
                        rw [hkn] at hD
                        have hN := (HB.out.2.2.1.below hsW).facts.1
                        rw [hm] at hN
                        exact Does3_any _ _ _ bs kn m W hD hN (HB.out.2.2.2.1.below hsW) (by omega) (by omega)
                      rintro e wn ⟨rfl, hbn⟩
                      have hs2 := hs.trans (hbn.mono hs.size)
                      have hW2 := hWc.below hbn
                      have hV2 := hVc.below hbn
                      clear hs hWc hVc hbn s0 s1 s2 s3 s4 t0 t1 t2 t3 t4 y0 y1 y2 y3 y4
                      have hs := hs2
                      have hWc := hW2
                      have hVc := hV2
                      clear hs2 hW2 hV2
                      -- v = w again
                      obtain ⟨y0, y1, y2, y3, y4⟩ := hVc.facts
                      obtain ⟨z0, z1, z2, z3, z4⟩ := hWc.facts
                      go_upto_region 28 with fail
                      have hs2 := (hs.setCell (p := ⟨zV, 0, none⟩) hVz (.int .i64 chk)).setCell (p := ⟨zV, 1, none⟩) hVz (.int .i64 0)
                      have hW2 := (hWc.far (p := ⟨zV, 0, none⟩) hWV (.int .i64 chk)).far (p := ⟨zV, 1, none⟩) hWV (.int .i64 0)
                      have hV2 := hVc.set (.int .i64 chk) (.int .i64 0)
                      clear hs hWc hVc y0 y1 y2 y3 y4 z0 z1 z2 z3 z4
                      have hs := hs2
                      have hWc := hW2
                      have hVc := hV2
                      clear hs2 hW2 hV2
                      generalize (wn.setCell ⟨zV, 0, none⟩ (.int .i64 chk)).setCell ⟨zV, 1, none⟩ (.int .i64 0) = wo at hs hWc hVc ⊢
                      go_cut [145] (fun cc wc => cc = .bool (decide (chk = 0 ∧ (n < 0 ∨ (bs.length : Int) < n))) ∧ Below ws.heap.size ws wc ∧ Tb wc zW 26 (.int .i64 chk) (.int .i64 0) ∧ Tb wc zV 26 (.int .i64 chk) (.int .i64 0))
                      case first =>
                        as_aux_lemma =>
                          obtain ⟨d0, d1, d2, d3, d4⟩ := (HB.out.1.below hs).facts
                          obtain ⟨e0, e1, e2⟩ := (HB.out.2.1.below hs).facts
                          obtain ⟨n0, n2, n4⟩ := (HB.out.2.2.1.below hs).facts
                          obtain ⟨y0, y1, y2, y3, y4⟩ := hVc.facts
                          by_cases hc0 : chk = 0
                          · obtain ⟨hz1, hz2, hz3⟩ := checkR_zero (HCK.out.trans hc0)
                            subst hc0
                            by_cases hm : n < 0
                            · go_wp2_with fail
                              go_meet
                              case rel => exact ⟨by simp <;> omega, hs, hWc, hVc⟩
                            · by_cases hm2 : (bs.length : Int) < n
                              · go_wp2_with fail
                                go_meet
                                case rel => exact ⟨by simp <;> omega, hs, hWc, hVc⟩
                              · go_wp2_with fail
                                go_meet
                                case rel => exact ⟨by simp <;> omega, hs, hWc, hVc⟩
                          · have hcb : (chk == 0) = false := by simp [hc0]
                            have HC0 := hide hc0
                            clear hc0
                            go_wp2_with fail
                            go_meet
                            case rel => exact ⟨by have := HC0.out; simp [this], hs, hWc, hVc⟩
                      case rest =>
                        as_aux_lemma =>
                          obtain ⟨rfl, hs', hWc', hVc'⟩ := hcut
                          clear hs hWc hVc
                          rename World => wk
                          have hs := hs'
                          have hWc := hWc'
                          have hVc := hVc'
                          clear hs' hWc' hVc'
                          go_upto_if 145 with fail
                          go_cut [] (fun wc => Below ws.heap.size ws wc ∧ Tb wc zW 26 (.int .i64 chk) (.int .i64 0) ∧ Tb wc zV 26 (.int .i64 c4) (.int .i64 a4))
                          case first =>
                            as_aux_lemma =>
                              obtain ⟨y0, y1, y2, y3, y4⟩ := hVc.facts
                              by_cases hP : chk = 0 ∧ (n < 0 ∨ (bs.length : Int) < n)
                              · have HW := hide (HM4.out.2.1 hP.1 hP.2)
                                have hPb : decide (chk = 0 ∧ (n < 0 ∨ (bs.length : Int) < n)) = true := decide_eq_true hP
                                clear hP
                                rw [hPb]
                                go_wp2_with fail
                                refine (F_any 3 (-1) _).mono ?_
                                rintro e wg ⟨rfl, rfl⟩
                                simp only [flt]
                                go_wp2_with fail
                                go_meet
                                case rel => exact ⟨((hs.setCell (p := ⟨zV, 0, none⟩) hVz _).setCell (p := ⟨zV, 1, none⟩) hVz _).alloc (by simp; exact hs.size) _, ((hWc.far (p := ⟨zV, 0, none⟩) hWV _).far (p := ⟨zV, 1, none⟩) hWV _).below (below_alloc _ _), by rw [HW.out.1, HW.out.2]; exact (hVc.set _ _).below (below_alloc _ _)⟩
                              · have HW : Hid (c4 = chk ∧ a4 = 0) := by
                                  show c4 = chk ∧ a4 = 0
                                  by_cases hc0 : chk = 0
                                  · have := HM4.out.2.2.1 hc0 (fun h => hP ⟨hc0, h⟩)
                                    rw [hc0]
                                    exact this
                                  · exact HM4.out.1 hc0
                                have hPb : decide (chk = 0 ∧ (n < 0 ∨ (bs.length : Int) < n)) = false := decide_eq_false hP
                                clear hP
                                rw [hPb]
                                go_wp2_with fail
                                go_meet
                                case rel => exact ⟨hs, hWc, by rw [HW.out.1, HW.out.2]; exact hVc⟩
                          case rest =>
                            as_aux_lemma =>
                              obtain ⟨hs', hWc', hVc'⟩ := hcut
                              clear hs hWc hVc
                              rename World => wm
                              have hs := hs'
                              have hWc := hWc'
                              have hVc := hVc'
                              clear hs' hWc' hVc'
                              obtain ⟨s0, s1, s2, s3, s4⟩ := (H4.out.1.below hs).facts
                              obtain ⟨t0, t1, t2, t3, t4⟩ := (H4.out.2.1.below hs).facts
                              obtain ⟨y0, y1, y2, y3, y4⟩ := hVc.facts
                              go_wp2_with fail
                              refine (diskAs4_true _ _ _ b4 k4 c4 a4 _ (H4.out.2.2.below hs) HM4.out.2.2.2.1 ?_).mono ?_
                              · intro hc W hW
                                have hsW := hs.trans (hW.mono hs.size)
                                obtain ⟨h0, h3, h4, h5⟩ := HM4.out.2.2.2.2 hc
                                obtain ⟨hz1, hz2, hz3⟩ := checkR_zero (HCK.out.trans h0)
                                obtain ⟨m, hm⟩ : ∃ m : Nat, n = (m : Int) := ⟨n.toNat, by omega⟩
                                have e1 : n.toNat = m := by omega
                                rw [h4, h5, e1, hm]
                                have hN := (HB.out.2.2.1.below hsW).facts.1
                                rw [hm] at hN
                                exact Does4_any _ _ _ bs k m W (HB.out.1.below hsW) hN (HB.out.2.2.2.1.below hsW) (by omega)
                              rintro e wn ⟨rfl, hbn⟩
                              have hs2 := hs.trans (hbn.mono hs.size)
                              have hW2 := hWc.below hbn
                              have hV2 := hVc.below hbn
                              clear hs hWc hVc hbn s0 s1 s2 s3 s4 t0 t1 t2 t3 t4 y0 y1 y2 y3 y4
                              have hs := hs2
                              have hWc := hW2
                              have hVc := hV2
                              clear hs2 hW2 hV2
                              obtain ⟨y0, y1, y2, y3, y4⟩ := hWc.facts
                              go_upto_if 155 with fail
                              clear y0 y1 y2 y3 y4
                              have hbC := below_alloc wn (.cells #[.int .i64 0] 3)
                              have hGc := Ob.new wn 3 (.int .i64 0)
                              have hs2 : Below ws.heap.size ws _ := hs.trans (hbC.mono hs.size)
                              have hW2 := hWc.below hbC
                              have hWG : zW ≠ wn.heap.size := by have := hWc.facts.2.2.2.2; omega
                              have hGz := hs.size
                              clear hs hWc hVc hbC
                              have hs := hs2
                              have hWc := hW2
                              clear hs2 hW2
                              generalize wn.alloc (.cells #[.int .i64 0] 3) = wg at hGc hs hWc ⊢
                              generalize wn.heap.size = zG at hGc hWG hGz ⊢
                              go_cut [22] (fun wt wc => ∃ gd : Nat, Below ws.heap.size ws wc ∧ Tb wc zW 26 (.int .i64 c5) (.int .i64 0) ∧ Ob wc zG 3 (.int .i64 gd) ∧ RdB wc wt l5 ∧ (c5 = 0 → gd = (unGo (bs.length + 1) bs [] 0).2))
                              case first =>
                                as_aux_lemma =>
                                  obtain ⟨d0, d1, d2, d3, d4⟩ := (HB.out.1.below hs).facts
                                  obtain ⟨y0, y1, y2, y3, y4⟩ := hWc.facts
                                  obtain ⟨g0, g1, g2⟩ := hGc.facts
                                  by_cases hc0 : chk = 0
                                  · obtain ⟨hz1, hz2, hz3⟩ := checkR_zero (HCK.out.trans hc0)
                                    have HU2 := hide (HM5.out.2.1 hc0)
                                    have HU3 := hide (HM5.out.2.2.1 hc0)
                                    subst hc0
                                    go_wp2_with fail
                                    refine (Unframed_any _ bs _ (HB.out.2.2.2.1.below hs) (by omega)).mono ?_
                                    generalize hU : unGo (bs.length + 1) bs [] 0 = U at HU2 HU3 ⊢
                                    obtain ⟨ul, un⟩ := U
                                    rintro e wh ⟨vt, rfl, hvt, hbh⟩
                                    simp only at hvt HU2 HU3 ⊢
                                    obtain ⟨vto, vtc, hvtv, _, _⟩ := hvt.shape
                                    subst hvtv
                                    have hGh := hGc.below hbh
                                    have hWh := hWc.below hbh
                                    have hsh := hs.trans (hbh.mono hs.size)
                                    have hgs := hGc.facts.2.2
                                    clear d0 d1 d2 d3 d4 y0 y1 y2 y3 y4 g0 g1 g2
                                    obtain ⟨y0, y1, y2, y3, y4⟩ := hWh.facts
                                    obtain ⟨g0, g1, g2⟩ := hGh.facts
                                    have hG3 := hGh.set (.int .i64 (un : Int))
                                    have hW3 := hWh.far (p := ⟨zG, 0, none⟩) hWG (.int .i64 (un : Int))
                                    have hs3 := hsh.setCell (p := ⟨zG, 0, none⟩) hGz (.int .i64 (un : Int))
                                    have hv3 := (hvt.set (p := ⟨zG, 0, none⟩) (by exact hgs) (.int .i64 (un : Int))).toB
                                    go_upto_region 36 with fail
                                    clear y0 y1 y2 y3 y4 g0 g1 g2 hGh hWh hsh hvt hGc hWc hs hbh
                                    generalize wh.setCell ⟨zG, 0, none⟩ (.int .i64 (un : Int)) = wi at hG3 hW3 hs3 hv3 ⊢
                                    obtain ⟨y0, y1, y2, y3, y4⟩ := hW3.facts
                                    by_cases hm : 1000 < ul.length
                                    · have HW := hide (HU2.out hm)
                                      go_wp2_with fail
                                      refine (F_any 2 0 _).mono ?_
                                      rintro e wj ⟨rfl, rfl⟩
                                      simp only [flt]
                                      go_wp2_with fail
                                      go_meet
                                      case rel => exact ⟨un, ((hs3.setCell (p := ⟨zW, 0, none⟩) hsp _).setCell (p := ⟨zW, 1, none⟩) hsp _).alloc (by simp; exact hs3.size) _, by rw [HW.out.1]; exact (hW3.set _ _).below (below_alloc _ _), by refine Ob.below ?_ (below_alloc _ _); unfold Ob; rw [heap_setCell_other _ _ _ _ (by simpa using hWG.symm), heap_setCell_other _ _ _ _ (by simpa using hWG.symm)]; exact hG3, by rw [HW.out.2]; exact RdB.nil _, fun h => by rw [HW.out.1] at h; cases h⟩
                                    · have HW := hide (HU3.out hm)
                                      go_wp2_with fail
                                      go_meet
                                      case rel => exact ⟨un, hs3, by rw [HW.out.1]; exact hW3, hG3, by rw [HW.out.2]; exact hv3, fun _ => by rw [hU]⟩
                                  · have hcb : (chk == 0) = false := by simp [hc0]
                                    have HW := hide (HM5.out.1 hc0)
                                    have HC0 := hide hc0
                                    clear hc0
                                    go_wp2_with fail
                                    go_meet
                                    case rel => exact ⟨0, hs, by rw [HW.out.1]; exact hWc, hGc, by rw [HW.out.2]; exact RdB.nil _, fun h => by rw [HW.out.1] at h; exact absurd h HC0.out⟩
                              case rest =>
                                as_aux_lemma =>
                                  obtain ⟨gd, hs', hWc', hGc', hwt, hgd⟩ := hcut
                                  clear hs hWc hGc
                                  rename World => wk
                                  have HGD := hide hgd
                                  clear hgd
                                  go_wp2_with fail
                                  refine (SameBodies_any _ _ l5 l5 _ (H5.out.2.2.2.below hs') hwt).mono ?_
                                  rintro e wl ⟨rfl, q5, rfl⟩
                                  have hs := below_drewN hs' q5
                                  have hWc : Tb (wk.drewN q5) zW _ _ _ := hWc'
                                  have hGc : Ob (wk.drewN q5) zG _ _ := hGc'
                                  have hsb5 : (l5 == l5) = true := by simp
                                  rw [hsb5]
                                  clear hs' hWc' hGc' hwt
                                  generalize wk.drewN q5 = wl at hs hWc hGc ⊢
                                  obtain ⟨s0, s1, s2, s3, s4⟩ := (H5.out.1.below hs).facts
                                  obtain ⟨t0, t1, t2, t3, t4⟩ := (H5.out.2.1.below hs).facts
                                  obtain ⟨y0, y1, y2, y3, y4⟩ := hWc.facts
                                  go_wp2_with fail
                                  refine (diskAs5_true _ _ _ b5 k5 c5 0 _ (H5.out.2.2.1.below hs) HM5.out.2.2.2.1 ?_).mono ?_
                                  · intro hc W hW
                                    have hsW := hs.trans (hW.mono hs.size)
                                    obtain ⟨h0, h3, h4, h5⟩ := HM5.out.2.2.2.2 hc
                                    have hgd := HGD.out hc
                                    rw [h4, h5, ← hgd]
                                    exact Does5_any _ _ _ bs k gd W (HB.out.1.below hsW) (hGc.below hW).facts.1 (HB.out.2.2.2.1.below hsW) (by omega)
                                  rintro e wn ⟨rfl, hbn⟩
                                  have hs2 := hs.trans (hbn.mono hs.size)
                                  have hW2 := hWc.below hbn
                                  clear hs hWc hbn s0 s1 s2 s3 s4 t0 t1 t2 t3 t4 y0 y1 y2 y3 y4
                                  have hs := hs2
                                  have hWc := hW2
                                  clear hs2 hW2
                                  go_wp2_with fail
                                  go_ret
                                  exact ⟨rfl, HSW.out.trans (hs.mono HSW.out.size)⟩

end Go.Proofs.Ytlebbkbbmgmmjaa
