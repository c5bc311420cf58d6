/-
  The law DiskRecovers: its walk.
-/
import Derived.Test.YtlebbkbbmgmmjabRecMath
namespace Go.Proofs.Ytlebbkbbmgmmjab
open Go.RowKit

theorem enters15 (args : Array Value) (W : World) : (callFunc 15 args).run Try.prog W = .ok (.enter 15 args) W := by kernel_rfl
theorem enters16 (args : Array Value) (W : World) : (callFunc 16 args).run Try.prog W = .ok (.enter 16 args) W := by kernel_rfl

theorem Framed_u (x : Value) (bs : List UInt8) (w : World) (hrd : Rd w x (bc bs)) (hl : bs.length ≤ 65535) :
    Calls Try.prog 15 #[x] w fun e w' => ∃ u, e = .returned u ∧ Rd w' u (bc (framed bs)) ∧ Below w.heap.size w w' ∧ New w.heap.size u := Framed_any x bs w hrd hl

set_option maxRecDepth 100000 in
set_option maxHeartbeats 8000000 in
theorem diskRecovers_any (u : Value) (sy n : Int) (l : List (List UInt8)) (w : World) (h1 : RdB w u l) (hsy : -9223372036854775808 ≤ sy ∧ sy ≤ 9223372036854775807) (hn : -9223372036854775808 ≤ n ∧ n ≤ 9223372036854775807) (hss : ∀ s ∈ l, s.length ≤ 140737488351232) :
    Calls Try.prog 4 #[u, .int .i64 sy, .int .i64 n] w fun e w' => e = .returned (.bool true) ∧ Below w.heap.size w w' := by
  obtain ⟨ao, cap, hu, hc1, hc2, hcell⟩ := h1.open
  subst hu
  unfold maxLen at hc2
  have HSS := hide hss
  clear hss
  go_enter Try.func4, Try.ntmps4
  go_wp2_with fail
  refine (diskBegun_any _).mono ?_
  rintro e w1 ⟨rfl, hbw1⟩
  have hsz1 := hbw1.size
  by_cases hg1 : 100 < l.length
  · go_wp2_with fail
    go_ret
    exact ⟨rfl, hbw1⟩
  by_cases hg2 : sy < 0
  · go_wp2_with fail
    go_ret
    exact ⟨rfl, hbw1⟩
  by_cases hg3 : (l.length : Int) < sy
  · go_wp2_with fail
    go_ret
    exact ⟨rfl, hbw1⟩
  obtain ⟨s, rfl⟩ : ∃ s : Nat, sy = (s : Int) := ⟨sy.toNat, by omega⟩
  have hsl : s ≤ l.length := by omega
  clear hsy
  go_wp2_with fail
  go_loopw [8] (fun i wr => ∃ (j : Nat) (dv : Value), j ≤ l.length ∧ i = .int .i64 j ∧ (flatF (l.take j)).length ≤ 60000 ∧ Tb wr w1.heap.size 27 dv (.int .i64 (keptAt l s j)) ∧ Rd wr dv (bc (flatF (l.take j))) ∧ New (w1.heap.size + 1) dv ∧ Below w1.heap.size w1 wr)
    (fun i _ => l.length - (intOf i).toNat)
  case atStart =>
    refine ⟨0, .slice none 0 0, by omega, rfl, by simp [flatF], ?_, by simp [flatF]; exact Rd.nil _, New.nil _, ?_⟩
    · exact Tb.new _ _ _ _
    · exact (Below.refl _ _).alloc (Nat.le_refl _) _
  case round =>
    obtain ⟨j, dv, hj, rfl, hA, hD, hdv, hdn, hbel⟩ := hrel
    have hbw := hbw1.trans (hbel.mono hsz1)
    have hszr : w1.heap.size < wr.heap.size := hD.facts.2.2.2.2
    by_cases hlt : j < l.length
    · obtain ⟨b, off, x, rfl, hb, hck, hrx⟩ := hcell j hlt
      have hnx := flatF_snoc l j hlt
      have hbl := HSS.out l[j] (List.getElem_mem hlt)
      have hckr : wr.cell? ⟨b, off + j, none⟩ = some x := by
        rw [hbw.cell (p := ⟨b, off + j, none⟩) (by exact hb)]
        exact hck
      clear hcell
      have hfl := framed_length l[j]
      generalize l[j] = bj at *
      obtain ⟨xo, xc, hxv, _, _⟩ := hrx.shape
      rw [bc_length] at hxv
      subst hxv
      by_cases hbig : 500 < bj.length
      · go_wp2_with fail
        go_ret
        exact ⟨rfl, hbw⟩
      have hle := keptAt_le l s j
      have hkl1 : keptAt l s (j + 1) ≤ (flatF (l.take j)).length := by
        unfold keptAt
        split
        · exact flatF_mono l s j (by omega)
        · omega
      have HKL := hide hkl1
      clear hkl1
      have hks : keptAt l s (j + 1) = if s = j then (flatF (l.take j)).length else keptAt l s j := by
        unfold keptAt
        by_cases h : s = j
        · subst h; simp
        · rw [if_neg h]
          by_cases h2 : s < j
          · rw [if_pos h2, if_pos (by omega)]
          · rw [if_neg h2, if_neg (by omega)]
      have HNX := hide hnx
      have HKS := hide hks
      have HFL := hide hfl
      clear hnx hks hfl
      generalize flatF (l.take j) = A at *
      generalize keptAt l s j = kl at *
      have HOK := hide (show checkR A (kl : Int) = 0 from checkR_ok (by omega) (by omega) (by omega))
      obtain ⟨dvo, dvc, hdvv, _, _⟩ := hdv.shape
      rw [bc_length] at hdvv
      subst hdvv
      obtain ⟨d0, d1, d2, d3, d4⟩ := hD.facts
      go_upto_if 49 with fail
      go_cut [9, 10, 32, 33] from 35 to 75 (fun _ _ a32 a33 wx => ∃ (dv' : Value), a32 = .bool (decide (l.length < s)) ∧ a33 = .bool (decide (100 < (l.length : Int)) || decide ((s : Int) < 0) || decide (l.length < s)) ∧ Tb wx w1.heap.size 27 dv' (.int .i64 (keptAt l s (j + 1))) ∧ Rd wx dv' (bc A) ∧ New (w1.heap.size + 1) dv' ∧ Below w1.heap.size w1 wx)
      case first =>
        by_cases hs : s = j
        · have hsb : ((j : Int) == (s : Int)) = true := by rw [hs]; simp
          have HS := hide hs
          clear hs
          have HTR := hide (@trimR_all A kl HOK.out)
          go_wp2_with fail
          refine (Sync_any _ A kl _ (by exact hdv)).mono ?_
          rw [HTR.out]
          rintro e w3 ⟨v3, rfl, hr3, hb3, hn3⟩
          simp only [dsk, flt]
          obtain ⟨v3o, v3c, hv3, _, _⟩ := hr3.shape
          rw [bc_length] at hv3
          subst hv3
          have hD3 := hD.below hb3
          have hbel3 := hbel.trans (hb3.mono (by omega))
          have hz3 := hb3.size
          clear d0 d1 d2 d3 d4 hb3 hD hdv hbel
          obtain ⟨q0, q1, q2, q3, q4⟩ := hD3.facts
          go_upto_region 15 with fail
          have hbC : Below w3.heap.size w3 ((w3.alloc (.cells #[.slice v3o A.length v3c, .int .i64 A.length] 27)).alloc (.cells #[.int .i64 0, .int .i64 0] 29)) := ((Below.refl _ _).alloc (Nat.le_refl _) _).alloc (by simp) _
          have hE : Tb ((w3.alloc (.cells #[.slice v3o A.length v3c, .int .i64 A.length] 27)).alloc (.cells #[.int .i64 0, .int .i64 0] 29)) w3.heap.size 27 (.slice v3o A.length v3c) (.int .i64 A.length) := (Tb.new w3 _ _ _).below (below_alloc _ _)
          have hD5 := hD3.below hbC
          have hr5 := hr3.below hbC
          have hbel5 := hbel3.trans (hbC.mono (by omega))
          generalize (w3.alloc (.cells #[.slice v3o A.length v3c, .int .i64 A.length] 27)).alloc (.cells #[.int .i64 0, .int .i64 0] 29) = w5 at *
          clear q0 q1 q2 q3 q4 hbC hD3 hbel3 hr3
          obtain ⟨q0, q1, q2, q3, q4⟩ := hD5.facts
          obtain ⟨e0, e1, e2, e3, e4⟩ := hE.facts
          have hn5 : New (w1.heap.size + 1) (.slice v3o A.length v3c) := hn3.mono (by omega)
          go_wp2_with fail
          go_meet
          case rel => exact ⟨.slice v3o A.length v3c, by simp <;> omega, by simp <;> omega, by rw [HKS.out, if_pos HS.out]; exact hD5.set _ _, (hr5.setNew hn5 (by simp) _).setNew hn5 (by simp) _, hn5, (hbel5.setCell (Nat.le_refl _) _).setCell (Nat.le_refl _) _⟩
        · have hsb : ((j : Int) == (s : Int)) = false := by simp; omega
          go_wp2_with fail
          go_meet
          case rel => exact ⟨.slice dvo A.length dvc, rfl, rfl, by rw [HKS.out, if_neg hs]; exact hD, hdv, hdn, hbel⟩
      case rest =>
        clear hD hdv hbel d0 d1 d2 d3 d4 hdn hckr hbw hszr HOK HKS hle
        obtain ⟨dv', h32, h33, hD, hdv, hdn, hbel⟩ := hcut
        have H32 := hide h32
        have H33 := hide h33
        clear h32 h33
        rename World => wx
        have hle : keptAt l s (j + 1) ≤ A.length := by
          have := HKL.out
          omega
        generalize hKK : keptAt l s (j + 1) = kl' at *
        have HKK := hide hKK
        clear hKK
        have HOK := hide (show checkR A (kl' : Int) = 0 from checkR_ok (by omega) (by omega) (by omega))
        have hbw := hbw1.trans (hbel.mono hsz1)
        have hckr : wx.cell? ⟨b, off + j, none⟩ = some (.slice xo bj.length xc) := by
          rw [hbw.cell (p := ⟨b, off + j, none⟩) (by exact hb)]
          exact hck
        have hrxx := hrx.below hbw
        have HRX := hide hrxx
        have HDV := hide hdv
        obtain ⟨dvo', dvc', hdvv, _, _⟩ := hdv.shape
        rw [bc_length] at hdvv
        subst hdvv
        obtain ⟨d0, d1, d2, d3, d4⟩ := hD.facts
        have hb65 : bj.length ≤ 65535 := by omega
        have HB65 := hide hb65
        have HD := hide hD
        clear hdv hrxx hb65
        go_upto_region 16 with fail
        have hszw := hbw.size
        have hall : ∀ W, Below wx.heap.size wx W → Rd W (.slice xo bj.length xc) (bc bj) ∧ Rd W (.slice dvo' A.length dvc') (bc A) ∧ Tb W w1.heap.size 27 (.slice dvo' A.length dvc') (.int .i64 kl') ∧ Below w1.heap.size w1 W :=
          fun W h => ⟨HRX.out.below h, HDV.out.below h, HD.out.below h, hbel.trans (h.mono (by omega))⟩
        have HALL := hide hall
        have hkeep : ∀ W, Below wx.heap.size wx W → W.cell? ⟨w1.heap.size, 0, none⟩ = some (.slice dvo' A.length dvc') ∧ W.cell? ⟨w1.heap.size, 1, none⟩ = some (.int .i64 kl') ∧ W.cell? ⟨b, off + j, none⟩ = some (.slice xo bj.length xc) :=
          fun W h => ⟨(hall W h).2.2.1.facts.1, (hall W h).2.2.1.facts.2.1, (h.cell (p := ⟨b, off + j, none⟩) (by simp only; omega)).trans hckr⟩
        have HKEEP := hide hkeep
        clear hkeep
        have hszx := hD.facts.2.2.2.2
        have hbx : b < wx.heap.size := by have := hbw.size; omega
        clear hall
        by_cases hfit : 60000 < A.length + (framed bj).length
        · have HAP := hide (@appendR_much A (framed bj) kl' HOK.out hfit)
          go_cut [11, 12] from 35 to 75 (fun _ pF wy => ∃ zF : Nat, pF = .pointer (some ⟨zF, 0, none⟩) ∧ Tb wy zF 29 (.int .i64 9) (.int .i64 0) ∧ Below w1.heap.size w1 wy)
          case first =>
            go_region_held3 (fun W => W.cell? ⟨w1.heap.size, 0, none⟩ = some (.slice dvo' A.length dvc') ∧ W.cell? ⟨w1.heap.size, 1, none⟩ = some (.int .i64 kl') ∧ W.cell? ⟨b, off + j, none⟩ = some (.slice xo bj.length xc)) (exact HKEEP.out _ (by go_grown)) (first
            | (go_at_call 10; refine (Append_any _ A kl' _ (framed bj) _ (by exact (HALL.out _ (by go_grown)).2.1) (by exact hr2.below (by go_grown))).mono ?_; rw [HAP.out]; rintro e w3 ⟨v3, rfl, hr3, hb3, hn3⟩; simp only [dsk, flt]; obtain ⟨ao3, cap3, hv3, _, _⟩ := hr3.shape; (have hv4 : v3 = .slice ao3 0 cap3 := hv3); clear hv3; subst hv4; have hb23 : Below w2.heap.size w2 w3 := Below.trans (by go_grown) (hb3.mono (by simp <;> omega)); have hz3 := hb23.size; have hbx3 := hbx2.trans (hb23.mono hzx2); have hzx3 := hbx3.size; have hD3 := (HALL.out _ hbx3).2.2.1; obtain ⟨p0, p1, p2, p3, p4⟩ := hD3.facts; (first | (have tDy := Tb.below (w := ((w2.alloc (.cells #[.slice none 0 0, .int .i64 0] 27)).alloc (.cells #[.int .i64 0, .int .i64 0] 29))) (by exact (show Tb ((w2.alloc (.cells #[.slice none 0 0, .int .i64 0] 27)).alloc (.cells #[.int .i64 0, .int .i64 0] 29)) w2.heap.size 27 (.slice none 0 0) (.int .i64 0) from (Tb.new w2 27 (.slice none 0 0) (.int .i64 0)).below (below_alloc _ _))) hb3; have tFy := Tb.below (w := ((w2.alloc (.cells #[.slice none 0 0, .int .i64 0] 27)).alloc (.cells #[.int .i64 0, .int .i64 0] 29))) (by exact (show Tb ((w2.alloc (.cells #[.slice none 0 0, .int .i64 0] 27)).alloc (.cells #[.int .i64 0, .int .i64 0] 29)) (w2.alloc (.cells #[.slice none 0 0, .int .i64 0] 27)).heap.size 29 (.int .i64 0) (.int .i64 0) from Tb.new (w2.alloc (.cells #[.slice none 0 0, .int .i64 0] 27)) 29 (.int .i64 0) (.int .i64 0))) hb3; simp only [World.size_alloc] at tFy; obtain ⟨tDy0, tDy1, tDy2, tDy3, tDy4⟩ := tDy.facts; obtain ⟨tFy0, tFy1, tFy2, tFy3, tFy4⟩ := tFy.facts) | (have tFy := Tb.below (w := ((w2.alloc (.cells #[.int .i64 0, .int .i64 0] 29)).alloc (.cells #[.slice none 0 0, .int .i64 0] 27))) (by exact (show Tb ((w2.alloc (.cells #[.int .i64 0, .int .i64 0] 29)).alloc (.cells #[.slice none 0 0, .int .i64 0] 27)) w2.heap.size 29 (.int .i64 0) (.int .i64 0) from (Tb.new w2 29 (.int .i64 0) (.int .i64 0)).below (below_alloc _ _))) hb3; have tDy := Tb.below (w := ((w2.alloc (.cells #[.int .i64 0, .int .i64 0] 29)).alloc (.cells #[.slice none 0 0, .int .i64 0] 27))) (by exact (show Tb ((w2.alloc (.cells #[.int .i64 0, .int .i64 0] 29)).alloc (.cells #[.slice none 0 0, .int .i64 0] 27)) (w2.alloc (.cells #[.int .i64 0, .int .i64 0] 29)).heap.size 27 (.slice none 0 0) (.int .i64 0) from Tb.new (w2.alloc (.cells #[.int .i64 0, .int .i64 0] 29)) 27 (.slice none 0 0) (.int .i64 0))) hb3; simp only [World.size_alloc] at tDy; obtain ⟨tFy0, tFy1, tFy2, tFy3, tFy4⟩ := tFy.facts; obtain ⟨tDy0, tDy1, tDy2, tDy3, tDy4⟩ := tDy.facts) | (have tDy := Tb.below (w := (w2.alloc (.cells #[.slice none 0 0, .int .i64 0] 27))) (by exact (show Tb (w2.alloc (.cells #[.slice none 0 0, .int .i64 0] 27)) w2.heap.size 27 (.slice none 0 0) (.int .i64 0) from Tb.new w2 27 (.slice none 0 0) (.int .i64 0))) hb3; obtain ⟨tDy0, tDy1, tDy2, tDy3, tDy4⟩ := tDy.facts) | (have tFy := Tb.below (w := (w2.alloc (.cells #[.int .i64 0, .int .i64 0] 29))) (by exact (show Tb (w2.alloc (.cells #[.int .i64 0, .int .i64 0] 29)) w2.heap.size 29 (.int .i64 0) (.int .i64 0) from Tb.new w2 29 (.int .i64 0) (.int .i64 0))) hb3; obtain ⟨tFy0, tFy1, tFy2, tFy3, tFy4⟩ := tFy.facts) | skip); (first | (have tDz := tDx.below hb23; obtain ⟨tDz0, tDz1, tDz2, tDz3, tDz4⟩ := tDz.facts) | skip); (first | (have tFz := tFx.below hb23; obtain ⟨tFz0, tFz1, tFz2, tFz3, tFz4⟩ := tFz.facts) | skip))
            | (go_at_call 15; refine (Framed_any _ bj _ (by exact (HALL.out _ (by go_grown)).1) (by exact HB65.out)).mono ?_; rintro e w2 ⟨v2, rfl, hr2, hb2, hn2⟩; have hbx2 : Below wx.heap.size wx w2 := Below.trans (by go_grown) (hb2.mono (by simp <;> omega)); have hzx2 := hbx2.size; obtain ⟨g0, g1, g2, g3, g4⟩ := (HALL.out _ hbx2).2.2.1.facts; (first | (have tDx := Tb.below (w := ((wx.alloc (.cells #[.slice none 0 0, .int .i64 0] 27)).alloc (.cells #[.int .i64 0, .int .i64 0] 29)).drew) (by exact (show Tb ((wx.alloc (.cells #[.slice none 0 0, .int .i64 0] 27)).alloc (.cells #[.int .i64 0, .int .i64 0] 29)) wx.heap.size 27 (.slice none 0 0) (.int .i64 0) from (Tb.new wx 27 (.slice none 0 0) (.int .i64 0)).below (below_alloc _ _))) hb2; have tFx := Tb.below (w := ((wx.alloc (.cells #[.slice none 0 0, .int .i64 0] 27)).alloc (.cells #[.int .i64 0, .int .i64 0] 29)).drew) (by exact (show Tb ((wx.alloc (.cells #[.slice none 0 0, .int .i64 0] 27)).alloc (.cells #[.int .i64 0, .int .i64 0] 29)) (wx.alloc (.cells #[.slice none 0 0, .int .i64 0] 27)).heap.size 29 (.int .i64 0) (.int .i64 0) from Tb.new (wx.alloc (.cells #[.slice none 0 0, .int .i64 0] 27)) 29 (.int .i64 0) (.int .i64 0))) hb2; simp only [World.size_alloc] at tFx; obtain ⟨tDx0, tDx1, tDx2, tDx3, tDx4⟩ := tDx.facts; obtain ⟨tFx0, tFx1, tFx2, tFx3, tFx4⟩ := tFx.facts) | (have tFx := Tb.below (w := ((wx.alloc (.cells #[.int .i64 0, .int .i64 0] 29)).alloc (.cells #[.slice none 0 0, .int .i64 0] 27)).drew) (by exact (show Tb ((wx.alloc (.cells #[.int .i64 0, .int .i64 0] 29)).alloc (.cells #[.slice none 0 0, .int .i64 0] 27)) wx.heap.size 29 (.int .i64 0) (.int .i64 0) from (Tb.new wx 29 (.int .i64 0) (.int .i64 0)).below (below_alloc _ _))) hb2; have tDx := Tb.below (w := ((wx.alloc (.cells #[.int .i64 0, .int .i64 0] 29)).alloc (.cells #[.slice none 0 0, .int .i64 0] 27)).drew) (by exact (show Tb ((wx.alloc (.cells #[.int .i64 0, .int .i64 0] 29)).alloc (.cells #[.slice none 0 0, .int .i64 0] 27)) (wx.alloc (.cells #[.int .i64 0, .int .i64 0] 29)).heap.size 27 (.slice none 0 0) (.int .i64 0) from Tb.new (wx.alloc (.cells #[.int .i64 0, .int .i64 0] 29)) 27 (.slice none 0 0) (.int .i64 0))) hb2; simp only [World.size_alloc] at tDx; obtain ⟨tFx0, tFx1, tFx2, tFx3, tFx4⟩ := tFx.facts; obtain ⟨tDx0, tDx1, tDx2, tDx3, tDx4⟩ := tDx.facts) | (have tDx := Tb.below (w := (wx.alloc (.cells #[.slice none 0 0, .int .i64 0] 27)).drew) (by exact (show Tb (wx.alloc (.cells #[.slice none 0 0, .int .i64 0] 27)) wx.heap.size 27 (.slice none 0 0) (.int .i64 0) from Tb.new wx 27 (.slice none 0 0) (.int .i64 0))) hb2; obtain ⟨tDx0, tDx1, tDx2, tDx3, tDx4⟩ := tDx.facts) | (have tFx := Tb.below (w := (wx.alloc (.cells #[.int .i64 0, .int .i64 0] 29)).drew) (by exact (show Tb (wx.alloc (.cells #[.int .i64 0, .int .i64 0] 29)) wx.heap.size 29 (.int .i64 0) (.int .i64 0) from Tb.new wx 29 (.int .i64 0) (.int .i64 0))) hb2; obtain ⟨tFx0, tFx1, tFx2, tFx3, tFx4⟩ := tFx.facts) | skip)))
            · have hbel3 := (HALL.out _ hbx3).2.2.2
              go_wp2_with fail
              go_meet
              case rel =>
                refine ⟨_, rfl, ?_, ?_⟩
                · simpa using Tb.new (w3.alloc (.cells #[.slice ao3 0 cap3, .int .i64 0] 27)) 29 (.int .i64 9) (.int .i64 0)
                · exact (hbel3.alloc (by omega) _).alloc (by simp; omega) _
            · have hbel3 := (HALL.out _ hbx3).2.2.2
              go_wp2_with fail
              go_meet
              case rel =>
                refine ⟨_, rfl, ?_, ?_⟩
                · exact (Tb.new w3 _ _ _).below (below_alloc _ _)
                · exact (hbel3.alloc (by omega) _).alloc (by simp; omega) _
            · have hbel3 := (HALL.out _ hbx3).2.2.2
              go_wp2_with fail
              go_meet
              case rel =>
                refine ⟨_, rfl, ?_, ?_⟩
                · have k9 := Tb.new ((w3.setCell ⟨w2.heap.size, 0, none⟩ (.slice ao3 0 cap3)).setCell ⟨w2.heap.size, 1, none⟩ (.int .i64 0)) 29 (.int .i64 9) (.int .i64 0); simp only [World.size_setCell] at k9; exact k9
                · exact ((hbel3.setCell (by simp only; omega) _).setCell (by simp only; omega) _).alloc (by simp; omega) _
            · have hbel3 := (HALL.out _ hbx3).2.2.2
              go_wp2_with fail
              go_meet
              case rel =>
                refine ⟨_, rfl, ?_, ?_⟩
                · exact ((tFy.far (by simp only; omega) _).far (by simp only; omega) _).set _ _
                · exact (((hbel3.setCell (by simp only; omega) _).setCell (by simp only; omega) _).setCell (by simp only; omega) _).setCell (by simp only; omega) _
            · have hbel3 := (HALL.out _ hbx3).2.2.2
              go_wp2_with fail
              go_meet
              case rel =>
                refine ⟨_, rfl, ?_, ?_⟩
                · exact (tFy.set _ _).below (below_alloc _ _)
                · exact ((hbel3.setCell (by simp only; omega) _).setCell (by simp only; omega) _).alloc (by simp; omega) _
            · have hbel3 := (HALL.out _ hbx3).2.2.2
              go_wp2_with fail
              go_meet
              case rel =>
                refine ⟨_, rfl, ?_, ?_⟩
                · exact ((tFy.far (by simp only; omega) _).far (by simp only; omega) _).set _ _
                · exact (((hbel3.setCell (by simp only; omega) _).setCell (by simp only; omega) _).setCell (by simp only; omega) _).setCell (by simp only; omega) _
            · have hbel3 := (HALL.out _ hbx3).2.2.2
              go_wp2_with fail
              go_meet
              case rel =>
                refine ⟨_, rfl, ?_, ?_⟩
                · have k9 := Tb.new ((w3.setCell ⟨wx.heap.size, 0, none⟩ (.slice ao3 0 cap3)).setCell ⟨wx.heap.size, 1, none⟩ (.int .i64 0)) 29 (.int .i64 9) (.int .i64 0); simp only [World.size_setCell] at k9; exact k9
                · exact ((hbel3.setCell (by simp only; omega) _).setCell (by simp only; omega) _).alloc (by simp; omega) _
            · have hbel3 := (HALL.out _ hbx3).2.2.2
              go_wp2_with fail
              go_meet
              case rel =>
                refine ⟨_, rfl, ?_, ?_⟩
                · exact ((tFy.far (by simp only; omega) _).far (by simp only; omega) _).set _ _
                · exact (((hbel3.setCell (by simp only; omega) _).setCell (by simp only; omega) _).setCell (by simp only; omega) _).setCell (by simp only; omega) _
            · have hbel3 := (HALL.out _ hbx3).2.2.2
              go_wp2_with fail
              go_meet
              case rel =>
                refine ⟨_, rfl, ?_, ?_⟩
                · exact ((tFz.far (by simp only; omega) _).far (by simp only; omega) _).set _ _
                · exact (((hbel3.setCell (by simp only; omega) _).setCell (by simp only; omega) _).setCell (by simp only; omega) _).setCell (by simp only; omega) _
            · have hbel3 := (HALL.out _ hbx3).2.2.2
              go_wp2_with fail
              go_meet
              case rel =>
                refine ⟨_, rfl, ?_, ?_⟩
                · exact (tFz.set _ _).below (below_alloc _ _)
                · exact ((hbel3.setCell (by simp only; omega) _).setCell (by simp only; omega) _).alloc (by simp; omega) _
            · have hbel3 := (HALL.out _ hbx3).2.2.2
              go_wp2_with fail
              go_meet
              case rel =>
                refine ⟨_, rfl, ?_, ?_⟩
                · exact ((tFz.far (by simp only; omega) _).far (by simp only; omega) _).set _ _
                · exact (((hbel3.setCell (by simp only; omega) _).setCell (by simp only; omega) _).setCell (by simp only; omega) _).setCell (by simp only; omega) _
            · have hbel3 := (HALL.out _ hbx3).2.2.2
              go_wp2_with fail
              go_meet
              case rel =>
                refine ⟨_, rfl, ?_, ?_⟩
                · exact ((tFz.far (by simp only; omega) _).far (by simp only; omega) _).set _ _
                · exact (((hbel3.setCell (by simp only; omega) _).setCell (by simp only; omega) _).setCell (by simp only; omega) _).setCell (by simp only; omega) _
          case rest =>
            obtain ⟨zF, rfl, hTF, hblF⟩ := hcut
            rename World => wy
            have hbwF := hbw1.trans (hblF.mono hsz1)
            have hszF := hblF.size
            clear HALL HKEEP HRX HDV HD hckr hD d0 d1 d2 d3 d4 hbel hbw
            obtain ⟨f0, f1, f2, f3, f4⟩ := hTF.facts
            go_wp2_with fail
            go_region_held3 (fun W => W.cell? ⟨zF, 0, none⟩ = some (.int .i64 9) ∧ W.cell? ⟨zF, 1, none⟩ = some (.int .i64 0)) (go_keep) (first | (go_at_call 16; refine (F_any 9 0 _).mono ?_; rintro e w6 ⟨rfl, rfl⟩; simp only [flt]))
            all_goals
              go_wp2_with fail
              go_ret
              exact ⟨rfl, by go_grown⟩
        · have HAP := hide (@appendR_ok A (framed bj) kl' HOK.out hfit)
          go_cut [11, 12] from 35 to 75 (fun pE pF wy => ∃ (zE zF : Nat) (v' : Value), pE = .pointer (some ⟨zE, 0, none⟩) ∧ pF = .pointer (some ⟨zF, 0, none⟩) ∧ Tb wy zE 27 v' (.int .i64 kl') ∧ Tb wy zF 29 (.int .i64 0) (.int .i64 0) ∧ Tb wy w1.heap.size 27 (.slice dvo' A.length dvc') (.int .i64 kl') ∧ Rd wy v' (bc (A ++ framed bj)) ∧ New (w1.heap.size + 1) v' ∧ Below w1.heap.size w1 wy)
          case first =>
            go_region_held3 (fun W => W.cell? ⟨w1.heap.size, 0, none⟩ = some (.slice dvo' A.length dvc') ∧ W.cell? ⟨w1.heap.size, 1, none⟩ = some (.int .i64 kl') ∧ W.cell? ⟨b, off + j, none⟩ = some (.slice xo bj.length xc)) (exact HKEEP.out _ (by go_grown)) (first
            | (go_at_call 10; refine (Append_any _ A kl' _ (framed bj) _ (by exact (HALL.out _ (by go_grown)).2.1) (by exact hr2.below (by go_grown))).mono ?_; rw [HAP.out]; rintro e w3 ⟨v3, rfl, hr3, hb3, hn3⟩; simp only [dsk, flt]; obtain ⟨ao3, cap3, hv3, _, _⟩ := hr3.shape; rw [bc_length, List.length_append] at hv3; subst hv3; have hb23 : Below w2.heap.size w2 w3 := Below.trans (by go_grown) (hb3.mono (by simp <;> omega)); have hz3 := hb23.size; have hbx3 := hbx2.trans (hb23.mono hzx2); have hzx3 := hbx3.size; have hD3 := (HALL.out _ hbx3).2.2.1; obtain ⟨p0, p1, p2, p3, p4⟩ := hD3.facts; (first | (have tDy := Tb.below (w := ((w2.alloc (.cells #[.slice none 0 0, .int .i64 0] 27)).alloc (.cells #[.int .i64 0, .int .i64 0] 29))) (by exact (show Tb ((w2.alloc (.cells #[.slice none 0 0, .int .i64 0] 27)).alloc (.cells #[.int .i64 0, .int .i64 0] 29)) w2.heap.size 27 (.slice none 0 0) (.int .i64 0) from (Tb.new w2 27 (.slice none 0 0) (.int .i64 0)).below (below_alloc _ _))) hb3; have tFy := Tb.below (w := ((w2.alloc (.cells #[.slice none 0 0, .int .i64 0] 27)).alloc (.cells #[.int .i64 0, .int .i64 0] 29))) (by exact (show Tb ((w2.alloc (.cells #[.slice none 0 0, .int .i64 0] 27)).alloc (.cells #[.int .i64 0, .int .i64 0] 29)) (w2.alloc (.cells #[.slice none 0 0, .int .i64 0] 27)).heap.size 29 (.int .i64 0) (.int .i64 0) from Tb.new (w2.alloc (.cells #[.slice none 0 0, .int .i64 0] 27)) 29 (.int .i64 0) (.int .i64 0))) hb3; simp only [World.size_alloc] at tFy; obtain ⟨tDy0, tDy1, tDy2, tDy3, tDy4⟩ := tDy.facts; obtain ⟨tFy0, tFy1, tFy2, tFy3, tFy4⟩ := tFy.facts) | (have tFy := Tb.below (w := ((w2.alloc (.cells #[.int .i64 0, .int .i64 0] 29)).alloc (.cells #[.slice none 0 0, .int .i64 0] 27))) (by exact (show Tb ((w2.alloc (.cells #[.int .i64 0, .int .i64 0] 29)).alloc (.cells #[.slice none 0 0, .int .i64 0] 27)) w2.heap.size 29 (.int .i64 0) (.int .i64 0) from (Tb.new w2 29 (.int .i64 0) (.int .i64 0)).below (below_alloc _ _))) hb3; have tDy := Tb.below (w := ((w2.alloc (.cells #[.int .i64 0, .int .i64 0] 29)).alloc (.cells #[.slice none 0 0, .int .i64 0] 27))) (by exact (show Tb ((w2.alloc (.cells #[.int .i64 0, .int .i64 0] 29)).alloc (.cells #[.slice none 0 0, .int .i64 0] 27)) (w2.alloc (.cells #[.int .i64 0, .int .i64 0] 29)).heap.size 27 (.slice none 0 0) (.int .i64 0) from Tb.new (w2.alloc (.cells #[.int .i64 0, .int .i64 0] 29)) 27 (.slice none 0 0) (.int .i64 0))) hb3; simp only [World.size_alloc] at tDy; obtain ⟨tFy0, tFy1, tFy2, tFy3, tFy4⟩ := tFy.facts; obtain ⟨tDy0, tDy1, tDy2, tDy3, tDy4⟩ := tDy.facts) | (have tDy := Tb.below (w := (w2.alloc (.cells #[.slice none 0 0, .int .i64 0] 27))) (by exact (show Tb (w2.alloc (.cells #[.slice none 0 0, .int .i64 0] 27)) w2.heap.size 27 (.slice none 0 0) (.int .i64 0) from Tb.new w2 27 (.slice none 0 0) (.int .i64 0))) hb3; obtain ⟨tDy0, tDy1, tDy2, tDy3, tDy4⟩ := tDy.facts) | (have tFy := Tb.below (w := (w2.alloc (.cells #[.int .i64 0, .int .i64 0] 29))) (by exact (show Tb (w2.alloc (.cells #[.int .i64 0, .int .i64 0] 29)) w2.heap.size 29 (.int .i64 0) (.int .i64 0) from Tb.new w2 29 (.int .i64 0) (.int .i64 0))) hb3; obtain ⟨tFy0, tFy1, tFy2, tFy3, tFy4⟩ := tFy.facts) | skip); (first | (have tDz := tDx.below hb23; obtain ⟨tDz0, tDz1, tDz2, tDz3, tDz4⟩ := tDz.facts) | skip); (first | (have tFz := tFx.below hb23; obtain ⟨tFz0, tFz1, tFz2, tFz3, tFz4⟩ := tFz.facts) | skip))
            | (go_at_call 15; refine (Framed_any _ bj _ (by exact (HALL.out _ (by go_grown)).1) (by exact HB65.out)).mono ?_; rintro e w2 ⟨v2, rfl, hr2, hb2, hn2⟩; have hbx2 : Below wx.heap.size wx w2 := Below.trans (by go_grown) (hb2.mono (by simp <;> omega)); have hzx2 := hbx2.size; obtain ⟨g0, g1, g2, g3, g4⟩ := (HALL.out _ hbx2).2.2.1.facts; (first | (have tDx := Tb.below (w := ((wx.alloc (.cells #[.slice none 0 0, .int .i64 0] 27)).alloc (.cells #[.int .i64 0, .int .i64 0] 29)).drew) (by exact (show Tb ((wx.alloc (.cells #[.slice none 0 0, .int .i64 0] 27)).alloc (.cells #[.int .i64 0, .int .i64 0] 29)) wx.heap.size 27 (.slice none 0 0) (.int .i64 0) from (Tb.new wx 27 (.slice none 0 0) (.int .i64 0)).below (below_alloc _ _))) hb2; have tFx := Tb.below (w := ((wx.alloc (.cells #[.slice none 0 0, .int .i64 0] 27)).alloc (.cells #[.int .i64 0, .int .i64 0] 29)).drew) (by exact (show Tb ((wx.alloc (.cells #[.slice none 0 0, .int .i64 0] 27)).alloc (.cells #[.int .i64 0, .int .i64 0] 29)) (wx.alloc (.cells #[.slice none 0 0, .int .i64 0] 27)).heap.size 29 (.int .i64 0) (.int .i64 0) from Tb.new (wx.alloc (.cells #[.slice none 0 0, .int .i64 0] 27)) 29 (.int .i64 0) (.int .i64 0))) hb2; simp only [World.size_alloc] at tFx; obtain ⟨tDx0, tDx1, tDx2, tDx3, tDx4⟩ := tDx.facts; obtain ⟨tFx0, tFx1, tFx2, tFx3, tFx4⟩ := tFx.facts) | (have tFx := Tb.below (w := ((wx.alloc (.cells #[.int .i64 0, .int .i64 0] 29)).alloc (.cells #[.slice none 0 0, .int .i64 0] 27)).drew) (by exact (show Tb ((wx.alloc (.cells #[.int .i64 0, .int .i64 0] 29)).alloc (.cells #[.slice none 0 0, .int .i64 0] 27)) wx.heap.size 29 (.int .i64 0) (.int .i64 0) from (Tb.new wx 29 (.int .i64 0) (.int .i64 0)).below (below_alloc _ _))) hb2; have tDx := Tb.below (w := ((wx.alloc (.cells #[.int .i64 0, .int .i64 0] 29)).alloc (.cells #[.slice none 0 0, .int .i64 0] 27)).drew) (by exact (show Tb ((wx.alloc (.cells #[.int .i64 0, .int .i64 0] 29)).alloc (.cells #[.slice none 0 0, .int .i64 0] 27)) (wx.alloc (.cells #[.int .i64 0, .int .i64 0] 29)).heap.size 27 (.slice none 0 0) (.int .i64 0) from Tb.new (wx.alloc (.cells #[.int .i64 0, .int .i64 0] 29)) 27 (.slice none 0 0) (.int .i64 0))) hb2; simp only [World.size_alloc] at tDx; obtain ⟨tFx0, tFx1, tFx2, tFx3, tFx4⟩ := tFx.facts; obtain ⟨tDx0, tDx1, tDx2, tDx3, tDx4⟩ := tDx.facts) | (have tDx := Tb.below (w := (wx.alloc (.cells #[.slice none 0 0, .int .i64 0] 27)).drew) (by exact (show Tb (wx.alloc (.cells #[.slice none 0 0, .int .i64 0] 27)) wx.heap.size 27 (.slice none 0 0) (.int .i64 0) from Tb.new wx 27 (.slice none 0 0) (.int .i64 0))) hb2; obtain ⟨tDx0, tDx1, tDx2, tDx3, tDx4⟩ := tDx.facts) | (have tFx := Tb.below (w := (wx.alloc (.cells #[.int .i64 0, .int .i64 0] 29)).drew) (by exact (show Tb (wx.alloc (.cells #[.int .i64 0, .int .i64 0] 29)) wx.heap.size 29 (.int .i64 0) (.int .i64 0) from Tb.new wx 29 (.int .i64 0) (.int .i64 0))) hb2; obtain ⟨tFx0, tFx1, tFx2, tFx3, tFx4⟩ := tFx.facts) | skip)))
            · have hbel3 := (HALL.out _ hbx3).2.2.2
              go_wp2_with fail
              go_meet
              case rel =>
                refine ⟨_, _, _, rfl, rfl, ?_, ?_, ?_, ?_, hn3.mono (by first | omega | (simp only [World.size_alloc]; omega)), ?_⟩
                · exact (Tb.new w3 _ _ _).below (below_alloc _ _)
                · simpa using Tb.new (w3.alloc (.cells #[.slice ao3 (A.length + (framed bj).length) cap3, .int .i64 kl'] 27)) 29 (.int .i64 0) (.int .i64 0)
                · exact (hD3.below (below_alloc _ _)).below (below_alloc _ _)
                · exact (hr3.alloc _).alloc _
                · exact (hbel3.alloc (by omega) _).alloc (by simp; omega) _
            · have hbel3 := (HALL.out _ hbx3).2.2.2
              go_wp2_with fail
              go_meet
              case rel =>
                refine ⟨_, _, _, rfl, rfl, ?_, ?_, ?_, ?_, hn3.mono (by first | omega | (simp only [World.size_alloc]; omega)), ?_⟩
                · simpa using Tb.new (w3.alloc (.cells #[.int .i64 0, .int .i64 0] 29)) 27 (.slice ao3 (A.length + (framed bj).length) cap3) (.int .i64 kl')
                · exact (Tb.new w3 _ _ _).below (below_alloc _ _)
                · exact (hD3.below (below_alloc _ _)).below (below_alloc _ _)
                · exact (hr3.alloc _).alloc _
                · exact (hbel3.alloc (by omega) _).alloc (by simp; omega) _
            · have hbel3 := (HALL.out _ hbx3).2.2.2
              go_wp2_with fail
              go_meet
              case rel =>
                refine ⟨_, _, _, rfl, rfl, ?_, ?_, ?_, ?_, hn3.mono (by first | omega | (simp only [World.size_alloc]; omega)), ?_⟩
                · exact (tDy.set _ _).below (below_alloc _ _)
                · have k9 := Tb.new ((w3.setCell ⟨w2.heap.size, 0, none⟩ (.slice ao3 (A.length + (framed bj).length) cap3)).setCell ⟨w2.heap.size, 1, none⟩ (.int .i64 kl')) 29 (.int .i64 0) (.int .i64 0); simp only [World.size_setCell] at k9; exact k9
                · exact ((hD3.far (by simp only; omega) _).far (by simp only; omega) _).below (below_alloc _ _)
                · exact ((hr3.setNew hn3 (by first | (simp only; omega) | (simp only [World.size_alloc]; omega)) _).setNew hn3 (by first | (simp only; omega) | (simp only [World.size_alloc]; omega)) _).alloc _
                · exact ((hbel3.setCell (by simp only; omega) _).setCell (by simp only; omega) _).alloc (by simp; omega) _
            · have hbel3 := (HALL.out _ hbx3).2.2.2
              go_wp2_with fail
              go_meet
              case rel =>
                refine ⟨_, _, _, rfl, rfl, ?_, ?_, ?_, ?_, hn3.mono (by first | omega | (simp only [World.size_alloc]; omega)), ?_⟩
                · exact ((tDy.set _ _).far (by simp only; omega) _).far (by simp only; omega) _
                · exact ((tFy.far (by simp only; omega) _).far (by simp only; omega) _).set _ _
                · exact (((hD3.far (by simp only; omega) _).far (by simp only; omega) _).far (by simp only; omega) _).far (by simp only; omega) _
                · exact (((hr3.setNew hn3 (by first | (simp only; omega) | (simp only [World.size_alloc]; omega)) _).setNew hn3 (by first | (simp only; omega) | (simp only [World.size_alloc]; omega)) _).setNew hn3 (by first | (simp only; omega) | (simp only [World.size_alloc]; omega)) _).setNew hn3 (by first | (simp only; omega) | (simp only [World.size_alloc]; omega)) _
                · exact (((hbel3.setCell (by simp only; omega) _).setCell (by simp only; omega) _).setCell (by simp only; omega) _).setCell (by simp only; omega) _
            · have hbel3 := (HALL.out _ hbx3).2.2.2
              go_wp2_with fail
              go_meet
              case rel =>
                refine ⟨_, _, _, rfl, rfl, ?_, ?_, ?_, ?_, hn3.mono (by first | omega | (simp only [World.size_alloc]; omega)), ?_⟩
                · have k9 := Tb.new ((w3.setCell ⟨w2.heap.size, 0, none⟩ (.int .i64 0)).setCell ⟨w2.heap.size, 1, none⟩ (.int .i64 0)) 27 (.slice ao3 (A.length + (framed bj).length) cap3) (.int .i64 kl'); simp only [World.size_setCell] at k9; exact k9
                · exact (tFy.set _ _).below (below_alloc _ _)
                · exact ((hD3.far (by simp only; omega) _).far (by simp only; omega) _).below (below_alloc _ _)
                · exact ((hr3.setNew hn3 (by first | (simp only; omega) | (simp only [World.size_alloc]; omega)) _).setNew hn3 (by first | (simp only; omega) | (simp only [World.size_alloc]; omega)) _).alloc _
                · exact ((hbel3.setCell (by simp only; omega) _).setCell (by simp only; omega) _).alloc (by simp; omega) _
            · have hbel3 := (HALL.out _ hbx3).2.2.2
              go_wp2_with fail
              go_meet
              case rel =>
                refine ⟨_, _, _, rfl, rfl, ?_, ?_, ?_, ?_, hn3.mono (by first | omega | (simp only [World.size_alloc]; omega)), ?_⟩
                · exact ((tDy.set _ _).far (by simp only; omega) _).far (by simp only; omega) _
                · exact ((tFy.far (by simp only; omega) _).far (by simp only; omega) _).set _ _
                · exact (((hD3.far (by simp only; omega) _).far (by simp only; omega) _).far (by simp only; omega) _).far (by simp only; omega) _
                · exact (((hr3.setNew hn3 (by first | (simp only; omega) | (simp only [World.size_alloc]; omega)) _).setNew hn3 (by first | (simp only; omega) | (simp only [World.size_alloc]; omega)) _).setNew hn3 (by first | (simp only; omega) | (simp only [World.size_alloc]; omega)) _).setNew hn3 (by first | (simp only; omega) | (simp only [World.size_alloc]; omega)) _
                · exact (((hbel3.setCell (by simp only; omega) _).setCell (by simp only; omega) _).setCell (by simp only; omega) _).setCell (by simp only; omega) _
            · have hbel3 := (HALL.out _ hbx3).2.2.2
              go_wp2_with fail
              go_meet
              case rel =>
                refine ⟨_, _, _, rfl, rfl, ?_, ?_, ?_, ?_, hn3.mono (by first | omega | (simp only [World.size_alloc]; omega)), ?_⟩
                · exact (tDz.set _ _).below (below_alloc _ _)
                · have k9 := Tb.new ((w3.setCell ⟨wx.heap.size, 0, none⟩ (.slice ao3 (A.length + (framed bj).length) cap3)).setCell ⟨wx.heap.size, 1, none⟩ (.int .i64 kl')) 29 (.int .i64 0) (.int .i64 0); simp only [World.size_setCell] at k9; exact k9
                · exact ((hD3.far (by simp only; omega) _).far (by simp only; omega) _).below (below_alloc _ _)
                · exact ((hr3.setNew hn3 (by first | (simp only; omega) | (simp only [World.size_alloc]; omega)) _).setNew hn3 (by first | (simp only; omega) | (simp only [World.size_alloc]; omega)) _).alloc _
                · exact ((hbel3.setCell (by simp only; omega) _).setCell (by simp only; omega) _).alloc (by simp; omega) _
            · have hbel3 := (HALL.out _ hbx3).2.2.2
              go_wp2_with fail
              go_meet
              case rel =>
                refine ⟨_, _, _, rfl, rfl, ?_, ?_, ?_, ?_, hn3.mono (by first | omega | (simp only [World.size_alloc]; omega)), ?_⟩
                · exact ((tDz.set _ _).far (by simp only; omega) _).far (by simp only; omega) _
                · exact ((tFy.far (by simp only; omega) _).far (by simp only; omega) _).set _ _
                · exact (((hD3.far (by simp only; omega) _).far (by simp only; omega) _).far (by simp only; omega) _).far (by simp only; omega) _
                · exact (((hr3.setNew hn3 (by first | (simp only; omega) | (simp only [World.size_alloc]; omega)) _).setNew hn3 (by first | (simp only; omega) | (simp only [World.size_alloc]; omega)) _).setNew hn3 (by first | (simp only; omega) | (simp only [World.size_alloc]; omega)) _).setNew hn3 (by first | (simp only; omega) | (simp only [World.size_alloc]; omega)) _
                · exact (((hbel3.setCell (by simp only; omega) _).setCell (by simp only; omega) _).setCell (by simp only; omega) _).setCell (by simp only; omega) _
            · have hbel3 := (HALL.out _ hbx3).2.2.2
              go_wp2_with fail
              go_meet
              case rel =>
                refine ⟨_, _, _, rfl, rfl, ?_, ?_, ?_, ?_, hn3.mono (by first | omega | (simp only [World.size_alloc]; omega)), ?_⟩
                · exact ((tDz.set _ _).far (by simp only; omega) _).far (by simp only; omega) _
                · exact ((tFz.far (by simp only; omega) _).far (by simp only; omega) _).set _ _
                · exact (((hD3.far (by simp only; omega) _).far (by simp only; omega) _).far (by simp only; omega) _).far (by simp only; omega) _
                · exact (((hr3.setNew hn3 (by first | (simp only; omega) | (simp only [World.size_alloc]; omega)) _).setNew hn3 (by first | (simp only; omega) | (simp only [World.size_alloc]; omega)) _).setNew hn3 (by first | (simp only; omega) | (simp only [World.size_alloc]; omega)) _).setNew hn3 (by first | (simp only; omega) | (simp only [World.size_alloc]; omega)) _
                · exact (((hbel3.setCell (by simp only; omega) _).setCell (by simp only; omega) _).setCell (by simp only; omega) _).setCell (by simp only; omega) _
            · have hbel3 := (HALL.out _ hbx3).2.2.2
              go_wp2_with fail
              go_meet
              case rel =>
                refine ⟨_, _, _, rfl, rfl, ?_, ?_, ?_, ?_, hn3.mono (by first | omega | (simp only [World.size_alloc]; omega)), ?_⟩
                · have k9 := Tb.new ((w3.setCell ⟨wx.heap.size, 0, none⟩ (.int .i64 0)).setCell ⟨wx.heap.size, 1, none⟩ (.int .i64 0)) 27 (.slice ao3 (A.length + (framed bj).length) cap3) (.int .i64 kl'); simp only [World.size_setCell] at k9; exact k9
                · exact (tFz.set _ _).below (below_alloc _ _)
                · exact ((hD3.far (by simp only; omega) _).far (by simp only; omega) _).below (below_alloc _ _)
                · exact ((hr3.setNew hn3 (by first | (simp only; omega) | (simp only [World.size_alloc]; omega)) _).setNew hn3 (by first | (simp only; omega) | (simp only [World.size_alloc]; omega)) _).alloc _
                · exact ((hbel3.setCell (by simp only; omega) _).setCell (by simp only; omega) _).alloc (by simp; omega) _
            · have hbel3 := (HALL.out _ hbx3).2.2.2
              go_wp2_with fail
              go_meet
              case rel =>
                refine ⟨_, _, _, rfl, rfl, ?_, ?_, ?_, ?_, hn3.mono (by first | omega | (simp only [World.size_alloc]; omega)), ?_⟩
                · exact ((tDy.set _ _).far (by simp only; omega) _).far (by simp only; omega) _
                · exact ((tFz.far (by simp only; omega) _).far (by simp only; omega) _).set _ _
                · exact (((hD3.far (by simp only; omega) _).far (by simp only; omega) _).far (by simp only; omega) _).far (by simp only; omega) _
                · exact (((hr3.setNew hn3 (by first | (simp only; omega) | (simp only [World.size_alloc]; omega)) _).setNew hn3 (by first | (simp only; omega) | (simp only [World.size_alloc]; omega)) _).setNew hn3 (by first | (simp only; omega) | (simp only [World.size_alloc]; omega)) _).setNew hn3 (by first | (simp only; omega) | (simp only [World.size_alloc]; omega)) _
                · exact (((hbel3.setCell (by simp only; omega) _).setCell (by simp only; omega) _).setCell (by simp only; omega) _).setCell (by simp only; omega) _
            · have hbel3 := (HALL.out _ hbx3).2.2.2
              go_wp2_with fail
              go_meet
              case rel =>
                refine ⟨_, _, _, rfl, rfl, ?_, ?_, ?_, ?_, hn3.mono (by first | omega | (simp only [World.size_alloc]; omega)), ?_⟩
                · exact ((tDz.set _ _).far (by simp only; omega) _).far (by simp only; omega) _
                · exact ((tFz.far (by simp only; omega) _).far (by simp only; omega) _).set _ _
                · exact (((hD3.far (by simp only; omega) _).far (by simp only; omega) _).far (by simp only; omega) _).far (by simp only; omega) _
                · exact (((hr3.setNew hn3 (by first | (simp only; omega) | (simp only [World.size_alloc]; omega)) _).setNew hn3 (by first | (simp only; omega) | (simp only [World.size_alloc]; omega)) _).setNew hn3 (by first | (simp only; omega) | (simp only [World.size_alloc]; omega)) _).setNew hn3 (by first | (simp only; omega) | (simp only [World.size_alloc]; omega)) _
                · exact (((hbel3.setCell (by simp only; omega) _).setCell (by simp only; omega) _).setCell (by simp only; omega) _).setCell (by simp only; omega) _
          case rest =>
            obtain ⟨zE, zF, v', rfl, rfl, hTE, hTF, hTB, hrv, hnv, hblF⟩ := hcut
            rename World => wy
            have hszF := hblF.size
            clear HALL HKEEP HRX HDV HD hckr hD d0 d1 d2 d3 d4 hbel hbw
            obtain ⟨f0, f1, f2, f3, f4⟩ := hTF.facts
            obtain ⟨e0, e1, e2, e3, e4⟩ := hTE.facts
            obtain ⟨b0, b1, b2, b3, b4⟩ := hTB.facts
            obtain ⟨vo, vc, hvv, _, _⟩ := hrv.shape
            rw [bc_length, List.length_append] at hvv
            subst hvv
            go_wp2_with fail
            have k32 := H32.out
            have k33 := H33.out
            subst k32 k33
            go_roundw
            case rel => exact ⟨j + 1, .slice vo (A.length + (framed bj).length) vc, by omega, by go_num, by rw [HNX.out, List.length_append]; omega, by rw [HKK.out]; exact hTB.set _ _, by rw [HNX.out]; exact (hrv.setNew hnv (by simp) _).setNew hnv (by simp) _, hnv, (hblF.setCell (Nat.le_refl _) _).setCell (Nat.le_refl _) _⟩
            case measure => simp [intOf]; omega
    · obtain rfl : j = l.length := by omega
      rw [List.take_length] at hA hdv
      have hkle := flatF_mono l s l.length hsl
      rw [List.take_length] at hkle
      have hke : keptAt l s l.length = if s < l.length then (flatF (l.take s)).length else 0 := rfl
      have hsall : s = l.length → (flatF (l.take s)).length = (flatF l).length := fun h => by rw [h, List.take_length]
      have HSA := hide hsall
      have HWK := hide (whole_k l)
      have HGE := hide (fun t k hk he hst => @whole_ge l t k s hk hsl he hst)
      have HCU := hide (fun t k ht hk hn hend => recover_cut l t k (by omega) hA ht hk hn hend)
      have HWH := hide (fun k (hk : k ≤ l.length) => recover_whole (l.take k) (by rw [List.length_take]; omega) (by have := flatF_mono l k l.length hk; rw [List.take_length] at this; omega))
      obtain ⟨ks, hks⟩ : ∃ ks, ks = (flatF (l.take s)).length := ⟨_, rfl⟩
      have HKT := hide (fun (k : Nat) (hk : k ≤ l.length) => show (flatF (l.take k)).length ≤ (flatF l).length by have := flatF_mono l k l.length hk; rwa [List.take_length] at this)
      rw [← hks] at hkle hke
      have HK0 := hide hks
      have HKE := hide hke
      clear hsall hke hks
      generalize keptAt l s l.length = k0 at *
      have hk0 : k0 ≤ (flatF l).length := by have := HKE.out; split at this <;> omega
      obtain ⟨A, hAl⟩ : ∃ A, A = flatF l := ⟨_, rfl⟩
      have HAL := hide hAl
      rw [← hAl] at hA hdv hkle hk0
      clear hAl
      have HOK := hide (show checkR A (k0 : Int) = 0 from checkR_ok (by omega) (by omega) (by omega))
      obtain ⟨dvo, dvc, hdvv, _, _⟩ := hdv.shape
      rw [bc_length] at hdvv
      subst hdvv
      obtain ⟨d0, d1, d2, d3, d4⟩ := hD.facts
      go_upto_if 79 with fail
      go_cut [] (fun wx => ∃ (dv' : Value), Tb wx w1.heap.size 27 dv' (.int .i64 ks) ∧ Rd wx dv' (bc A) ∧ New (w1.heap.size + 1) dv' ∧ Below w1.heap.size w1 wx)
      case first =>
        by_cases hs : s = l.length
        · have hsb : ((s : Int) == (l.length : Int)) = true := by rw [hs]; simp
          have hka : A.length = ks := by rw [HK0.out, HSA.out hs, HAL.out]
          have HKA := hide hka
          clear hs hka
          have HTR := hide (@trimR_all A k0 HOK.out)
          go_wp2_with fail
          refine (Sync_any _ A k0 _ (by exact hdv)).mono ?_
          rw [HTR.out]
          rintro e w3 ⟨v3, rfl, hr3, hb3, hn3⟩
          simp only [dsk, flt]
          obtain ⟨v3o, v3c, hv3, _, _⟩ := hr3.shape
          rw [bc_length] at hv3
          subst hv3
          have hD3 := hD.below hb3
          have hbel3 := hbel.trans (hb3.mono (by omega))
          clear d0 d1 d2 d3 d4 hb3 hD hdv hbel
          obtain ⟨q0, q1, q2, q3, q4⟩ := hD3.facts
          have hn5 : New (w1.heap.size + 1) (.slice v3o A.length v3c) := hn3.mono (by omega)
          go_wp2_with fail
          go_meet
          case rel => exact ⟨.slice v3o A.length v3c, by rw [← HKA.out]; exact hD3.set _ _, (hr3.setNew hn5 (by simp) _).setNew hn5 (by simp) _, hn5, (hbel3.setCell (Nat.le_refl _) _).setCell (Nat.le_refl _) _⟩
        · have hsb : ((s : Int) == (l.length : Int)) = false := by simp; omega
          go_wp2_with fail
          go_meet
          case rel => exact ⟨.slice dvo A.length dvc, by have := HKE.out; rw [if_pos (by omega)] at this; rw [← this]; exact hD, hdv, hdn, hbel⟩
      case rest => -- the end
        clear d0 d1 d2 d3 d4 hD hdv hdn hbel hszr hbw HOK HSA HKE hk0
        obtain ⟨dv', hD, hdv, hdn, hbel⟩ := hcut
        rename World => wx
        obtain ⟨dvo', dvc', hdvv, _, _⟩ := hdv.shape
        rw [bc_length] at hdvv
        subst hdvv
        obtain ⟨d0, d1, d2, d3, d4⟩ := hD.facts
        have hbw := hbw1.trans (hbel.mono hsz1)
        have HOK := hide (show checkR A (ks : Int) = 0 from checkR_ok (by omega) (by omega) (by omega))
        by_cases hout : n < 0 ∨ (A.length : Int) - (ks : Int) < n
        · have HTR := hide (@crashR_out A ks n HOK.out hout)
          go_wp2_with fail
          refine (Crash_any _ A ks n _ hdv).mono ?_
          rw [HTR.out]
          rintro e w3 ⟨v3, rfl, hr3, hb3, hn3⟩
          simp only [dsk, flt]
          obtain ⟨v3o, v3c, hv3, _, _⟩ := hr3.shape
          have hv4 : v3 = .slice v3o 0 v3c := hv3
          clear hv3
          subst hv4
          have hbw3 := hbw.trans (hb3.mono (by have := hbw.size; omega))
          have hsz3 := hbw3.size
          clear hb3 hr3 hn3 hD hdv hbel d0 d1 d2 d3 d4
          go_upto_region 24 with fail
          have hF : Tb ((w3.alloc (.cells #[.slice v3o 0 v3c, .int .i64 0] 27)).alloc (.cells #[.int .i64 3, .int .i64 (-1)] 29)) (w3.heap.size + 1) 29 (.int .i64 3) (.int .i64 (-1)) := by
            have := Tb.new (w3.alloc (.cells #[.slice v3o 0 v3c, .int .i64 0] 27)) 29 (.int .i64 3) (.int .i64 (-1))
            simpa using this
          have hbw5 : Below w.heap.size w ((w3.alloc (.cells #[.slice v3o 0 v3c, .int .i64 0] 27)).alloc (.cells #[.int .i64 3, .int .i64 (-1)] 29)) := (hbw3.alloc hsz3 _).alloc (by simp; omega) _
          generalize (w3.alloc (.cells #[.slice v3o 0 v3c, .int .i64 0] 27)).alloc (.cells #[.int .i64 3, .int .i64 (-1)] 29) = w5 at *
          generalize w3.heap.size + 1 = zF at *
          have hsz5 := hbw5.size
          obtain ⟨f0, f1, f2, f3, f4⟩ := hF.facts
          go_region_held3 (fun W => W.cell? ⟨zF, 0, none⟩ = some (.int .i64 3) ∧ W.cell? ⟨zF, 1, none⟩ = some (.int .i64 (-1))) (go_keep) (first | (go_at_call 16; refine (F_any 3 (-1) _).mono ?_; rintro e w6 ⟨rfl, rfl⟩; simp only [flt]))
          all_goals
            go_wp2_with fail
            go_ret
            exact ⟨rfl, by go_grown⟩
        · obtain ⟨q, rfl⟩ : ∃ q : Nat, n = (q : Int) := ⟨n.toNat, by omega⟩
          have hfit : ks + q ≤ A.length := by omega
          have HTR := hide (@crashR_in A ks q HOK.out hfit)
          obtain ⟨k, hk1, hk2, hk3⟩ := HWK.out (ks + q)
          have hsk : s ≤ k := HGE.out _ _ hk1 hk3 (by rw [← HK0.out]; omega)
          have hrec := HCU.out (ks + q) k (by rw [← HAL.out]; exact hfit) hk1 hk2 hk3
          rw [← HAL.out, Int.natCast_add] at hrec
          have hrec2 := HWH.out k hk1
          have hgl : (flatF (l.take k)).length ≤ 60000 := by have := HKT.out k hk1; rw [← HAL.out] at this; omega
          have hlk : (l.take k).length = k := by rw [List.length_take]; omega
          generalize flatF (l.take k) = G at *
          have HRE := hide hrec
          have HRE2 := hide hrec2
          have HLK := hide hlk
          clear hrec hrec2 hlk hk2 hk3 HWK HGE HCU HWH HKT hout
          go_wp2_with fail
          refine (Crash_any _ A ks q _ hdv).mono ?_
          rw [HTR.out]
          rintro e w3 ⟨v3, rfl, hr3, hb3, hn3⟩
          simp only [dsk, flt]
          obtain ⟨v3o, v3c, hv3, _, _⟩ := hr3.shape
          have hlq : (A.take (ks + q)).length = ks + q := by rw [List.length_take]; omega
          rw [bc_length, hlq] at hv3
          subst hv3
          have hbw3 := hbw.trans (hb3.mono (by have := hbw.size; omega))
          have hsz3 := hbw3.size
          clear hb3 hn3 hD hdv hbel d0 d1 d2 d3 d4 hbw
          go_upto_region 25 with fail
          have hE : Tb ((w3.alloc (.cells #[.slice v3o (ks + q) v3c, .int .i64 ((ks : Int) + (q : Int))] 27)).alloc (.cells #[.int .i64 0, .int .i64 0] 29)) w3.heap.size 27 (.slice v3o (ks + q) v3c) (.int .i64 ((ks : Int) + (q : Int))) := (Tb.new w3 _ _ _).below (below_alloc _ _)
          have hF : Tb ((w3.alloc (.cells #[.slice v3o (ks + q) v3c, .int .i64 ((ks : Int) + (q : Int))] 27)).alloc (.cells #[.int .i64 0, .int .i64 0] 29)) (w3.heap.size + 1) 29 (.int .i64 0) (.int .i64 0) := by
            have := Tb.new (w3.alloc (.cells #[.slice v3o (ks + q) v3c, .int .i64 ((ks : Int) + (q : Int))] 27)) 29 (.int .i64 0) (.int .i64 0)
            simpa using this
          have hbw5 : Below w.heap.size w ((w3.alloc (.cells #[.slice v3o (ks + q) v3c, .int .i64 ((ks : Int) + (q : Int))] 27)).alloc (.cells #[.int .i64 0, .int .i64 0] 29)) := (hbw3.alloc hsz3 _).alloc (by simp; omega) _
          have hr5 := (hr3.alloc (.cells #[.slice v3o (ks + q) v3c, .int .i64 ((ks : Int) + (q : Int))] 27)).alloc (.cells #[.int .i64 0, .int .i64 0] 29)
          generalize (w3.alloc (.cells #[.slice v3o (ks + q) v3c, .int .i64 ((ks : Int) + (q : Int))] 27)).alloc (.cells #[.int .i64 0, .int .i64 0] 29) = w5 at *
          have hwz : w.heap.size ≤ w3.heap.size := hsz3
          have hsz5 := hbw5.size
          have hF4 := hF.facts.2.2.2.2
          clear hr3 hbw3 hsz3
          obtain ⟨e0, e1, e2, e3, e4⟩ := hE.facts
          generalize w3.heap.size = zE at *
          go_wp2_with fail
          refine (Recover_any _ (A.take (ks + q)) ((ks : Int) + (q : Int)) _ hr5).mono ?_
          rw [HRE.out]
          rintro e w6 ⟨vg, lg, rfl, hrg, hlg, hb6, hng⟩
          simp only [dsk, flt] at hrg hlg ⊢
          obtain ⟨vgo, vgc, hvg, _, hvgm⟩ := hrg.shape
          obtain ⟨lgo, lgc, hlgv, _, _⟩ := hlg.shape
          rw [bc_length] at hvg
          rw [HLK.out] at hlgv
          subst hvg hlgv
          have hF6 := (hF.below hb6).set (.int .i64 0) (.int .i64 0)
          have hF6' := hF.below hb6
          have hrg6 := (hrg.setNew hng (p := ⟨zE + 1, 0, none⟩) (by exact hF4) (.int .i64 0)).setNew hng (p := ⟨zE + 1, 1, none⟩) (by exact hF4) (.int .i64 0)
          have hlg6 := (hlg.set (p := ⟨zE + 1, 0, none⟩) (by exact hF4) (.int .i64 0)).set (p := ⟨zE + 1, 1, none⟩) (by exact hF4) (.int .i64 0)
          have hbw6 := ((hbw5.trans (hb6.mono hsz5)).setCell (p := ⟨zE + 1, 0, none⟩) (by simp only; omega) (.int .i64 0)).setCell (p := ⟨zE + 1, 1, none⟩) (by simp only; omega) (.int .i64 0)
          have hz6 := hb6.size
          obtain ⟨f0, f1, f2, f3, f4⟩ := hF6'.facts
          clear hb6 hrg hlg hbw5 hE hF e0 e1 e2 e3 e4 hF6'
          go_upto_region 26 with fail
          have hzs : ((w6.setCell ⟨zE + 1, 0, none⟩ (.int .i64 0)).setCell ⟨zE + 1, 1, none⟩ (.int .i64 0)).heap.size = w6.heap.size := by simp
          generalize (w6.setCell ⟨zE + 1, 0, none⟩ (.int .i64 0)).setCell ⟨zE + 1, 1, none⟩ (.int .i64 0) = w7 at *
          have hbC := below_alloc w7 (.cells #[.slice vgo G.length vgc, .int .i64 G.length] 27)
          have hG8 := Tb.new w7 27 (.slice vgo G.length vgc) (.int .i64 G.length)
          rw [hzs] at hG8
          have hF8 := hF6.below hbC
          have hr8 := hrg6.below hbC
          have hl8 := hlg6.below hbC
          have hbw8 := hbw6.trans (hbC.mono (by omega))
          clear hF6 hrg6 hlg6 hbw6 hbC f0 f1 f2 f3 f4
          generalize w7.alloc (.cells #[.slice vgo G.length vgc, .int .i64 G.length] 27) = w8 at *
          have hzz : zE + 1 < w6.heap.size := by omega
          clear hz6 hzs
          generalize w6.heap.size = zG at *
          obtain ⟨f0, f1, f2, f3, f4⟩ := hF8.facts
          obtain ⟨g0, g1, g2, g3, g4⟩ := hG8.facts
          have hs8 := run_slice_upto (P := Try.prog) Try.underlying22 (by kernel_rfl) Try.info25 ao l.length cap k (k : Int) rfl (by omega)
          have hV8 := (h1.below hbw8).upto (hi := k) hk1
          generalize Go.sliced ao 0 k cap 1 = V8 at hs8 hV8
          have hlk1 : ¬ (k : Int) < (s : Int) := by omega
          have hlk2 : ¬ (l.length : Int) < (k : Int) := by omega
          clear hcell h1
          go_wp2_with fail
          refine (SameBodies_any _ _ (l.take k) (l.take k) _ hl8.toB hV8).mono ?_
          rintro e w9 ⟨rfl, q9, rfl⟩
          have hF9 : Tb (w8.drewN q9) (zE + 1) _ _ _ := hF8
          have hG9 : Tb (w8.drewN q9) zG _ _ _ := hG8
          have hr9 := hr8.drewN q9
          have hl9 : RdBN (w8.drewN q9) _ _ _ := hl8
          have hbw9 := below_drewN hbw8 q9
          clear hF8 hG8 hr8 hl8 hbw8 f0 f1 f2 f3 f4 g0 g1 g2 g3 g4 hV8 hs8
          generalize w8.drewN q9 = w9 at *
          obtain ⟨f0, f1, f2, f3, f4⟩ := hF9.facts
          obtain ⟨g0, g1, g2, g3, g4⟩ := hG9.facts
          have hsz9 := hbw9.size
          go_wp2_with fail
          refine (Recover_any _ G G.length _ hr9).mono ?_
          rw [HRE2.out]
          rintro e wa ⟨vh, lh, rfl, hrh, hlh, hba, hnh⟩
          simp only [dsk, flt] at hrh hlh ⊢
          obtain ⟨vho, vhc, hvh, _, _⟩ := hrh.shape
          obtain ⟨lho, lhc, hlhv, _, _⟩ := hlh.shape
          rw [bc_length] at hvh
          rw [HLK.out] at hlhv
          subst hvh hlhv
          have hne : zG ≠ zE + 1 := by omega
          have hFa' := hF9.below hba
          have hFa := hFa'.set (.int .i64 0) (.int .i64 0)
          have hGa := ((hG9.below hba).far (p := ⟨zE + 1, 0, none⟩) (by exact hne) (.int .i64 0)).far (p := ⟨zE + 1, 1, none⟩) (by exact hne) (.int .i64 0)
          have hrga := ((hr9.below hba).setNew hng (p := ⟨zE + 1, 0, none⟩) (by exact hF4) (.int .i64 0)).setNew hng (p := ⟨zE + 1, 1, none⟩) (by exact hF4) (.int .i64 0)
          have hlga := ((hl9.below hba).set (p := ⟨zE + 1, 0, none⟩) (by exact hF4) (.int .i64 0)).set (p := ⟨zE + 1, 1, none⟩) (by exact hF4) (.int .i64 0)
          have hrha := (hrh.setNew hnh (p := ⟨zE + 1, 0, none⟩) (by exact f4) (.int .i64 0)).setNew hnh (p := ⟨zE + 1, 1, none⟩) (by exact f4) (.int .i64 0)
          have hlha := (hlh.set (p := ⟨zE + 1, 0, none⟩) (by exact f4) (.int .i64 0)).set (p := ⟨zE + 1, 1, none⟩) (by exact f4) (.int .i64 0)
          have hbwa := ((hbw9.trans (hba.mono hsz9)).setCell (p := ⟨zE + 1, 0, none⟩) (by simp only; omega) (.int .i64 0)).setCell (p := ⟨zE + 1, 1, none⟩) (by simp only; omega) (.int .i64 0)
          have hza := hba.size
          clear hF9 hG9 hr9 hl9 hbw9 f0 f1 f2 f3 g0 g1 g2 g3 hba hrh hlh
          obtain ⟨f0, f1, f2, f3, f5⟩ := hFa'.facts
          clear hFa'
          go_upto_region 29 with fail
          have hzs : ((wa.setCell ⟨zE + 1, 0, none⟩ (.int .i64 0)).setCell ⟨zE + 1, 1, none⟩ (.int .i64 0)).heap.size = wa.heap.size := by simp
          generalize (wa.setCell ⟨zE + 1, 0, none⟩ (.int .i64 0)).setCell ⟨zE + 1, 1, none⟩ (.int .i64 0) = wb at *
          have hbC := below_alloc wb (.cells #[.slice vho G.length vhc, .int .i64 G.length] 27)
          have hHb := Tb.new wb 27 (.slice vho G.length vhc) (.int .i64 G.length)
          rw [hzs] at hHb
          have hFb := hFa.below hbC
          have hGb := hGa.below hbC
          have hrgb := hrga.below hbC
          have hlgb := hlga.below hbC
          have hrhb := hrha.below hbC
          have hlhb := hlha.below hbC
          have hbwb := hbwa.trans (hbC.mono (by omega))
          clear hFa hGa hrga hlga hrha hlha hbwa hbC f0 f1 f2 f3 f4 f5 g4
          generalize wb.alloc (.cells #[.slice vho G.length vhc, .int .i64 G.length] 27) = wd at *
          clear hzs
          generalize wa.heap.size = zH at *
          obtain ⟨f0, f1, f2, f3, f4⟩ := hFb.facts
          obtain ⟨g0, g1, g2, g3, g4⟩ := hGb.facts
          obtain ⟨i0, i1, i2, i3, i4⟩ := hHb.facts
          have hszd := hbwb.size
          go_wp2_with fail
          refine (SameDisk_any _ _ G G G.length G.length _ hrhb hrgb).mono ?_
          rintro e we ⟨rfl, hbe⟩
          have hGe := hGb.below hbe
          have hlge := hlgb.below hbe
          have hlhe := hlhb.below hbe
          have hbwe := hbwb.trans (hbe.mono hszd)
          have hsb : (((G.length : Int) == (G.length : Int)) && G == G) = true := by simp
          clear hFb hGb hHb hrgb hlgb hrhb hlhb hbwb f0 f1 f2 f3 f4 g0 g1 g2 g3 g4 i0 i1 i2 i3 i4 hbe
          obtain ⟨g0, g1, g2, g3, g4⟩ := hGe.facts
          rw [hsb]
          go_wp2_with fail
          refine (SameBodies_any _ _ (l.take k) (l.take k) _ hlhe.toB hlge.toB).mono ?_
          rintro e wf ⟨rfl, qf, rfl⟩
          have hGf : Tb (we.drewN qf) zG _ _ _ := hGe
          have hbwf := below_drewN hbwe qf
          clear hGe hlge hlhe hbwe g0 g1 g2 g3 g4
          generalize we.drewN qf = wf at *
          obtain ⟨g0, g1, g2, g3, g4⟩ := hGf.facts
          have hsb2 : (l.take k == l.take k) = true := by simp
          rw [hsb2]
          go_wp2_with fail
          go_ret
          exact ⟨rfl, hbwf⟩

end Go.Proofs.Ytlebbkbbmgmmjab
