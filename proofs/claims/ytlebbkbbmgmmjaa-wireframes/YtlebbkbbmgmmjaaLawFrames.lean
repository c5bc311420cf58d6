/-
  The law WireFrames: its walk.
-/
import Derived.Test.YtlebbkbbmgmmjaaLawFrames1
namespace Go.Proofs.Ytlebbkbbmgmmjaa
open Go.RowKit

theorem flatF_length : ∀ (l : List (List UInt8)), (flatF l).length = lsum l + 6 * l.length
  | [] => rfl
  | b :: l => by
    rw [flatF_cons, List.length_append, framed_length, flatF_length l]
    simp only [lsum, List.length_cons]
    omega

theorem openR_big {bs : List UInt8} (h : 60000 < bs.length) : openR bs = ([], 0, 8) := by rw [openR, if_pos h]
theorem openR_un {bs : List UInt8} (h : ¬ 60000 < bs.length) : openR bs = if 1000 < (unGo (bs.length + 1) bs [] 0).1.length then ([], 0, 2) else ((unGo (bs.length + 1) bs [] 0).1, ((unGo (bs.length + 1) bs [] 0).2 : Int), 0) := by
  rw [openR, if_neg h]
  exact open_un _ _ _ _ (Nat.le_refl _) (by simp)

theorem RdBN.below {w w' : World} {B : Nat} {v : Value} {bb : List (List UInt8)} (h : RdBN w B v bb) (hb : Below w.heap.size w w') : RdBN w' B v bb := by
  obtain ⟨vs, h1, hn, h2, h3⟩ := h
  exact ⟨vs, h1.below hb, hn, h2, fun i u b hu hb' => ⟨(h3 i u b hu hb').1.below hb, (h3 i u b hu hb').2⟩⟩

set_option maxRecDepth 100000 in
set_option maxHeartbeats 2000000 in
theorem wireFrames_any (u x : Value) (l : List (List UInt8)) (bs : List UInt8) (w : World) (h1 : RdB w u l) (h2 : Rd w x (bc bs)) (hss : ∀ s ∈ l, s.length ≤ 140737488351232) :
    Calls Try.prog 5 #[u, x] w fun e w' => e = .returned (.bool true) ∧ Below w.heap.size w w' := by
  obtain ⟨ao, cap, hu, hc1, hc2, hcell⟩ := h1.open
  obtain ⟨bo, cbp, hx, hd1, hd2, _⟩ := h2.open
  rw [bc_length] at hd1 hx
  subst hu hx
  unfold maxLen at hc2 hd2
  have HSS := hide hss
  clear hss
  go_enter Try.func5, Try.ntmps5
  go_wp2_with fail
  refine (wireBegun_any _).mono ?_
  rintro e w1 ⟨rfl, hb1⟩
  have hLB : w1.cell? ⟨w.heap.size, 0, none⟩ = some (.slice ao l.length cap) := cell_below (by simp) hb1
  have hbw1 : Below w.heap.size w w1 := ((Below.refl _ _).alloc (Nat.le_refl _) _).trans (hb1.mono (by simp))
  have hsz1 := hb1.size
  simp only [World.size_alloc] at hsz1
  by_cases hg1 : 3000 < l.length
  · go_wp2_with fail
    go_ret
    exact ⟨rfl, hbw1⟩
  by_cases hg2 : 100000 < bs.length
  · go_wp2_with fail
    go_ret
    exact ⟨rfl, hbw1⟩
  go_wp2_with fail
  go_loop [5, 6] (fun n i => ∃ k : Nat, k ≤ l.length ∧ i = .int .i64 k ∧ n = .int .i64 ((flatF (l.take k)).length : Nat) ∧ (flatF (l.take k)).length ≤ k * 140737488351238) (fun _ i => l.length - (intOf i).toNat)
  case atStart => exact ⟨0, by omega, rfl, rfl, by simp [flatF]⟩
  case round =>
    obtain ⟨k, hk, rfl, rfl, hls⟩ := hrel
    by_cases hlt : k < l.length
    · obtain ⟨b, off, y, rfl, hb, hck, hry⟩ := hcell k hlt
      have hck1 : w1.cell? ⟨b, off + k, none⟩ = some y := cell_below hck hbw1
      have hs0 := HSS.out l[k] (List.getElem_mem hlt)
      have hsl := congrArg List.length (flatF_snoc l k hlt)
      rw [List.length_append, framed_length] at hsl
      obtain ⟨yo, ycap, hy, _, _, _⟩ := hry.open
      rw [bc_length] at hy
      subst hy
      clear hcell hck hry
      generalize l[k].length = z at *
      generalize (flatF (l.take k)).length = n0 at *
      have HS := hide hsl
      clear hsl
      have hL : (n0 : Int) ≤ 422212465053714000 := by omega
      go_wp2_with fail
      go_round
      case rel => exact ⟨k + 1, by omega, by go_num, by rw [HS.out]; go_num, by rw [HS.out]; omega⟩
      case measure => simp [intOf]; omega
    · obtain rfl : k = l.length := by omega
      rw [List.take_length] at hls ⊢
      by_cases hsm : 200000 < (flatF l).length
      · go_wp2_with fail
        go_ret
        exact ⟨rfl, hbw1⟩
      have hsm' : (flatF l).length ≤ 200000 := by omega
      have hbl : bs.length ≤ 1000000000 := by omega
      clear hcell
      go_wp2_with fail
      refine (ownBytes_any _ bs _ (h2.below hbw1) hbl).mono ?_
      rintro e w2 ⟨v2, rfl, hr2, hb2, _⟩
      go_wp2_with fail
      refine (Sum_any _ bs _ hr2).mono ?_
      rintro e w3 ⟨rfl, hb3⟩
      have hb13 : Below w1.heap.size w1 w3 := hb2.trans (hb3.mono hb2.size)
      generalize hSC : (if 60000 < bs.length then (8 : Int) else 0) = sc1
      generalize hSS : (if 60000 < bs.length then (0 : Int) else ((crc bs : Nat) : Int)) = ss1
      have HSC := hide hSC
      have HSS1 := hide hSS
      clear hSC hSS hr2 hb2 hb3
      simp only [flt]
      have hF3 := Fb.new w3 sc1 0
      have hb13' : Below w1.heap.size w1 (w3.alloc (.cells #[.int .i64 sc1, .int .i64 0] 26)) := hb13.alloc hb13.size _
      have hbw3 := hbw1.trans (hb13'.mono (by omega))
      have hLB3 := cell_below hLB hb13'
      have hz3 : ∀ s ∈ l, s.length ≤ 1000000 := fun s hs => by have := flatF_mem hs; omega
      go_wp2_with fail
      refine (ownBodies_any _ l _ (h1.below hbw3) (by omega) hz3).mono ?_
      rintro e w4 ⟨v4, rfl, hr4, hb4⟩
      go_wp2_with fail
      refine (Frames_any _ l _ hr4 HSS.out).mono ?_
      rintro e w5 ⟨v5, rfl, hr5, hb5, _⟩
      have hb35 := hb4.trans (hb5.mono hb4.size)
      generalize hN : framesR l = N at hr5 ⊢
      obtain ⟨nb, nc, na⟩ := N
      have HN := hide hN
      clear hN hr4 hb4 hb5
      simp only [flt] at hr5 ⊢
      have hF35 := hF3.below hb35
      have hF5 := Fb.new w5 nc na
      have hb15' : Below w1.heap.size w1 (w5.alloc (.cells #[.int .i64 nc, .int .i64 na] 26)) := (hb13'.trans (hb35.mono hb13'.size)).alloc (hb13'.trans (hb35.mono hb13'.size)).size _
      have hF35' := hF35.below ((Below.refl _ _).alloc (Nat.le_refl _) (.cells #[.int .i64 nc, .int .i64 na] 26))
      have hr5' := hr5.alloc (.cells #[.int .i64 nc, .int .i64 na] 26)
      have hbw5 := hbw1.trans (hb15'.mono (by omega))
      clear hF3 hb13 hb13' hbw3 hb35 hF35 hr5 hLB3
      have hLB5 := cell_below hLB hb15'
      go_wp2_with fail
      refine (ownBytes_any _ bs _ (h2.below hbw5) hbl).mono ?_
      rintro e w6 ⟨v6, rfl, hr6, hb6, _⟩
      go_wp2_with fail
      refine (Open_any _ bs _ hr6).mono ?_
      rintro e w7 ⟨v7, rfl, hr7, hb7⟩
      have hb57 := hb6.trans (hb7.mono hb6.size)
      generalize hM : openR bs = M at hr7 ⊢
      obtain ⟨ob, ok, oc⟩ := M
      have HM := hide hM
      clear hM hr6 hb6 hb7
      simp only [flt] at hr7 ⊢
      have hbA : Below w7.heap.size w7 (w7.alloc (.cells #[.int .i64 oc, .int .i64 0] 26)) := (Below.refl _ _).alloc (Nat.le_refl _) _
      have hF1 := (hF35'.below hb57).below hbA
      have hF2 := (hF5.below hb57).below hbA
      have hF3 := Fb.new w7 oc 0
      have hbwA := (hbw5.trans (hb57.mono hbw5.size)).trans (hbA.mono (hbw5.trans (hb57.mono hbw5.size)).size)
      have hX := (hr5'.below hb57).below hbA
      have hY := hr7.toB.below hbA
      have hL := cell_below hLB ((hb15'.trans (hb57.mono hb15'.size)).trans (hbA.mono (hb15'.trans (hb57.mono hb15'.size)).size))
      have hBB := h2.below hbwA
      have hLL := h1.below hbwA
      clear hF35' hF5 hb15' hr5' hbw5 hb57 hr7 hLB hLB5 hbA hbw1 hb1 hsz1
      go_upto_if 65 with fail
      have hSA : (w7.alloc (.cells #[.int .i64 oc, .int .i64 0] 26)).heap.size = w7.heap.size + 1 := by simp
      generalize w7.alloc (.cells #[.int .i64 oc, .int .i64 0] 26) = wA at *
      have hB0 := Fb.new wA 0 0
      have hbB : Below wA.heap.size wA (wA.alloc (.cells #[.int .i64 0, .int .i64 0] 26)) := (Below.refl _ _).alloc (Nat.le_refl _) _
      rw [hSA] at hB0
      generalize wA.alloc (.cells #[.int .i64 0, .int .i64 0] 26) = wB at *
      have hAle : wA.heap.size ≤ w7.heap.size + 1 := by omega
      go_cut [] (fun wc => Below wA.heap.size wA wc ∧ Fb wc (w7.heap.size + 1) sc1 0)
      case first =>
        obtain ⟨b0, b1, f0, f1, bs0⟩ := hB0.facts
        by_cases hbig : 60000 < bs.length
        · have e1 := HSC.out
          rw [if_pos hbig] at e1
          subst e1
          go_wp2_with fail
          refine (F_any 8 0 _).mono ?_
          rintro e w8 ⟨rfl, rfl⟩
          simp only [flt]
          go_wp2_with fail
          go_meet
          case rel =>
            have hbb := (hbB.setCell (p := ⟨w7.heap.size + 1, 0, none⟩) hAle (.int .i64 8)).setCell (p := ⟨w7.heap.size + 1, 1, none⟩) hAle (.int .i64 0)
            exact ⟨hbb.alloc hbb.size _, hB0.set_alloc 8 0 _⟩
        · have e1 := HSC.out
          rw [if_neg hbig] at e1
          subst e1
          go_wp2_with fail
          go_meet
          case rel => exact ⟨hbB, hB0⟩
      case rest =>
        clear hB0 hbB
        obtain ⟨hbC, hWC⟩ := hcut
        rename World => wC
        obtain ⟨b0, b1, f0, f1, bs0⟩ := hWC.facts
        obtain ⟨x0, x1, _, _, xs0⟩ := (hF1.below hbC).facts
        have hBC := hBB.below hbC
        have hRS := RefRest_any _ bs wC hBC
        go_upto_region 18 with fail
        go_cut [89] (fun s wc => s = .bool false ∧ wc = wC)
        case first =>
          by_cases hbig : 60000 < bs.length
          · have e1 := HSC.out
            have e2 := HSS1.out
            rw [if_pos hbig] at e1 e2
            subst e1 e2
            go_wp2_with fail
            go_meet
            case rel => exact ⟨rfl, rfl⟩
          · have e1 := HSC.out
            have e2 := HSS1.out
            rw [if_neg hbig] at e1 e2
            subst e1 e2
            go_wp2_with (go_at_call 30; go_must (refine hRS.mono ?_; rintro e w8 ⟨rfl, rfl⟩))
            go_meet
            case rel => exact ⟨rfl, rfl⟩
        case rest =>
          obtain ⟨rfl, rfl⟩ := hcut
          go_upto_if 92 with fail
          go_cut [15, 16] (fun a b wc => b = .int .i64 ok ∧ RdB wc a ob ∧ Below wA.heap.size wA wc ∧ Fb wc (w7.heap.size + 1) oc 0)
          case first =>
            by_cases hbig : 60000 < bs.length
            · have e1 := HSC.out
              have e3 := HM.out
              rw [if_pos hbig] at e1
              rw [openR_big hbig] at e3
              simp only [Prod.mk.injEq] at e3
              obtain ⟨rfl, rfl, rfl⟩ := e3
              subst e1
              go_wp2_with fail
              go_meet
              case rel => exact ⟨rfl, RdB.nil _, hbC, hWC⟩
            · have e1 := HSC.out
              have e3 := HM.out
              rw [if_neg hbig] at e1
              rw [openR_un hbig] at e3
              subst e1
              go_wp2_with fail
              refine (Unframed_any _ bs _ hBC (by omega)).mono ?_
              rintro e w8 ⟨v8, rfl, hr8, hb8⟩
              generalize unGo (bs.length + 1) bs [] 0 = UG at *
              obtain ⟨ub, uk⟩ := UG
              simp only at hr8 e3 ⊢
              have hb8' := hbC.trans (hb8.mono hbC.size)
              have hW8 := hWC.below hb8
              clear b0 b1 f0 f1
              obtain ⟨b0, b1, f0, f1, bs8⟩ := hW8.facts
              obtain ⟨yo, ycap, hy, hy1, hy2, _⟩ := hr8.toB.open
              subst hy
              unfold maxLen at hy2
              by_cases hmany : 1000 < ub.length
              · rw [if_pos hmany] at e3
                simp only [Prod.mk.injEq] at e3
                obtain ⟨rfl, rfl, rfl⟩ := e3
                go_wp2_with fail
                refine (F_any 2 0 _).mono ?_
                rintro e w9 ⟨rfl, rfl⟩
                simp only [flt]
                go_wp2_with fail
                go_meet
                case rel =>
                  have hbb := (hb8'.setCell (p := ⟨w7.heap.size + 1, 0, none⟩) hAle (.int .i64 2)).setCell (p := ⟨w7.heap.size + 1, 1, none⟩) hAle (.int .i64 0)
                  exact ⟨rfl, RdB.nil _, hbb.alloc hbb.size _, hW8.set_alloc 2 0 _⟩
              · rw [if_neg hmany] at e3
                simp only [Prod.mk.injEq] at e3
                obtain ⟨rfl, rfl, rfl⟩ := e3
                go_wp2_with fail
                go_meet
                case rel => exact ⟨rfl, hr8.toB, hb8', hW8⟩
          case rest =>
            clear hbC hWC b0 b1 f0 f1 bs0 x0 x1 xs0 hBC hRS
            obtain ⟨rfl, hZ, hbD, hWD⟩ := hcut
            rename World => wD
            obtain ⟨b0, b1, f0, f1, bs0⟩ := hWD.facts
            obtain ⟨x0, x1, _, _, xs0⟩ := (hF3.below hbD).facts
            have hYD := hY.below hbD
            go_upto_region 29 with (go_at_call 32; go_must (refine (SameBodies_any _ _ ob ob _ hYD hZ).mono ?_; rintro e w9 ⟨rfl, q9, rfl⟩; rw [beq_self_eq_true]))
            have hWE : Fb (wD.drewN q9) (w7.heap.size + 1) oc 0 := hWD
            have hbE : Below wA.heap.size wA (wD.drewN q9) := below_drewN hbD q9
            clear hZ hYD hWD hbD x0 x1 xs0 b0 b1 f0 f1 bs0
            generalize wD.drewN q9 = wE at *
            obtain ⟨b0, b1, f0, f1, bs0⟩ := hWE.facts
            go_upto_region 30 with fail
            have hWF := hWE.set 0 0
            have hbF := (hbE.setCell (p := ⟨w7.heap.size + 1, 0, none⟩) hAle (.int .i64 0)).setCell (p := ⟨w7.heap.size + 1, 1, none⟩) hAle (.int .i64 0)
            generalize (wE.setCell ⟨w7.heap.size + 1, 0, none⟩ (.int .i64 0)).setCell ⟨w7.heap.size + 1, 1, none⟩ (.int .i64 0) = wF at *
            clear hWE hbE b0 b1 f0 f1 bs0
            obtain ⟨b0, b1, f0, f1, bs0⟩ := hWF.facts
            have hLF := cell_below hL hbF
            go_upto_if 119 with fail
            go_cut [] (fun wc => Below wA.heap.size wA wc ∧ Fb wc (w7.heap.size + 1) nc na)
            case first =>
              by_cases hbig : 1000 < l.length
              · have heq := HN.out
                rw [framesR_big hbig] at heq
                simp only [Prod.mk.injEq] at heq
                obtain ⟨rfl, rfl, rfl⟩ := heq
                go_wp2_with fail
                refine (F_any 2 0 _).mono ?_
                rintro e w9 ⟨rfl, rfl⟩
                simp only [flt]
                go_wp2_with fail
                go_meet
                case rel =>
                  have hbb := (hbF.setCell (p := ⟨w7.heap.size + 1, 0, none⟩) hAle (.int .i64 2)).setCell (p := ⟨w7.heap.size + 1, 1, none⟩) hAle (.int .i64 0)
                  exact ⟨hbb.alloc hbb.size _, hWF.set_alloc 2 0 _⟩
              · by_cases hmu : 60000 < (flatF l).length
                · have heq := HN.out
                  rw [framesR_much hbig hmu] at heq
                  simp only [Prod.mk.injEq] at heq
                  obtain ⟨rfl, rfl, rfl⟩ := heq
                  go_wp2_with fail
                  refine (F_any 9 0 _).mono ?_
                  rintro e w9 ⟨rfl, rfl⟩
                  simp only [flt]
                  go_wp2_with fail
                  go_meet
                  case rel =>
                    have hbb := (hbF.setCell (p := ⟨w7.heap.size + 1, 0, none⟩) hAle (.int .i64 9)).setCell (p := ⟨w7.heap.size + 1, 1, none⟩) hAle (.int .i64 0)
                    exact ⟨hbb.alloc hbb.size _, hWF.set_alloc 9 0 _⟩
                · have heq := HN.out
                  rw [framesR_ok hbig hmu] at heq
                  simp only [Prod.mk.injEq] at heq
                  obtain ⟨rfl, rfl, rfl⟩ := heq
                  go_wp2_with fail
                  go_meet
                  case rel => exact ⟨hbF, hWF⟩
            case rest =>
              clear hbF hWF b0 b1 f0 f1 bs0 hLF
              obtain ⟨hbG, hWG⟩ := hcut
              rename World => wG
              obtain ⟨b0, b1, f0, f1, bs0⟩ := hWG.facts
              obtain ⟨x0, x1, _, _, xs0⟩ := (hF2.below hbG).facts
              have hXG := hX.below hbG
              have hLG := cell_below hL hbG
              have hLLG := hLL.below hbG
              have hbwG : Below w.heap.size w wG := hbwA.trans (hbG.mono hbwA.size)
              by_cases hnc : nc = 0
              · have heq := HN.out
                obtain ⟨hl1, hl2, hz⟩ := framesR_zero (l := l) (by rw [heq]; exact hnc)
                rw [hz] at heq
                simp only [Prod.mk.injEq] at heq
                obtain ⟨rfl, rfl, rfl⟩ := heq
                go_wp2_with fail
                refine (bytesAs32_ok w.heap.size _ v5 l (flatF l) wG hLG hLLG hl1 hl2 hXG).mono ?_
                rintro e w10 ⟨rfl, hb10⟩
                rw [beq_self_eq_true]
                go_wp2_with fail
                go_ret
                exact ⟨rfl, hbwG.trans (hb10.mono hbwG.size)⟩
              · have hnb : nb = [] := by
                  have h0 := HN.out
                  by_cases hbig : 1000 < l.length
                  · rw [framesR_big hbig] at h0; simp only [Prod.mk.injEq] at h0; exact h0.1.symm
                  · by_cases hmu : 60000 < (flatF l).length
                    · rw [framesR_much hbig hmu] at h0; simp only [Prod.mk.injEq] at h0; exact h0.1.symm
                    · rw [framesR_ok hbig hmu] at h0; simp only [Prod.mk.injEq] at h0; omega
                subst hnb
                have HNC := hide hnc
                clear hnc
                go_wp2_with fail
                refine (bytesAs_bad v5 _ nc na wG HNC.out hXG).mono ?_
                rintro e w10 ⟨rfl, hb10⟩
                go_wp2_with fail
                go_ret
                exact ⟨rfl, hbwG.trans (hb10.mono hbwG.size)⟩

end Go.Proofs.Ytlebbkbbmgmmjaa
