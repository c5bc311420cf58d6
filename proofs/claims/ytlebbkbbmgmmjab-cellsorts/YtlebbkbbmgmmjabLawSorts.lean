/-
  The walk over the law CellSorts.
-/
import Derived.Test.YtlebbkbbmgmmjabCellS7
namespace Go.Proofs.Ytlebbkbbmgmmjab
open Go.RowKit

theorem manyB_le {n : Int} (h : manyB n = false) : n ≤ 2000 := by
  unfold manyB at h
  simp at h
  omega

theorem Bk.setO2 {w : World} {B : Nat} {t : TypeId} {xs : Array Value} (h : Bk w B t xs) {p : Addr} (hne : B ≠ p.block) (u : Value) : Bk (w.setCell p u) B t xs := by
  unfold Bk
  rw [heap_setCell_other w p _ u hne]
  exact h

set_option maxRecDepth 100000 in
set_option maxHeartbeats 4000000 in
theorem cellSorts_any (v : Value) (cs : List Cl) (w : World) (hv : RdC w v cs) :
    Calls Try.prog 5 #[v] w fun e w' => e = .returned (.bool true) ∧ Below w.heap.size w w' := by
  obtain ⟨ao, cap, hvv, hc1, hc2⟩ := hv.shape
  subst hvv
  unfold maxLen at hc2
  go_enter Try.func5, Try.ntmps5
  go_wp2_with fail
  refine (cellBegun_any _).mono ?_
  rintro e w1 ⟨rfl, hb1⟩
  have hL1 := (Bk.new w 43 #[.slice ao cs.length cap]).below hb1 (by simp)
  have hbw1 : Below w.heap.size w w1 := (below_alloc' _ _).trans (hb1.mono (by simp))
  have hsL := hL1.lt
  clear hb1
  have l0 := hL1.cell 0
  simp at l0
  cases hmany : manyB cs.length
  case true =>
    go_wp2_with fail
    refine (many_any _ _).mono ?_
    rintro e w2 ⟨rfl, rfl⟩
    rw [hmany]
    go_wp2_with fail
    go_ret
    exact ⟨rfl, hbw1⟩
  have hl2 := manyB_le hmany
  have hl3 : cs.length ≤ 1000000 := by omega
  go_wp2_with fail
  refine (many_any _ _).mono ?_
  rintro e w2 ⟨rfl, rfl⟩
  rw [hmany]
  clear hmany
  go_wp2_with fail
  refine (ownCells_any _ cs _ (hv.below hbw1) hl3).mono ?_
  rintro e w3 ⟨vx, rfl, hx3, hb3, hn3⟩
  obtain ⟨xo, xcap, hvx, _, _⟩ := hx3.shape
  subst hvx
  go_wp2_with fail
  refine (CCheck_any _ cs _ hx3).mono ?_
  rintro e w4 ⟨rfl, hb4⟩
  generalize hCK : checkC cs = CK
  obtain ⟨kx, ky⟩ := CK
  have HCK := hide hCK
  clear hCK
  unfold fltC
  have hx4 := hx3.below hb4
  have hb24 : Below w2.heap.size w2 w4 := hb3.trans (hb4.mono hb3.size)
  clear hb3 hb4 hn3 hx3
  go_wp2_with fail
  have hC5 := Bk.new w4 29 #[.int .i64 kx, .int .i64 ky]
  refine (Sort_any _ cs _ (hx4.alloc _)).mono ?_
  rintro e w5 ⟨vs, out, rfl, hs5, hbad, hgood, hb5, hn5⟩
  have hC6 := hC5.below hb5 (by simp)
  have hx6 := (hx4.alloc _).below hb5
  have hb25 : Below w2.heap.size w2 w5 := hb24.trans (((below_alloc' w4 _).mono hb24.size).trans (hb5.mono (by have := hb24.size; simp; omega)))
  have HBAD := hide hbad
  have HGOOD := hide hgood
  generalize hSF : sortF cs = SF at hbad hgood ⊢
  have HSF := hide hSF
  clear hSF hbad hgood
  obtain ⟨sx, sy⟩ := SF
  unfold fltC
  obtain ⟨so, scap, hvs, _, _⟩ := hs5.shape
  subst hvs
  clear hb5 hn5 hC5 hx4
  have hz25 := hb25.size
  go_upto_region 8 with fail
  have hF7 := Bk.new w5 29 #[.int .i64 sx, .int .i64 sy]
  have hC7 := hC6.below (below_alloc' w5 (.cells #[.int .i64 sx, .int .i64 sy] 29)) hC6.lt
  have hx7 := hx6.alloc (.cells #[.int .i64 sx, .int .i64 sy] 29)
  have hs7 := hs5.alloc (.cells #[.int .i64 sx, .int .i64 sy] 29)
  have hb27 : Below w2.heap.size w2 (w5.alloc (.cells #[.int .i64 sx, .int .i64 sy] 29)) := hb25.alloc hz25 _
  have hzC := hC6.lt
  generalize w5.alloc (.cells #[.int .i64 sx, .int .i64 sy] 29) = w7 at hF7 hC7 hx7 hs7 hb27 ⊢
  have hlF := hF7.lt
  have hlC := hC7.lt
  generalize w5.heap.size = zF at hF7 hlF hzC ⊢
  generalize w4.heap.size = zC at hC7 hlC hzC ⊢
  clear hC6 hx6 hs5 hb25 hz25 hb24
  have hz27 := hb27.size
  have hbw7 : Below w.heap.size w w7 := hbw1.trans (hb27.mono (by omega))
  have hkeep : ∀ W, Below w7.heap.size w7 W → W.cell? ⟨w.heap.size, 0, none⟩ = some (.slice ao cs.length cap) ∧ W.cell? ⟨zC, 0, none⟩ = some (.int .i64 kx) ∧ W.cell? ⟨zC, 1, none⟩ = some (.int .i64 ky) := fun W h =>
    ⟨(hL1.below (hb27.trans (h.mono hz27)) hsL).cell 0, (hC7.below h hlC).cell 0, (hC7.below h hlC).cell 1⟩
  clear l0
  obtain ⟨l0, k0, k1⟩ := hkeep w7 (Below.refl _ _)
  have HKEEP := hide hkeep
  have hvall : ∀ W, Below w7.heap.size w7 W → RdC W (.slice ao cs.length cap) cs ∧ RdC W (.slice xo cs.length xcap) cs := fun W h => ⟨(hv.below hbw7).below h, hx7.below h⟩
  have HVALL := hide hvall
  clear hkeep hvall hx7
  have hq1 : (kx == kx) = true := by simp
  have hq2 : (ky == ky) = true := by simp
  go_region_held3 (fun W => W.cell? ⟨w.heap.size, 0, none⟩ = some (.slice ao cs.length cap) ∧ W.cell? ⟨zC, 0, none⟩ = some (.int .i64 kx) ∧ W.cell? ⟨zC, 1, none⟩ = some (.int .i64 ky)) (exact HKEEP.out _ (by go_grown)) (first
    | (go_at_call 25; refine (CellsFault_any _ cs _ (by exact (HVALL.out _ (by go_grown)).1)).mono ?_; rintro e w8 ⟨rfl, hb8⟩; rw [HCK.out]; unfold fltC; have hb78 : Below w7.heap.size w7 w8 := Below.trans (by go_grown) hb8; have hz78 := hb78.size)
    | (go_at_call 26; refine (SameCells_any _ _ cs _ (by exact (HVALL.out _ hb78).2) (by exact (HVALL.out _ hb78).1)).mono ?_; rintro e w9 ⟨rfl, hb9⟩; have hb79 : Below w7.heap.size w7 w9 := hb78.trans (hb9.mono hz78)))
  have hz79 := hb79.size
  have hF9 := hF7.below hb79 hlF
  have hs9 := hs7.below hb79
  have hb29 : Below w2.heap.size w2 w9 := hb27.trans (hb79.mono hz27)
  have hbw9 : Below w.heap.size w w9 := hbw7.trans (hb79.mono (by omega))
  have hlF9 := hF9.lt
  have hL9 := hL1.below hb29 hsL
  have hlL9 := hL9.lt
  clear l0 k0 k1 hF7 hs7
  have l0 := hL9.cell 0
  simp at l0
  have HF1 : Hid (¬ 1000 < cs.length → firstG (fun i => codeC (cs.getD i zeroC)) cs.length 0 = (sx, sy)) := hide (fun h => by rw [← HSF.out]; unfold sortF faultR; rw [if_neg h])
  have HF2 : Hid (1000 < cs.length → ((2 : Int), (0 : Int)) = (sx, sy)) := hide (fun h => by rw [← HSF.out]; unfold sortF faultR; rw [if_pos h])
  go_upto_if 36 with fail
  have hWA := Bk.new w9 29 #[.int .i64 0, .int .i64 0]
  have hbA := below_alloc' w9 (.cells #[.int .i64 0, .int .i64 0] 29)
  generalize w9.alloc (.cells #[.int .i64 0, .int .i64 0] 29) = wA at hWA hbA ⊢
  have hlW := hWA.lt
  go_cut [] (fun wx => ∃ x y : Int, Bk wx w9.heap.size 29 #[.int .i64 x, .int .i64 y] ∧ Below w9.heap.size w9 wx ∧ ((x = 0 ∧ y = 0 ∧ firstG (fun i => codeC (cs.getD i zeroC)) cs.length 0 = (sx, sy)) ∨ (x ≠ 0 ∧ (x, y) = (sx, sy))))
  case first =>
    as_aux_lemma =>
      by_cases hbig : 1000 < cs.length
      · go_wp2_with fail
        refine (FC_any 2 0 _).mono ?_
        rintro e w10 ⟨rfl, hb10⟩
        have hW10 := hWA.below hb10 hlW
        have hb910 : Below w9.heap.size w9 w10 := hbA.trans (hb10.mono (by omega))
        have u0 := hW10.cell 0
        have u1 := hW10.cell 1
        have u2 := hW10.frozen 0
        have u3 := hW10.frozen 1
        have hlW10 := hW10.lt
        simp at u0 u1
        unfold fltC
        go_wp2_with fail
        go_meet
        case rel => exact ⟨2, 0, (hW10.set 0 _).set 1 _, (hb910.setCell (by simp) _).setCell (by simp) _, .inr ⟨by decide, HF2.out hbig⟩⟩
      · go_wp2_with fail
        go_meet
        case rel => exact ⟨0, 0, hWA, hbA, .inl ⟨rfl, rfl, HF1.out hbig⟩⟩
  case rest =>
    as_aux_lemma =>
      obtain ⟨x0, y0, hW0, hb0, hst0⟩ := hcut
      have HST0 := hide hst0
      clear hst0
      go_wp2_with fail
      go_loopw [8] (fun i wr => ∃ (k : Nat) (x y : Int), k ≤ cs.length ∧ i = .int .i64 k ∧ Bk wr w9.heap.size 29 #[.int .i64 x, .int .i64 y] ∧ Below w9.heap.size w9 wr ∧ ((x = 0 ∧ y = 0 ∧ firstG (fun i => codeC (cs.getD i zeroC)) (cs.length - k) k = (sx, sy)) ∨ (x ≠ 0 ∧ (x, y) = (sx, sy))))
        (fun i _ => cs.length - (intOf i).toNat)
      case atStart => exact ⟨0, x0, y0, by omega, rfl, hW0, hb0, HST0.out⟩
      case round =>
        obtain ⟨k, x, y, hk, rfl, hW, hbr, hst⟩ := hrel
        have hlW2 := hW.lt
        have hzr := hbr.size
        have hbwr : Below w.heap.size w wr := hbw9.trans (hbr.mono (by omega))
        have u0 := hW.cell 0
        have u1 := hW.cell 1
        have u2 := hW.frozen 0
        have u3 := hW.frozen 1
        simp at u0 u1
        have l1 := (hL9.below hbr hlL9).cell 0
        simp at l1
        have hk1 : (0 : Int) ≤ (k : Int) := by omega
        by_cases hgo : k < cs.length ∧ x = 0
        · obtain ⟨hlt, rfl⟩ := hgo
          have hst1 : y = 0 ∧ firstG (fun i => codeC (cs.getD i zeroC)) (cs.length - k) k = (sx, sy) := by
            rcases hst with ⟨_, h1, h2⟩ | ⟨h1, _⟩
            · exact ⟨h1, h2⟩
            · exact absurd rfl h1
          obtain ⟨rfl, hfg⟩ := hst1
          obtain ⟨c, hc⟩ : ∃ c, cs[k]? = some c := ⟨_, List.getElem?_eq_getElem hlt⟩
          have hcD : cs.getD k zeroC = c := by simp [List.getD_eq_getElem?_getD, hc]
          obtain ⟨b, off, rfl, _, hck⟩ := hv.hereD hc
          have HCK := hide hck
          obtain ⟨c0, c1, c2, c3, c4⟩ := hck.below hbwr
          have hk2 : (k : Int) < (cs.length : Int) := by omega
          have hd1 : decide ((k : Int) < (cs.length : Int)) = true := by simp; omega
          have hd2 : decide (k < cs.length) = true := by simp; omega
          have HFG := hide hfg
          have HCD := hide hcD
          clear hst hfg hcD hc hck
          go_wp2_with fail
          refine (CellCode_any c _).mono ?_
          rintro e w10 ⟨rfl, hb10⟩
          have hW10 := hW.below hb10 hlW2
          have hb910 : Below w9.heap.size w9 w10 := hbr.trans (hb10.mono (by omega))
          have hbw10 : Below w.heap.size w w10 := hbw9.trans (hb910.mono (by omega))
          have hz10 := hb910.size
          clear c0 c1 c2 c3 c4 u0 u1 u2 u3 l1 hb10
          obtain ⟨c0, c1, c2, c3, c4⟩ := HCK.out.below hbw10
          have l1 := (hL9.below hb910 hlL9).cell 0
          simp at l1
          have hlW10 := hW10.lt
          by_cases h0 : codeC c = 0
          · have HN := hide (firstG_next (f := fun i => codeC (cs.getD i zeroC)) (m := cs.length - k) (i := k) (by rw [HCD.out]; exact h0) (by omega))
            rw [h0]
            go_wp2_with fail
            go_roundw
            case rel => exact ⟨k + 1, 0, 0, by omega, by go_num, hW10, hb910, .inl ⟨rfl, rfl, by rw [← HFG.out, HN.out]; congr 1⟩⟩
            case measure => simp [intOf]; omega
          · have hcb : (codeC c != 0) = true := by simp [h0]
            have HN := hide (firstG_hit (f := fun i => codeC (cs.getD i zeroC)) (m := cs.length - k) (i := k) (by rw [HCD.out]; exact h0) (by omega))
            have HH0 := hide h0
            clear h0
            go_wp2_with fail
            refine (CellCode_any c _).mono ?_
            rintro e w11 ⟨rfl, hb11⟩
            have hW11 := hW10.below hb11 hlW10
            have hb911 : Below w9.heap.size w9 w11 := hb910.trans (hb11.mono (by omega))
            have hlW11 := hW11.lt
            go_wp2_with fail
            refine (FC_any _ k _).mono ?_
            rintro e w12 ⟨rfl, hb12⟩
            have hW12 := hW11.below hb12 hlW11
            have hb912 : Below w9.heap.size w9 w12 := hb911.trans (hb12.mono (by have := hb911.size; omega))
            have u0 := hW12.cell 0
            have u1 := hW12.cell 1
            have u2 := hW12.frozen 0
            have u3 := hW12.frozen 1
            have hlW12 := hW12.lt
            simp at u0 u1
            unfold fltC
            go_wp2_with fail
            go_roundw
            case rel => exact ⟨k + 1, codeC c, k, by omega, by go_num, (hW12.set 0 _).set 1 _, (hb912.setCell (by simp) _).setCell (by simp) _, .inr ⟨HH0.out, by rw [← HFG.out, HN.out, HCD.out]⟩⟩
            case measure => simp [intOf]; omega
        · have hxy : (x, y) = (sx, sy) := by
            rcases hst with ⟨h1, h2, h3⟩ | ⟨_, h2⟩
            · have hz : cs.length - k = 0 := by omega
              rw [hz] at h3
              rw [h1, h2, ← h3]
              rfl
            · exact h2
          simp only [Prod.mk.injEq] at hxy
          obtain ⟨rfl, rfl⟩ := hxy
          clear hst
          have hex : (¬ k < cs.length) ∨ (k < cs.length ∧ x ≠ 0) := by omega
          have f0 := (hF9.below hbr hlF9).cell 0
          have f1 := (hF9.below hbr hlF9).cell 1
          simp at f0 f1
          have hsr := hs9.below hbr
          have hbad : x ≠ 0 → out = [] := fun h => HBAD.out (by rw [HSF.out]; exact h)
          have hcl : x = 0 → ∀ W, Below wr.heap.size wr W → Calls Try.prog 29 #[.pointer (some ⟨w.heap.size, 0, none⟩)] W fun e w' => ∃ v', e = .returned v' ∧ RdC w' v' out ∧ Below W.heap.size W w' := by
            intro h0 W hW
            have h1 : (sortF cs).1 = 0 := by rw [HSF.out]; exact h0
            have hb9W : Below w9.heap.size w9 W := hbr.trans (hW.mono (by omega))
            exact Sorts1_any _ _ cs out W ((hL9.below hb9W hlL9).cell 0) ((hv.below hbwr).below hW) (faultR_fine (show (faultR (fun i => codeC (cs.getD i zeroC)) cs.length).1 = 0 from h1)).1 (HGOOD.out h1)
          have HB := hide hbad
          have HC := hide hcl
          clear hbad hcl
          by_cases hx0 : x = 0
          · subst hx0
            have hkn : ¬ k < cs.length := by omega
            have hd1 : decide ((k : Int) < (cs.length : Int)) = false := by simp; omega
            have hd2 : decide (k < cs.length) = false := by simp; omega
            clear hex
            by_cases hlen : 150 < cs.length
            · go_wp2_with fail
              go_ret
              exact ⟨by simp, hbwr⟩
            · have hd3 : decide (150 < (cs.length : Int)) = false := by simp; omega
              have hd4 : decide (150 < cs.length) = false := by simp; omega
              go_wp2_with fail
              refine (cellsAsS_true _ _ out 0 y _ hsr (fun h => absurd rfl h) (fun _ => by first | exact HC.out rfl | exact HC.out trivial)).mono ?_
              rintro e w10 ⟨rfl, hb10⟩
              go_wp2_with fail
              go_ret
              exact ⟨rfl, hbwr.trans (hb10.mono hbwr.size)⟩
          · have hxb : (x == 0) = false := by simp [hx0]
            have hxb2 : (x != 0) = true := by simp [hx0]
            have HX0 := hide hx0
            clear hx0
            by_cases hkn : k < cs.length
            · have hd1 : decide ((k : Int) < (cs.length : Int)) = true := by simp; omega
              have hd2 : decide (k < cs.length) = true := by simp; omega
              clear hex
              go_wp2_with fail
              refine (cellsAsS_true _ _ out x y _ hsr HB.out HC.out).mono ?_
              rintro e w10 ⟨rfl, hb10⟩
              go_wp2_with fail
              go_ret
              exact ⟨rfl, hbwr.trans (hb10.mono hbwr.size)⟩
            · have hd1 : decide ((k : Int) < (cs.length : Int)) = false := by simp; omega
              have hd2 : decide (k < cs.length) = false := by simp; omega
              clear hex
              go_wp2_with fail
              refine (cellsAsS_true _ _ out x y _ hsr HB.out HC.out).mono ?_
              rintro e w10 ⟨rfl, hb10⟩
              go_wp2_with fail
              go_ret
              exact ⟨rfl, hbwr.trans (hb10.mono hbwr.size)⟩

end Go.Proofs.Ytlebbkbbmgmmjab
