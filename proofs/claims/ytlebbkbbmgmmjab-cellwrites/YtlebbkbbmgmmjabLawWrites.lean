/-
  The walk over the law CellWrites.
-/
import Derived.Test.YtlebbkbbmgmmjabCellW9
import Derived.Test.YtlebbkbbmgmmjabCellR8
import Derived.Deep.RegionLaw
namespace Go.Proofs.Ytlebbkbbmgmmjab
open Go.RowKit

theorem manyB_leW {n : Int} (h : manyB n = false) : n ≤ 2000 := by
  unfold manyB at h
  simp at h
  omega

set_option maxRecDepth 100000 in
set_option maxHeartbeats 400000 in
theorem CellWrites1_any (L : Nat) (ao : Option Addr) (n c : Nat) (w : World) (hc : w.cell? ⟨L, 0, none⟩ = some (.slice ao n c)) :
    Calls Try.prog 42 #[.pointer (some ⟨L, 0, none⟩)] w fun e w' => e = .returned (.slice ao n c) ∧ w' = w := by
  go_enter Try.func42, Try.ntmps42
  go_wp2_with fail
  go_ret
  exact ⟨rfl, rfl⟩

set_option maxRecDepth 100000 in
set_option maxHeartbeats 400000 in
theorem bytesAsW_ok (L : Nat) (ao : Option Addr) (n c : Nat) (x : Value) (bs : List UInt8) (w : World) (hc : w.cell? ⟨L, 0, none⟩ = some (.slice ao n c)) (hr : Rd w (.slice ao n c) (bc bs)) (hx : Rd w x (bc bs)) :
    Calls Try.prog 41 #[x, flt 0 0, flt 0 0, .func (.func 42) #[] #[.pointer (some ⟨L, 0, none⟩)]] w fun e w' => e = .returned (.bool true) ∧ Below w.heap.size w w' := by
  simp only [flt]
  go_enter Try.func41, Try.ntmps41
  go_wp2_with fail
  refine (CellWrites1_any L ao n c _ ?_).mono ?_
  · exact cell_below hc (((Below.refl _ _).alloc (Nat.le_refl _) _).alloc (by simp) _)
  rintro e w1 ⟨rfl, rfl⟩
  go_wp2_with fail
  refine (Same_any _ _ bs bs _ ((hx.alloc _).alloc _) ((hr.alloc _).alloc _)).mono ?_
  rintro e w2 ⟨rfl, rfl⟩
  go_wp2_with fail
  go_ret
  exact ⟨by simp, by go_grown⟩

theorem enters40 (args : Array Value) (W : World) : (callFunc 40 args).run Try.prog W = .ok (.enter 40 args) W := by kernel_rfl

theorem flatC_take_len {cs : List Cl} (h : ∀ c ∈ cs, codeC c = 0) : ∀ k, (flatC (cs.take k)).length ≤ 330 * k
  | 0 => by simp [flatC]
  | k + 1 => by
    by_cases hk : k < cs.length
    · rw [flatC_snoc cs k hk, List.length_append]
      have := flatC_take_len h k
      have := cellB_len (h cs[k] (List.getElem_mem hk))
      omega
    · have e : cs.take (k + 1) = cs.take k := by rw [List.take_of_length_le (by omega), List.take_of_length_le (by omega)]
      rw [e]
      have := flatC_take_len h k
      omega

set_option maxRecDepth 100000 in
set_option maxHeartbeats 4000000 in
theorem cellWrites_any (v u : Value) (cs : List Cl) (bs : List UInt8) (w : World) (hv : RdC w v cs) (hu : Rd w u (bc bs)) :
    Calls Try.prog 7 #[v, u] w fun e w' => e = .returned (.bool true) ∧ Below w.heap.size w w' := by
  obtain ⟨ao, cap, hvv, hc1, hc2⟩ := hv.shape
  subst hvv
  unfold maxLen at hc2
  obtain ⟨uo, ucap, huu, hd1, hd2⟩ := hu.shape
  rw [bc_length] at hd1 huu
  subst huu
  unfold maxLen at hd2
  go_enter Try.func7, Try.ntmps7
  go_wp2_with fail
  refine (cellBegun_any _).mono ?_
  rintro e w1 ⟨rfl, hb1⟩
  cases hmany : manyB cs.length
  case true =>
    go_wp2_with fail
    refine (many_any _ _).mono ?_
    rintro e w2 ⟨rfl, rfl⟩
    rw [hmany]
    go_wp2_with fail
    go_ret
    exact ⟨rfl, hb1⟩
  have hl2 := manyB_leW hmany
  have hl3 : cs.length ≤ 1000000 := by omega
  by_cases hbig : 100000 < bs.length
  · have hbg : (100000 : Int) < (bs.length : Int) := by omega
    go_wp2_with fail
    refine (many_any _ _).mono ?_
    rintro e w2 ⟨rfl, rfl⟩
    rw [hmany]
    go_wp2_with fail
    go_ret
    exact ⟨rfl, hb1⟩
  have hbg : (bs.length : Int) ≤ 100000 := by omega
  go_wp2_with fail
  refine (many_any _ _).mono ?_
  rintro e w2 ⟨rfl, rfl⟩
  rw [hmany]
  clear hmany
  go_wp2_with fail
  refine (ownCells_any _ cs _ (hv.below hb1) hl3).mono ?_
  rintro e w3 ⟨vx, rfl, hx3, hb3, _⟩
  obtain ⟨xo, xcap, hvx, _, _⟩ := hx3.shape
  subst hvx
  go_wp2_with fail
  refine (CWrite_any _ cs _ hx3).mono ?_
  rintro e w4 ⟨vX, rfl, hX4, hb4, _⟩
  have hb24 : Below w2.heap.size w2 w4 := hb3.trans (hb4.mono hb3.size)
  clear hb3 hb4 hx3
  generalize hWR : writeCR cs = WR at *
  obtain ⟨X, fx, fy⟩ := WR
  have HWR := hide hWR
  clear hWR
  unfold fltC
  simp only at hX4 ⊢
  obtain ⟨Xo, Xcap, hvX, _, _⟩ := hX4.shape
  rw [bc_length] at hvX
  subst hvX
  go_wp2_with fail
  have hF5 := Bk.new w4 29 #[.int .i64 fx, .int .i64 fy]
  have hX5 := hX4.alloc (.cells #[.int .i64 fx, .int .i64 fy] 29)
  have hb25 : Below w2.heap.size w2 (w4.alloc (.cells #[.int .i64 fx, .int .i64 fy] 29)) := hb24.alloc hb24.size _
  have hz4 : w2.heap.size ≤ w4.heap.size := hb24.size
  generalize w4.alloc (.cells #[.int .i64 fx, .int .i64 fy] 29) = w5 at *
  generalize w4.heap.size = zF at *
  clear hX4 hb24
  have hlF := hF5.lt
  have hbw5 : Below w.heap.size w w5 := hb1.trans (hb25.mono hb1.size)
  refine (ownBytes_any _ bs _ (hu.below hbw5) (by omega)).mono ?_
  rintro e w6 ⟨vy, rfl, hy6, hb6, _⟩
  obtain ⟨yo, ycap, hvy, _, _⟩ := hy6.shape
  rw [bc_length] at hvy
  subst hvy
  go_wp2_with fail
  refine (CRead_any _ bs _ hy6).mono ?_
  rintro e w7 ⟨vm, rfl, hm7, hb7, _⟩
  have hb57 : Below w5.heap.size w5 w7 := hb6.trans (hb7.mono hb6.size)
  clear hb6 hb7 hy6
  generalize hRD : readCR bs = RD at *
  obtain ⟨M, gx, gy⟩ := RD
  have HRD := hide hRD
  clear hRD
  unfold fltC
  simp only at hm7 ⊢
  obtain ⟨mo, mcap, hvm, _, _⟩ := hm7.shape
  subst hvm
  go_wp2_with fail
  have hG8 := Bk.new w7 29 #[.int .i64 gx, .int .i64 gy]
  have hm8 := hm7.alloc (.cells #[.int .i64 gx, .int .i64 gy] 29)
  have hb58 : Below w5.heap.size w5 (w7.alloc (.cells #[.int .i64 gx, .int .i64 gy] 29)) := hb57.alloc hb57.size _
  have hz7 : w5.heap.size ≤ w7.heap.size := hb57.size
  generalize w7.alloc (.cells #[.int .i64 gx, .int .i64 gy] 29) = w8 at *
  generalize w7.heap.size = zG at *
  clear hm7 hb57
  have hlG := hG8.lt
  have hz58 := hb58.size
  have hbw8 : Below w.heap.size w w8 := hbw5.trans (hb58.mono hbw5.size)
  refine (CellsOf_any _ bs _ (hu.below hbw8) (by omega)).mono ?_
  rintro e w9 ⟨vn, rfl, hn9, hb9, _⟩
  rw [HRD.out] at hn9 ⊢
  obtain ⟨no, ncap, hvn, _, _⟩ := hn9.shape
  subst hvn
  unfold fltC
  simp only at hn9 ⊢
  have hG9 := hG8.below hb9 hlG
  have hm9 := hm8.below hb9
  have hb59 : Below w5.heap.size w5 w9 := hb58.trans (hb9.mono hz58)
  clear hG8 hm8 hb58 hb9
  have hz59 := hb59.size
  have hlG9 := hG9.lt
  have g0 := hG9.cell 0
  have g1 := hG9.cell 1
  simp at g0 g1
  have hq1 : (gx == gx) = true := by simp
  have hq2 : (gy == gy) = true := by simp
  go_wp2_with fail
  have hWA := Bk.new w9 29 #[.int .i64 gx, .int .i64 gy]
  have hm10 := hm9.alloc (.cells #[.int .i64 gx, .int .i64 gy] 29)
  have hn10 := hn9.alloc (.cells #[.int .i64 gx, .int .i64 gy] 29)
  have hb5A : Below w5.heap.size w5 (w9.alloc (.cells #[.int .i64 gx, .int .i64 gy] 29)) := hb59.alloc hz59 _
  generalize w9.alloc (.cells #[.int .i64 gx, .int .i64 gy] 29) = w10 at *
  generalize w9.heap.size = zW at *
  have hlW := hWA.lt
  have hz510 := hb5A.size
  refine (SameCells_any _ _ M _ hm10 hn10).mono ?_
  rintro e w11 ⟨rfl, hb11⟩
  have hb511 : Below w5.heap.size w5 w11 := hb5A.trans (hb11.mono hz510)
  have hW11 := hWA.below hb11 hlW
  clear hWA hm9 hn9 hm10 hn10 hb5A hb11 hG9 g0 g1 hlG9 hlG hb59
  have hbw11 : Below w.heap.size w w11 := hbw5.trans (hb511.mono hbw5.size)
  go_wp2_with fail
  refine (CellsFault_any _ cs _ (hv.below hbw11)).mono ?_
  rintro e w12 ⟨rfl, hb12⟩
  have hW12 := hW11.below hb12 hW11.lt
  have hz511 := hb511.size
  have hb512 : Below w5.heap.size w5 w12 := hb511.trans (hb12.mono hz511)
  clear hW11 hb511 hb12 hbw11 hz511
  generalize hCK : checkC cs = CK
  obtain ⟨kx, ky⟩ := CK
  have HCK := hide hCK
  clear hCK
  unfold fltC
  have hlW12 := hW12.lt
  have r0 := hW12.cell 0
  have r1 := hW12.cell 1
  have r2 := hW12.frozen 0
  have r3 := hW12.frozen 1
  simp at r0 r1
  go_upto_region 12 with fail
  have hzW : w5.heap.size ≤ zW := hz59
  have hb5B : Below w5.heap.size w5 (((w12.setCell ⟨zW, 0, none⟩ (.int .i64 kx)).setCell ⟨zW, 1, none⟩ (.int .i64 ky)).alloc (.cells #[.slice none 0 0] 25)) := ((hb512.setCell (by exact hzW) _).setCell (by exact hzW) _).alloc (by simp [World.setCell]; have := hb512.size; omega) _
  have hW13 : Bk (((w12.setCell ⟨zW, 0, none⟩ (.int .i64 kx)).setCell ⟨zW, 1, none⟩ (.int .i64 ky)).alloc (.cells #[.slice none 0 0] 25)) zW 29 #[.int .i64 kx, .int .i64 ky] := ((hW12.set 0 _).set 1 _).below (below_alloc' _ _) (by simp [World.setCell]; omega)
  have hL13 : Bk (((w12.setCell ⟨zW, 0, none⟩ (.int .i64 kx)).setCell ⟨zW, 1, none⟩ (.int .i64 ky)).alloc (.cells #[.slice none 0 0] 25)) w12.heap.size 25 #[.slice none 0 0] := by
    have h := Bk.new ((w12.setCell ⟨zW, 0, none⟩ (.int .i64 kx)).setCell ⟨zW, 1, none⟩ (.int .i64 ky)) 25 #[.slice none 0 0]
    rwa [show ((w12.setCell ⟨zW, 0, none⟩ (.int .i64 kx)).setCell ⟨zW, 1, none⟩ (.int .i64 ky)).heap.size = w12.heap.size by simp [World.setCell]] at h
  have hzL : w12.heap.size + 1 = (((w12.setCell ⟨zW, 0, none⟩ (.int .i64 kx)).setCell ⟨zW, 1, none⟩ (.int .i64 ky)).alloc (.cells #[.slice none 0 0] 25)).heap.size := by simp [World.setCell]
  generalize ((w12.setCell ⟨zW, 0, none⟩ (.int .i64 kx)).setCell ⟨zW, 1, none⟩ (.int .i64 ky)).alloc (.cells #[.slice none 0 0] 25) = wA at *
  generalize w12.heap.size = zL at *
  have hF13 := hF5.below hb5B hlF
  have hX13 := hX5.below hb5B
  have hbwA : Below w.heap.size w wA := hbw5.trans (hb5B.mono hbw5.size)
  have hvA := hv.below hbwA
  have hzw : w.heap.size ≤ zF := Nat.le_trans hb1.size hz4
  have hzFW : zF < zW := by omega
  have hz5L : w5.heap.size ≤ zL := by omega
  clear hb512 hW12 r0 r1 r2 r3 hX13 hF5
  by_cases hk0 : kx = 0
  · subst hk0
    have hck : (checkC cs).1 = 0 := by rw [HCK.out]
    have hkz := checkC_zero hck
    have hky : ky = 0 := by rw [HCK.out] at hkz; simp at hkz; exact hkz
    subst hky
    have HC : Hid (∀ c ∈ cs, codeC c = 0) := hide (fun c h => fine_code hck h)
    have hwe := writeCR_eq hck
    rw [HWR.out] at hwe
    have HWE := hide hwe
    have HCKZ := hide hck
    have hl10 := fine_len hck
    have HFL := hide (flatC_take_len HC.out)
    clear hck hkz hwe
    go_wp2_with fail
    go_loopw [12] (fun i wr => ∃ (k : Nat) (vr : Value), k ≤ cs.length ∧ i = .int .i64 k ∧ Bk wr zL 25 #[vr] ∧ wr.ownsRow (zL + 1) 5 1 vr (flatC (cs.take k)).length (bc (flatC (cs.take k))) ∧ Below zL wA wr)
      (fun i _ => cs.length - (intOf i).toNat)
    case atStart => exact ⟨0, .slice none 0 0, by omega, rfl, hL13, World.ownsRow_nil _ _ _ _, Below.refl _ _⟩
    case round =>
      obtain ⟨k, vr, hk, rfl, hL, hown, hbel⟩ := hrel
      have hlL := hL.lt
      have hbwr : Below w.heap.size w wr := hbwA.trans (hbel.mono (by omega))
      have hWr := hW13.below hbel hlW12
      have hacc := HFL.out k
      obtain ⟨vo, vc, hvr⟩ := owns_shape hown
      subst hvr
      have w0 := hWr.cell 0
      have w1' := hWr.cell 1
      have l0 := hL.cell 0
      simp at w0 w1' l0
      by_cases hlt : k < cs.length
      · obtain ⟨c, hc⟩ : ∃ c, cs[k]? = some c := ⟨_, List.getElem?_eq_getElem hlt⟩
        have hce : cs[k] = c := (List.getElem?_eq_some_iff.1 hc).2
        obtain ⟨b, off, rfl, hbb, hck⟩ := hv.hereD hc
        have hcode := HC.out c (by rw [← hce]; exact List.getElem_mem hlt)
        have hsn := flatC_snoc cs k hlt
        rw [hce] at hsn
        have HS := hide hsn
        have hcl := cellB_len hcode
        have hkeep : ∀ W, Below zL wA W → W.cell? ⟨b, off + k * 5, none⟩ = some (.string c.row) ∧ W.cell? ⟨b, off + k * 5 + 1, none⟩ = some (.string c.col) ∧ W.cell? ⟨b, off + k * 5 + 2, none⟩ = some (.int .i64 c.time) ∧ W.cell? ⟨b, off + k * 5 + 3, none⟩ = some (.bool c.gone) ∧ W.cell? ⟨b, off + k * 5 + 4, none⟩ = some (.string c.val) := fun W h => by
          obtain ⟨c0, c1, c2, c3, c4⟩ := hck.below (hbwA.trans (h.mono (by omega)))
          exact ⟨c0, c1, c2, c3, c4⟩
        have HK := hide hkeep
        obtain ⟨c0, c1, c2, c3, c4⟩ := hkeep wr hbel
        have hk1 : (0 : Int) ≤ (k : Int) := by omega
        have hk2 : (k : Int) < (cs.length : Int) := by omega
        have hl63 : (flatC (cs.take k)).length + (bc (cellB c)).length ≤ 2000000000000 := by rw [bc_length]; omega
        clear hkeep hck hsn hc hce
        generalize flatC (cs.take k) = acc at *
        go_wp2_with fail
        have lf0 := hL.frozen 0
        go_region_law (first | (have k9 := ho13; refine step_append_rd k9 hr13 Try.underlying25 Try.info5 rfl (by rfl) (by rfl) (by rfl) (by rfl) (bc_one _) hl63 (by decide) k5 ?_; intro v14 w14 ho14 hb14 hg14; obtain ⟨ao14, cap14, rfl⟩ := owns_shape ho14; have k1 := (hb14.cell (p := ⟨zL, 0, none⟩) (by simp)).trans k1; have k2 := (hb14.frozen (p := ⟨zL, 0, none⟩) (by simp)).trans k2) | (refine step_call1 (CellBytes_any c _ hcode) enters40 (by rfl) (by rfl) (by rfl) ?_; rintro v13 w13 ⟨hr13, hb13, hn13⟩; have k1 := cell_below (by exact l0) hb13; have k2 := (hb13.frozen (p := ⟨zL, 0, none⟩) (by exact hlL)).trans (by exact lf0); have ho13 := owns_below (by exact hown) hb13; have k5 := Nat.le_trans (by exact hlL) hb13.size))
        all_goals
          go_wp2_with fail
          go_roundw
          case rel =>
            have hL13' : Bk w13 zL 25 #[.slice vo acc.length vc] := Bk.below (w := wr.drew) hL hb13 hlL
            have hL14 := hL13'.below hb14 (by omega)
            refine ⟨k + 1, .slice ao14 (acc.length + (bc (cellB c)).length) cap14, by omega, by go_num, hL14.set 0 _, ?_, ((hbel.drew.trans (hb13.mono (by show _ ≤ wr.heap.size; omega))).trans (hb14.mono (by omega))).setCell (p := ⟨zL, 0, none⟩) (Nat.le_refl _) _⟩
            rw [HS.out, show (acc ++ cellB c).length = acc.length + (bc (cellB c)).length by rw [bc_length, List.length_append], bc_append acc]
            exact ownsRow_setCell_below (a := ⟨zL, 0, none⟩) ho14 (by show zL < zL + 1; omega) _
          case measure => simp [intOf]; omega
      · have htk : cs.take k = cs := List.take_of_length_le (by omega)
        rw [htk] at hown hacc l0 hL
        have hd1 : decide ((k : Int) < (cs.length : Int)) = false := by simp; omega
        have hd2 : decide (k < cs.length) = false := by simp; omega
        have hFr := hF13.below hbel (by omega)
        have hXr := hX5.below (hb5B.trans (hbel.mono hz5L))
        have f0 := hFr.cell 0
        have f1 := hFr.cell 1
        simp at f0 f1
        have hbwr' := hbwr
        have lf0 := hL.frozen 0
        have hRo := Rd.ofOwns hown
        have wf0 := hWr.frozen 0
        have wf1 := hWr.frozen 1
        have hzr := hbel.size
        by_cases hmu : 60000 < (flatC cs).length
        · have hwe := HWE.out
          rw [if_pos hmu] at hwe
          simp only [Prod.mk.injEq] at hwe
          obtain ⟨rfl, rfl, rfl⟩ := hwe
          have hmu' : (60000 : Int) < ((flatC cs).length : Int) := by omega
          clear hmu
          generalize flatC cs = Y at *
          go_wp2_with fail
          refine (FC_any 9 0 _).mono ?_
          rintro e w13 ⟨rfl, hb13⟩
          have hW13' := hWr.below hb13 (by omega)
          have hF13' := hFr.below hb13 (by omega)
          have hX13' := hXr.below hb13
          have hbw13 : Below w.heap.size w w13 := hbwr.trans (hb13.mono hbwr.size)
          clear w0 w1' f0 f1 wf0 wf1 l0 lf0
          have w0 := hW13'.cell 0
          have w1' := hW13'.cell 1
          have wf0 := hW13'.frozen 0
          have wf1 := hW13'.frozen 1
          have f0 := hF13'.cell 0
          have f1 := hF13'.cell 1
          simp at w0 w1' f0 f1
          have hlW13 := hW13'.lt
          have hneFW : zF ≠ zW := by omega
          unfold fltC
          go_wp2_with fail
          refine (bytesAs_bad _ _ 9 0 _ (by decide) ?_).mono ?_
          · obtain ⟨ao9, cap9, hv9, q1, q2, q3, _⟩ := hX13'
            exact ⟨ao9, cap9, hv9, q1, q2, q3, fun a _ j u hu => by simp [bc] at hu⟩
          rintro e w14 ⟨rfl, hb14⟩
          have hbel14 : Below w.heap.size w w14 := ((hbw13.setCell (by show _ ≤ zW; omega) _).setCell (by show _ ≤ zW; omega) _).trans (hb14.mono (by simp [World.setCell]; exact hbw13.size))
          have hWq := ((hW13'.set 0 (.int .i64 9)).set 1 (.int .i64 0)).below hb14 (by simp [World.setCell]; exact hlW13)
          have t0 := hWq.cell 0
          simp at t0
          go_wp2_with fail
          go_ret
          exact ⟨rfl, hbel14⟩
        · have hwe := HWE.out
          rw [if_neg hmu] at hwe
          simp only [Prod.mk.injEq] at hwe
          obtain ⟨rfl, rfl, rfl⟩ := hwe
          have hmu' : ((flatC cs).length : Int) ≤ 60000 := by omega
          have HRW := hide (read_write HCKZ.out (by omega : (flatC cs).length ≤ 60000))
          clear hmu HWE HWR
          generalize flatC cs = Y at *
          go_wp2_with fail
          refine (bytesAsW_ok zL vo Y.length vc _ Y _ l0 hRo hXr).mono ?_
          rintro e w14 ⟨rfl, hb14⟩
          have hbel14 : Below w.heap.size w w14 := hbwr.trans (hb14.mono hbwr.size)
          have hW14 := hWr.below hb14 (by omega)
          have hX14 := hXr.below hb14
          clear w0 w1' f0 f1 l0
          have w0 := hW14.cell 0
          have w1' := hW14.cell 1
          simp at w0 w1'
          go_wp2_with fail
          refine (CRead_any _ Y _ hX14).mono ?_
          rintro e w15 ⟨v15, rfl, hr15, hb15, _⟩
          rw [HRW.out] at hr15 ⊢
          unfold fltC
          simp only at hr15 ⊢
          obtain ⟨ao15, cap15, hv15, _, _⟩ := hr15.shape
          subst hv15
          have hbel15 : Below w.heap.size w w15 := hbel14.trans (hb15.mono hbel14.size)
          have hv15 := (hv.below hbel15).alloc (.cells #[.int .i64 0, .int .i64 0] 29)
          have hr15' := hr15.alloc (.cells #[.int .i64 0, .int .i64 0] 29)
          go_wp2_with fail
          refine (SameCells_any _ _ cs _ hr15' hv15).mono ?_
          rintro e w16 ⟨rfl, hb16⟩
          have hbel16 : Below w.heap.size w w16 := (hbel15.alloc hbel15.size _).trans (hb16.mono (by have := hbel15.size; simp; omega))
          go_wp2_with fail
          go_ret
          exact ⟨rfl, hbel16⟩
  · have hck : (checkC cs).1 ≠ 0 := by rw [HCK.out]; exact hk0
    have hwe := writeCR_bad hck
    rw [HWR.out, HCK.out] at hwe
    simp only [Prod.mk.injEq] at hwe
    obtain ⟨rfl, rfl, rfl⟩ := hwe
    have hkb : (fx == 0) = false := beq_eq_false_iff_ne.2 hk0
    have hkb2 : (fx != 0) = true := by simp [hk0]
    have HK0 := hide hk0
    clear hck hk0
    have w0 := hW13.cell 0
    have w1' := hW13.cell 1
    have f0 := hF13.cell 0
    have f1 := hF13.cell 1
    simp at w0 w1' f0 f1
    have hXr := hX5.below hb5B
    go_wp2_with fail
    go_loopw [12] (fun i wr => i = .int .i64 0 ∧ wr = wA) (fun _ _ => 0)
    case atStart => exact ⟨rfl, rfl⟩
    case round =>
      obtain ⟨rfl, rfl⟩ := hrel
      go_wp2_with fail
      all_goals
        refine (bytesAs_bad _ _ fx fy _ HK0.out ?_).mono ?_
        · obtain ⟨ao9, cap9, hv9, q1, q2, q3, _⟩ := hXr
          exact ⟨ao9, cap9, hv9, q1, q2, q3, fun a _ j u hu => by simp [bc] at hu⟩
        rintro e w14 ⟨rfl, hb14⟩
        have hbel14 : Below w.heap.size w w14 := hbwA.trans (hb14.mono hbwA.size)
        have hWq := hW13.below hb14 (by omega)
        have t0 := hWq.cell 0
        simp at t0
        go_wp2_with fail
        go_ret
        exact ⟨rfl, hbel14⟩

end Go.Proofs.Ytlebbkbbmgmmjab
