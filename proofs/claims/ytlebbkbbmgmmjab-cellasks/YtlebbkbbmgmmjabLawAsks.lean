/-
  The walk over the law CellAsks.
-/
import Derived.Test.YtlebbkbbmgmmjabCellR5
namespace Go.Proofs.Ytlebbkbbmgmmjab
open Go.RowKit

theorem lt_alloc (w : World) (o : Obj) : w.heap.size < (w.alloc o).heap.size := by simp

theorem Bk.setO {w : World} {B : Nat} {t : TypeId} {xs : Array Value} (h : Bk w B t xs) {p : Addr} (hne : B ≠ p.block) (u : Value) : Bk (w.setCell p u) B t xs := by
  unfold Bk
  rw [heap_setCell_other w p _ u hne]
  exact h

/-- Two blocks of a fault, laid one behind the other, behind a call. -/
theorem two_flts {w w1 : World} {t : TypeId} {xs ys : Array Value} (hb : Below ((w.alloc (.cells xs t)).alloc (.cells ys t)).heap.size ((w.alloc (.cells xs t)).alloc (.cells ys t)) w1) :
    Bk w1 w.heap.size t xs ∧ Bk w1 (w.heap.size + 1) t ys ∧ Below w.heap.size w w1 ∧ w.heap.size + 2 ≤ w1.heap.size := by
  have h1 := (Bk.new w t xs).below (below_alloc' _ (.cells ys t)) (by simp)
  have h2 := Bk.new2 w (.cells xs t) t ys
  refine ⟨h1.below hb (by simp; omega), h2.below hb (by simp), (below_alloc' _ _).trans (((below_alloc' _ _).mono (by simp)).trans (hb.mono (by simp; omega))), ?_⟩
  have := hb.size
  simp at this
  omega

theorem manyB_false {n : Int} (h : manyB n = false) : n ≤ 2000 := by
  unfold manyB at h
  simp at h
  omega

set_option maxRecDepth 100000 in
set_option maxHeartbeats 4000000 in
theorem cellAsks_any (v : Value) (cs : List Cl) (row col a b : ByteArray) (t m : Int) (w : World) (hv : RdC w v cs) :
    Calls Try.prog 6 #[v, .string row, .string col, aA a b t m] w fun e w' => e = .returned (.bool true) ∧ Below w.heap.size w w' := by
  obtain ⟨ao, cap, hvv, hc1, hc2⟩ := hv.shape
  subst hvv
  unfold maxLen at hc2
  unfold aA
  go_enter Try.func6, Try.ntmps6
  go_wp2_with fail
  have hL0 := (Bk.new w 43 #[.slice ao cs.length cap]).below (below_alloc' _ (.cells #[.string a, .string b, .int .i64 t, .int .i64 m] 58)) (by simp)
  have hA0 := Bk.new2 w (.cells #[.slice ao cs.length cap] 43) 58 #[.string a, .string b, .int .i64 t, .int .i64 m]
  refine (cellBegun_any _).mono ?_
  rintro e w1 ⟨rfl, hb1⟩
  have hL1 := hL0.below hb1 (by simp; omega)
  have hA1 := hA0.below hb1 (by simp)
  have hbw1 : Below w.heap.size w w1 := (below_alloc' _ _).trans (((below_alloc' _ _).mono (by simp)).trans (hb1.mono (by simp; omega)))
  have hsA := hA1.lt
  clear hb1 hL0 hA0
  have l0 := hL1.cell 0
  simp at l0
  cases hmany : manyB cs.length
  case true =>
    go_wp2_with fail
    refine (many_any _ _).mono ?_
    rintro e w2 ⟨rfl, rfl⟩
    rw [hmany]
    go_wp2_with fail
    go_ret
    exact ⟨rfl, hbw1⟩
  have hl2 := manyB_false hmany
  have hl3 : cs.length ≤ 1000000 := by omega
  go_wp2_with fail
  refine (many_any _ _).mono ?_
  rintro e w2 ⟨rfl, rfl⟩
  rw [hmany]
  have hkeep : ∀ W, Below w2.heap.size w2 W → W.cell? ⟨w.heap.size, 0, none⟩ = some (.slice ao cs.length cap) ∧ W.cell? ⟨w.heap.size + 1, 0, none⟩ = some (.string a) ∧ W.cell? ⟨w.heap.size + 1, 1, none⟩ = some (.string b) ∧ W.cell? ⟨w.heap.size + 1, 2, none⟩ = some (.int .i64 t) ∧ W.cell? ⟨w.heap.size + 1, 3, none⟩ = some (.int .i64 m) := fun W h =>
    ⟨(hL1.below h (by omega)).cell 0, (hA1.below h hsA).cell 0, (hA1.below h hsA).cell 1, (hA1.below h hsA).cell 2, (hA1.below h hsA).cell 3⟩
  have hvall : ∀ W, Below w2.heap.size w2 W → RdC W (.slice ao cs.length cap) cs := fun W h => (hv.below hbw1).below h
  obtain ⟨l0, a0, a1, a2, a3⟩ := hkeep w2 (Below.refl _ _)
  have HKEEP := hide hkeep
  have HVALL := hide hvall
  have HA1 := hide hA1
  clear hkeep hvall hL1 hA1 hmany
  generalize hGC : getC cs row col t = GC
  obtain ⟨gv, gi, gx, gy⟩ := GC
  have HG := hide hGC
  generalize hSC : scanC cs a b t m = SC
  obtain ⟨ss, sx, sy⟩ := SC
  have HS := hide hSC
  clear hGC hSC
  go_wp2_with fail
  go_cut [9, 10, 11] (fun v9 v10 p wx => v9 = .string gv ∧ v10 = .bool gi ∧ ∃ z : Nat, p = .pointer (some ⟨z, 0, none⟩) ∧ Bk wx z 29 #[.int .i64 gx, .int .i64 gy] ∧ Below w2.heap.size w2 wx)
  case first =>
    as_aux_lemma =>
      go_region_held3 (fun W => W.cell? ⟨w.heap.size, 0, none⟩ = some (.slice ao cs.length cap) ∧ W.cell? ⟨w.heap.size + 1, 0, none⟩ = some (.string a) ∧ W.cell? ⟨w.heap.size + 1, 1, none⟩ = some (.string b) ∧ W.cell? ⟨w.heap.size + 1, 2, none⟩ = some (.int .i64 t) ∧ W.cell? ⟨w.heap.size + 1, 3, none⟩ = some (.int .i64 m)) (exact HKEEP.out _ (by go_grown)) (first
        | (go_at_call 31; refine (Get_any _ cs row col t _ (by exact hr3.below (by go_grown))).mono ?_; rintro e w4 ⟨rfl, hb4⟩; rw [HG.out]; unfold fltC; have hb34 : Below w3.heap.size w3 w4 := Below.trans (by go_grown) (hb4.mono (by simp <;> omega)); have hb24 := hb23.trans (hb34.mono hz23); have hz24 := hb24.size; (first | (have tF : Bk w4 w3.heap.size 29 #[.int .i64 0, .int .i64 0] := Bk.below (w := w3.alloc (.cells #[.int .i64 0, .int .i64 0] 29)) (Bk.new w3 _ _) hb4 (by simp); have f0 := tF.cell 0; have f1 := tF.cell 1; have f2 := tF.frozen 0; have f3 := tF.frozen 1; have f4 := tF.lt; simp at f0 f1) | (have tF := tF0.below hb34 tF0.lt; have f0 := tF.cell 0; have f1 := tF.cell 1; have f2 := tF.frozen 0; have f3 := tF.frozen 1; have f4 := tF.lt; simp at f0 f1) | skip))
        | (go_at_call 22; refine (ownCells_any _ cs _ (by exact HVALL.out _ (by go_grown)) hl3).mono ?_; rintro e w3 ⟨v3, rfl, hr3, hb3, hn3⟩; have hb23 : Below w2.heap.size w2 w3 := Below.trans (by go_grown) (hb3.mono (by simp <;> omega)); have hz23 := hb23.size; obtain ⟨ao3, cap3, hv3, _, _⟩ := hr3.shape; subst hv3; (first | (have tF0 : Bk w3 w2.heap.size 29 #[.int .i64 0, .int .i64 0] := Bk.below (w := (w2.alloc (.cells #[.int .i64 0, .int .i64 0] 29)).drew) (show Bk (w2.alloc (.cells #[.int .i64 0, .int .i64 0] 29)) _ _ _ from Bk.new w2 _ _) hb3 (by simp)) | skip)))
      all_goals
        go_wp2_with fail
        go_meet
        case rel =>
          first
          | exact ⟨rfl, rfl, _, rfl, Bk.new _ _ _, hb24.alloc hz24 _⟩
          | exact ⟨rfl, rfl, _, rfl, (tF.set 0 _).set 1 _, by go_grown⟩
  case rest =>
    as_aux_lemma =>
      obtain ⟨rfl, rfl, z1, rfl, hF1, hbx⟩ := hcut
      have hz1 := hF1.lt
      clear l0 a0 a1 a2 a3
      obtain ⟨l0, a0, a1, a2, a3⟩ := HKEEP.out wc hbx
      have hzx := hbx.size
      have hkeep2 : ∀ W, Below wc.heap.size wc W → W.cell? ⟨w.heap.size, 0, none⟩ = some (.slice ao cs.length cap) ∧ W.cell? ⟨w.heap.size + 1, 0, none⟩ = some (.string a) ∧ W.cell? ⟨w.heap.size + 1, 1, none⟩ = some (.string b) ∧ W.cell? ⟨w.heap.size + 1, 2, none⟩ = some (.int .i64 t) ∧ W.cell? ⟨w.heap.size + 1, 3, none⟩ = some (.int .i64 m) := fun W h => HKEEP.out W (hbx.trans (h.mono hzx))
      have HKEEP2 := hide hkeep2
      have hvall2 : ∀ W, Below wc.heap.size wc W → RdC W (.slice ao cs.length cap) cs := fun W h => HVALL.out W (hbx.trans (h.mono hzx))
      have HVALL2 := hide hvall2
      clear hkeep2 hvall2
      go_wp2_with fail
      go_cut [12, 13] (fun v12 p wx => ∃ (so : Option Addr) (scap z : Nat), v12 = .slice so ss.length scap ∧ p = .pointer (some ⟨z, 0, none⟩) ∧ Bk wx z 29 #[.int .i64 sx, .int .i64 sy] ∧ RdC wx (.slice so ss.length scap) ss ∧ Below wc.heap.size wc wx)
      case first =>
        as_aux_lemma =>
          go_region_held3 (fun W => W.cell? ⟨w.heap.size, 0, none⟩ = some (.slice ao cs.length cap) ∧ W.cell? ⟨w.heap.size + 1, 0, none⟩ = some (.string a) ∧ W.cell? ⟨w.heap.size + 1, 1, none⟩ = some (.string b) ∧ W.cell? ⟨w.heap.size + 1, 2, none⟩ = some (.int .i64 t) ∧ W.cell? ⟨w.heap.size + 1, 3, none⟩ = some (.int .i64 m)) (exact HKEEP2.out _ (by go_grown)) (first
            | (go_at_call 32; refine (Scan_any _ cs a b t m _ (by exact hr3.below (by go_grown))).mono ?_; rintro e w4 ⟨v4, rfl, hr4, hb4, hn4⟩; rw [HS.out] at hr4 ⊢; unfold fltC; simp only at hr4 ⊢; have hb34 : Below w3.heap.size w3 w4 := Below.trans (by go_grown) (hb4.mono (by simp <;> omega)); have hb24 := hb23.trans (hb34.mono hz23); have hz24 := hb24.size; obtain ⟨ao4, cap4, hv4, _, _⟩ := hr4.shape; subst hv4; (first | (have tF : Bk w4 w3.heap.size 29 #[.int .i64 0, .int .i64 0] := Bk.below (w := w3.alloc (.cells #[.int .i64 0, .int .i64 0] 29)) (Bk.new w3 _ _) hb4 (by simp); have f0 := tF.cell 0; have f1 := tF.cell 1; have f2 := tF.frozen 0; have f3 := tF.frozen 1; have f4 := tF.lt; simp at f0 f1) | (have tF := tF0.below hb34 tF0.lt; have f0 := tF.cell 0; have f1 := tF.cell 1; have f2 := tF.frozen 0; have f3 := tF.frozen 1; have f4 := tF.lt; simp at f0 f1) | skip))
            | (go_at_call 22; refine (ownCells_any _ cs _ (by exact HVALL2.out _ (by go_grown)) hl3).mono ?_; rintro e w3 ⟨v3, rfl, hr3, hb3, hn3⟩; have hb23 : Below wc.heap.size wc w3 := Below.trans (by go_grown) (hb3.mono (by simp <;> omega)); have hz23 := hb23.size; obtain ⟨ao3, cap3, hv3, _, _⟩ := hr3.shape; subst hv3; (first | (have tF0 : Bk w3 wc.heap.size 29 #[.int .i64 0, .int .i64 0] := Bk.below (w := (wc.alloc (.cells #[.int .i64 0, .int .i64 0] 29)).drew) (show Bk (wc.alloc (.cells #[.int .i64 0, .int .i64 0] 29)) _ _ _ from Bk.new wc _ _) hb3 (by simp)) | skip)))
          all_goals
            go_wp2_with fail
            go_meet
            case rel =>
              first
              | exact ⟨_, _, _, rfl, rfl, Bk.new _ _ _, hr4.alloc _, hb24.alloc hz24 _⟩
              | exact ⟨_, _, _, rfl, rfl, (tF.set 0 _).set 1 _, (hr4.setNew hn4 tF0.lt _).setNew hn4 tF0.lt _, by go_grown⟩
              | exact ⟨_, _, _, rfl, rfl, (tF.set 0 _).set 1 _, (hr4.setNew hn4 (lt_alloc _ _) _).setNew hn4 (lt_alloc _ _) _, by go_grown⟩
      case rest =>
        as_aux_lemma =>
          obtain ⟨so, scap, z2, rfl, rfl, hF2, hs2, hby⟩ := hcut
          have hz2 := hF2.lt
          have hzy := hby.size
          have hF1y := hF1.below hby hz1
          have hbwy : Below w2.heap.size w2 wc := hbx.trans (hby.mono hzx)
          clear l0 a0 a1 a2 a3
          obtain ⟨l0, a0, a1, a2, a3⟩ := HKEEP.out wc hbwy
          go_wp2_with fail
          refine (CellsFault_any _ cs _ (HVALL.out _ hbwy)).mono ?_
          rintro e w5 ⟨rfl, hb5⟩
          have hz5 := hb5.size
          have hF1z := hF1y.below hb5 (by have := hF1y.lt; omega)
          have hF2z := hF2.below hb5 hz2
          have hsz := hs2.below hb5
          have hbz : Below w2.heap.size w2 w5 := hbwy.trans (hb5.mono (by omega))
          have hbw5 : Below w.heap.size w w5 := hbw1.trans (hbz.mono (by omega))
          clear l0 a0 a1 a2 a3 hF1y hF2 hs2 hb5
          generalize hCK : checkC cs = CK
          obtain ⟨kx, ky⟩ := CK
          have HCK := hide hCK
          clear hCK
          unfold fltC
          by_cases hk0 : kx = 0
          · subst hk0
            have hck1 : (checkC cs).1 = 0 := by rw [HCK.out]
            have hky : ky = 0 := by have := checkC_zero hck1; rw [HCK.out] at this; exact (Prod.mk.injEq _ _ _ _ ▸ this).2
            subst hky
            cases hn : isNumB t
            · have hg0 := HG.out
              rw [getC_range hck1 hn] at hg0
              simp only [Prod.mk.injEq] at hg0
              obtain ⟨rfl, rfl, rfl, rfl⟩ := hg0
              have hs0 := HS.out
              rw [scanC_time hck1 hn] at hs0
              simp only [Prod.mk.injEq] at hs0
              obtain ⟨rfl, rfl, rfl⟩ := hs0
              have HAF : Hid (askF t m = (3, -1)) := hide (by unfold askF; rw [if_pos hn])
              have ht : t < 0 ∨ ¬ t < 0 ∧ 1000000000 < t := by unfold isNumB at hn; simp at hn; omega
              obtain ⟨l0, a0, a1, a2, a3⟩ := HKEEP.out w5 hbz
              have f0 := hF1z.cell 0
              have f1 := hF1z.cell 1
              have g0 := hF2z.cell 0
              have g1 := hF2z.cell 1
              simp at f0 f1 g0 g1
              have hlz1 := hF1z.lt
              have hlz2 := hF2z.lt
              have hl1 : w.heap.size < w5.heap.size := by omega
              have hl0 : w.heap.size + 1 < w5.heap.size := by omega
              rcases ht with ht | ⟨ht, ht2⟩
              all_goals
                go_wp2_with fail
                refine (FC_any 3 (-1) _).mono ?_
                rintro e w6 ⟨rfl, hb6⟩
                obtain ⟨hW6, hU6, hb56, hz6⟩ := two_flts hb6
                have hW7 := (hW6.setO (p := ⟨w5.heap.size + 1, 0, none⟩) (by simp) (.int .i64 3)).setO (p := ⟨w5.heap.size + 1, 1, none⟩) (by simp) (.int .i64 (-1))
                have hb57 : Below w5.heap.size w5 ((w6.setCell ⟨w5.heap.size + 1, 0, none⟩ (.int .i64 3)).setCell ⟨w5.heap.size + 1, 1, none⟩ (.int .i64 (-1))) := (hb56.setCell (by simp) _).setCell (by simp) _
                clear l0 a0 a1 a2 a3 f0 f1 g0 g1 hb6
                obtain ⟨l0, a0, a1, a2, a3⟩ := HKEEP.out w6 (hbz.trans (hb56.mono (by omega)))
                have f0 := (hF1z.below hb56 hlz1).cell 0
                have f1 := (hF1z.below hb56 hlz1).cell 1
                have u0 := hU6.cell 0
                have u1 := hU6.cell 1
                have u2 := hU6.frozen 0
                have u3 := hU6.frozen 1
                have v0 := hW6.cell 0
                have v1 := hW6.cell 1
                simp at f0 f1 u0 u1 v0 v1
                have hlU := hU6.lt
                have HW7 := hide hW7
                have HB57 := hide hb57
                clear hW7 hb57
                unfold fltC
                go_wp2_with fail
                refine (AskFault_any a b t m _).mono ?_
                rintro e w8 ⟨rfl, hb8⟩
                rw [HAF.out]
                have hW8 := HW7.out.below hb8 HW7.out.lt
                have hb58 : Below w5.heap.size w5 w8 := HB57.out.trans (hb8.mono HB57.out.size)
                have hz8 := hW8.lt
                clear l0 a0 a1 a2 a3 f0 f1 u0 u1 u2 u3 v0 v1 hb8
                obtain ⟨l0, a0, a1, a2, a3⟩ := HKEEP.out w8 (hbz.trans (hb58.mono (by omega)))
                have g0 := (hF2z.below hb58 hlz2).cell 0
                have g1 := (hF2z.below hb58 hlz2).cell 1
                have v0 := hW8.cell 0
                have v1 := hW8.cell 1
                have v2 := hW8.frozen 0
                have v3 := hW8.frozen 1
                simp at g0 g1 v0 v1
                have hb59 : Below w5.heap.size w5 ((w8.setCell ⟨w5.heap.size, 0, none⟩ (.int .i64 3)).setCell ⟨w5.heap.size, 1, none⟩ (.int .i64 (-1))) := (hb58.setCell (by simp) _).setCell (by simp) _
                have HB59 := hide hb59
                clear hb59
                have hne1 : z2 ≠ w5.heap.size := by omega
                unfold fltC
                go_wp2_with fail
                refine (cellsAsA_true _ _ _ [] 3 (-1) _ (hsz.below HB59.out) (fun _ => rfl) (fun h => absurd h (by decide))).mono ?_
                rintro e w9 ⟨rfl, hb9⟩
                go_wp2_with fail
                go_ret
                exact ⟨rfl, hbw5.trans ((HB59.out.trans (hb9.mono HB59.out.size)).mono (by omega))⟩
            · have hg0 := HG.out
              rw [get_seen hck1 hn] at hg0
              obtain ⟨d, ok, hq⟩ : ∃ d ok, seenR cs (row.toList, col.toList) t = (d, ok) := ⟨_, _, rfl⟩
              have HQ := hide hq
              rw [hq] at hg0
              simp only [Prod.mk.injEq] at hg0
              obtain ⟨rfl, rfl, rfl, rfl⟩ := hg0
              clear hq
              have HP := hide (fine_pw hck1)
              have hl4 := fine_len hck1
              have hsf := scan_fault (cs := cs) (a := a) (b := b) (t := t) (m := m)
              rw [HS.out, if_pos hck1] at hsf
              have HAF : Hid (askF t m = (sx, sy)) := hide hsf.symm
              have hbad : sx ≠ 0 → ss = [] := fun h => by have := scan_bad (cs := cs) (a := a) (b := b) (t := t) (m := m) (by rw [HS.out]; exact h); rw [HS.out] at this; exact this
              have hgood : sx = 0 → ss = scannedR cs a b t m ∧ 0 ≤ m := fun h => by
                have h0 : (scanC cs a b t m).2.1 = 0 := by rw [HS.out]; exact h
                have := scan_scanned h0
                rw [HS.out] at this
                exact ⟨this, (scanC_fine h0).2.2.1⟩
              have HBAD := hide hbad
              have HGOOD := hide hgood
              have ht : ¬ t < 0 ∧ t ≤ 1000000000 := by unfold isNumB at hn; simp at hn; omega
              obtain ⟨ht1, ht2⟩ := ht
              clear hsf hbad hgood hck1
              obtain ⟨l0, a0, a1, a2, a3⟩ := HKEEP.out w5 hbz
              have f0 := hF1z.cell 0
              have f1 := hF1z.cell 1
              have g0 := hF2z.cell 0
              have g1 := hF2z.cell 1
              simp at f0 f1 g0 g1
              have hlz1 := hF1z.lt
              have hlz2 := hF2z.lt
              have hl1 : w.heap.size < w5.heap.size := by omega
              have hl0 : w.heap.size + 1 < w5.heap.size := by omega
              have hvv : (d.val.toList == d.val.toList) = true := by simp
              have hoo : (ok != ok) = false := by simp
              go_wp2_with fail
              refine (SeenCell_any _ cs row col t _ (HVALL.out _ (by go_grown)) HP.out).mono ?_
              rintro e w6 ⟨rfl, hb6⟩
              rw [HQ.out]
              obtain ⟨hW6, hU6, hb56, hz6⟩ := two_flts hb6
              have hW7 : Bk (w6.alloc (.cells #[.string d.row, .string d.col, .int .i64 d.time, .bool d.gone, .string d.val] 52)) w5.heap.size 29 #[.int .i64 0, .int .i64 0] := hW6.below (below_alloc' _ _) hW6.lt
              have hb57 : Below w5.heap.size w5 (w6.alloc (.cells #[.string d.row, .string d.col, .int .i64 d.time, .bool d.gone, .string d.val] 52)) := hb56.alloc (by omega) _
              have HW7 := hide hW7
              have HB57 := hide hb57
              clear l0 a0 a1 a2 a3 f0 f1 g0 g1 hb6 hW7 hb57
              obtain ⟨l0, a0, a1, a2, a3⟩ := HKEEP.out w6 (hbz.trans (hb56.mono (by omega)))
              have v0 := hW6.cell 0
              have v1 := hW6.cell 1
              simp at v0 v1
              have hlW := hW6.lt
              have hl16 : w.heap.size < w6.heap.size := by omega
              have hl06 : w.heap.size + 1 < w6.heap.size := by omega
              unfold cA
              simp only
              go_wp2_with fail
              refine (AskFault_any a b t m _).mono ?_
              rintro e w8 ⟨rfl, hb8⟩
              rw [HAF.out]
              have hW8 := HW7.out.below hb8 HW7.out.lt
              have hb58 : Below w5.heap.size w5 w8 := HB57.out.trans (hb8.mono HB57.out.size)
              have hz8 := hW8.lt
              clear l0 a0 a1 a2 a3 v0 v1 hb8
              obtain ⟨l0, a0, a1, a2, a3⟩ := HKEEP.out w8 (hbz.trans (hb58.mono (by omega)))
              have g0 := (hF2z.below hb58 hlz2).cell 0
              have g1 := (hF2z.below hb58 hlz2).cell 1
              have v0 := hW8.cell 0
              have v1 := hW8.cell 1
              have v2 := hW8.frozen 0
              have v3 := hW8.frozen 1
              simp at g0 g1 v0 v1
              have hb59 : Below w5.heap.size w5 ((w8.setCell ⟨w5.heap.size, 0, none⟩ (.int .i64 sx)).setCell ⟨w5.heap.size, 1, none⟩ (.int .i64 sy)) := (hb58.setCell (by simp) _).setCell (by simp) _
              have HB59 := hide hb59
              clear hb59
              have hne1 : z2 ≠ w5.heap.size := by omega
              have hne2 : w.heap.size ≠ w5.heap.size := by omega
              unfold fltC
              have hcl : sx = 0 → ∀ W, Below ((w8.setCell ⟨w5.heap.size, 0, none⟩ (.int .i64 sx)).setCell ⟨w5.heap.size, 1, none⟩ (.int .i64 sy)).heap.size ((w8.setCell ⟨w5.heap.size, 0, none⟩ (.int .i64 sx)).setCell ⟨w5.heap.size, 1, none⟩ (.int .i64 sy)) W → Calls Try.prog 35 #[.pointer (some ⟨w.heap.size, 0, none⟩), .pointer (some ⟨w.heap.size + 1, 0, none⟩)] W fun e w' => ∃ v', e = .returned v' ∧ RdC w' v' ss ∧ Below W.heap.size W w' := by
                intro h0 W hW
                obtain ⟨e1, e2⟩ := HGOOD.out h0
                have hb5W : Below w5.heap.size w5 W := HB59.out.trans (hW.mono HB59.out.size)
                have hb2W : Below w2.heap.size w2 W := hbz.trans (hb5W.mono (by omega))
                rw [e1]
                exact Asks1_any _ _ _ cs a b t m W (HKEEP.out W hb2W).1 (HA1.out.below hb2W hsA) (HVALL.out W hb2W) HP.out e2 hl4
              have HCL := hide hcl
              clear hcl
              by_cases h0 : sx = 0
              · by_cases hlen : 150 < cs.length
                · subst h0
                  go_wp2_with fail
                  go_ret
                  exact ⟨by simp, hbw5.trans (HB59.out.mono (by omega))⟩
                · have hd2 : decide (150 < (cs.length : Int)) = false := by simp; omega
                  have hd3 : decide (150 < cs.length) = false := by simp; omega
                  subst h0
                  go_wp2_with fail
                  refine (cellsAsA_true _ _ _ ss 0 sy _ (hsz.below HB59.out) (fun h => absurd rfl h) (fun _ => HCL.out trivial)).mono ?_
                  rintro e w9 ⟨rfl, hb9⟩
                  go_wp2_with fail
                  go_ret
                  exact ⟨rfl, hbw5.trans ((HB59.out.trans (hb9.mono HB59.out.size)).mono (by omega))⟩
              · have hxb : (sx == 0) = false := by simp [h0]
                have hxb2 : (sx != 0) = true := by simp [h0]
                have HH0 := hide h0
                clear h0
                go_wp2_with fail
                refine (cellsAsA_true _ _ _ ss sx sy _ (hsz.below HB59.out) HBAD.out HCL.out).mono ?_
                rintro e w9 ⟨rfl, hb9⟩
                go_wp2_with fail
                go_ret
                exact ⟨rfl, hbw5.trans ((HB59.out.trans (hb9.mono HB59.out.size)).mono (by omega))⟩
          · have hkb : (kx != 0) = true := by simp [hk0]
            have hkb2 : (kx == 0) = false := by simp [hk0]
            have hg0 := HG.out
            rw [getC_bad (by rw [HCK.out]; exact hk0), HCK.out] at hg0
            simp only [Prod.mk.injEq] at hg0
            obtain ⟨rfl, rfl, rfl, rfl⟩ := hg0
            have hs0 := HS.out
            rw [scanC_bad (by rw [HCK.out]; exact hk0), HCK.out] at hs0
            simp only [Prod.mk.injEq] at hs0
            obtain ⟨rfl, rfl, rfl⟩ := hs0
            clear hk0
            obtain ⟨l0, a0, a1, a2, a3⟩ := HKEEP.out w5 hbz
            have f0 := hF1z.cell 0
            have f1 := hF1z.cell 1
            have g0 := hF2z.cell 0
            have g1 := hF2z.cell 1
            simp at f0 f1 g0 g1
            have hlz1 := hF1z.lt
            have hlz2 := hF2z.lt
            go_wp2_with fail
            refine (cellsAsA_true _ _ _ [] kx ky _ ((hsz.alloc _).alloc _) (fun _ => rfl) (fun h => absurd h (by simpa using hkb))).mono ?_
            rintro e w6 ⟨rfl, hb6⟩
            go_wp2_with fail
            go_ret
            exact ⟨rfl, ((hbw5.alloc (by omega) _).alloc (by simp; omega) _).trans (hb6.mono (by simp; omega))⟩

end Go.Proofs.Ytlebbkbbmgmmjab
