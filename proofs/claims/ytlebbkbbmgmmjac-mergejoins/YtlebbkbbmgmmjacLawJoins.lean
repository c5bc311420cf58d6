/-
  The walk over the law MergeJoins.
-/
import Derived.Test.YtlebbkbbmgmmjacMergeJ1
import Derived.Test.YtlebbkbbmgmmjacMergeW13
namespace Go.Proofs.Ytlebbkbbmgmmjac
open Go.RowKit

theorem askF_eq (t m : Int) : askF t m = askFV t m := rfl

theorem tlen_mem' : ∀ {ls : List (List Cl)} {l : List Cl}, l ∈ ls → l.length ≤ tlen ls
  | x :: r, l, h => by
    simp only [tlen, List.map_cons, List.sum_cons]
    rcases List.mem_cons.1 h with rfl | h
    · omega
    · have := tlen_mem' h
      simp only [tlen] at this
      omega

/-- What Scan tells of lists is what the document tells of all that count. -/
theorem mscan_scanned {ls : List (List Cl)} {a b : ByteArray} {t m : Int} (hf : ∀ l ∈ ls, (checkC l).1 = 0) (hl : (joinR ls).length ≤ 1000) (ha : (askFV t m).1 = 0) : scanGo a b t m zeroC (joinR ls) [] = scannedR (joinR ls) a b t m := by
  obtain ⟨_, hn, hm⟩ := askFV_zero ha
  have ck := checkC_ok hl (joinR_code hf) (joinR_pw fun l hl => fine_pw (hf l hl))
  have e := @scanC_ok (joinR ls) a b t m (by rw [ck]) hn hm
  have h := @scan_scanned (joinR ls) a b t m (by rw [e])
  rw [e] at h
  exact h

/-- A list of cells lies off a block that has no text. -/
theorem RdC.setApart {w : World} {v : Value} {cs : List Cl} {B : Nat} {t : TypeId} {xs : Array Value} (h : RdC w v cs) (hB : Bk w B t xs) (hx : ∀ (k : Nat) (s : ByteArray), xs[k]? ≠ some (Value.string s)) (k : Nat) (u : Value) : RdC (w.setCell ⟨B, k, none⟩ u) v cs := by
  obtain ⟨ao, cap, hv, h1, h2, h3, h4⟩ := h
  refine ⟨ao, cap, hv, h1, h2, h3, fun a ha j x hxx => ?_⟩
  have hc := h4 a ha j x hxx
  rw [← hc]
  have hl := (List.getElem?_eq_some_iff.1 hxx).1
  rw [cc_length] at hl
  have hne : cs ≠ [] := by intro e; rw [e] at hl; simp at hl
  have h0 : (cc cs)[0]? = some (.string (cs.head hne).row) := by
    cases cs with
    | nil => exact absurd rfl hne
    | cons c r => rfl
  have hs := h4 a ha 0 _ h0
  obtain ⟨b, o, rfl⟩ := add_spot hs
  rw [Addr.add_lit] at hs ⊢
  refine World.cell?_of_block (heap_setCell_other w _ _ u ?_)
  intro e
  simp only at e
  subst e
  rw [hB.cell] at hs
  exact hx _ _ hs

theorem no_text_flt (x y : Int) : ∀ (k : Nat) (s : ByteArray), (#[Value.int .i64 x, Value.int .i64 y])[k]? ≠ some (Value.string s) := by
  intro k s h
  match k with
  | 0 => simp at h
  | 1 => simp at h
  | k + 2 => simp at h

theorem no_text_sl (o : Option Addr) (n c : Nat) : ∀ (k : Nat) (s : ByteArray), (#[Value.slice o n c])[k]? ≠ some (Value.string s) := by
  intro k s h
  match k with
  | 0 => simp at h
  | k + 1 => simp at h

set_option maxRecDepth 100000 in
set_option maxHeartbeats 4000000 in
theorem mergeJoins_any (v : Value) (ls : List (List Cl)) (a b : ByteArray) (t m : Int) (w : World) (hv : RdL w v ls) (hb : ∀ l ∈ ls, l.length ≤ 2199023255552) :
    Calls Try.prog 7 #[v, aA a b t m] w fun e w' => e = .returned (.bool true) ∧ Below w.heap.size w w' := by
  obtain ⟨ao, cap, hvv, hc1, hc2⟩ := hv.shape
  subst hvv
  unfold maxLen at hc2
  have HBL := hide hb
  clear hb
  unfold aA
  go_enter Try.func7, Try.ntmps7
  go_wp2_with fail
  have hA0 := Bk.new w 66 #[.string a, .string b, .int .i64 t, .int .i64 m]
  refine (mergeBegun_any _).mono ?_
  rintro e w1 ⟨rfl, hb1⟩
  have hA1 := hA0.below hb1 (by simp)
  have hbw1 : Below w.heap.size w w1 := (below_alloc' _ _).trans (hb1.mono (by simp))
  have hz1 := hbw1.size
  have hv1 := hv.below hbw1
  clear hA0 hb1
  cases hq1 : vastB ls
  case true =>
    go_wp2_with (go_at_call 32; refine (vastLists_any _ ls _ hv1 HBL.out).mono ?_; rintro e w2 ⟨rfl, hb2⟩; rw [hq1])
    go_ret
    exact ⟨rfl, hbw1.trans (hb2.mono hz1)⟩
  obtain ⟨hl100, hl3000⟩ := vastB_false hq1
  have hbm : ∀ l ∈ ls, l.length ≤ 1000000 := fun l hl => Nat.le_trans (tlen_mem' hl) (by omega)
  have HBM := hide hbm
  clear hbm
  go_wp2_with (go_at_call 32; refine (vastLists_any _ ls _ hv1 HBL.out).mono ?_; rintro e w2 ⟨rfl, hb2⟩; rw [hq1])
  have hA2 := hA1.below hb2 hA1.lt
  have hbw2 : Below w.heap.size w w2 := hbw1.trans (hb2.mono hz1)
  have hz2 := hbw2.size
  clear hA1 hb2 hbw1 hv1 hq1
  refine (ownLists_any _ ls _ (hv.below hbw2) hl100 HBM.out).mono ?_
  rintro e w3 ⟨v3, rfl, hr3, hx3, hb3⟩
  clear hx3
  have hA3 := hA2.below hb3 hA2.lt
  have hbw3 : Below w.heap.size w w3 := hbw2.trans (hb3.mono hz2)
  have hz3 := hbw3.size
  obtain ⟨ao3, cap3, hv3, _, _⟩ := hr3.shape
  subst hv3
  clear hb3 hA2 hbw2
  go_wp2_with fail
  refine (Join_any _ ls _ hr3).mono ?_
  rintro e w4 ⟨vj, rfl, hrj, hb4, hnj⟩
  generalize hJN : jnR ls = JN at *
  obtain ⟨J1, jx, jy⟩ := JN
  have HJN := hide hJN
  simp only at hrj ⊢
  obtain ⟨aoj, capj, hvj, _, _⟩ := hrj.shape
  subst hvj
  have hA4 := hA3.below hb4 hA3.lt
  have hbw4 : Below w.heap.size w w4 := hbw3.trans (hb4.mono hz3)
  have hz4 := hbw4.size
  clear hb4 hA3 hbw3 hr3 hnj hJN
  have hAx := hA4.below (below_alloc' _ (.cells #[.int .i64 jx, .int .i64 jy] 26)) hA4.lt
  have hbx := hbw4.alloc hz4 (.cells #[.int .i64 jx, .int .i64 jy] 26)
  have hF6x := Bk.new w4 26 #[.int .i64 jx, .int .i64 jy]
  have hrjx := hrj.alloc (.cells #[.int .i64 jx, .int .i64 jy] 26)
  have hzx : (w4.alloc (.cells #[.int .i64 jx, .int .i64 jy] 26)).heap.size = w4.heap.size + 1 := by simp
  generalize hSC : mscR ls a b t m = SC at *
  obtain ⟨ss, sx, sy⟩ := SC
  have HSC := hide hSC
  clear hSC hA4 hbw4 hrj
  unfold fltC
  go_upto_region 6 with fail
  generalize w4.alloc (.cells #[.int .i64 jx, .int .i64 jy] 26) = wX at hAx hbx hF6x hrjx hzx ⊢
  have HZX := hide hzx
  clear hzx
  have hkeep : ∀ W, Below wX.heap.size wX W → W.cell? ⟨w.heap.size, 0, none⟩ = some (.string a) ∧ W.cell? ⟨w.heap.size, 1, none⟩ = some (.string b) ∧ W.cell? ⟨w.heap.size, 2, none⟩ = some (.int .i64 t) ∧ W.cell? ⟨w.heap.size, 3, none⟩ = some (.int .i64 m) := fun W h =>
    ⟨(hAx.below h hAx.lt).cell 0, (hAx.below h hAx.lt).cell 1, (hAx.below h hAx.lt).cell 2, (hAx.below h hAx.lt).cell 3⟩
  have hvall : ∀ W, Below wX.heap.size wX W → RdL W (.slice ao ls.length cap) ls := fun W h => hv.below (hbx.trans (h.mono hbx.size))
  obtain ⟨a0, a1, a2, a3⟩ := hkeep wX (Below.refl _ _)
  have HKEEP := hide hkeep
  have HVALL := hide hvall
  clear hkeep hvall
  go_cut [7, 8] (fun v7 p wx => ∃ (so : Option Addr) (scap z : Nat), v7 = .slice so ss.length scap ∧ p = .pointer (some ⟨z, 0, none⟩) ∧ Bk wx z 26 #[.int .i64 sx, .int .i64 sy] ∧ RdC wx (.slice so ss.length scap) ss ∧ Below wX.heap.size wX wx)
  case first =>
    as_aux_lemma =>
      go_region_held3 (fun W => W.cell? ⟨w.heap.size, 0, none⟩ = some (.string a) ∧ W.cell? ⟨w.heap.size, 1, none⟩ = some (.string b) ∧ W.cell? ⟨w.heap.size, 2, none⟩ = some (.int .i64 t) ∧ W.cell? ⟨w.heap.size, 3, none⟩ = some (.int .i64 m)) (exact HKEEP.out _ (by go_grown)) (first
        | (go_at_call 35; refine (MScan_any _ ls a b t m _ (by exact hr3.below (by go_grown))).mono ?_; rintro e w4 ⟨v4, rfl, hr4, hb4, hn4⟩; rw [HSC.out] at hr4 ⊢; unfold fltC; simp only at hr4 ⊢; have hb34 : Below w3.heap.size w3 w4 := Below.trans (by go_grown) (hb4.mono (by simp <;> omega)); have hb24 := hb23.trans (hb34.mono hz23); have hz24 := hb24.size; obtain ⟨ao4, cap4, hv4, _, _⟩ := hr4.shape; subst hv4; (first | (have tF : Bk w4 w3.heap.size 26 #[.int .i64 0, .int .i64 0] := Bk.below (w := w3.alloc (.cells #[.int .i64 0, .int .i64 0] 26)) (Bk.new w3 _ _) hb4 (by simp); have f0 := tF.cell 0; have f1 := tF.cell 1; have f2 := tF.frozen 0; have f3 := tF.frozen 1; have f4 := tF.lt; simp at f0 f1) | (have tF := tF0.below hb34 tF0.lt; have f0 := tF.cell 0; have f1 := tF.cell 1; have f2 := tF.frozen 0; have f3 := tF.frozen 1; have f4 := tF.lt; simp at f0 f1) | skip))
        | (go_at_call 34; refine (ownLists_any _ ls _ (by exact HVALL.out _ (by go_grown)) hl100 HBM.out).mono ?_; rintro e w3 ⟨v3, rfl, hr3, hx3, hb3⟩; clear hx3; have hb23 : Below wX.heap.size wX w3 := Below.trans (by go_grown) (hb3.mono (by simp <;> omega)); have hz23 := hb23.size; obtain ⟨ao3, cap3, hv3, _, _⟩ := hr3.shape; subst hv3; (first | (have tF0 : Bk w3 wX.heap.size 26 #[.int .i64 0, .int .i64 0] := Bk.below (w := (wX.alloc (.cells #[.int .i64 0, .int .i64 0] 26)).drew) (show Bk (wX.alloc (.cells #[.int .i64 0, .int .i64 0] 26)) _ _ _ from Bk.new wX _ _) hb3 (by simp)) | skip)))
      all_goals
        go_wp2_with fail
        go_meet
        case rel =>
          first
          | exact ⟨_, _, _, rfl, rfl, Bk.new _ _ _, hr4.alloc _, hb24.alloc hz24 _⟩
          | exact ⟨_, _, _, rfl, rfl, (tF.set 0 _).set 1 _, (hr4.setNew hn4 tF0.lt _).setNew hn4 tF0.lt _, by go_grown⟩
          | exact ⟨_, _, _, rfl, rfl, (tF.set 0 _).set 1 _, (hr4.setNew hn4 (lt_alloc _ _) _).setNew hn4 (lt_alloc _ _) _, by go_grown⟩
  case rest =>
    as_aux_lemma =>
      obtain ⟨so, scap, z8, rfl, rfl, hF8, hs, hby⟩ := hcut
      have hAC := hAx.below hby hAx.lt
      have hF6C := hF6x.below hby hF6x.lt
      have hjC := hrjx.below hby
      have hbwC : Below w.heap.size w wc := hbx.trans (hby.mono hbx.size)
      have hzC := hbwC.size
      have hlF8 := hF8.lt
      have hlF6 := hF6C.lt
      have hlA := hAC.lt
      clear hAx hbx hF6x hrjx hby HKEEP HVALL a0 a1 a2 a3 HZX
      go_wp2_with fail
      refine (lListsFault_any _ ls _ (hv.below hbwC)).mono ?_
      rintro e w7 ⟨rfl, hb7⟩
      generalize hLF : lfR ls = LF at *
      obtain ⟨lx, ly⟩ := LF
      have HLF := hide hLF
      clear hLF
      have hA7 := hAC.below hb7 hlA
      have hF6 := hF6C.below hb7 hlF6
      have hF8 := hF8.below hb7 hlF8
      have hj7 := hjC.below hb7
      have hs7 := hs.below hb7
      have hbw7 : Below w.heap.size w w7 := hbwC.trans (hb7.mono hzC)
      have hz7 := hbw7.size
      clear hAC hF6C hjC hs hb7 hbwC
      have hb78 : Below w7.heap.size w7 (((w7.alloc (.cells #[.int .i64 lx, .int .i64 ly] 26)).alloc (.cells #[.slice none 0 0] 22)).alloc (.cells #[.int .i64 lx, .int .i64 ly] 26)) := ((below_alloc' _ _).alloc (by simp) _).alloc (by simp; omega) _
      have hF9 : Bk (((w7.alloc (.cells #[.int .i64 lx, .int .i64 ly] 26)).alloc (.cells #[.slice none 0 0] 22)).alloc (.cells #[.int .i64 lx, .int .i64 ly] 26)) w7.heap.size 26 #[.int .i64 lx, .int .i64 ly] := ((Bk.new w7 _ _).below (below_alloc' _ _) (by simp)).below (below_alloc' _ _) (by simp; omega)
      have hT10 : Bk (((w7.alloc (.cells #[.int .i64 lx, .int .i64 ly] 26)).alloc (.cells #[.slice none 0 0] 22)).alloc (.cells #[.int .i64 lx, .int .i64 ly] 26)) (w7.heap.size + 1) 22 #[.slice none 0 0] := (Bk.new2 w7 _ _ _).below (below_alloc' _ _) (by simp)
      have hF11 : Bk (((w7.alloc (.cells #[.int .i64 lx, .int .i64 ly] 26)).alloc (.cells #[.slice none 0 0] 22)).alloc (.cells #[.int .i64 lx, .int .i64 ly] 26)) (w7.heap.size + 2) 26 #[.int .i64 lx, .int .i64 ly] := by
        have h := Bk.new2 (w7.alloc (.cells #[.int .i64 lx, .int .i64 ly] 26)) (.cells #[.slice none 0 0] 22) 26 #[.int .i64 lx, .int .i64 ly]
        rw [show (w7.alloc (.cells #[.int .i64 lx, .int .i64 ly] 26)).heap.size = w7.heap.size + 1 by simp] at h
        exact h
      have hz8 : (((w7.alloc (.cells #[.int .i64 lx, .int .i64 ly] 26)).alloc (.cells #[.slice none 0 0] 22)).alloc (.cells #[.int .i64 lx, .int .i64 ly] 26)).heap.size = w7.heap.size + 3 := by simp
      have HB78 := hide hb78
      have HF9 := hide hF9
      have HT10 := hide hT10
      have HF11 := hide hF11
      have HZ8 := hide hz8
      clear hb78 hF9 hT10 hF11 hz8
      unfold fltC
      go_upto_region 10 with fail
      generalize ((w7.alloc (.cells #[.int .i64 lx, .int .i64 ly] 26)).alloc (.cells #[.slice none 0 0] 22)).alloc (.cells #[.int .i64 lx, .int .i64 ly] 26) = w8 at HB78 HF9 HT10 HF11 HZ8 ⊢
      have hl67 := hF6.lt
      have hl87 := hF8.lt
      have hlA7 := hA7.lt
      have hA8 := hA7.below HB78.out hA7.lt
      have hF6 := hF6.below HB78.out hF6.lt
      have hF8 := hF8.below HB78.out hF8.lt
      have hj8 := hj7.below HB78.out
      have hs8 := hs7.below HB78.out
      have hbw8 : Below w.heap.size w w8 := hbw7.trans (HB78.out.mono hz7)
      have hF9 := HF9.out
      have hT10 := HT10.out
      have hF11 := HF11.out
      clear HF9 HT10 HF11 hA7 hj7 hs7 hbw7 HB78
      have hz8 := hbw8.size
      by_cases hlx : lx = 0
      case neg =>
        have hcb : (lx == 0) = false := beq_eq_false_iff_ne.2 hlx
        have hcb2 : (lx != 0) = true := by simp [hlx]
        have e1 := jnR_bad (ls := ls) (by rw [HLF.out]; exact hlx)
        rw [HJN.out, HLF.out] at e1
        simp only [Prod.mk.injEq] at e1
        obtain ⟨h1, h2, h3⟩ := e1
        have h2' := h2.symm
        have h3' := h3.symm
        subst h1 h2' h3'
        have e2 := @mscR_bad ls a b t m (by rw [HLF.out]; exact hlx)
        rw [HSC.out, HLF.out] at e2
        simp only [Prod.mk.injEq] at e2
        obtain ⟨h1, h4, h5⟩ := e2
        have h4' := h4.symm
        have h5' := h5.symm
        subst h1 h4' h5'
        have c0 := hF9.cell 0
        have c1 := hF6.cell 0
        have c2 := hF6.cell 1
        have c3 := hF11.cell 0
        have c4 := hF11.cell 1
        simp at c0 c1 c2 c3 c4
        go_wp2_with fail
        refine (cellsAsJ1_true _ _ [] lx ly _ hj8 (fun _ => rfl) (fun h => absurd h hlx)).mono ?_
        rintro e w9 ⟨rfl, hb9⟩
        have d0 := (hF9.below hb9 hF9.lt).cell 0
        have d1 := (hF9.below hb9 hF9.lt).cell 1
        have d2 := (hF8.below hb9 hF8.lt).cell 0
        have d3 := (hF8.below hb9 hF8.lt).cell 1
        simp at d0 d1 d2 d3
        have hs9 := hs8.below hb9
        clear c0 c1 c2 c3 c4
        go_wp2_with fail
        refine (cellsAsJ2_true _ _ _ [] lx ly _ hs9 (fun _ => rfl) (fun h => absurd h hlx)).mono ?_
        rintro e w10 ⟨rfl, hb10⟩
        go_wp2_with fail
        go_ret
        exact ⟨rfl, (hbw8.trans (hb9.mono hz8)).trans (hb10.mono (Nat.le_trans hz8 hb9.size))⟩
      subst hlx
      obtain ⟨hl00, hl20, hfine⟩ := lfR_zero (ls := ls) (by rw [HLF.out])
      have hly : ly = 0 := by rw [HLF.out] at hl00; exact (Prod.mk.injEq _ _ _ _ ▸ hl00).2
      subst hly
      have hlf0 : (lfR ls).1 = 0 := by rw [HLF.out]
      have HFI := hide hfine
      have HPW := hide (show ∀ l ∈ ls, l.Pairwise Lt from fun l hl => fine_pw (hfine l hl))
      clear hl00 hfine
      have c0 := hF9.cell 0
      simp at c0
      go_wp2_with fail
      refine (together_any _ ls _ (hv.below hbw8) HPW.out hl100 hl3000).mono ?_
      rintro e w9 ⟨va, rfl, hra, hb9⟩
      obtain ⟨aoa, capa, hva, _, _⟩ := hra.shape
      subst hva
      have hz89 := hb9.size
      have hjb : 1000 < (joinR ls).length → J1 = [] ∧ jx = 9 ∧ jy = -1 := fun h => by
        have e := jnR_much hlf0 h
        rw [HJN.out] at e
        simpa using e
      have hjs : (joinR ls).length ≤ 1000 → J1 = joinR ls ∧ jx = 0 ∧ jy = 0 := fun h => by
        have e := jnR_ok hlf0 h
        rw [HJN.out] at e
        simpa using e
      have hsa : (askFV t m).1 ≠ 0 → ss = [] ∧ (sx, sy) = askFV t m := fun h => by
        have e := @mscR_ask ls a b t m hlf0 h
        rw [HSC.out] at e
        simpa using e
      have hso : (askFV t m).1 = 0 → sx = 0 ∧ sy = 0 ∧ ((joinR ls).length ≤ 1000 → ss = scannedR (joinR ls) a b t m) := fun h => by
        have e := @mscR_ok ls a b t m hlf0 h
        rw [HSC.out] at e
        simp only [Prod.mk.injEq] at e
        exact ⟨e.2.1, e.2.2, fun hl => by rw [e.1]; exact mscan_scanned HFI.out hl h⟩
      have hpJ : (joinR ls).Pairwise Lt := joinR_pw HPW.out
      have hlJ : (joinR ls).length ≤ 3000 := Nat.le_trans (joinR_len ls) hl3000
      have HJB := hide hjb
      have HJS := hide hjs
      have HSA := hide hsa
      have HSO := hide hso
      have HPJ := hide hpJ
      clear hjb hjs hsa hso hpJ HJN HSC HLF HFI HPW hlf0 HBL HBM
      generalize joinR ls = J at *
      have g1 : w.heap.size ≠ w7.heap.size + 1 := by omega
      have g2 : w4.heap.size ≠ w7.heap.size + 1 := by omega
      have g3 : z8 ≠ w7.heap.size + 1 := by omega
      have g4 : w7.heap.size ≠ w7.heap.size + 1 := by omega
      have g5 : w7.heap.size + 2 ≠ w7.heap.size + 1 := by omega
      have hT9 := hT10.below hb9 hT10.lt
      have hA10 := (hA8.below hb9 hA8.lt).setP (p := ⟨w7.heap.size + 1, 0, none⟩) g1 (.slice aoa J.length capa)
      have hF610 := (hF6.below hb9 hF6.lt).setP (p := ⟨w7.heap.size + 1, 0, none⟩) g2 (.slice aoa J.length capa)
      have hF810 := (hF8.below hb9 hF8.lt).setP (p := ⟨w7.heap.size + 1, 0, none⟩) g3 (.slice aoa J.length capa)
      have hF910 := (hF9.below hb9 hF9.lt).setP (p := ⟨w7.heap.size + 1, 0, none⟩) g4 (.slice aoa J.length capa)
      have hF1110 := (hF11.below hb9 hF11.lt).setP (p := ⟨w7.heap.size + 1, 0, none⟩) g5 (.slice aoa J.length capa)
      have hT10s : Bk (w9.setCell ⟨w7.heap.size + 1, 0, none⟩ (.slice aoa J.length capa)) (w7.heap.size + 1) 22 #[(.slice aoa J.length capa)] := hT9.set 0 (.slice aoa J.length capa)
      have hj10 := (hj8.below hb9).setApart hT9 (no_text_sl _ _ _) 0 (.slice aoa J.length capa)
      have hs10 := (hs8.below hb9).setApart hT9 (no_text_sl _ _ _) 0 (.slice aoa J.length capa)
      have hra10 := hra.setApart hT9 (no_text_sl _ _ _) 0 (.slice aoa J.length capa)
      have hbw10 := (hbw8.trans (hb9.mono hz8)).setCell (p := ⟨w7.heap.size + 1, 0, none⟩) (by simp only; omega) (.slice aoa J.length capa)
      have t0 := hT9.cell 0
      have t1 := hT9.frozen 0
      have hlT9 := hT9.lt
      simp at t0
      have HA10 := hide hA10
      have HF6 := hide hF610
      have HF8 := hide hF810
      have HF9 := hide hF910
      have HF11 := hide hF1110
      have HT10 := hide hT10s
      have HJ10 := hide hj10
      have HS10 := hide hs10
      have HRA10 := hide hra10
      have HBW10 := hide hbw10
      clear hA10 hF610 hF810 hF910 hF1110 hT10s hj10 hs10 hra10 hbw10 hA8 hF6 hF8 hF9 hF11 hT10 hj8 hs8 hbw8 hb9 hra c0 hT9
      go_upto_region 12 with fail
      generalize w9.setCell ⟨w7.heap.size + 1, 0, none⟩ (.slice aoa J.length capa) = w10 at HA10 HF6 HF8 HF9 HF11 HT10 HJ10 HS10 HRA10 HBW10 ⊢
      clear t0 t1 hlT9 hz89
      have t0 := HT10.out.cell 0
      have hz10 := HBW10.out.size
      have x0 := HF6.out.cell 0
      have x1 := HF6.out.cell 1
      have y0 := HF11.out.cell 0
      have y1 := HF11.out.cell 1
      have y2 := HF11.out.frozen 0
      have y3 := HF11.out.frozen 1
      simp at t0 x0 x1 y0 y1
      by_cases hbig : 1000 < J.length
      case' pos =>
        obtain ⟨k1, k2, k3⟩ := HJB.out hbig
        subst k1 k2 k3
        have hd : decide ((1000 : Int) < (J.length : Int)) = true := by simp; omega
        have hd2 : decide (1000 < J.length) = true := by simp; omega
        go_wp2_with fail
        refine (FC_any 9 (-1) _).mono ?_
        rintro e w11 ⟨rfl, hb11⟩
        have hF11b := HF11.out.below hb11 HF11.out.lt
        have g6 : w.heap.size ≠ w7.heap.size + 2 := by omega
        have g7 : w4.heap.size ≠ w7.heap.size + 2 := by omega
        have g8 : z8 ≠ w7.heap.size + 2 := by omega
        have g9 : w7.heap.size ≠ w7.heap.size + 2 := by omega
        have g10 : w7.heap.size + 1 ≠ w7.heap.size + 2 := by omega
        have hA12 := ((HA10.out.below hb11 HA10.out.lt).setP (p := ⟨w7.heap.size + 2, 0, none⟩) g6 (.int .i64 9)).setP (p := ⟨w7.heap.size + 2, 1, none⟩) g6 (.int .i64 (-1))
        have hF612 := ((HF6.out.below hb11 HF6.out.lt).setP (p := ⟨w7.heap.size + 2, 0, none⟩) g7 (.int .i64 9)).setP (p := ⟨w7.heap.size + 2, 1, none⟩) g7 (.int .i64 (-1))
        have hF812 := ((HF8.out.below hb11 HF8.out.lt).setP (p := ⟨w7.heap.size + 2, 0, none⟩) g8 (.int .i64 9)).setP (p := ⟨w7.heap.size + 2, 1, none⟩) g8 (.int .i64 (-1))
        have hF912 := ((HF9.out.below hb11 HF9.out.lt).setP (p := ⟨w7.heap.size + 2, 0, none⟩) g9 (.int .i64 9)).setP (p := ⟨w7.heap.size + 2, 1, none⟩) g9 (.int .i64 (-1))
        have hT12 := ((HT10.out.below hb11 HT10.out.lt).setP (p := ⟨w7.heap.size + 2, 0, none⟩) g10 (.int .i64 9)).setP (p := ⟨w7.heap.size + 2, 1, none⟩) g10 (.int .i64 (-1))
        have hF11c : Bk (w11.setCell ⟨w7.heap.size + 2, 0, none⟩ (.int .i64 9)) (w7.heap.size + 2) 26 #[.int .i64 9, .int .i64 0] := hF11b.set 0 (.int .i64 9)
        have hj12 := ((HJ10.out.below hb11).setApart hF11b (no_text_flt _ _) 0 (.int .i64 9)).setApart hF11c (no_text_flt _ _) 1 (.int .i64 (-1))
        have hs12 := ((HS10.out.below hb11).setApart hF11b (no_text_flt _ _) 0 (.int .i64 9)).setApart hF11c (no_text_flt _ _) 1 (.int .i64 (-1))
        have hra12 := ((HRA10.out.below hb11).setApart hF11b (no_text_flt _ _) 0 (.int .i64 9)).setApart hF11c (no_text_flt _ _) 1 (.int .i64 (-1))
        have hbw12 := ((HBW10.out.trans (hb11.mono hz10)).setCell (p := ⟨w7.heap.size + 2, 0, none⟩) (by simp only; omega) (.int .i64 9)).setCell (p := ⟨w7.heap.size + 2, 1, none⟩) (by simp only; omega) (.int .i64 (-1))
        have x2 := (HF6.out.below hb11 HF6.out.lt).cell 0
        have x3 := (HF6.out.below hb11 HF6.out.lt).cell 1
        have y4 := hF11b.cell 0
        have y5 := hF11b.cell 1
        have y6 := hF11b.frozen 0
        have y7 := hF11b.frozen 1
        have hlF11 := hF11b.lt
        simp at x2 x3 y4 y5
        have HA12 := hide hA12
        have HF812 := hide hF812
        have HF912 := hide hF912
        have HT12 := hide hT12
        have HJ12 := hide hj12
        have HS12 := hide hs12
        have HRA12 := hide hra12
        have HBW12 := hide hbw12
        have g7' : ¬ w4.heap.size = w7.heap.size + 2 := g7
        clear hA12 hF612 hF812 hF912 hT12 hj12 hs12 hra12 hbw12 hF11b hF11c x0 x1 y0 y1 y2 y3 t0 hb11
        unfold fltC
        go_wp2_with fail
        refine (cellsAsJ1_true _ _ [] 9 (-1) _ HJ12.out (fun _ => rfl) (fun h => absurd h (by decide))).mono ?_
        rintro e w13 ⟨rfl, hb13⟩
        have hA13 := HA12.out.below hb13 HA12.out.lt
        have hF813 := HF812.out.below hb13 HF812.out.lt
        have hF913 := HF912.out.below hb13 HF912.out.lt
        have hT13 := HT12.out.below hb13 HT12.out.lt
        have hs13 := HS12.out.below hb13
        have hra13 := HRA12.out.below hb13
        have hbw13 := HBW12.out.trans (hb13.mono HBW12.out.size)
        clear x2 x3 y4 y5 y6 y7 hb13 HA12 HF812 HF912 HT12 HJ12 HS12 HRA12 HBW12
      case' neg =>
        obtain ⟨k1, k2, k3⟩ := HJS.out (by omega)
        have k1' := k1.symm
        subst k1' k2 k3
        have hd : decide ((1000 : Int) < (J.length : Int)) = false := by simp; omega
        have hd2 : decide (1000 < J.length) = false := by simp; omega
        go_wp2_with fail
        refine (cellsAsJ1_true _ _ J 0 0 _ HJ10.out (fun h => absurd rfl h) (fun _ W hW => Joins1_any _ _ J W ((HT10.out.below hW HT10.out.lt).cell 0) (HRA10.out.below hW))).mono ?_
        rintro e w13 ⟨rfl, hb13⟩
        have hA13 := HA10.out.below hb13 HA10.out.lt
        have hF813 := HF8.out.below hb13 HF8.out.lt
        have hF913 := HF9.out.below hb13 HF9.out.lt
        have hT13 := HT10.out.below hb13 HT10.out.lt
        have hs13 := HS10.out.below hb13
        have hra13 := HRA10.out.below hb13
        have hbw13 := HBW10.out.trans (hb13.mono hz10)
        clear x0 x1 y0 y1 y2 y3 t0 hb13
      all_goals
        clear HA10 HF6 HF8 HF9 HF11 HT10 HJ10 HS10 HRA10 HBW10 HJB HJS
        have hz13 := hbw13.size
        have b0 := hA13.cell 0
        have b1 := hA13.cell 1
        have b2 := hA13.cell 2
        have b3 := hA13.cell 3
        have n0 := hF913.cell 0
        simp at b0 b1 b2 b3 n0
        go_wp2_with fail
        refine (AskFault_any a b t m _).mono ?_
        rintro e w14 ⟨rfl, hb14⟩
        rw [askF_eq]
        have hzero : (askFV t m).1 = 0 → askFV t m = (0, 0) ∧ 0 ≤ m := fun h => by
          obtain ⟨h1, _, h3⟩ := askFV_zero h
          exact ⟨h1, by omega⟩
        have HZR := hide hzero
        clear hzero
        have hA14 := hA13.below hb14 hA13.lt
        have hF814 := hF813.below hb14 hF813.lt
        have hF914 := hF913.below hb14 hF913.lt
        have hT14 := hT13.below hb14 hT13.lt
        have hs14 := hs13.below hb14
        have hra14 := hra13.below hb14
        have hbw14 : Below w.heap.size w w14 := hbw13.trans (hb14.mono hz13)
        clear hA13 hF813 hF913 hT13 hs13 hra13 hbw13 hb14 b0 b1 b2 b3 n0
        generalize askFV t m = AF at *
        obtain ⟨p, q⟩ := AF
        have m0 := hF914.cell 0
        have m1 := hF914.cell 1
        have m2 := hF914.frozen 0
        have m3 := hF914.frozen 1
        have hlF9 := hF914.lt
        simp at m0 m1
        have j1 : w.heap.size ≠ w7.heap.size := by omega
        have j2 : z8 ≠ w7.heap.size := by omega
        have j3 : w7.heap.size + 1 ≠ w7.heap.size := by omega
        have hA15 := (hA14.setP (p := ⟨w7.heap.size, 0, none⟩) j1 (.int .i64 p)).setP (p := ⟨w7.heap.size, 1, none⟩) j1 (.int .i64 q)
        have hF815 := (hF814.setP (p := ⟨w7.heap.size, 0, none⟩) j2 (.int .i64 p)).setP (p := ⟨w7.heap.size, 1, none⟩) j2 (.int .i64 q)
        have hT15 := (hT14.setP (p := ⟨w7.heap.size, 0, none⟩) j3 (.int .i64 p)).setP (p := ⟨w7.heap.size, 1, none⟩) j3 (.int .i64 q)
        have hF9c : Bk (w14.setCell ⟨w7.heap.size, 0, none⟩ (.int .i64 p)) w7.heap.size 26 #[.int .i64 p, .int .i64 0] := hF914.set 0 (.int .i64 p)
        have hF9d : Bk ((w14.setCell ⟨w7.heap.size, 0, none⟩ (.int .i64 p)).setCell ⟨w7.heap.size, 1, none⟩ (.int .i64 q)) w7.heap.size 26 #[.int .i64 p, .int .i64 q] := hF9c.set 1 (.int .i64 q)
        have hs15 := (hs14.setApart hF914 (no_text_flt _ _) 0 (.int .i64 p)).setApart hF9c (no_text_flt _ _) 1 (.int .i64 q)
        have hra15 := (hra14.setApart hF914 (no_text_flt _ _) 0 (.int .i64 p)).setApart hF9c (no_text_flt _ _) 1 (.int .i64 q)
        have hbw15 := (hbw14.setCell (p := ⟨w7.heap.size, 0, none⟩) (by simp only; omega) (.int .i64 p)).setCell (p := ⟨w7.heap.size, 1, none⟩) (by simp only; omega) (.int .i64 q)
        have HA15 := hide hA15
        have HF815 := hide hF815
        have HT15 := hide hT15
        have HF915 := hide hF9d
        have HS15 := hide hs15
        have HRA15 := hide hra15
        have HBW15 := hide hbw15
        clear hA15 hF815 hT15 hF9c hF9d hs15 hra15 hbw15 hA14 hF814 hT14 hs14 hra14 hbw14 hF914
        unfold fltC
        go_upto_region 18 with fail
        generalize (w14.setCell ⟨w7.heap.size, 0, none⟩ (.int .i64 p)).setCell ⟨w7.heap.size, 1, none⟩ (.int .i64 q) = w15 at HA15 HF815 HT15 HF915 HS15 HRA15 HBW15 ⊢
        clear m0 m1 m2 m3 hlF9
        have q0 := HF915.out.cell 0
        have q1 := HF915.out.cell 1
        have q2 := HF815.out.cell 0
        have q3 := HF815.out.cell 1
        have q4 := HT15.out.cell 0
        simp at q0 q1 q2 q3 q4
        by_cases hp : p = 0
        · subst hp
          obtain ⟨k1, k2, k3⟩ := HSO.out rfl
          subst k1 k2
          obtain ⟨k4, k5⟩ := HZR.out rfl
          simp only [Prod.mk.injEq, true_and] at k4
          subst k4
          by_cases h300 : 300 < J.length
          · have hd3 : decide ((300 : Int) < (J.length : Int)) = true := by simp; omega
            have hd4 : decide (300 < J.length) = true := by simp; omega
            go_wp2_with fail
            go_ret
            exact ⟨by simp, HBW15.out⟩
          · first
            | (exfalso; omega)
            | (have hd3 : decide ((300 : Int) < (J.length : Int)) = false := by simp; omega
               have hd4 : decide (300 < J.length) = false := by simp; omega
               have k6 := k3 (by omega)
               have HK6 := hide k6
               clear k3 k6
               go_wp2_with fail
               refine (cellsAsJ2_true _ _ _ ss 0 0 _ HS15.out (fun h => absurd rfl h) (fun _ W hW => by rw [HK6.out]; exact Joins2_any _ _ _ J a b t m W ((HT15.out.below hW HT15.out.lt).cell 0) (HA15.out.below hW HA15.out.lt) (HRA15.out.below hW) HPJ.out k5 (by omega))).mono ?_
               rintro e w16 ⟨rfl, hb16⟩
               go_wp2_with fail
               go_ret
               exact ⟨rfl, HBW15.out.trans (hb16.mono HBW15.out.size)⟩)
        · have hcb : (p == 0) = false := beq_eq_false_iff_ne.2 hp
          obtain ⟨k1, k2⟩ := HSA.out hp
          simp only [Prod.mk.injEq] at k2
          obtain ⟨k2, k3⟩ := k2
          subst k1 k2 k3
          go_wp2_with fail
          refine (cellsAsJ2_true _ _ _ [] sx sy _ HS15.out (fun _ => rfl) (fun h => absurd h hp)).mono ?_
          rintro e w16 ⟨rfl, hb16⟩
          go_wp2_with fail
          go_ret
          exact ⟨rfl, HBW15.out.trans (hb16.mono HBW15.out.size)⟩

end Go.Proofs.Ytlebbkbbmgmmjac
