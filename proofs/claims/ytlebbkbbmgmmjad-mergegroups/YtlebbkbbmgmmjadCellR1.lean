/-
  The walks over the document's answers of cells: their faults, and whether two lists are the same.
-/
import Derived.Test.YtlebbkbbmgmmjadCellB1
namespace Go.Proofs.Ytlebbkbbmgmmjad
open Go.RowKit

theorem isNumB_true {n : Int} (h1 : 0 ≤ n) (h2 : n ≤ 1000000000) : isNumB n = true := by unfold isNumB; simp; omega
theorem isNumB_false {n : Int} (h : n < 0 ∨ 1000000000 < n) : isNumB n = false := by unfold isNumB; simp; omega

set_option maxRecDepth 100000 in
set_option maxHeartbeats 400000 in
theorem CellCode_any (c : Cl) (w : World) : Calls Try.prog 86 #[cA c] w fun e w' => e = .returned (.int .i64 (codeC c)) ∧ Below w.heap.size w w' := by
  unfold cA
  have hall : c.row.toList.isEmpty = true ∨ (c.row.toList.isEmpty = false ∧ 40 < (c.row.size : Int)) ∨ (c.row.toList.isEmpty = false ∧ (c.row.size : Int) ≤ 40 ∧ 40 < (c.col.size : Int)) ∨ (c.row.toList.isEmpty = false ∧ (c.row.size : Int) ≤ 40 ∧ (c.col.size : Int) ≤ 40 ∧ 200 < (c.val.size : Int)) ∨ (c.row.toList.isEmpty = false ∧ (c.row.size : Int) ≤ 40 ∧ (c.col.size : Int) ≤ 40 ∧ (c.val.size : Int) ≤ 200) := by
    cases c.row.toList.isEmpty
    · simp only [Bool.false_eq_true, false_or, true_and]
      omega
    · exact .inl rfl
  rcases hall with h0 | ⟨h0, h1⟩ | ⟨h0, h1, h2⟩ | ⟨h0, h1, h2, h3⟩ | ⟨h0, h1, h2, h3⟩
  iterate 4
    · have HE := hide (show codeC c = 8 by unfold codeC; rw [if_pos (by simp only [h0]; simp; try omega)])
      go_enter Try.func86, Try.ntmps86
      go_wp2_with fail
      go_ret
      exact ⟨by rw [HE.out]; rfl, by go_grown⟩
  · have hn : ¬ (c.row.toList.isEmpty = true ∨ 40 < (c.row.size : Int) ∨ 40 < (c.col.size : Int) ∨ 200 < (c.val.size : Int)) := by simp only [h0]; simp; omega
    have h4 : c.time < 0 ∨ (¬ c.time < 0 ∧ 1000000000 < c.time) ∨ (¬ c.time < 0 ∧ c.time ≤ 1000000000) := by omega
    rcases h4 with h4 | ⟨h4, h5⟩ | ⟨h4, h5⟩
    · have HE := hide (show codeC c = 3 by unfold codeC; rw [if_neg hn, if_pos (isNumB_false (by omega))])
      clear hn
      go_enter Try.func86, Try.ntmps86
      go_wp2_with fail
      go_ret
      exact ⟨by rw [HE.out]; rfl, by go_grown⟩
    · have HE := hide (show codeC c = 3 by unfold codeC; rw [if_neg hn, if_pos (isNumB_false (by omega))])
      clear hn
      go_enter Try.func86, Try.ntmps86
      go_wp2_with fail
      go_ret
      exact ⟨by rw [HE.out]; rfl, by go_grown⟩
    · have hi := isNumB_true (n := c.time) (by omega) h5
      cases h7 : c.gone <;> cases h6 : c.val.toList.isEmpty
      all_goals
        have HE := hide (show codeC c = _ by unfold codeC; rw [if_neg hn, if_neg (by rw [hi]; decide), h7, h6])
        clear hn hi
        go_enter Try.func86, Try.ntmps86
        go_wp2_with fail
        go_ret
        exact ⟨by rw [HE.out]; rfl, by go_grown⟩

/-- Does a stand ahead of b? -/
def aheadB (a b : Cl) : Bool := if a.row.toList == b.row.toList then (if a.col.toList == b.col.toList then decide (b.time < a.time) else Op.bytesLess a.col.toList b.col.toList) else Op.bytesLess a.row.toList b.row.toList

theorem aheadB_iff {a b : Cl} : aheadB a b = true ↔ Lt a b := by
  unfold aheadB Lt kl rc
  by_cases h1 : a.row.toList = b.row.toList
  · by_cases h2 : a.col.toList = b.col.toList
    · simp [h1, h2, bl_irrefl]
    · simp [h1, h2, bl_irrefl]
  · simp [h1]

theorem aheadB_ord {a b : Cl} : aheadB a b = decide (ordC a b < 0) := by
  rw [Bool.eq_iff_iff, aheadB_iff, decide_eq_true_eq, ordC_neg]

set_option maxRecDepth 100000 in
set_option maxHeartbeats 400000 in
theorem Ahead_any (a b : Cl) (w : World) : Calls Try.prog 87 #[cA a, cA b] w fun e w' => e = .returned (.bool (aheadB a b)) ∧ Below w.heap.size w w' := by
  unfold cA
  cases h1 : (a.row.toList == b.row.toList) <;> cases h2 : (a.col.toList == b.col.toList)
  all_goals
    have HE := hide (show aheadB a b = _ by unfold aheadB; rw [h1, h2])
    go_enter Try.func87, Try.ntmps87
    go_wp2_with fail
    go_ret
    exact ⟨by rw [HE.out]; rfl, by go_grown⟩

set_option maxRecDepth 100000 in
set_option maxHeartbeats 400000 in
theorem FC_any (c a : Int) (w : World) : Calls Try.prog 38 #[.int .i64 c, .int .i64 a] w fun e w' => e = .returned (fltC (c, a)) ∧ Below w.heap.size w w' := by
  go_enter Try.func38, Try.ntmps38
  go_wp2_with fail
  exact bodyPost_ret (v := fltC (c, a)) (by simp [results, Try.results38, go_sem, fltC]) rfl ⟨rfl, by go_grown⟩

/-- A fault's block and what is below, behind a call. -/
theorem flt_later {w wr w1 : World} (hbel : Below (w.heap.size + 1) (w.alloc (.cells #[.int .i64 0, .int .i64 0] 28)) wr) (hb : Below wr.heap.size wr w1) : Below (w.heap.size + 1) (w.alloc (.cells #[.int .i64 0, .int .i64 0] 28)) w1 :=
  hbel.trans (hb.mono (by have := hbel.size; simp at this; omega))

set_option maxRecDepth 100000 in
set_option maxHeartbeats 1000000 in
theorem CellsFault_any (v : Value) (cs : List Cl) (w : World) (hv : RdC w v cs) :
    Calls Try.prog 46 #[v] w fun e w' => e = .returned (fltC (checkC cs)) ∧ Below w.heap.size w w' := by
  obtain ⟨ao, cap, hvv, hc1, hc2, hat⟩ := hv.at
  subst hvv
  unfold maxLen at hc2
  by_cases hbig : 1000 < cs.length
  · have HE := hide (show checkC cs = (2, 0) by simp [checkC, faultR, hbig])
    go_enter Try.func46, Try.ntmps46
    go_wp2_with fail
    refine (FC_any 2 0 _).mono ?_
    rintro e w1 ⟨rfl, hb1⟩
    have hbel := flt_later (Below.refl _ _) hb1
    obtain ⟨hf0, hf1, hfr0, hfr1, hsz⟩ := two_later hbel
    have hbf := below_first hbel
    unfold fltC
    go_wp2_with fail
    exact bodyPost_ret (v := fltC (2, 0)) (by simp [results, Try.results46, go_sem, fltC, hf0, hf1]) rfl ⟨by rw [HE.out], by go_grown⟩
  · have HF := hide (show checkC cs = firstG (codeAt cs) cs.length 0 by simp [checkC, faultR, hbig])
    go_enter Try.func46, Try.ntmps46
    go_wp2_with fail
    go_loopw [3] (fun i wr => ∃ k : Nat, k ≤ cs.length ∧ i = .int .i64 k ∧ firstG (codeAt cs) (cs.length - k) k = checkC cs ∧ Below (w.heap.size + 1) (w.alloc (.cells #[.int .i64 0, .int .i64 0] 28)) wr)
      (fun i _ => cs.length - (intOf i).toNat)
    case atStart => exact ⟨0, by omega, rfl, by rw [HF.out]; rfl, Below.refl _ _⟩
    case round =>
      obtain ⟨k, hk, rfl, hgo, hbel⟩ := hrel
      have HG := hide hgo
      clear hgo
      by_cases hlt : k < cs.length
      · obtain ⟨b, off, rfl, hb, hcl⟩ := hat k hlt
        obtain ⟨c, hc⟩ : ∃ c, cs[k]? = some c := ⟨_, List.getElem?_eq_getElem hlt⟩
        have hck := hcl k hlt
        rw [(List.getElem?_eq_some_iff.1 hc).2] at hck
        have HCK := hide hck
        have hbf := below_first hbel
        obtain ⟨c0, c1, c2, c3, c4⟩ := hck.below hbf
        have hk1 : (0 : Int) ≤ (k : Int) := by omega
        have hk2 : (k : Int) < (cs.length : Int) := by omega
        go_wp2_with fail
        refine (CellCode_any c _).mono ?_
        rintro e w1 ⟨rfl, hb1⟩
        have hbel1 := flt_later hbel hb1
        obtain ⟨gf0, gf1, gfr0, gfr1, gsz⟩ := two_later hbel1
        have hbf1 := below_first hbel1
        clear c0 c1 c2 c3 c4 hb1 hbf hbel
        by_cases h0 : codeC c = 0
        · by_cases hk0 : k = 0
          · subst hk0
            have HE := hide (firstG_next (m := cs.length - 0) (codeAt_first hc h0) (by omega))
            have hd : decide ((0 : Int) < ((0 : Nat) : Int)) = false := by simp
            rw [h0]
            clear hc hcl hat hv hck
            go_wp2_with fail
            go_quiet (fail)
            go_wp2_with fail
            go_roundw
            case rel => exact ⟨1, by omega, by go_num, by rw [← HG.out, HE.out]; rfl, below_drewN hbel1 _⟩
            case measure => simp [intOf]; omega
          · obtain ⟨j, hkj⟩ : ∃ j, k = j + 1 := ⟨k - 1, by omega⟩
            obtain ⟨d, hd⟩ : ∃ c, cs[j]? = some c := ⟨_, List.getElem?_eq_getElem (by omega)⟩
            have hdi := hcl j (by omega)
            rw [(List.getElem?_eq_some_iff.1 hd).2] at hdi
            have HCA : Hid (codeAt cs k = if 0 ≤ ordC d c then 10 else 0) := hide (by rw [hkj] at hc ⊢; exact codeAt_later hc hd h0)
            have hg : decide (0 < k) = true := by simp; omega
            have hw : IntKind.i64.wrap ((k : Int) - 1) = (j : Int) := by rw [IntKind.wrap_i64]; omega
            have hj1 : (0 : Int) ≤ (j : Int) := by omega
            have hj2 : (j : Int) < (cs.length : Int) := by omega
            rw [h0]
            have hkeep : ∀ W, Below w.heap.size w W → (W.cell? ⟨b, off + k * 5, none⟩ = some (.string c.row) ∧ W.cell? ⟨b, off + k * 5 + 1, none⟩ = some (.string c.col) ∧ W.cell? ⟨b, off + k * 5 + 2, none⟩ = some (.int .i64 c.time) ∧ W.cell? ⟨b, off + k * 5 + 3, none⟩ = some (.bool c.gone) ∧ W.cell? ⟨b, off + k * 5 + 4, none⟩ = some (.string c.val)) ∧ (W.cell? ⟨b, off + j * 5, none⟩ = some (.string d.row) ∧ W.cell? ⟨b, off + j * 5 + 1, none⟩ = some (.string d.col) ∧ W.cell? ⟨b, off + j * 5 + 2, none⟩ = some (.int .i64 d.time) ∧ W.cell? ⟨b, off + j * 5 + 3, none⟩ = some (.bool d.gone) ∧ W.cell? ⟨b, off + j * 5 + 4, none⟩ = some (.string d.val)) := fun W h => by
              obtain ⟨c0, c1, c2, c3, c4⟩ := HCK.out.below h
              obtain ⟨d0, d1, d2, d3, d4⟩ := hdi.below h
              exact ⟨⟨c0, c1, c2, c3, c4⟩, d0, d1, d2, d3, d4⟩
            have HK := hide hkeep
            obtain ⟨⟨c0, c1, c2, c3, c4⟩, d0, d1, d2, d3, d4⟩ := hkeep w1 hbf1
            clear hkeep hcl hat hv hc hd hck hdi hkj hk0
            go_wp2_with fail
            cases h7 : aheadB d c
            · have HE : Hid (codeAt cs k = 10) := hide (HCA.out.trans (if_pos (by rw [aheadB_ord, decide_eq_false_iff_not] at h7; omega)))
              have HFG := hide (firstG_hit (f := codeAt cs) (m := cs.length - k) (i := k) (by rw [HE.out]; decide) (by omega))
              go_region_held3 (fun W => (W.cell? ⟨b, off + k * 5, none⟩ = some (.string c.row) ∧ W.cell? ⟨b, off + k * 5 + 1, none⟩ = some (.string c.col) ∧ W.cell? ⟨b, off + k * 5 + 2, none⟩ = some (.int .i64 c.time) ∧ W.cell? ⟨b, off + k * 5 + 3, none⟩ = some (.bool c.gone) ∧ W.cell? ⟨b, off + k * 5 + 4, none⟩ = some (.string c.val)) ∧ (W.cell? ⟨b, off + j * 5, none⟩ = some (.string d.row) ∧ W.cell? ⟨b, off + j * 5 + 1, none⟩ = some (.string d.col) ∧ W.cell? ⟨b, off + j * 5 + 2, none⟩ = some (.int .i64 d.time) ∧ W.cell? ⟨b, off + j * 5 + 3, none⟩ = some (.bool d.gone) ∧ W.cell? ⟨b, off + j * 5 + 4, none⟩ = some (.string d.val))) (exact HK.out _ (by go_grown)) (first
                | (go_at_call 87; refine (Ahead_any d c _).mono ?_; rintro e w2 ⟨rfl, hb2⟩; rw [h7]; have hb12 : Below w1.heap.size w1 w2 := Below.trans (by go_grown) hb2; have hbw2 : Below w.heap.size w w2 := hbf1.trans (hb12.mono (by omega))))
              have hbel2 := flt_later hbel1 hb12
              go_wp2_with fail
              refine (FC_any 10 k _).mono ?_
              rintro e w3 ⟨rfl, hb3⟩
              have hbel3 := flt_later hbel2 hb3
              clear gf0 gf1 gfr0 gfr1 gsz
              obtain ⟨gf0, gf1, gfr0, gfr1, gsz⟩ := two_later hbel3
              have hbf3 := below_first hbel3
              unfold fltC
              go_wp2_with fail
              exact bodyPost_ret (v := fltC (10, k)) (by simp [results, Try.results46, go_sem, fltC, gf0, gf1]) rfl ⟨by rw [← HG.out, HFG.out, HE.out], by go_grown⟩
            · have HE : Hid (codeAt cs k = 0) := hide (HCA.out.trans (if_neg (by rw [aheadB_ord, decide_eq_true_eq] at h7; omega)))
              have HFG := hide (firstG_next (m := cs.length - k) HE.out (by omega))
              go_region_held3 (fun W => (W.cell? ⟨b, off + k * 5, none⟩ = some (.string c.row) ∧ W.cell? ⟨b, off + k * 5 + 1, none⟩ = some (.string c.col) ∧ W.cell? ⟨b, off + k * 5 + 2, none⟩ = some (.int .i64 c.time) ∧ W.cell? ⟨b, off + k * 5 + 3, none⟩ = some (.bool c.gone) ∧ W.cell? ⟨b, off + k * 5 + 4, none⟩ = some (.string c.val)) ∧ (W.cell? ⟨b, off + j * 5, none⟩ = some (.string d.row) ∧ W.cell? ⟨b, off + j * 5 + 1, none⟩ = some (.string d.col) ∧ W.cell? ⟨b, off + j * 5 + 2, none⟩ = some (.int .i64 d.time) ∧ W.cell? ⟨b, off + j * 5 + 3, none⟩ = some (.bool d.gone) ∧ W.cell? ⟨b, off + j * 5 + 4, none⟩ = some (.string d.val))) (exact HK.out _ (by go_grown)) (first
                | (go_at_call 87; refine (Ahead_any d c _).mono ?_; rintro e w2 ⟨rfl, hb2⟩; rw [h7]; have hb12 : Below w1.heap.size w1 w2 := Below.trans (by go_grown) hb2; have hbw2 : Below w.heap.size w w2 := hbf1.trans (hb12.mono (by omega))))
              have hbel2 := flt_later hbel1 hb12
              go_wp2_with fail
              go_roundw
              case rel => exact ⟨k + 1, by omega, by go_num, by rw [← HG.out, HFG.out]; congr 1, hbel2⟩
              case measure => simp [intOf]; omega
        · have hb : (codeC c != 0) = true := by simp [h0]
          have HC := hide (codeAt_own hc h0)
          have HE := hide (firstG_hit (f := codeAt cs) (m := cs.length - k) (i := k) (by rw [HC.out]; exact h0) (by omega))
          clear h0 hc hcl hat hv hck
          go_wp2_with fail
          refine (FC_any _ k _).mono ?_
          rintro e w2 ⟨rfl, hb2⟩
          have hbel2 := flt_later hbel1 hb2
          clear gf0 gf1 gfr0 gfr1 gsz
          obtain ⟨gf0, gf1, gfr0, gfr1, gsz⟩ := two_later hbel2
          have hbf2 := below_first hbel2
          unfold fltC
          go_wp2_with fail
          exact bodyPost_ret (v := fltC (codeC c, k)) (by simp [results, Try.results46, go_sem, fltC, gf0, gf1]) rfl ⟨by rw [← HG.out, HE.out, HC.out], by go_grown⟩
      · have hz : cs.length - k = 0 := by omega
        rw [hz] at HG
        obtain ⟨gf0, gf1, gfr0, gfr1, gsz⟩ := two_later hbel
        have hbf := below_first hbel
        go_wp2_with fail
        exact bodyPost_ret (v := fltC (0, 0)) (by simp [results, Try.results46, go_sem, fltC, gf0, gf1]) rfl ⟨by rw [← HG.out]; rfl, by go_grown⟩

end Go.Proofs.Ytlebbkbbmgmmjad
