/-
  Texts joined: CellB1, CellR1, CellR2, CellR3, ScansMath, CellR4, AsksMath.
-/
import Derived.Test.YtdodajalejfbiadMWalLogs9
/-
  The walks beneath the laws of cells: the example, copies.
-/
namespace Go.Proofs.Ytdodajalejfbiad
open Go.RowKit

def verC : List Cl := [⟨⟨#[114]⟩, ⟨#[99]⟩, 2, false, ⟨#[98]⟩⟩, ⟨⟨#[114]⟩, ⟨#[99]⟩, 1, false, ⟨#[97]⟩⟩]

set_option maxRecDepth 100000 in
set_option maxHeartbeats 400000 in
theorem versions_any (w : World) : Calls Try.prog 53 #[] w fun e w' => ∃ v', e = .returned v' ∧ RdC w' v' verC ∧ Below w.heap.size w w' := by
  go_enter Try.func53, Try.ntmps53
  go_wp2_with fail
  go_ret
  refine ⟨_, rfl, ?_, by go_grown⟩
  refine ⟨some ⟨w.heap.size, 0, none⟩, 2, rfl, by decide, by decide, (fun h => by cases h), fun a ha j v hv => ?_⟩
  cases ha
  rw [Addr.add_lit, Nat.zero_add, ← hv]
  refine ((Bk.new w 91 _).cell j).trans ?_
  simp [cc, cv, verC]

theorem getC_ver1 : getC verC ⟨#[114]⟩ ⟨#[99]⟩ 1 = (⟨#[97]⟩, true, (0, 0)) := by decide +kernel
theorem getC_ver0 : getC verC ⟨#[114]⟩ ⟨#[99]⟩ 0 = (⟨#[]⟩, false, (0, 0)) := by decide +kernel


set_option maxRecDepth 100000 in
set_option maxHeartbeats 400000 in
theorem ownCells_any (v : Value) (cs : List Cl) (w : World) (hv : RdC w v cs) (hl : cs.length ≤ 1000000) :
    Calls Try.prog 43 #[v] w fun e w' => ∃ v', e = .returned v' ∧ RdC w' v' cs ∧ Below w.heap.size w w' ∧ New w.heap.size v' := by
  obtain ⟨ao, cap, hvv, hc1, hc2⟩ := hv.shape
  subst hvv
  have hl2 : 0 + cs.length ≤ 1000000000 := by omega
  go_enter Try.func43, Try.ntmps43
  go_wp2_with (at_builtin; go_must (refine wpList_append_rdC (cs := []) (World.ownsRow_nil w w.heap.size 91 5) hv Try.underlying30 Try.info91 rfl rfl rfl rfl rfl hl2 (by decide) (Nat.le_refl _) ?_); intro v1 w1 ho1 hb1 hg1; clear hg1)
  go_ret
  exact ⟨_, rfl, RdC.ofOwns ho1, hb1, New.owns ho1⟩

def manyB (n : Int) : Bool := decide (150 < n ∧ n < 1000 ∨ 2000 < n)

set_option maxRecDepth 100000 in
set_option maxHeartbeats 400000 in
theorem many_any (n : Int) (w : World) : Calls Try.prog 19 #[.int .i64 n] w fun e w' => e = .returned (.bool (manyB n)) ∧ w' = w := by
  have h : n ≤ 150 ∨ 150 < n ∧ n < 1000 ∨ 1000 ≤ n ∧ n ≤ 2000 ∨ 2000 < n := by omega
  rcases h with h | ⟨h, h2⟩ | ⟨h, h2⟩ | h
  · have hd : decide (150 < n) = false := by simp; omega
    have hd2 : decide (2000 < n) = false := by simp; omega
    have HE := hide (show manyB n = false by unfold manyB; simp; omega)
    go_enter Try.func19, Try.ntmps19
    go_wp2_with fail
    go_ret
    exact ⟨by rw [HE.out]; rfl, rfl⟩
  · have hd : decide (150 < n) = true := by simp; omega
    have hd2 : decide (n < 1000) = true := by simp; omega
    have HE := hide (show manyB n = true by unfold manyB; simp; omega)
    go_enter Try.func19, Try.ntmps19
    go_wp2_with fail
    go_ret
    exact ⟨by rw [HE.out]; rfl, rfl⟩
  · have hd : decide (150 < n) = true := by simp; omega
    have hd2 : decide (n < 1000) = false := by simp; omega
    have hd3 : decide (2000 < n) = false := by simp; omega
    have HE := hide (show manyB n = false by unfold manyB; simp; omega)
    go_enter Try.func19, Try.ntmps19
    go_wp2_with fail
    go_ret
    exact ⟨by rw [HE.out]; rfl, rfl⟩
  · have hd : decide (150 < n) = true := by simp; omega
    have hd2 : decide (n < 1000) = false := by simp; omega
    have hd3 : decide (2000 < n) = true := by simp; omega
    have HE := hide (show manyB n = true by unfold manyB; simp; omega)
    go_enter Try.func19, Try.ntmps19
    go_wp2_with fail
    go_ret
    exact ⟨by rw [HE.out]; rfl, rfl⟩

end Go.Proofs.Ytdodajalejfbiad

/-
  The walks over the document's answers of cells: their faults, and whether two lists are the same.
-/
namespace Go.Proofs.Ytdodajalejfbiad
open Go.RowKit

theorem isNumB_true {n : Int} (h1 : 0 ≤ n) (h2 : n ≤ 1000000000) : isNumB n = true := by unfold isNumB; simp; omega
theorem isNumB_false {n : Int} (h : n < 0 ∨ 1000000000 < n) : isNumB n = false := by unfold isNumB; simp; omega

set_option maxRecDepth 100000 in
set_option maxHeartbeats 400000 in
theorem CellCode_any (c : Cl) (w : World) : Calls Try.prog 86 #[cA c] w fun e w' => e = .returned (.int .i64 (codeC c)) ∧ Below w.heap.size w w' := by
  unfold cA
  have hall : c.row.toList.isEmpty = true ∨ (c.row.toList.isEmpty = false ∧ 40 < (c.row.size : Int)) ∨ (c.row.toList.isEmpty = false ∧ (c.row.size : Int) ≤ 40 ∧ 40 < (c.col.size : Int)) ∨ (c.row.toList.isEmpty = false ∧ (c.row.size : Int) ≤ 40 ∧ (c.col.size : Int) ≤ 40 ∧ 200 < (c.val.size : Int)) ∨ (c.row.toList.isEmpty = false ∧ (c.row.size : Int) ≤ 40 ∧ (c.col.size : Int) ≤ 40 ∧ (c.val.size : Int) ≤ 200) := by
    cases c.row.toList.isEmpty
    · simp only [Bool.false_eq_true, false_or, true_and]
      omega
    · exact .inl rfl
  rcases hall with h0 | ⟨h0, h1⟩ | ⟨h0, h1, h2⟩ | ⟨h0, h1, h2, h3⟩ | ⟨h0, h1, h2, h3⟩
  iterate 4
    · have HE := hide (show codeC c = 8 by unfold codeC; rw [if_pos (by simp only [h0]; simp; try omega)])
      go_enter Try.func86, Try.ntmps86
      go_wp2_with fail
      go_ret
      exact ⟨by rw [HE.out]; rfl, by go_grown⟩
  · have hn : ¬ (c.row.toList.isEmpty = true ∨ 40 < (c.row.size : Int) ∨ 40 < (c.col.size : Int) ∨ 200 < (c.val.size : Int)) := by simp only [h0]; simp; omega
    have h4 : c.time < 0 ∨ (¬ c.time < 0 ∧ 1000000000 < c.time) ∨ (¬ c.time < 0 ∧ c.time ≤ 1000000000) := by omega
    rcases h4 with h4 | ⟨h4, h5⟩ | ⟨h4, h5⟩
    · have HE := hide (show codeC c = 3 by unfold codeC; rw [if_neg hn, if_pos (isNumB_false (by omega))])
      clear hn
      go_enter Try.func86, Try.ntmps86
      go_wp2_with fail
      go_ret
      exact ⟨by rw [HE.out]; rfl, by go_grown⟩
    · have HE := hide (show codeC c = 3 by unfold codeC; rw [if_neg hn, if_pos (isNumB_false (by omega))])
      clear hn
      go_enter Try.func86, Try.ntmps86
      go_wp2_with fail
      go_ret
      exact ⟨by rw [HE.out]; rfl, by go_grown⟩
    · have hi := isNumB_true (n := c.time) (by omega) h5
      cases h7 : c.gone <;> cases h6 : c.val.toList.isEmpty
      all_goals
        have HE := hide (show codeC c = _ by unfold codeC; rw [if_neg hn, if_neg (by rw [hi]; decide), h7, h6])
        clear hn hi
        go_enter Try.func86, Try.ntmps86
        go_wp2_with fail
        go_ret
        exact ⟨by rw [HE.out]; rfl, by go_grown⟩

/-- Does a stand ahead of b? -/
def aheadB (a b : Cl) : Bool := if a.row.toList == b.row.toList then (if a.col.toList == b.col.toList then decide (b.time < a.time) else Op.bytesLess a.col.toList b.col.toList) else Op.bytesLess a.row.toList b.row.toList

theorem aheadB_iff {a b : Cl} : aheadB a b = true ↔ Lt a b := by
  unfold aheadB Lt kl rc
  by_cases h1 : a.row.toList = b.row.toList
  · by_cases h2 : a.col.toList = b.col.toList
    · simp [h1, h2, bl_irrefl]
    · simp [h1, h2, bl_irrefl]
  · simp [h1]

theorem aheadB_ord {a b : Cl} : aheadB a b = decide (ordC a b < 0) := by
  rw [Bool.eq_iff_iff, aheadB_iff, decide_eq_true_eq, ordC_neg]

set_option maxRecDepth 100000 in
set_option maxHeartbeats 400000 in
theorem Ahead_any (a b : Cl) (w : World) : Calls Try.prog 87 #[cA a, cA b] w fun e w' => e = .returned (.bool (aheadB a b)) ∧ Below w.heap.size w w' := by
  unfold cA
  cases h1 : (a.row.toList == b.row.toList) <;> cases h2 : (a.col.toList == b.col.toList)
  all_goals
    have HE := hide (show aheadB a b = _ by unfold aheadB; rw [h1, h2])
    go_enter Try.func87, Try.ntmps87
    go_wp2_with fail
    go_ret
    exact ⟨by rw [HE.out]; rfl, by go_grown⟩

set_option maxRecDepth 100000 in
set_option maxHeartbeats 400000 in
theorem FC_any (c a : Int) (w : World) : Calls Try.prog 38 #[.int .i64 c, .int .i64 a] w fun e w' => e = .returned (fltC (c, a)) ∧ Below w.heap.size w w' := by
  go_enter Try.func38, Try.ntmps38
  go_wp2_with fail
  exact bodyPost_ret (v := fltC (c, a)) (by simp [results, Try.results38, go_sem, fltC]) rfl ⟨rfl, by go_grown⟩

/-- A fault's block and what is below, behind a call. -/
theorem flt_later {w wr w1 : World} (hbel : Below (w.heap.size + 1) (w.alloc (.cells #[.int .i64 0, .int .i64 0] 28)) wr) (hb : Below wr.heap.size wr w1) : Below (w.heap.size + 1) (w.alloc (.cells #[.int .i64 0, .int .i64 0] 28)) w1 :=
  hbel.trans (hb.mono (by have := hbel.size; simp at this; omega))

set_option maxRecDepth 100000 in
set_option maxHeartbeats 1000000 in
theorem CellsFault_any (v : Value) (cs : List Cl) (w : World) (hv : RdC w v cs) :
    Calls Try.prog 46 #[v] w fun e w' => e = .returned (fltC (checkC cs)) ∧ Below w.heap.size w w' := by
  obtain ⟨ao, cap, hvv, hc1, hc2, hat⟩ := hv.at
  subst hvv
  unfold maxLen at hc2
  by_cases hbig : 1000 < cs.length
  · have HE := hide (show checkC cs = (2, 0) by simp [checkC, faultR, hbig])
    go_enter Try.func46, Try.ntmps46
    go_wp2_with fail
    refine (FC_any 2 0 _).mono ?_
    rintro e w1 ⟨rfl, hb1⟩
    have hbel := flt_later (Below.refl _ _) hb1
    obtain ⟨hf0, hf1, hfr0, hfr1, hsz⟩ := two_later hbel
    have hbf := below_first hbel
    unfold fltC
    go_wp2_with fail
    exact bodyPost_ret (v := fltC (2, 0)) (by simp [results, Try.results46, go_sem, fltC, hf0, hf1]) rfl ⟨by rw [HE.out], by go_grown⟩
  · have HF := hide (show checkC cs = firstG (codeAt cs) cs.length 0 by simp [checkC, faultR, hbig])
    go_enter Try.func46, Try.ntmps46
    go_wp2_with fail
    go_loopw [3] (fun i wr => ∃ k : Nat, k ≤ cs.length ∧ i = .int .i64 k ∧ firstG (codeAt cs) (cs.length - k) k = checkC cs ∧ Below (w.heap.size + 1) (w.alloc (.cells #[.int .i64 0, .int .i64 0] 28)) wr)
      (fun i _ => cs.length - (intOf i).toNat)
    case atStart => exact ⟨0, by omega, rfl, by rw [HF.out]; rfl, Below.refl _ _⟩
    case round =>
      obtain ⟨k, hk, rfl, hgo, hbel⟩ := hrel
      have HG := hide hgo
      clear hgo
      by_cases hlt : k < cs.length
      · obtain ⟨b, off, rfl, hb, hcl⟩ := hat k hlt
        obtain ⟨c, hc⟩ : ∃ c, cs[k]? = some c := ⟨_, List.getElem?_eq_getElem hlt⟩
        have hck := hcl k hlt
        rw [(List.getElem?_eq_some_iff.1 hc).2] at hck
        have HCK := hide hck
        have hbf := below_first hbel
        obtain ⟨c0, c1, c2, c3, c4⟩ := hck.below hbf
        have hk1 : (0 : Int) ≤ (k : Int) := by omega
        have hk2 : (k : Int) < (cs.length : Int) := by omega
        go_wp2_with fail
        refine (CellCode_any c _).mono ?_
        rintro e w1 ⟨rfl, hb1⟩
        have hbel1 := flt_later hbel hb1
        obtain ⟨gf0, gf1, gfr0, gfr1, gsz⟩ := two_later hbel1
        have hbf1 := below_first hbel1
        clear c0 c1 c2 c3 c4 hb1 hbf hbel
        by_cases h0 : codeC c = 0
        · by_cases hk0 : k = 0
          · subst hk0
            have HE := hide (firstG_next (m := cs.length - 0) (codeAt_first hc h0) (by omega))
            have hd : decide ((0 : Int) < ((0 : Nat) : Int)) = false := by simp
            rw [h0]
            clear hc hcl hat hv hck
            go_wp2_with fail
            go_quiet (fail)
            go_wp2_with fail
            go_roundw
            case rel => exact ⟨1, by omega, by go_num, by rw [← HG.out, HE.out]; rfl, below_drewN hbel1 _⟩
            case measure => simp [intOf]; omega
          · obtain ⟨j, hkj⟩ : ∃ j, k = j + 1 := ⟨k - 1, by omega⟩
            obtain ⟨d, hd⟩ : ∃ c, cs[j]? = some c := ⟨_, List.getElem?_eq_getElem (by omega)⟩
            have hdi := hcl j (by omega)
            rw [(List.getElem?_eq_some_iff.1 hd).2] at hdi
            have HCA : Hid (codeAt cs k = if 0 ≤ ordC d c then 10 else 0) := hide (by rw [hkj] at hc ⊢; exact codeAt_later hc hd h0)
            have hg : decide (0 < k) = true := by simp; omega
            have hw : IntKind.i64.wrap ((k : Int) - 1) = (j : Int) := by rw [IntKind.wrap_i64]; omega
            have hj1 : (0 : Int) ≤ (j : Int) := by omega
            have hj2 : (j : Int) < (cs.length : Int) := by omega
            rw [h0]
            have hkeep : ∀ W, Below w.heap.size w W → (W.cell? ⟨b, off + k * 5, none⟩ = some (.string c.row) ∧ W.cell? ⟨b, off + k * 5 + 1, none⟩ = some (.string c.col) ∧ W.cell? ⟨b, off + k * 5 + 2, none⟩ = some (.int .i64 c.time) ∧ W.cell? ⟨b, off + k * 5 + 3, none⟩ = some (.bool c.gone) ∧ W.cell? ⟨b, off + k * 5 + 4, none⟩ = some (.string c.val)) ∧ (W.cell? ⟨b, off + j * 5, none⟩ = some (.string d.row) ∧ W.cell? ⟨b, off + j * 5 + 1, none⟩ = some (.string d.col) ∧ W.cell? ⟨b, off + j * 5 + 2, none⟩ = some (.int .i64 d.time) ∧ W.cell? ⟨b, off + j * 5 + 3, none⟩ = some (.bool d.gone) ∧ W.cell? ⟨b, off + j * 5 + 4, none⟩ = some (.string d.val)) := fun W h => by
              obtain ⟨c0, c1, c2, c3, c4⟩ := HCK.out.below h
              obtain ⟨d0, d1, d2, d3, d4⟩ := hdi.below h
              exact ⟨⟨c0, c1, c2, c3, c4⟩, d0, d1, d2, d3, d4⟩
            have HK := hide hkeep
            obtain ⟨⟨c0, c1, c2, c3, c4⟩, d0, d1, d2, d3, d4⟩ := hkeep w1 hbf1
            clear hkeep hcl hat hv hc hd hck hdi hkj hk0
            go_wp2_with fail
            cases h7 : aheadB d c
            · have HE : Hid (codeAt cs k = 10) := hide (HCA.out.trans (if_pos (by rw [aheadB_ord, decide_eq_false_iff_not] at h7; omega)))
              have HFG := hide (firstG_hit (f := codeAt cs) (m := cs.length - k) (i := k) (by rw [HE.out]; decide) (by omega))
              go_region_held3 (fun W => (W.cell? ⟨b, off + k * 5, none⟩ = some (.string c.row) ∧ W.cell? ⟨b, off + k * 5 + 1, none⟩ = some (.string c.col) ∧ W.cell? ⟨b, off + k * 5 + 2, none⟩ = some (.int .i64 c.time) ∧ W.cell? ⟨b, off + k * 5 + 3, none⟩ = some (.bool c.gone) ∧ W.cell? ⟨b, off + k * 5 + 4, none⟩ = some (.string c.val)) ∧ (W.cell? ⟨b, off + j * 5, none⟩ = some (.string d.row) ∧ W.cell? ⟨b, off + j * 5 + 1, none⟩ = some (.string d.col) ∧ W.cell? ⟨b, off + j * 5 + 2, none⟩ = some (.int .i64 d.time) ∧ W.cell? ⟨b, off + j * 5 + 3, none⟩ = some (.bool d.gone) ∧ W.cell? ⟨b, off + j * 5 + 4, none⟩ = some (.string d.val))) (exact HK.out _ (by go_grown)) (first
                | (go_at_call 87; refine (Ahead_any d c _).mono ?_; rintro e w2 ⟨rfl, hb2⟩; rw [h7]; have hb12 : Below w1.heap.size w1 w2 := Below.trans (by go_grown) hb2; have hbw2 : Below w.heap.size w w2 := hbf1.trans (hb12.mono (by omega))))
              have hbel2 := flt_later hbel1 hb12
              go_wp2_with fail
              refine (FC_any 10 k _).mono ?_
              rintro e w3 ⟨rfl, hb3⟩
              have hbel3 := flt_later hbel2 hb3
              clear gf0 gf1 gfr0 gfr1 gsz
              obtain ⟨gf0, gf1, gfr0, gfr1, gsz⟩ := two_later hbel3
              have hbf3 := below_first hbel3
              unfold fltC
              go_wp2_with fail
              exact bodyPost_ret (v := fltC (10, k)) (by simp [results, Try.results46, go_sem, fltC, gf0, gf1]) rfl ⟨by rw [← HG.out, HFG.out, HE.out], by go_grown⟩
            · have HE : Hid (codeAt cs k = 0) := hide (HCA.out.trans (if_neg (by rw [aheadB_ord, decide_eq_true_eq] at h7; omega)))
              have HFG := hide (firstG_next (m := cs.length - k) HE.out (by omega))
              go_region_held3 (fun W => (W.cell? ⟨b, off + k * 5, none⟩ = some (.string c.row) ∧ W.cell? ⟨b, off + k * 5 + 1, none⟩ = some (.string c.col) ∧ W.cell? ⟨b, off + k * 5 + 2, none⟩ = some (.int .i64 c.time) ∧ W.cell? ⟨b, off + k * 5 + 3, none⟩ = some (.bool c.gone) ∧ W.cell? ⟨b, off + k * 5 + 4, none⟩ = some (.string c.val)) ∧ (W.cell? ⟨b, off + j * 5, none⟩ = some (.string d.row) ∧ W.cell? ⟨b, off + j * 5 + 1, none⟩ = some (.string d.col) ∧ W.cell? ⟨b, off + j * 5 + 2, none⟩ = some (.int .i64 d.time) ∧ W.cell? ⟨b, off + j * 5 + 3, none⟩ = some (.bool d.gone) ∧ W.cell? ⟨b, off + j * 5 + 4, none⟩ = some (.string d.val))) (exact HK.out _ (by go_grown)) (first
                | (go_at_call 87; refine (Ahead_any d c _).mono ?_; rintro e w2 ⟨rfl, hb2⟩; rw [h7]; have hb12 : Below w1.heap.size w1 w2 := Below.trans (by go_grown) hb2; have hbw2 : Below w.heap.size w w2 := hbf1.trans (hb12.mono (by omega))))
              have hbel2 := flt_later hbel1 hb12
              go_wp2_with fail
              go_roundw
              case rel => exact ⟨k + 1, by omega, by go_num, by rw [← HG.out, HFG.out]; congr 1, hbel2⟩
              case measure => simp [intOf]; omega
        · have hb : (codeC c != 0) = true := by simp [h0]
          have HC := hide (codeAt_own hc h0)
          have HE := hide (firstG_hit (f := codeAt cs) (m := cs.length - k) (i := k) (by rw [HC.out]; exact h0) (by omega))
          clear h0 hc hcl hat hv hck
          go_wp2_with fail
          refine (FC_any _ k _).mono ?_
          rintro e w2 ⟨rfl, hb2⟩
          have hbel2 := flt_later hbel1 hb2
          clear gf0 gf1 gfr0 gfr1 gsz
          obtain ⟨gf0, gf1, gfr0, gfr1, gsz⟩ := two_later hbel2
          have hbf2 := below_first hbel2
          unfold fltC
          go_wp2_with fail
          exact bodyPost_ret (v := fltC (codeC c, k)) (by simp [results, Try.results46, go_sem, fltC, gf0, gf1]) rfl ⟨by rw [← HG.out, HE.out, HC.out], by go_grown⟩
      · have hz : cs.length - k = 0 := by omega
        rw [hz] at HG
        obtain ⟨gf0, gf1, gfr0, gfr1, gsz⟩ := two_later hbel
        have hbf := below_first hbel
        go_wp2_with fail
        exact bodyPost_ret (v := fltC (0, 0)) (by simp [results, Try.results46, go_sem, fltC, gf0, gf1]) rfl ⟨by rw [← HG.out]; rfl, by go_grown⟩

end Go.Proofs.Ytdodajalejfbiad

/-
  The walks over the document's answers of cells: the same cells.
-/
namespace Go.Proofs.Ytdodajalejfbiad
open Go.RowKit

theorem ba_ext {a b : ByteArray} (h : a.toList = b.toList) : a = b := by
  rw [ByteArray.toList_eq, ByteArray.toList_eq] at h
  cases a; cases b
  simp at h
  rw [h]

/-- Are two cells the same? -/
def eqC (a b : Cl) : Bool := (a.row.toList == b.row.toList) && ((a.col.toList == b.col.toList) && (decide (a.time = b.time) && ((a.gone == b.gone) && (a.val.toList == b.val.toList))))

theorem eqC_iff {a b : Cl} : eqC a b = true ↔ a = b := by
  unfold eqC
  constructor
  · intro h
    simp only [Bool.and_eq_true, beq_iff_eq, decide_eq_true_eq] at h
    obtain ⟨h1, h2, h3, h4, h5⟩ := h
    cases a; cases b
    simp only at h1 h2 h3 h4 h5
    rw [ba_ext h1, ba_ext h2, h3, h4, ba_ext h5]
  · rintro rfl
    simp

def sameC : List Cl → List Cl → Bool
  | [], [] => true
  | a :: l, b :: m => eqC a b && sameC l m
  | _, _ => false

theorem sameC_refl : ∀ l : List Cl, sameC l l = true
  | [] => rfl
  | a :: l => by simp [sameC, eqC_iff.2 rfl, sameC_refl l]

set_option maxRecDepth 100000 in
set_option maxHeartbeats 1000000 in
theorem SameCells_any (v u : Value) (cs : List Cl) (w : World) (hv : RdC w v cs) (hu : RdC w u cs) :
    Calls Try.prog 14 #[v, u] w fun e w' => e = .returned (.bool true) ∧ Below w.heap.size w w' := by
  obtain ⟨ao, cap, hvv, hc1, hc2, hat⟩ := hv.at
  obtain ⟨bo, cbp, huu, hd1, hd2, hbt⟩ := hu.at
  subst hvv huu
  unfold maxLen at hc2 hd2
  have hnb : ((cs.length : Int) != cs.length) = false := by simp
  go_enter Try.func14, Try.ntmps14
  go_wp2_with fail
  go_loopw [5] (fun i wr => ∃ k : Nat, k ≤ cs.length ∧ i = .int .i64 k ∧ Below w.heap.size w wr)
    (fun i _ => cs.length - (intOf i).toNat)
  case atStart => exact ⟨0, by omega, rfl, Below.refl _ _⟩
  case round =>
    obtain ⟨k, hk, rfl, hbel⟩ := hrel
    by_cases hlt : k < cs.length
    · obtain ⟨b, off, rfl, hb, hcl⟩ := hat k hlt
      obtain ⟨b2, off2, rfl, hb2, hcl2⟩ := hbt k hlt
      have h1 := (hcl k hlt).below hbel
      have h2 := (hcl2 k hlt).below hbel
      generalize cs[k] = c at *
      obtain ⟨c0, c1, c2, c3, c4⟩ := h1
      obtain ⟨d0, d1, d2, d3, d4⟩ := h2
      have hk1 : (0 : Int) ≤ (k : Int) := by omega
      have hk2 : (k : Int) < (cs.length : Int) := by omega
      clear hcl hcl2 hat hbt hv hu
      go_wp2_with fail
      go_quiet (fail)
      go_wp2_with fail
      go_roundw
      case rel => exact ⟨k + 1, by omega, by go_num, below_drewN hbel _⟩
      case measure => simp [intOf]; omega
    · go_wp2_with fail
      go_ret
      exact ⟨rfl, hbel⟩

end Go.Proofs.Ytdodajalejfbiad

/-
  The walks over the document's answers of cells: what is seen.
-/
namespace Go.Proofs.Ytdodajalejfbiad
open Go.RowKit

/-- A place at a time. -/
def hitB (k : Ky) (t : Int) (c : Cl) : Bool := isAt k c && decide (c.time ≤ t)
/-- The cell that the document sees. -/
def seenR (cs : List Cl) (k : Ky) (t : Int) : Cl × Bool :=
  match cs.find? (hitB k t) with
  | none => (zeroC, false)
  | some c => if c.gone then (zeroC, false) else (c, true)

theorem find_snoc {p : Cl → Bool} {cs : List Cl} {k : Nat} {c : Cl} (hc : cs[k]? = some c) (h : (cs.take k).find? p = none) (hp : p c = false) : (cs.take (k + 1)).find? p = none := by
  rw [List.take_add_one, hc, List.find?_append, h]
  simp [hp]

theorem find_now {p : Cl → Bool} {cs : List Cl} {k : Nat} {c : Cl} (hc : cs[k]? = some c) (h : (cs.take k).find? p = none) (hp : p c = true) : cs.find? p = some c := by
  obtain ⟨hk, e⟩ := List.getElem?_eq_some_iff.1 hc
  have : cs = cs.take k ++ c :: cs.drop (k + 1) := by rw [← e, ← List.drop_eq_getElem_cons hk, List.take_append_drop]
  rw [this, List.find?_append, h]
  simp [hp]

theorem hitB_later {cs : List Cl} (hp : cs.Pairwise Lt) {j k : Nat} {c d : Cl} (hj : cs[j]? = some d) (hk : cs[k]? = some c) (hjk : j < k) (hrc : rc c = rc d) : decide (d.time < c.time) = false := by
  obtain ⟨h1, e1⟩ := List.getElem?_eq_some_iff.1 hj
  obtain ⟨h2, e2⟩ := List.getElem?_eq_some_iff.1 hk
  have := List.pairwise_iff_getElem.1 hp j k h1 h2 hjk
  rw [e1, e2] at this
  rcases this with h | ⟨_, h⟩
  · exact absurd hrc.symm (kl_ne h)
  · simp; omega

theorem hit_cases (row col : ByteArray) (t : Int) (c : Cl) : hitB (row.toList, col.toList) t c = false ∧ (c.row.toList == row.toList) = false ∨ hitB (row.toList, col.toList) t c = false ∧ (c.row.toList == row.toList) = true ∧ (c.col.toList == col.toList) = false ∨ hitB (row.toList, col.toList) t c = false ∧ (c.row.toList == row.toList) = true ∧ (c.col.toList == col.toList) = true ∧ decide (c.time ≤ t) = false ∨ hitB (row.toList, col.toList) t c = true ∧ (c.row.toList == row.toList) = true ∧ (c.col.toList == col.toList) = true ∧ decide (c.time ≤ t) = true := by
  unfold hitB isAt
  cases (c.row.toList == row.toList) <;> cases (c.col.toList == col.toList) <;> cases decide (c.time ≤ t) <;> simp

theorem hitB_rc {k : Ky} {t : Int} {c : Cl} (h : hitB k t c = true) : rc c = k := by
  unfold hitB at h
  rw [Bool.and_eq_true] at h
  exact isAt_iff.1 h.1

theorem RdC.hereC {w : World} {ao : Option Addr} {n cap : Nat} {cs : List Cl} (h : RdC w (.slice ao n cap) cs) {i : Nat} {c : Cl} (hi : cs[i]? = some c) :
    ∃ b off, ao = some ⟨b, off, none⟩ ∧ b < w.heap.size ∧ At w b (off + i * 5) c := by
  obtain ⟨ao', cap', hv, _, _, hat⟩ := h.at
  simp only [Value.slice.injEq] at hv
  obtain ⟨rfl, _, _⟩ := hv
  obtain ⟨hl, e⟩ := List.getElem?_eq_some_iff.1 hi
  obtain ⟨b, off, ha, hb, hc⟩ := hat i hl
  exact ⟨b, off, ha, hb, e ▸ hc i hl⟩


end Go.Proofs.Ytdodajalejfbiad

/-
  Plain maths of the law CellScans.
-/
namespace Go.Proofs.Ytdodajalejfbiad
open Go.RowKit

theorem vis_sub (t : Int) (cs : List Cl) : (vis t cs).Sublist cs := visGo_sub t cs zeroC

/-- Where Scan has no fault. -/
theorem scanC_fine {cs : List Cl} {a b : ByteArray} {t m : Int} (h : (scanC cs a b t m).2.1 = 0) :
    (checkC cs).1 = 0 ∧ isNumB t = true ∧ 0 ≤ m ∧ m ≤ 1000 ∧ (scanC cs a b t m).1 = ((vis t cs).filter fun c => askB a b c.row).take m.toNat := by
  unfold scanC at h ⊢
  by_cases h1 : (checkC cs).1 = 0
  · rw [if_neg (by omega)] at h ⊢
    by_cases h2 : isNumB t = false
    · rw [if_pos h2] at h; simp at h
    · rw [if_neg h2] at h ⊢
      by_cases h3 : m < 0 ∨ 1000 < m
      · rw [if_pos h3] at h; simp at h
      · rw [if_neg h3]
        refine ⟨h1, by simpa using h2, by omega, by omega, ?_⟩
        rw [scanGo_eq]
        simp [vis]
  · rw [if_pos h1] at h
    exact absurd h h1

theorem getC_fine {cs : List Cl} {row col : ByteArray} {t : Int} (h1 : (checkC cs).1 = 0) (h2 : isNumB t = true) :
    getC cs row col t = match (vis t cs).find? (isAt (row.toList, col.toList)) with
      | some c => (c.val, true, (0, 0))
      | none => (⟨#[]⟩, false, (0, 0)) := by
  rw [getC_ok h1 h2, getGo_eq]
  unfold vis
  cases (visGo t zeroC cs).find? (isAt (row.toList, col.toList)) <;> rfl

/-- What Scan tells is what Get tells. -/
theorem scan_get {cs : List Cl} {a b : ByteArray} {t m : Int} (h : (scanC cs a b t m).2.1 = 0) {c : Cl} (hc : c ∈ (scanC cs a b t m).1) : getC cs c.row c.col t = (c.val, true, (0, 0)) := by
  obtain ⟨h1, h2, _, _, h5⟩ := scanC_fine h
  rw [h5] at hc
  have hv : c ∈ vis t cs := (List.mem_filter.1 (List.mem_of_mem_take hc)).1
  rw [getC_fine h1 h2, show (c.row.toList, c.col.toList) = rc c from rfl, find_pw (vis_pw t h1) hv]

theorem scan_pw {cs : List Cl} {a b : ByteArray} {t m : Int} (h : (scanC cs a b t m).2.1 = 0) : (scanC cs a b t m).1.Pairwise (fun a b => kl (rc a) (rc b)) := by
  obtain ⟨h1, _, _, _, h5⟩ := scanC_fine h
  rw [h5]
  exact ((vis_pw t h1).filter _).take

/-- The test that the law makes of two neighbours. -/
theorem kl_tests {c d : Cl} (h : kl (rc c) (rc d)) : bl d.row.toList c.row.toList = false ∧ ((d.row.toList == c.row.toList) = false ∨ (d.row.toList == c.row.toList) = true ∧ bl d.col.toList c.col.toList = false ∧ (d.col.toList == c.col.toList) = false) := by
  rcases h with h | ⟨e, h⟩
  · have := bl_ne h
    exact ⟨bl_asymm h, .inl (beq_eq_false_iff_ne.2 (fun e => this e.symm))⟩
  · have e' : c.row.toList = d.row.toList := e
    have := bl_ne h
    exact ⟨by rw [e']; exact bl_irrefl _, .inr ⟨beq_iff_eq.2 e'.symm, bl_asymm h, beq_eq_false_iff_ne.2 (fun e => this e.symm)⟩⟩

/-- How many numbers below k pass. -/
def cntUp (f : Nat → Bool) : Nat → Nat
  | 0 => 0
  | k + 1 => cntUp f k + if f k then 1 else 0

theorem cntUp_no {f : Nat → Bool} {k : Nat} (h : f k = false) : cntUp f (k + 1) = cntUp f k := by simp [cntUp, h]
theorem cntUp_yes {f : Nat → Bool} {k : Nat} (h : f k = true) : cntUp f (k + 1) = cntUp f k + 1 := by simp [cntUp, h]

theorem cntUp_le (f : Nat → Bool) : ∀ k, cntUp f k ≤ k
  | 0 => Nat.le_refl _
  | k + 1 => by have := cntUp_le f k; unfold cntUp; split <;> omega

theorem cntUp_eq (f : Nat → Bool) : ∀ k, cntUp f k = ((List.range k).filter f).length
  | 0 => rfl
  | k + 1 => by
    rw [List.range_succ, List.filter_append, List.length_append, ← cntUp_eq f k, cntUp]
    cases h : f k <;> simp [h]

/-- A number at which another place begins. -/
def headB (cs : List Cl) (i : Nat) : Bool := i == 0 || rc (cs.getD (i - 1) zeroC) != rc (cs.getD i zeroC)
/-- Does the law count this number? -/
def okScan (cs : List Cl) (a b : ByteArray) (t : Int) (i : Nat) : Bool :=
  headB cs i && askB a b (cs.getD i zeroC).row && ((vis t cs).find? (isAt (rc (cs.getD i zeroC)))).isSome

theorem pw_get {cs : List Cl} (h : cs.Pairwise Lt) {i j : Nat} (hj : j < cs.length) (hij : i < j) : Lt (cs.getD i zeroC) (cs.getD j zeroC) := by
  have := List.pairwise_iff_getElem.1 h i j (by omega) hj hij
  simpa [List.getD_eq_getElem?_getD, hj, show i < cs.length by omega] using this

theorem head_kl {cs : List Cl} (h : cs.Pairwise Lt) {i j : Nat} (hj : j < cs.length) (hij : i < j) (hh : headB cs j = true) : kl (rc (cs.getD i zeroC)) (rc (cs.getD j zeroC)) := by
  unfold headB at hh
  have hj0 : (j == 0) = false := by simp; omega
  rw [hj0, Bool.false_or, bne_iff_ne] at hh
  have h1 := (Lt_le (pw_get h hj (show j - 1 < j by omega))).resolve_right hh
  by_cases e : i = j - 1
  · rw [e]; exact h1
  · rcases Lt_le (pw_get h (show j - 1 < cs.length by omega) (show i < j - 1 by omega)) with h2 | h2
    · exact kl_trans h2 h1
    · rw [h2]; exact h1

/-- There is a first number of a place. -/
theorem head_of {cs : List Cl} : ∀ (j : Nat), j < cs.length → ∃ i, i ≤ j ∧ headB cs i = true ∧ rc (cs.getD i zeroC) = rc (cs.getD j zeroC)
  | 0, _ => ⟨0, Nat.le_refl _, rfl, rfl⟩
  | j + 1, hj => by
    by_cases e : rc (cs.getD j zeroC) = rc (cs.getD (j + 1) zeroC)
    · obtain ⟨i, h1, h2, h3⟩ := head_of (cs := cs) j (by omega)
      exact ⟨i, by omega, h2, h3.trans e⟩
    · refine ⟨j + 1, Nat.le_refl _, ?_, rfl⟩
      unfold headB
      rw [show j + 1 - 1 = j from rfl, bne_iff_ne.2 e, Bool.or_true]

theorem askB_rc {a b : ByteArray} {c d : Cl} (h : rc c = rc d) : askB a b c.row = askB a b d.row := by
  have : c.row.toList = d.row.toList := congrArg Prod.fst h
  unfold askB
  rw [this]

/-- What the law counts is as many as are seen. -/
theorem cnt_all {cs : List Cl} (a b : ByteArray) (t : Int) (h : (checkC cs).1 = 0) : cntUp (okScan cs a b t) cs.length = ((vis t cs).filter fun c => askB a b c.row).length := by
  have hp := fine_pw h
  have hv := vis_pw t h
  have hall : ((List.range cs.length).filter (okScan cs a b t)).map (fun i => rc (cs.getD i zeroC)) = ((vis t cs).filter fun c => askB a b c.row).map rc := ?_
  · have := congrArg List.length hall
    rw [List.length_map, List.length_map] at this
    rw [cntUp_eq, this]
  refine pw_ext kl_irrefl (fun _ _ _ => kl_trans) ?_ ?_ ?_
  · rw [List.pairwise_map]
    have h1 : ((List.range cs.length).filter (okScan cs a b t)).Pairwise (· < ·) := List.pairwise_lt_range.filter _
    refine h1.imp_of_mem fun {i j} hi hj hij => ?_
    rw [List.mem_filter, List.mem_range] at hi hj
    have hh : headB cs j = true := by
      have := hj.2
      unfold okScan at this
      simp only [Bool.and_eq_true] at this
      exact this.1.1
    exact head_kl hp hj.1 hij hh
  · rw [List.pairwise_map]
    exact hv.filter _
  · intro k
    simp only [List.mem_map, List.mem_filter, List.mem_range]
    constructor
    · rintro ⟨i, ⟨hi, hok⟩, rfl⟩
      unfold okScan at hok
      simp only [Bool.and_eq_true, Option.isSome_iff_exists] at hok
      obtain ⟨⟨_, h2⟩, d, hd⟩ := hok
      have hd1 := isAt_iff.1 (List.find?_some hd)
      exact ⟨d, ⟨List.mem_of_find?_eq_some hd, by rw [askB_rc hd1]; exact h2⟩, hd1⟩
    · rintro ⟨d, ⟨hd, hask⟩, rfl⟩
      obtain ⟨j, hj, e⟩ := List.getElem_of_mem ((vis_sub t cs).subset hd)
      have ej : cs.getD j zeroC = d := by simp [List.getD_eq_getElem?_getD, hj, e]
      obtain ⟨i, h1, h2, h3⟩ := head_of (cs := cs) j hj
      rw [ej] at h3
      refine ⟨i, ⟨by omega, ?_⟩, h3⟩
      unfold okScan
      rw [h2, askB_rc h3, hask, h3, find_pw hv hd]
      rfl

theorem okAt_get {cs : List Cl} {a b : ByteArray} {t : Int} (h1 : (checkC cs).1 = 0) (h2 : isNumB t = true) {i : Nat} {c : Cl} (hc : cs.getD i zeroC = c) : okScan cs a b t i = (headB cs i && askB a b c.row && (getC cs c.row c.col t).2.1) := by
  unfold okScan
  rw [hc, getC_fine h1 h2, show (c.row.toList, c.col.toList) = rc c from rfl]
  cases (vis t cs).find? (isAt (rc c)) <;> rfl

theorem getC_code {cs : List Cl} {row col : ByteArray} {t : Int} (h1 : (checkC cs).1 = 0) (h2 : isNumB t = true) : (getC cs row col t).2.2 = (0, 0) := by
  rw [getC_ok h1 h2]

theorem getC_split {cs : List Cl} {row col : ByteArray} {t : Int} (h : (getC cs row col t).2.2 = (0, 0)) : ∃ gv gi, getC cs row col t = (gv, gi, (0, 0)) :=
  ⟨(getC cs row col t).1, (getC cs row col t).2.1, by rw [← h]⟩

theorem head_cases {cs : List Cl} {k : Nat} {c d : Cl} (hk : k ≠ 0) (hc : cs.getD k zeroC = c) (hd : cs.getD (k - 1) zeroC = d) :
    headB cs k = false ∧ (d.row.toList == c.row.toList) = true ∧ (d.col.toList == c.col.toList) = true ∨ headB cs k = true ∧ (d.row.toList == c.row.toList) = true ∧ (d.col.toList == c.col.toList) = false ∨ headB cs k = true ∧ (d.row.toList == c.row.toList) = false := by
  have hk0 : (k == 0) = false := by simp [hk]
  have e : headB cs k = !((d.row.toList == c.row.toList) && (d.col.toList == c.col.toList)) := by
    unfold headB
    rw [hd, hc, hk0]
    simp only [Bool.false_or, rc]
    rfl
  rw [e]
  cases (d.row.toList == c.row.toList) <;> cases (d.col.toList == c.col.toList) <;> simp

theorem ask_cases (a b row : ByteArray) : askB a b row = false ∧ Op.bytesLess row.toList a.toList = true ∨ askB a b row = true ∧ Op.bytesLess row.toList a.toList = false ∧ b.toList.isEmpty = true ∨ askB a b row = true ∧ Op.bytesLess row.toList a.toList = false ∧ b.toList.isEmpty = false ∧ Op.bytesLess row.toList b.toList = true ∨ askB a b row = false ∧ Op.bytesLess row.toList a.toList = false ∧ b.toList.isEmpty = false ∧ Op.bytesLess row.toList b.toList = false := by
  unfold askB
  cases Op.bytesLess row.toList a.toList <;> cases b.toList.isEmpty <;> cases Op.bytesLess row.toList b.toList <;> simp

theorem scan_count {cs : List Cl} {a b : ByteArray} {t m : Int} (h : (scanC cs a b t m).2.1 = 0) (hl : ((scanC cs a b t m).1.length : Int) ≠ m) : cntUp (okScan cs a b t) cs.length = (scanC cs a b t m).1.length := by
  obtain ⟨h1, _, h3, _, h5⟩ := scanC_fine h
  rw [cnt_all a b t h1, h5, List.length_take]
  rw [h5, List.length_take] at hl
  omega

end Go.Proofs.Ytdodajalejfbiad

/-
  The walks over the document's answers of cells: scans.
-/
namespace Go.Proofs.Ytdodajalejfbiad
open Go.RowKit

/-- What is wrong with an ask. -/
def askF (t m : Int) : Int × Int := if isNumB t = false then (3, -1) else if m < 0 ∨ 1000 < m then (3, -2) else (0, 0)


/-- Does the document's scan take this cell? -/
def takeB (cs : List Cl) (a b : ByteArray) (t : Int) (c : Cl) : Bool := askB a b c.row && ((seenR cs (rc c) t).2 && eqC (seenR cs (rc c) t).1 c)
/-- What the document scans. -/
def scannedR (cs : List Cl) (a b : ByteArray) (t m : Int) : List Cl := (cs.filter (takeB cs a b t)).take m.toNat

theorem filter_snoc {p : Cl → Bool} {cs : List Cl} {k : Nat} {c : Cl} (hc : cs[k]? = some c) : (cs.take (k + 1)).filter p = (cs.take k).filter p ++ if p c then [c] else [] := by
  rw [List.take_add_one, hc, List.filter_append]
  simp [List.filter_cons]

theorem scanned_end {cs : List Cl} {p : Cl → Bool} {k : Nat} {m : Int} (h : k = cs.length ∨ m ≤ ((cs.take k).filter p).length) (h2 : (((cs.take k).filter p).length : Int) ≤ m) : (cs.filter p).take m.toNat = (cs.take k).filter p := by
  have e : cs.filter p = (cs.take k).filter p ++ (cs.drop k).filter p := by rw [← List.filter_append, List.take_append_drop]
  rcases h with h | h
  · subst h
    rw [List.take_length] at h2 ⊢
    rw [List.take_of_length_le (by omega)]
  · rw [e, List.take_append, List.take_of_length_le (by omega), show m.toNat - ((cs.take k).filter p).length = 0 by omega, List.take_zero, List.append_nil]

theorem eqC_cases (d c : Cl) : eqC d c = true ∧ d = c ∨ eqC d c = false ∧ ((d.row.toList == c.row.toList) = false ∨ (d.row.toList == c.row.toList) = true ∧ (d.col.toList == c.col.toList) = false ∨ (d.row.toList == c.row.toList) = true ∧ (d.col.toList == c.col.toList) = true ∧ (d.time == c.time) = false ∨ (d.row.toList == c.row.toList) = true ∧ (d.col.toList == c.col.toList) = true ∧ (d.time == c.time) = true ∧ (d.gone == c.gone) = false ∨ (d.row.toList == c.row.toList) = true ∧ (d.col.toList == c.col.toList) = true ∧ (d.time == c.time) = true ∧ (d.gone == c.gone) = true ∧ (d.val.toList == c.val.toList) = false) := by
  cases h : eqC d c
  · right
    refine ⟨rfl, ?_⟩
    unfold eqC at h
    revert h
    cases (d.row.toList == c.row.toList) <;> cases (d.col.toList == c.col.toList) <;> cases h3 : (d.time == c.time) <;> cases (d.gone == c.gone) <;> cases (d.val.toList == c.val.toList) <;> simp_all
  · exact .inl ⟨rfl, eqC_iff.1 h⟩


end Go.Proofs.Ytdodajalejfbiad

/-
  Plain maths of the law CellAsks: what the document sees is what is seen.
-/
namespace Go.Proofs.Ytdodajalejfbiad
open Go.RowKit

def unGone : Option Cl → Option Cl
  | none => none
  | some c => if c.gone then none else some c

theorem visGo_find_none (t : Int) (k : Ky) {cs : List Cl} {nw : Cl} (hp : cs.Pairwise Lt) (hn : ∀ c ∈ cs, kl (rc nw) (rc c) ∨ rc nw = rc c) (hk : k = rc nw) : (visGo t nw cs).find? (isAt k) = none := by
  rw [List.find?_eq_none]
  intro d hd h
  have h1 := (visGo_pw t cs nw hp hn).1 d hd
  rw [isAt_iff] at h
  exact kl_ne h1 (by rw [h, hk])

theorem visGo_find (t : Int) (k : Ky) : ∀ (cs : List Cl) (nw : Cl), cs.Pairwise Lt → (∀ c ∈ cs, kl (rc nw) (rc c) ∨ rc nw = rc c) → k ≠ rc nw →
    (visGo t nw cs).find? (isAt k) = unGone (cs.find? (hitB k t))
  | [], _, _, _, _ => rfl
  | c :: r, nw, hp, hn, hk => by
    obtain ⟨hp1, hp2⟩ := List.pairwise_cons.1 hp
    cases hh : hid t nw c
    · have hx : ¬ (t < c.time ∨ rc c = rc nw) := fun h => by rw [hid_iff.2 h] at hh; cases hh
      have hnx : nextN t nw c = c := by simp [nextN, hh]
      have hge : ∀ d ∈ r, kl (rc c) (rc d) ∨ rc c = rc d := fun d hd => Lt_le (hp1 d hd)
      unfold visGo
      rw [hnx]
      by_cases e : k = rc c
      · have hhit : hitB k t c = true := by
          unfold hitB
          rw [isAt_iff.2 e.symm, Bool.true_and, decide_eq_true_eq]
          omega
        rw [List.find?_cons_of_pos hhit]
        cases hg : c.gone
        · rw [if_pos (by simp [seenB, hh, hg]), List.find?_cons_of_pos (isAt_iff.2 e.symm)]
          simp [unGone, hg]
        · rw [if_neg (by simp [seenB, hg]), visGo_find_none t k hp2 hge e]
          simp [unGone, hg]
      · have hat : isAt k c = false := by
          cases h : isAt k c
          · rfl
          · exact absurd (isAt_iff.1 h).symm e
        have hhit : hitB k t c = false := by unfold hitB; rw [hat]; rfl
        rw [List.find?_cons_of_neg (by rw [hhit]; decide), ← visGo_find t k r c hp2 hge e]
        split
        · rw [List.find?_cons_of_neg (by rw [hat]; decide)]
        · rfl
    · have hnx : nextN t nw c = nw := by simp [nextN, hh]
      have hs : seenB t nw c = false := by simp [seenB, hh]
      have hhit : hitB k t c = false := by
        cases h : hitB k t c
        · rfl
        · have h1 := hitB_rc h
          unfold hitB at h
          rw [Bool.and_eq_true, decide_eq_true_eq] at h
          rcases hid_iff.1 hh with h2 | h2
          · omega
          · exact absurd (h1.symm.trans h2) hk
      unfold visGo
      rw [hnx, hs, if_neg (by decide), visGo_find t k r nw hp2 (fun d hd => hn d (by simp [hd])) hk, List.find?_cons_of_neg (by rw [hhit]; decide)]

theorem vis_find {cs : List Cl} (t : Int) (k : Ky) (h : (checkC cs).1 = 0) : (vis t cs).find? (isAt k) = unGone (cs.find? (hitB k t)) := by
  have hz : ∀ c ∈ cs, kl (rc zeroC) (rc c) := fun c hc => kl_zero (fine_code h hc)
  by_cases e : k = rc zeroC
  · unfold vis
    rw [visGo_find_none t k (fine_pw h) (fun c hc => .inl (hz c hc)) e]
    have : cs.find? (hitB k t) = none := by
      rw [List.find?_eq_none]
      intro c hc hh
      exact kl_ne (hz c hc) (by rw [hitB_rc hh, e])
    rw [this]
    rfl
  · exact visGo_find t k cs zeroC (fine_pw h) (fun c hc => .inl (hz c hc)) e

theorem seenR_vis {cs : List Cl} (t : Int) (k : Ky) (h : (checkC cs).1 = 0) : seenR cs k t = match (vis t cs).find? (isAt k) with
    | none => (zeroC, false)
    | some c => (c, true) := by
  rw [vis_find t k h]
  unfold seenR
  cases cs.find? (hitB k t) with
  | none => rfl
  | some c => cases hg : c.gone <;> simp [unGone, hg]

theorem get_seen {cs : List Cl} {row col : ByteArray} {t : Int} (h1 : (checkC cs).1 = 0) (h2 : isNumB t = true) : getC cs row col t = ((seenR cs (row.toList, col.toList) t).1.val, (seenR cs (row.toList, col.toList) t).2, (0, 0)) := by
  rw [getC_fine h1 h2, seenR_vis t _ h1]
  cases (vis t cs).find? (isAt (row.toList, col.toList)) <;> rfl

theorem scanned_vis {cs : List Cl} (a b : ByteArray) (t : Int) (h : (checkC cs).1 = 0) : cs.filter (takeB cs a b t) = (vis t cs).filter fun c => askB a b c.row := by
  have hv := vis_pw t h
  refine pw_ext Lt_irrefl (fun _ _ _ => Lt_trans) ((fine_pw h).filter _) (((fine_pw h).sublist (vis_sub t cs)).filter _) fun c => ?_
  rw [List.mem_filter, List.mem_filter]
  unfold takeB
  rw [seenR_vis t _ h]
  constructor
  · rintro ⟨hc, ht⟩
    rw [Bool.and_eq_true, Bool.and_eq_true] at ht
    obtain ⟨h1, h2, h3⟩ := ht
    cases hf : (vis t cs).find? (isAt (rc c)) with
    | none => rw [hf] at h2; cases h2
    | some d =>
      rw [hf] at h3
      have e := eqC_iff.1 h3
      simp only at e
      subst e
      exact ⟨List.mem_of_find?_eq_some hf, h1⟩
  · rintro ⟨hc, ha⟩
    refine ⟨(vis_sub t cs).subset hc, ?_⟩
    rw [find_pw hv hc, ha]
    simp [eqC_iff.2 rfl]

theorem scan_scanned {cs : List Cl} {a b : ByteArray} {t m : Int} (h : (scanC cs a b t m).2.1 = 0) : (scanC cs a b t m).1 = scannedR cs a b t m := by
  obtain ⟨h1, _, _, _, h5⟩ := scanC_fine h
  rw [h5, scannedR, scanned_vis a b t h1]

/-- The faults of Scan: those of the cells, then those of the ask. -/
theorem scan_fault {cs : List Cl} {a b : ByteArray} {t m : Int} : (scanC cs a b t m).2 = if (checkC cs).1 = 0 then askF t m else checkC cs := by
  unfold scanC askF
  by_cases h1 : (checkC cs).1 = 0
  · rw [if_neg (by omega), if_pos h1]
    by_cases h2 : isNumB t = false
    · rw [if_pos h2, if_pos h2]
    · rw [if_neg h2, if_neg h2]
      split <;> rfl
  · rw [if_pos h1, if_neg h1]

theorem scan_bad {cs : List Cl} {a b : ByteArray} {t m : Int} (h : (scanC cs a b t m).2.1 ≠ 0) : (scanC cs a b t m).1 = [] := by
  unfold scanC at h ⊢
  by_cases h1 : (checkC cs).1 = 0
  · rw [if_neg (by omega)] at h ⊢
    by_cases h2 : isNumB t = false
    · rw [if_pos h2]
    · rw [if_neg h2] at h ⊢
      by_cases h3 : m < 0 ∨ 1000 < m
      · rw [if_pos h3]
      · rw [if_neg h3] at h; simp at h
  · rw [if_pos h1]

end Go.Proofs.Ytdodajalejfbiad
