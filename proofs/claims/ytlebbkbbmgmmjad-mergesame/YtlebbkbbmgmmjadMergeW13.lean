/-
  The walk over merge.Scan.
-/
import Derived.Test.YtlebbkbbmgmmjadMergeW12
namespace Go.Proofs.Ytlebbkbbmgmmjad
open Go.RowKit

/-- What Scan answers. -/
def mscR (ls : List (List Cl)) (a b : ByteArray) (t m : Int) : List Cl × (Int × Int) :=
  if (lfR ls).1 ≠ 0 then ([], lfR ls) else if (askFV t m).1 ≠ 0 then ([], askFV t m) else (scanGo a b t m zeroC (joinR ls) [], (0, 0))

theorem mscR_bad {ls : List (List Cl)} {a b : ByteArray} {t m : Int} (h : (lfR ls).1 ≠ 0) : mscR ls a b t m = ([], lfR ls) := by rw [mscR, if_pos h]
theorem mscR_ask {ls : List (List Cl)} {a b : ByteArray} {t m : Int} (h : (lfR ls).1 = 0) (h2 : (askFV t m).1 ≠ 0) : mscR ls a b t m = ([], askFV t m) := by rw [mscR, if_neg (by omega), if_pos h2]
theorem mscR_ok {ls : List (List Cl)} {a b : ByteArray} {t m : Int} (h : (lfR ls).1 = 0) (h2 : (askFV t m).1 = 0) : mscR ls a b t m = (scanGo a b t m zeroC (joinR ls) [], (0, 0)) := by rw [mscR, if_neg (by omega), if_neg (by omega)]

theorem AkSt.gb2 {w w' : World} {A H : Nat} {a b : ByteArray} {t m : Int} {nw : Cl} (h : AkSt w A a b t m nw) (hg : Gb2 w w' H) (hH : H + 1 < A) : AkSt w' A a b t m nw :=
  ⟨⟨⟨h.s.s.tB.gb2 hg (by omega) (by omega), h.s.s.nB.gb2 hg (by omega) (by omega)⟩, h.s.iB.gb2 hg (by omega) (by omega)⟩, h.aB.gb2 hg (by omega) (by omega), h.jB.gb2 hg (by omega) (by omega)⟩

set_option maxRecDepth 100000 in
set_option maxHeartbeats 4000000 in
theorem MScan_any (v : Value) (ls : List (List Cl)) (a b : ByteArray) (t m : Int) (w : World) (hv : RdL w v ls) :
    Calls Try.prog 13 #[v, aA a b t m] w fun e w' => ∃ v', e = .returned (.tuple #[v', fltC (mscR ls a b t m).2]) ∧ RdC w' v' (mscR ls a b t m).1 ∧ Below w.heap.size w w' ∧ New w.heap.size v' := by
  obtain ⟨ao, cap, hvv, hc1, hc2⟩ := hv.shape
  subst hvv
  unfold maxLen at hc2
  unfold aA
  go_enter Try.func13, Try.ntmps13
  go_wp2_with fail
  have hA0 := (Bk.new w 24 #[.string a, .string b, .int .i64 t, .int .i64 m]).below (below_alloc' _ (.cells #[.int .i64 0, .int .i64 0] 28)) (by simp)
  have hR0 := Bk.new2 w (.cells #[.string a, .string b, .int .i64 t, .int .i64 m] 24) 28 #[.int .i64 0, .int .i64 0]
  have hb0 : Below w.heap.size w ((w.alloc (.cells #[.string a, .string b, .int .i64 t, .int .i64 m] 24)).alloc (.cells #[.int .i64 0, .int .i64 0] 28)) := (below_alloc' _ _).trans ((below_alloc' _ _).mono (by simp))
  refine (mListsFault_any _ ls _ (hv.below hb0)).mono ?_
  rintro e w1 ⟨rfl, hb1⟩
  have hR1 := hR0.below hb1 (by simp)
  have hA1 := hA0.below hb1 (by simp; omega)
  have hbw1 : Below w.heap.size w w1 := hb0.trans (hb1.mono (by simp; omega))
  have hsz1 := hR1.lt
  have hsA1 := hA1.lt
  clear hb1 hR0 hA0 hb0
  by_cases hc : (lfR ls).1 = 0
  · obtain ⟨hcz, hl20, hfine⟩ := lfR_zero hc
    have HFI := hide hfine
    have HC := hide hc
    rw [hcz]
    clear hcz hfine hc
    have hR2 := hR1.below (below_alloc' _ (.cells #[.int .i64 0, .int .i64 0] 28)) hsz1
    have hA2 := hA1.below (below_alloc' _ (.cells #[.int .i64 0, .int .i64 0] 28)) hsA1
    have hbw2 := hbw1.alloc (by omega) (.cells #[.int .i64 0, .int .i64 0] 28)
    have a0 := hA1.cell 0
    have a1 := hA1.cell 1
    have a2 := hA1.cell 2
    have a3 := hA1.cell 3
    simp at a0 a1 a2 a3
    unfold fltC
    go_wp2_with fail
    refine (vAskFault_any a b t m _).mono ?_
    rintro e w2 ⟨rfl, hb2⟩
    have hR3 := hR2.below hb2 hR2.lt
    have hA3 := hA2.below hb2 hA2.lt
    have hbw3 : Below w.heap.size w w2 := hbw2.trans (hb2.mono (by simp; omega))
    clear a0 a1 a2 a3 hR1 hR2 hA1 hA2 hbw1 hbw2 hb2 hsz1 hsA1
    have hsA3 := hA3.lt
    have hsR3 := hR3.lt
    by_cases hf : (askFV t m).1 = 0
    · obtain ⟨hf0, hn, hm⟩ := askFV_zero hf
      have HE := hide (@mscR_ok ls a b t m HC.out hf)
      have hm1 : ¬ m < 0 := by omega
      have hm2 : m ≤ 1000 := by omega
      rw [hf0]
      clear hm hf hf0 hn
      have hR4 := hR3.below (below_alloc' _ (.cells #[.int .i64 0, .int .i64 0] 28)) hsR3
      have hA4 := hA3.below (below_alloc' _ (.cells #[.int .i64 0, .int .i64 0] 28)) hsA3
      have hbw4 := hbw3.alloc (by omega) (.cells #[.int .i64 0, .int .i64 0] 28)
      unfold fltC
      go_wp2_with fail
      refine (counting_any _ ls _ (hv.below hbw4) hl20 HFI.out).mono ?_
      rintro e wC ⟨H, rfl, hN, hH, hbC, hzC⟩
      have hRC := hR4.below hbC (by simp; omega)
      have hAC := hA4.below hbC (by simp; omega)
      have hbwC : Below w.heap.size w wC := hbw4.trans (hbC.mono (by simp; omega))
      have hHw : w.heap.size + 2 < H := by simp at hH; omega
      have HZC := hide hzC
      have hNl := hN.lt
      clear hH hbC hR3 hR4 hA3 hA4 hbw3 hbw4 hsA3 hsR3 hzC
      generalize hw0 : w2.alloc (.cells #[.int .i64 0, .int .i64 0] 28) = w0 at hN
      clear hw0
      have a0 := hAC.cell 0
      have a1 := hAC.cell 1
      have a2 := hAC.cell 2
      have a3 := hAC.cell 3
      simp at a0 a1 a2 a3
      unfold nxF
      go_wp2_with fail
      refine (askedFor_any a b t m _).mono ?_
      rintro e wA ⟨rfl, hSA, hbA, hzA⟩
      have hRA := hRC.below hbA hRC.lt
      have hAA := hAC.below hbA hAC.lt
      have hNA := hN.gb hbA hNl
      have hbwA : Below w.heap.size w wA := hbwC.trans (hbA.mono (by omega))
      have hHA0 : H + 2 ≤ wC.heap.size := by omega
      have HZA := hide hzA
      clear hbA hRC hAC hbwC a0 a1 a2 a3 hN hNl hzA HZC
      generalize wC.heap.size = A at *
      have HN := hide hNA
      have HSA := hide hSA
      clear hNA hSA
      unfold akF
      go_wp2_with fail
      rcases hJ : joinR ls with _ | ⟨c, L⟩
      case' nil =>
        rw [hJ] at HN
        refine (next_nil w0 H _ HN.out).mono ?_
        rintro e w3 ⟨rfl, hg3⟩
        have hb3 := Gb2.below (Below.refl H wA) hg3 (by have := HZA.out; omega) (Nat.le_refl _)
        have hz3 := hg3.size
        have hbx := hb3.alloc (by have := HZA.out; omega) (.cells #[.string ⟨#[]⟩, .string ⟨#[]⟩, .int .i64 0, .bool false, .string ⟨#[]⟩] 91)
        have hS3 := HSA.out.gb2 hg3 (by omega)
        have hSx := hS3.below (below_alloc' _ (.cells #[.string ⟨#[]⟩, .string ⟨#[]⟩, .int .i64 0, .bool false, .string ⟨#[]⟩] 91)) hS3.lt
        have hrel0 : NxRel w0 (w3.alloc (.cells #[.string ⟨#[]⟩, .string ⟨#[]⟩, .int .i64 0, .bool false, .string ⟨#[]⟩] 91)) H w3.heap.size (.bool false) (joinR ls) := .inr ⟨rfl, hJ⟩
        have hP0 : A + 5 ≤ w3.heap.size := by have := HZA.out; omega
        have hPz0 : w3.heap.size < (w3.alloc (.cells #[.string ⟨#[]⟩, .string ⟨#[]⟩, .int .i64 0, .bool false, .string ⟨#[]⟩] 91)).heap.size := by simp
        have HREL := hide hrel0
        have HSX := hide hSx
        unfold cA zeroC
        clear hJ hb3 hz3 hg3 hrel0 HN HSA hS3 hSx
        go_wp2_with fail
      case' cons =>
        rw [hJ] at HN
        refine (next_cons w0 H c L _ HN.out).mono ?_
        rintro e w3 ⟨rfl, hN3, hrem3, hg3⟩
        have hb3 := Gb2.below (Below.refl H wA) hg3 (by have := HZA.out; omega) (Nat.le_refl _)
        have hz3 := hg3.size
        have hbx := hb3.alloc (by have := HZA.out; omega) (.cells #[.string c.row, .string c.col, .int .i64 c.time, .bool c.gone, .string c.val] 91)
        have hS3 := HSA.out.gb2 hg3 (by omega)
        have hSx := hS3.below (below_alloc' _ (.cells #[.string c.row, .string c.col, .int .i64 c.time, .bool c.gone, .string c.val] 91)) hS3.lt
        have hrel0 : NxRel w0 (w3.alloc (.cells #[.string c.row, .string c.col, .int .i64 c.time, .bool c.gone, .string c.val] 91)) H w3.heap.size (.bool true) (joinR ls) := .inl ⟨c, L, rfl, Bk.new _ _ _, hN3.gb (below_alloc' _ _) hN3.lt, hJ⟩
        have hP0 : A + 5 ≤ w3.heap.size := by have := HZA.out; omega
        have hPz0 : w3.heap.size < (w3.alloc (.cells #[.string c.row, .string c.col, .int .i64 c.time, .bool c.gone, .string c.val] 91)).heap.size := by simp
        have HREL := hide hrel0
        have HSX := hide hSx
        unfold cA
        clear hJ hb3 hz3 hg3 hrel0 HN hN3 hrem3 HSA hS3 hSx
        go_wp2_with fail
      all_goals
        go_loopw [10, 11, 12] (fun o p ok wr => ∃ (acc T : List Cl) (P : Nat) (nw : Cl), p = .pointer (some ⟨P, 0, none⟩) ∧ NxRel w0 wr H P ok T ∧ A + 5 ≤ P ∧ P < wr.heap.size ∧ OffB o P ∧ AkSt wr A a b t m nw ∧ scanGo a b t m nw T acc = scanGo a b t m zeroC (joinR ls) [] ∧ acc.length ≤ 1000 ∧ wr.ownsRow (A + 5) 91 5 o acc.length (cc acc) ∧ Below H wA wr)
          (fun _ _ ok wr => mNx ok wr H)
        case atStart => exact ⟨[], joinR ls, _, zeroC, rfl, HREL.out, hP0, hPz0, (fun k hk => by simp [Value.ownBlock] at hk), HSX.out, rfl, by simp, World.ownsRow_nil _ _ _ _, hbx⟩
        case round =>
          obtain ⟨acc, T, P, nw, rfl, hrel, hP, hPz, hoff, hS, hgo, hl1, hown, hbel⟩ := hrel
          have HG := hide hgo
          have HOFF := hide hoff
          have HS := hide hS
          clear hgo hoff hS HREL hbx hP0 hPz0 HSX
          have hRr := hRA.below hbel (by omega)
          have hAr := hAA.below hbel (by omega)
          have a3 := hAr.cell 3
          simp at a3
          have hsAr := hAr.lt
          obtain ⟨ao2, cap2, hv2⟩ := ownsC_shape hown
          subst hv2
          by_cases hend : u12 = .bool false ∨ ¬ (acc.length : Int) < m
          · have HF : Hid (scanGo a b t m zeroC (joinR ls) [] = acc) := hide (by
              rw [← HG.out]
              rcases hend with h | h
              · rcases hrel with ⟨c, L, h2, _⟩ | ⟨_, h2⟩
                · rw [h2] at h; cases h
                · rw [h2]; rfl
              · exact scanGo_full h)
            have r0 := hRr.cell 0
            have r1 := hRr.cell 1
            have r2 := hRr.frozen 0
            have r3 := hRr.frozen 1
            have hsr := hRr.lt
            simp at r0 r1
            have hbw2 : Below w.heap.size w wr := hbwA.trans (hbel.mono (by omega))
            have hok : u12 = .bool false ∨ u12 = .bool true ∧ decide ((acc.length : Int) < m) = false := by
              rcases hrel with ⟨c, L, h2, _⟩ | ⟨h2, _⟩
              · rcases hend with h | h
                · exact .inl h
                · exact .inr ⟨h2, by simpa using h⟩
              · exact .inl h2
            clear hrel hend HG
            rcases hok with rfl | ⟨rfl, hdm⟩
            all_goals
              go_wp2_with fail
              exact bodyPost_ret (v := .tuple #[.slice ao2 acc.length cap2, fltC (0, 0)]) (by simp [results, Try.results13, go_sem, fltC, r0, r1]) rfl ⟨_, by rw [HE.out], by rw [HE.out, HF.out]; exact RdC.ofOwns (ownsRow_setCell_below (ownsRow_setCell_below hown (by simp only; omega) _) (by simp only; omega) _), by go_grown, (New.owns hown).mono (by omega)⟩
          · rcases hrel with ⟨c, L, rfl, hcB, hNr, rfl⟩ | ⟨h, _⟩
            · have hmm : (acc.length : Int) < m := by
                by_cases h : (acc.length : Int) < m
                · exact h
                · exact absurd (.inr h) hend
              have hd : decide ((acc.length : Int) < m) = true := by simpa using hmm
              obtain ⟨c0, c1, c2, c3, c4⟩ := hcB.facts
              have HCB := hide hcB
              have HNR := hide hNr
              have hl8 : acc.length ≤ 100000000 := by omega
              have hb7 : A + 5 ≤ wr.heap.size := by omega
              have hHA5 : H + 1 < A + 5 := by omega
              have hA45 : A + 4 < A + 5 := by omega
              have hA25 : A + 2 < A + 5 := by omega
              have hHA2 : H + 1 < A + 2 := by omega
              clear hcB hNr hend
              cases hq : (seenB t nw c && askB a b c.row)
              · have HM := hide (@scanGo_miss a b t m nw c L acc (by rw [hq]; rfl))
                cases L with
                | nil =>
                  go_wp2_with (first | (go_at_call 95; refine (askedFor1_any a b t m c nw A _ HS.out).mono ?_; rintro e w3 ⟨rfl, hS3, hg3⟩; rw [hq]; have hcB3 := HCB.out.grown hg3 (by simp; omega); have ho3 := owns_grown hown hg3 hA25; have hN3 := HNR.out.grown hg3 hHA2; have hz3 := hg3.size; have hb8 := Nat.le_trans hb7 hz3; obtain ⟨p0, p1, p2, p3, p4⟩ := hcB3.facts) | (go_at_call 92; refine (next_nil w0 H _ (hN3.gb (below_alloc' w3 (.cells #[.string c.row, .string c.col, .int .i64 c.time, .bool c.gone, .string c.val] 91)) (by omega))).mono ?_; rintro e w6 ⟨rfl, hg6⟩; have hB6 := Bk.gb2 (show Bk (w3.alloc (.cells #[.string c.row, .string c.col, .int .i64 c.time, .bool c.gone, .string c.val] 91)) w3.heap.size 91 (ca c) from Bk.new _ _ _) hg6 (by omega) (by omega); obtain ⟨e0, e1, e2, e3, e4⟩ := hB6.facts; obtain ⟨f0, f1, f2, f3, f4⟩ := hB6.thaw; have hlt6 := hB6.lt; unfold cA zeroC))
                  have hbel4 : Below H wA w3 := hbel.grown hg3 (by omega) (fun j hj => by simp at hj; omega)
                  have hbel6 := Gb2.below (hbel4.alloc (by omega) (.cells #[.string c.row, .string c.col, .int .i64 c.time, .bool c.gone, .string c.val] 91)) hg6 (by simp; omega) (Nat.le_refl _)
                  have ho6 := owns_gb2 (ho3.alloc (.cells #[.string c.row, .string c.col, .int .i64 c.time, .bool c.gone, .string c.val] 91)) hg6 (by omega)
                  have hoff : OffB (.slice ao2 acc.length cap2) w3.heap.size := OffB.past ho3
                  have hS6 := (hS3.below (below_alloc' w3 (.cells #[.string c.row, .string c.col, .int .i64 c.time, .bool c.gone, .string c.val] 91)) hS3.lt).gb2 hg6 (by omega)
                  have hS7 := hS6.grown (five_gb w6 w3.heap.size zeroC) (.inr (by omega))
                  have hO7 := five_owns ho6 hoff zeroC
                  have hBL7 := five_below hbel6 (B := w3.heap.size) (by omega) zeroC
                  go_roundw
                  case rel => exact ⟨acc, [], w3.heap.size, nextN t nw c, rfl, .inr ⟨rfl, rfl⟩, by omega, by simp; omega, hoff, hS7, by rw [← HG.out, HM.out], by omega, hO7, hBL7⟩
                  case measure => show 0 < remW wr H + 1; omega
                | cons c' L' =>
                  go_wp2_with (first | (go_at_call 95; refine (askedFor1_any a b t m c nw A _ HS.out).mono ?_; rintro e w3 ⟨rfl, hS3, hg3⟩; rw [hq]; have hcB3 := HCB.out.grown hg3 (by simp; omega); have ho3 := owns_grown hown hg3 hA25; have hN3 := HNR.out.grown hg3 hHA2; have hz3 := hg3.size; have hb8 := Nat.le_trans hb7 hz3; obtain ⟨p0, p1, p2, p3, p4⟩ := hcB3.facts) | (go_at_call 92; refine (next_cons w0 H c' L' _ (hN3.gb (below_alloc' w3 (.cells #[.string c.row, .string c.col, .int .i64 c.time, .bool c.gone, .string c.val] 91)) (by omega))).mono ?_; rintro e w6 ⟨rfl, hN6, hrem6, hg6⟩; have hB6 := Bk.gb2 (show Bk (w3.alloc (.cells #[.string c.row, .string c.col, .int .i64 c.time, .bool c.gone, .string c.val] 91)) w3.heap.size 91 (ca c) from Bk.new _ _ _) hg6 (by omega) (by omega); obtain ⟨e0, e1, e2, e3, e4⟩ := hB6.facts; obtain ⟨f0, f1, f2, f3, f4⟩ := hB6.thaw; have hlt6 := hB6.lt; unfold cA))
                  have hbel4 : Below H wA w3 := hbel.grown hg3 (by omega) (fun j hj => by simp at hj; omega)
                  have hbel6 := Gb2.below (hbel4.alloc (by omega) (.cells #[.string c.row, .string c.col, .int .i64 c.time, .bool c.gone, .string c.val] 91)) hg6 (by simp; omega) (Nat.le_refl _)
                  have ho6 := owns_gb2 (ho3.alloc (.cells #[.string c.row, .string c.col, .int .i64 c.time, .bool c.gone, .string c.val] 91)) hg6 (by omega)
                  have hoff : OffB (.slice ao2 acc.length cap2) w3.heap.size := OffB.past ho3
                  have hS6 := (hS3.below (below_alloc' w3 (.cells #[.string c.row, .string c.col, .int .i64 c.time, .bool c.gone, .string c.val] 91)) hS3.lt).gb2 hg6 (by omega)
                  have hS7 := hS6.grown (five_gb w6 w3.heap.size c') (.inr (by omega))
                  have hO7 := five_owns ho6 hoff c'
                  have hBL7 := five_below hbel6 (B := w3.heap.size) (by omega) c'
                  have hN7 := hN6.grown (five_gb w6 w3.heap.size c') (by omega)
                  have hB7 := hB6.store (c := c')
                  have hR7 : remW (five w6 w3.heap.size c') H < remW wr H := by
                    rw [remW_gb ((five_gb w6 w3.heap.size c').block H (by omega) (by simp; omega))]
                    refine Nat.lt_of_lt_of_le hrem6 (Nat.le_of_eq ?_)
                    exact (remW_gb (heap_alloc_old _ _ (by omega))).trans (remW_gb (hg3.block H (by omega) (by simp; omega)))
                  go_roundw
                  case rel => exact ⟨acc, c' :: L', w3.heap.size, nextN t nw c, rfl, .inl ⟨c', L', rfl, hB7, hN7, rfl⟩, by omega, by simp; omega, hoff, hS7, by rw [← HG.out, HM.out], by omega, hO7, hBL7⟩
                  case measure => show remW (five w6 w3.heap.size c') H + 1 < remW wr H + 1; omega
              · have hq1 := hq
                simp only [Bool.and_eq_true] at hq1
                obtain ⟨h1, h2⟩ := hq1
                have HM := hide (@scanGo_hit a b t m nw c L acc h1 h2 hd)
                clear h1 h2
                cases L with
                | nil =>
                  go_wp2_with (first | (at_builtin; go_must (refine wpList_append_oneC (c := c) ho3 Try.underlying30 Try.info91 rfl rfl rfl rfl rfl hl8 (by decide) hb8 ?_); intro v4 w4 ho4 hb4 hg4; obtain ⟨ao4, cap4, hv4⟩ := ownsC_shape ho4; subst hv4; have hz4 := hb4.size; have hcB4 := hcB3.grown hg4 (fun h => HOFF.out P h.symm rfl); have hN4 := hN3.gb hb4 hHA5; have hS4 := hS3.below hb4 hA45; obtain ⟨q0, q1, q2, q3, q4⟩ := hcB4.facts) | (go_at_call 95; refine (askedFor1_any a b t m c nw A _ HS.out).mono ?_; rintro e w3 ⟨rfl, hS3, hg3⟩; rw [hq]; have hcB3 := HCB.out.grown hg3 (by simp; omega); have ho3 := owns_grown hown hg3 hA25; have hN3 := HNR.out.grown hg3 hHA2; have hz3 := hg3.size; have hb8 := Nat.le_trans hb7 hz3; obtain ⟨p0, p1, p2, p3, p4⟩ := hcB3.facts) | (go_at_call 92; refine (next_nil w0 H _ (hN4.gb (below_alloc' w4 (.cells #[.string c.row, .string c.col, .int .i64 c.time, .bool c.gone, .string c.val] 91)) (by omega))).mono ?_; rintro e w6 ⟨rfl, hg6⟩; have hB6 := Bk.gb2 (show Bk (w4.alloc (.cells #[.string c.row, .string c.col, .int .i64 c.time, .bool c.gone, .string c.val] 91)) w4.heap.size 91 (ca c) from Bk.new _ _ _) hg6 (by omega) (by omega); obtain ⟨e0, e1, e2, e3, e4⟩ := hB6.facts; obtain ⟨f0, f1, f2, f3, f4⟩ := hB6.thaw; have hlt6 := hB6.lt; unfold cA zeroC))
                  have hbel4 : Below H wA w4 := (hbel.grown hg3 (by omega) (fun j hj => by simp at hj; omega)).trans (hb4.mono (by omega))
                  have hbel6 := Gb2.below (hbel4.alloc (by omega) (.cells #[.string c.row, .string c.col, .int .i64 c.time, .bool c.gone, .string c.val] 91)) hg6 (by simp; omega) (Nat.le_refl _)
                  have ho6 := owns_gb2 (ho4.alloc (.cells #[.string c.row, .string c.col, .int .i64 c.time, .bool c.gone, .string c.val] 91)) hg6 (by omega)
                  have hoff : OffB (.slice ao4 (acc.length + 1) cap4) w4.heap.size := OffB.past ho4
                  have hS6 := (hS4.below (below_alloc' w4 (.cells #[.string c.row, .string c.col, .int .i64 c.time, .bool c.gone, .string c.val] 91)) hS4.lt).gb2 hg6 (by omega)
                  have hS7 := hS6.grown (five_gb w6 w4.heap.size zeroC) (.inr (by omega))
                  have hO7 := five_owns ho6 hoff zeroC
                  have hBL7 := five_below hbel6 (B := w4.heap.size) (by omega) zeroC
                  go_roundw
                  case rel => exact ⟨acc ++ [c], [], w4.heap.size, nextN t nw c, rfl, .inr ⟨rfl, rfl⟩, by omega, by simp; omega, hoff, hS7, by rw [← HG.out, HM.out], by simp; omega, by rw [List.length_append]; exact hO7, hBL7⟩
                  case measure => show 0 < remW wr H + 1; omega
                | cons c' L' =>
                  go_wp2_with (first | (at_builtin; go_must (refine wpList_append_oneC (c := c) ho3 Try.underlying30 Try.info91 rfl rfl rfl rfl rfl hl8 (by decide) hb8 ?_); intro v4 w4 ho4 hb4 hg4; obtain ⟨ao4, cap4, hv4⟩ := ownsC_shape ho4; subst hv4; have hz4 := hb4.size; have hcB4 := hcB3.grown hg4 (fun h => HOFF.out P h.symm rfl); have hN4 := hN3.gb hb4 hHA5; have hS4 := hS3.below hb4 hA45; obtain ⟨q0, q1, q2, q3, q4⟩ := hcB4.facts) | (go_at_call 95; refine (askedFor1_any a b t m c nw A _ HS.out).mono ?_; rintro e w3 ⟨rfl, hS3, hg3⟩; rw [hq]; have hcB3 := HCB.out.grown hg3 (by simp; omega); have ho3 := owns_grown hown hg3 hA25; have hN3 := HNR.out.grown hg3 hHA2; have hz3 := hg3.size; have hb8 := Nat.le_trans hb7 hz3; obtain ⟨p0, p1, p2, p3, p4⟩ := hcB3.facts) | (go_at_call 92; refine (next_cons w0 H c' L' _ (hN4.gb (below_alloc' w4 (.cells #[.string c.row, .string c.col, .int .i64 c.time, .bool c.gone, .string c.val] 91)) (by omega))).mono ?_; rintro e w6 ⟨rfl, hN6, hrem6, hg6⟩; have hB6 := Bk.gb2 (show Bk (w4.alloc (.cells #[.string c.row, .string c.col, .int .i64 c.time, .bool c.gone, .string c.val] 91)) w4.heap.size 91 (ca c) from Bk.new _ _ _) hg6 (by omega) (by omega); obtain ⟨e0, e1, e2, e3, e4⟩ := hB6.facts; obtain ⟨f0, f1, f2, f3, f4⟩ := hB6.thaw; have hlt6 := hB6.lt; unfold cA))
                  have hbel4 : Below H wA w4 := (hbel.grown hg3 (by omega) (fun j hj => by simp at hj; omega)).trans (hb4.mono (by omega))
                  have hbel6 := Gb2.below (hbel4.alloc (by omega) (.cells #[.string c.row, .string c.col, .int .i64 c.time, .bool c.gone, .string c.val] 91)) hg6 (by simp; omega) (Nat.le_refl _)
                  have ho6 := owns_gb2 (ho4.alloc (.cells #[.string c.row, .string c.col, .int .i64 c.time, .bool c.gone, .string c.val] 91)) hg6 (by omega)
                  have hoff : OffB (.slice ao4 (acc.length + 1) cap4) w4.heap.size := OffB.past ho4
                  have hS6 := (hS4.below (below_alloc' w4 (.cells #[.string c.row, .string c.col, .int .i64 c.time, .bool c.gone, .string c.val] 91)) hS4.lt).gb2 hg6 (by omega)
                  have hS7 := hS6.grown (five_gb w6 w4.heap.size c') (.inr (by omega))
                  have hO7 := five_owns ho6 hoff c'
                  have hBL7 := five_below hbel6 (B := w4.heap.size) (by omega) c'
                  have hN7 := hN6.grown (five_gb w6 w4.heap.size c') (by omega)
                  have hB7 := hB6.store (c := c')
                  have hR7 : remW (five w6 w4.heap.size c') H < remW wr H := by
                    rw [remW_gb ((five_gb w6 w4.heap.size c').block H (by omega) (by simp; omega))]
                    refine Nat.lt_of_lt_of_le hrem6 (Nat.le_of_eq ?_)
                    exact (remW_gb (heap_alloc_old _ _ (by omega))).trans ((remW_gb (hb4.block H (by omega))).trans (remW_gb (hg3.block H (by omega) (by simp; omega))))
                  go_roundw
                  case rel => exact ⟨acc ++ [c], c' :: L', w4.heap.size, nextN t nw c, rfl, .inl ⟨c', L', rfl, hB7, hN7, rfl⟩, by omega, by simp; omega, hoff, hS7, by rw [← HG.out, HM.out], by simp; omega, by rw [List.length_append]; exact hO7, hBL7⟩
                  case measure => show remW (five w6 w4.heap.size c') H + 1 < remW wr H + 1; omega
            · exact absurd (.inl h) hend
    · have HE := hide (@mscR_ask ls a b t m HC.out hf)
      have hcb : ((askFV t m).1 == 0) = false := beq_eq_false_iff_ne.2 hf
      have hcb2 : ((askFV t m).1 != 0) = true := by simp [hf]
      have r0 := hR3.cell 0
      have r1 := hR3.cell 1
      have r2 := hR3.frozen 0
      have r3 := hR3.frozen 1
      simp at r0 r1
      clear hf
      generalize askFV t m = r at *
      obtain ⟨x, y⟩ := r
      simp only at hcb hcb2
      unfold fltC
      go_wp2_with fail
      go_region
      all_goals
        go_wp2_with fail
        exact bodyPost_ret (v := .tuple #[.slice none 0 0, fltC (x, y)]) (by simp [results, Try.results13, go_sem, fltC, r0, r1, hsR3]) rfl ⟨_, by rw [HE.out], by rw [HE.out]; exact RdC.nil _, by go_grown, New.nil _⟩
  · have HE := hide (@mscR_bad ls a b t m hc)
    have hcb : ((lfR ls).1 == 0) = false := beq_eq_false_iff_ne.2 hc
    have hcb2 : ((lfR ls).1 != 0) = true := by simp [hc]
    have r0 := hR1.cell 0
    have r1 := hR1.cell 1
    have r2 := hR1.frozen 0
    have r3 := hR1.frozen 1
    simp at r0 r1
    clear hc
    generalize lfR ls = r at *
    obtain ⟨x, y⟩ := r
    simp only at hcb hcb2
    unfold fltC
    go_wp2_with fail
    go_region
    all_goals
      go_wp2_with fail
      exact bodyPost_ret (v := .tuple #[.slice none 0 0, fltC (x, y)]) (by simp [results, Try.results13, go_sem, fltC, r0, r1, hsz1]) rfl ⟨_, by rw [HE.out], by rw [HE.out]; exact RdC.nil _, by go_grown, New.nil _⟩

end Go.Proofs.Ytlebbkbbmgmmjad
