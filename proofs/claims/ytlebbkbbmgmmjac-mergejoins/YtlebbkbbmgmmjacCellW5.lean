/-
  The walk over cell.Get.
-/
import Derived.Test.YtlebbkbbmgmmjacCellW4
namespace Go.Proofs.Ytlebbkbbmgmmjac
open Go.RowKit

theorem firstG_zero (f : Nat → Int) : ∀ (m i : Nat), (firstG f m i).1 = 0 → firstG f m i = (0, 0)
  | 0, _, _ => rfl
  | m + 1, i, h => by
    by_cases h0 : f i = 0
    · simp only [firstG, h0, ne_eq, not_true_eq_false, if_false] at h ⊢
      exact firstG_zero f m (i + 1) h
    · simp [firstG, h0] at h

theorem faultR_zero {f : Nat → Int} {n : Nat} (h : (faultR f n).1 = 0) : faultR f n = (0, 0) := by
  unfold faultR at h ⊢
  split at h
  · simp at h
  · rename_i hn
    rw [if_neg hn]
    exact firstG_zero f _ _ h

theorem checkC_zero {cs : List Cl} (h : (checkC cs).1 = 0) : checkC cs = (0, 0) := faultR_zero h

theorem firstG_fine {f : Nat → Int} : ∀ {m i : Nat}, (firstG f m i).1 = 0 → ∀ j, i ≤ j → j < i + m → f j = 0
  | 0, _, _, j, h1, h2 => by omega
  | m + 1, i, h, j, h1, h2 => by
    by_cases h0 : f i = 0
    · simp only [firstG, h0, ne_eq, not_true_eq_false, if_false] at h
      by_cases hj : j = i
      · rw [hj]; exact h0
      · exact firstG_fine h j (by omega) (by omega)
    · simp [firstG, h0] at h

theorem faultR_fine {f : Nat → Int} {n : Nat} (h : (faultR f n).1 = 0) : n ≤ 1000 ∧ ∀ j, j < n → f j = 0 := by
  unfold faultR at h
  split at h
  · simp at h
  · exact ⟨by omega, fun j hj => firstG_fine h j (by omega) (by omega)⟩

/-- What Get finds, behind one that hides. -/
def getGo (t : Int) (row col : ByteArray) : Cl → List Cl → ByteArray × Bool
  | _, [] => (⟨#[]⟩, false)
  | nw, c :: r => if seenB t nw c && (c.row.toList == row.toList) && (c.col.toList == col.toList) then (c.val, true) else getGo t row col (nextN t nw c) r

/-- What Get answers. -/
def getC (cs : List Cl) (row col : ByteArray) (t : Int) : ByteArray × Bool × (Int × Int) :=
  if (checkC cs).1 ≠ 0 then (⟨#[]⟩, false, checkC cs) else if isNumB t = false then (⟨#[]⟩, false, (3, -1)) else ((getGo t row col zeroC cs).1, (getGo t row col zeroC cs).2, (0, 0))

theorem getC_bad {cs : List Cl} {row col : ByteArray} {t : Int} (h : (checkC cs).1 ≠ 0) : getC cs row col t = (⟨#[]⟩, false, checkC cs) := by rw [getC, if_pos h]
theorem getC_range {cs : List Cl} {row col : ByteArray} {t : Int} (h : (checkC cs).1 = 0) (h2 : isNumB t = false) : getC cs row col t = (⟨#[]⟩, false, (3, -1)) := by rw [getC, if_neg (by omega), if_pos h2]
theorem getC_ok {cs : List Cl} {row col : ByteArray} {t : Int} (h : (checkC cs).1 = 0) (h2 : isNumB t = true) : getC cs row col t = ((getGo t row col zeroC cs).1, (getGo t row col zeroC cs).2, (0, 0)) := by rw [getC, if_neg (by omega), if_neg (by rw [h2]; decide)]

theorem getGo_hit {t : Int} {row col : ByteArray} {nw c : Cl} {r : List Cl} (h1 : seenB t nw c = true) (h2 : (c.row.toList == row.toList) = true) (h3 : (c.col.toList == col.toList) = true) : getGo t row col nw (c :: r) = (c.val, true) := by
  simp only [getGo, h1, h2, h3, Bool.and_self, if_true]

theorem getGo_miss {t : Int} {row col : ByteArray} {nw c : Cl} {r : List Cl} (h : (seenB t nw c && (c.row.toList == row.toList) && (c.col.toList == col.toList)) = false) : getGo t row col nw (c :: r) = getGo t row col (nextN t nw c) r := by
  simp only [getGo, h, Bool.false_eq_true, if_false]

theorem drop_consC {cs : List Cl} {k : Nat} (h : k < cs.length) : cs.drop k = cs[k] :: cs.drop (k + 1) := List.drop_eq_getElem_cons h

set_option maxRecDepth 100000 in
set_option maxHeartbeats 1000000 in
theorem Get_any (v : Value) (cs : List Cl) (row col : ByteArray) (t : Int) (w : World) (hv : RdC w v cs) :
    Calls Try.prog 29 #[v, .string row, .string col, .int .i64 t] w fun e w' => e = .returned (.tuple #[.string (getC cs row col t).1, .bool (getC cs row col t).2.1, fltC (getC cs row col t).2.2]) ∧ Below w.heap.size w w' := by
  obtain ⟨ao, cap, hvv, hc1, hc2, hat⟩ := hv.at
  subst hvv
  unfold maxLen at hc2
  go_enter Try.func29, Try.ntmps29
  go_wp2_with fail
  have hR0 := Bk.new w 26 #[.int .i64 0, .int .i64 0]
  refine (CCheck_any _ cs _ (hv.alloc _)).mono ?_
  rintro e w1 ⟨rfl, hb1⟩
  have hR1 := hR0.below hb1 (by simp)
  have hbw1 : Below w.heap.size w w1 := (below_alloc' _ _).trans (hb1.mono (by simp))
  have hsz1 := hR1.lt
  clear hb1 hR0
  by_cases hc : (checkC cs).1 = 0
  · have hcz := checkC_zero hc
    have hfine := faultR_fine hc
    rw [hcz]
    unfold fltC
    clear hcz
    cases hn : isNumB t
    · have HE := hide (@getC_range cs row col t hc hn)
      clear hc hat
      have hR2 : Bk (w1.alloc (.cells #[.int .i64 0, .int .i64 0] 26)) w.heap.size 26 #[.int .i64 0, .int .i64 0] := hR1.below (below_alloc' _ _) hsz1
      have r0 := hR1.cell 0
      have r1 := hR1.cell 1
      have r2 := hR1.frozen 0
      have r3 := hR1.frozen 1
      simp at r0 r1
      go_wp2_with (go_at_call 62; refine (isNum_any _ _).mono ?_; rintro e w' ⟨rfl, rfl⟩; rw [hn])
      exact bodyPost_ret (v := .tuple #[.string ⟨#[]⟩, .bool false, fltC (3, -1)]) (by simp [results, Try.results29, go_sem, fltC, r0, r1, hsz1]) rfl ⟨by rw [HE.out], by go_grown⟩
    · have HE := hide (@getC_ok cs row col t hc hn)
      clear hc
      have r0 := hR1.cell 0
      have r1 := hR1.cell 1
      have r2 := hR1.frozen 0
      have r3 := hR1.frozen 1
      simp at r0 r1
      go_wp2_with (go_at_call 62; refine (isNum_any _ _).mono ?_; rintro e w' ⟨rfl, rfl⟩; rw [hn])
      refine (seenAt_any t _).mono ?_
      rintro e wA ⟨rfl, hSA, hbA, hzA⟩
      have hRA : Bk wA w.heap.size 26 #[.int .i64 0, .int .i64 0] := (hR1.below (below_alloc' _ _) hsz1).below hbA (by simp; omega)
      have hbwA : Below w.heap.size w wA := hbw1.trans (((below_alloc' _ _).mono (by omega)).trans (hbA.mono (by simp; omega)))
      have hz0 : (w1.alloc (.cells #[.int .i64 0, .int .i64 0] 26)).heap.size = w1.heap.size + 1 := by simp
      rw [hz0] at hSA hzA ⊢
      clear hbA hR1 hbw1 r0 r1 r2 r3 hz0
      have hsA : w.heap.size + 1 < w1.heap.size + 1 := by omega
      generalize w1.heap.size + 1 = T at *
      clear hsz1
      have hv1 := hv
      unfold snF
      go_wp2_with fail
      go_loopw [29] (fun i wr => ∃ (k : Nat) (nw : Cl), k ≤ cs.length ∧ i = .int .i64 k ∧ getGo t row col nw (cs.drop k) = getGo t row col zeroC cs ∧ SnSt wr T t nw ∧ Below (T + 1) wA wr)
        (fun i _ => cs.length - (intOf i).toNat)
      case atStart => exact ⟨0, zeroC, by omega, rfl, rfl, hSA, Below.refl _ _⟩
      case round =>
        obtain ⟨k, nw, hk, rfl, hgo, hS, hbel⟩ := hrel
        have HG := hide hgo
        clear hgo
        have hbw : Below w.heap.size w wr := hbwA.trans (hbel.mono (by omega))
        have hRr := hRA.below hbel (by omega)
        have hszN := hS.lt
        by_cases hlt : k < cs.length
        · obtain ⟨b, off, rfl, hb, hcl⟩ := hat k hlt
          have hck := (hcl k hlt).below hbw
          have hdr := drop_consC hlt
          generalize cs[k] = c at *
          rw [hdr] at HG
          obtain ⟨c0, c1, c2, c3, c4⟩ := hck
          clear hcl hat hdr
          go_wp2_with fail
          have hS1 := hS.below (below_alloc' wr (.cells #[.string c.row, .string c.col, .int .i64 c.time, .bool c.gone, .string c.val] 53)) hszN
          have hC1 : Bk (wr.alloc (.cells #[.string c.row, .string c.col, .int .i64 c.time, .bool c.gone, .string c.val] 53)) wr.heap.size 53 (ca c) := Bk.new _ _ _
          have hbe1 : Below (T + 1) wA (wr.alloc (.cells #[.string c.row, .string c.col, .int .i64 c.time, .bool c.gone, .string c.val] 53)) := hbel.alloc (by omega) _
          have hsz1 : wr.heap.size < (wr.alloc (.cells #[.string c.row, .string c.col, .int .i64 c.time, .bool c.gone, .string c.val] 53)).heap.size := by simp
          refine (seenAt1_any t c nw T _ hS1).mono ?_
          rintro e w2 ⟨rfl, hN2, hg2⟩
          have hC2 := hC1.grown hg2 (by simp; omega)
          have hbe2 : Below (T + 1) wA w2 := hbe1.grown hg2 (by omega) (fun j hj => by simp at hj; omega)
          clear hS1 hC1 hbe1 hsz1 c0 c1 c2 c3 c4 hg2
          have hbw2 : Below w.heap.size w w2 := hbwA.trans (hbe2.mono (by omega))
          have hR2 := hRA.below hbe2 (by omega)
          obtain ⟨c0, c1, c2, c3, c4⟩ := hC2.facts
          cases hq : (seenB t nw c && (c.row.toList == row.toList) && (c.col.toList == col.toList))
          · have HM := hide (@getGo_miss t row col nw c (cs.drop (k + 1)) hq)
            have hq3 : seenB t nw c = false ∨ seenB t nw c = true ∧ (c.row.toList == row.toList) = false ∨ seenB t nw c = true ∧ (c.row.toList == row.toList) = true ∧ (c.col.toList == col.toList) = false := by
              revert hq
              cases seenB t nw c <;> cases (c.row.toList == row.toList) <;> cases (c.col.toList == col.toList) <;> simp
            clear hq
            rcases hq3 with h1 | ⟨h1, h2⟩ | ⟨h1, h2, h3⟩
            all_goals
              rw [h1]
              go_wp2_with fail
              go_roundw
              case rel => exact ⟨k + 1, nextN t nw c, by omega, by go_num, by rw [← HG.out, HM.out], hN2, hbe2⟩
              case measure => simp [intOf]; omega
          · simp only [Bool.and_eq_true] at hq
            obtain ⟨⟨h1, h2⟩, h3⟩ := hq
            have HM := hide (@getGo_hit t row col nw c (cs.drop (k + 1)) h1 h2 h3)
            have r0 := hR2.cell 0
            have r1 := hR2.cell 1
            have r2 := hR2.frozen 0
            have r3 := hR2.frozen 1
            have hsr := hR2.lt
            simp at r0 r1
            rw [h1]
            go_wp2_with fail
            exact bodyPost_ret (v := .tuple #[.string c.val, .bool true, fltC (0, 0)]) (by simp [results, Try.results29, go_sem, fltC, r0, r1]) rfl ⟨by rw [HE.out, ← HG.out, HM.out], by go_grown⟩
        · rw [List.drop_eq_nil_of_le (by omega)] at HG
          have r0 := hRr.cell 0
          have r1 := hRr.cell 1
          have r2 := hRr.frozen 0
          have r3 := hRr.frozen 1
          have hsr := hRr.lt
          simp at r0 r1
          go_wp2_with fail
          exact bodyPost_ret (v := .tuple #[.string ⟨#[]⟩, .bool false, fltC (0, 0)]) (by simp [results, Try.results29, go_sem, fltC, r0, r1]) rfl ⟨by rw [HE.out, ← HG.out]; rfl, by go_grown⟩
  · have HE := hide (@getC_bad cs row col t hc)
    have hcb : ((checkC cs).1 == 0) = false := beq_eq_false_iff_ne.2 hc
    have hcb2 : ((checkC cs).1 != 0) = true := by simp [hc]
    clear hc hat
    have r0 := hR1.cell 0
    have r1 := hR1.cell 1
    have r2 := hR1.frozen 0
    have r3 := hR1.frozen 1
    simp at r0 r1
    generalize checkC cs = r at *
    obtain ⟨x, y⟩ := r
    simp only at hcb hcb2
    unfold fltC
    go_wp2_with fail
    go_region
    all_goals
      go_wp2_with fail
      exact bodyPost_ret (v := .tuple #[.string ⟨#[]⟩, .bool false, fltC (x, y)]) (by simp [results, Try.results29, go_sem, fltC, r0, r1, hsz1]) rfl ⟨by rw [HE.out], by go_grown⟩

end Go.Proofs.Ytlebbkbbmgmmjac
