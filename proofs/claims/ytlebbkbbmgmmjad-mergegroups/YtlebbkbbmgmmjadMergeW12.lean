/-
  The walk over merge.Join.
-/
import Derived.Test.YtlebbkbbmgmmjadMergeW11
namespace Go.Proofs.Ytlebbkbbmgmmjad
open Go.RowKit

/-- What Join answers. -/
def jnR (ls : List (List Cl)) : List Cl × (Int × Int) :=
  if (lfR ls).1 ≠ 0 then ([], lfR ls) else if 1000 < (joinR ls).length then ([], (9, -1)) else (joinR ls, (0, 0))

theorem jnR_bad {ls : List (List Cl)} (h : (lfR ls).1 ≠ 0) : jnR ls = ([], lfR ls) := by rw [jnR, if_pos h]
theorem jnR_much {ls : List (List Cl)} (h : (lfR ls).1 = 0) (h2 : 1000 < (joinR ls).length) : jnR ls = ([], (9, -1)) := by rw [jnR, if_neg (by omega), if_pos h2]
theorem jnR_ok {ls : List (List Cl)} (h : (lfR ls).1 = 0) (h2 : (joinR ls).length ≤ 1000) : jnR ls = (joinR ls, (0, 0)) := by rw [jnR, if_neg (by omega), if_neg (by omega)]

theorem owns_setP {w : World} {base : Nat} {e : TypeId} {size : Nat} {v : Value} {n : Nat} {xs : List Value} (h : w.ownsRow base e size v n xs) {p : Addr} (hne : ∀ k, v.ownBlock = some k → k ≠ p.block) (u : Value) : (w.setCell p u).ownsRow base e size v n xs := by
  refine ⟨h.1, ?_⟩
  rcases h.2 with hn | ⟨g, cap, cur, rfl, hb, hh, r⟩
  · exact .inl hn
  · exact .inr ⟨g, cap, cur, rfl, hb, by rw [heap_setCell_other w p g u (hne g rfl)]; exact hh, r⟩

/-- A list's row lies off a block. -/
def OffB (v : Value) (B : Nat) : Prop := ∀ k, v.ownBlock = some k → k ≠ B
theorem OffB.past {w : World} {base : Nat} {e : TypeId} {size : Nat} {v : Value} {n : Nat} {xs : List Value} (h : w.ownsRow base e size v n xs) : OffB v w.heap.size := fun k hk => by
  have := h.lt k hk
  omega

/-- How far it is to the end. -/
def mNx (ok : Value) (w : World) (H : Nat) : Nat := match ok with | .bool true => remW w H + 1 | _ => 0

/-- Between two rounds: the cell that was told last is in the block P, L are to be told. -/
def NxRel (w0 w : World) (H P : Nat) (ok : Value) (T : List Cl) : Prop :=
  (∃ c L, ok = .bool true ∧ Bk w P 91 (ca c) ∧ NxSt w0 w H L ∧ T = c :: L) ∨ (ok = .bool false ∧ T = [])

/-- The cell stored into its block. -/
theorem Bk.store' {w : World} {B : Nat} {t : TypeId} {c d : Cl} (h : Bk w B t (ca d)) :
    Bk (((((w.setCell ⟨B, 0, none⟩ (.string c.row)).setCell ⟨B, 1, none⟩ (.string c.col)).setCell ⟨B, 2, none⟩ (.int .i64 c.time)).setCell ⟨B, 3, none⟩ (.bool c.gone)).setCell ⟨B, 4, none⟩ (.string c.val)) B t (ca c) := h.store

/-- Five stores into a block. -/
abbrev five (w : World) (B : Nat) (c : Cl) : World := ((((w.setCell ⟨B, 0, none⟩ (.string c.row)).setCell ⟨B, 1, none⟩ (.string c.col)).setCell ⟨B, 2, none⟩ (.int .i64 c.time)).setCell ⟨B, 3, none⟩ (.bool c.gone)).setCell ⟨B, 4, none⟩ (.string c.val)

theorem five_gb (w : World) (B : Nat) (c : Cl) : w.grownBy (five w B c) (some B) := gb_set (gb_set (gb_set (gb_set (gb_set (gb_refl w (some B)) 0 _) 1 _) 2 _) 3 _) 4 _
theorem five_below {a w : World} {C B : Nat} (h : Below C a w) (hB : C ≤ B) (c : Cl) : Below C a (five w B c) := ((((h.setCell hB _).setCell hB _).setCell hB _).setCell hB _).setCell hB _
theorem five_owns {w : World} {base : Nat} {e : TypeId} {size : Nat} {v : Value} {n : Nat} {xs : List Value} (h : w.ownsRow base e size v n xs) {B : Nat} (hB : OffB v B) (c : Cl) : (five w B c).ownsRow base e size v n xs :=
  owns_setP (owns_setP (owns_setP (owns_setP (owns_setP h (p := ⟨B, 0, none⟩) hB _) (p := ⟨B, 1, none⟩) hB _) (p := ⟨B, 2, none⟩) hB _) (p := ⟨B, 3, none⟩) hB _) (p := ⟨B, 4, none⟩) hB _

set_option maxRecDepth 100000 in
set_option maxHeartbeats 2000000 in
theorem Join_any (v : Value) (ls : List (List Cl)) (w : World) (hv : RdL w v ls) :
    Calls Try.prog 16 #[v] w fun e w' => ∃ v', e = .returned (.tuple #[v', fltC (jnR ls).2]) ∧ RdC w' v' (jnR ls).1 ∧ Below w.heap.size w w' ∧ New w.heap.size v' := by
  obtain ⟨ao, cap, hvv, hc1, hc2⟩ := hv.shape
  subst hvv
  unfold maxLen at hc2
  go_enter Try.func16, Try.ntmps16
  go_wp2_with fail
  have hR0 := Bk.new w 28 #[.int .i64 0, .int .i64 0]
  refine (mListsFault_any _ ls _ (hv.below (below_alloc' _ _))).mono ?_
  rintro e w1 ⟨rfl, hb1⟩
  have hR1 := hR0.below hb1 (by simp)
  have hbw1 : Below w.heap.size w w1 := (below_alloc' _ _).trans (hb1.mono (by simp))
  have hsz1 := hR1.lt
  clear hb1 hR0
  by_cases hc : (lfR ls).1 = 0
  · obtain ⟨hcz, hl20, hfine⟩ := lfR_zero hc
    have HFI := hide hfine
    rw [hcz]
    clear hcz hfine
    unfold fltC
    go_wp2_with fail
    refine (counting_any _ ls _ ((hv.below hbw1).below (below_alloc' _ _)) hl20 HFI.out).mono ?_
    rintro e wA ⟨H, rfl, hN, hH, hbA, hzA⟩
    have hRA : Bk wA w.heap.size 28 #[.int .i64 0, .int .i64 0] := (hR1.below (below_alloc' _ _) hsz1).below hbA (by simp; omega)
    have hbwA : Below w.heap.size w wA := hbw1.trans (((below_alloc' _ _).mono (by omega)).trans (hbA.mono (by simp; omega)))
    have hHw : w.heap.size + 2 ≤ H := by simp at hH; omega
    have HC := hide hc
    clear hH hbA hR1 hbw1 hsz1 hc
    generalize hw0 : w1.alloc (.cells #[.int .i64 0, .int .i64 0] 28) = w0 at *
    clear hw0
    have HN := hide hN
    have hHA : H + 1 < wA.heap.size := by omega
    clear hN
    unfold nxF
    go_wp2_with fail
    rcases hJ : joinR ls with _ | ⟨c, L⟩
    case' nil =>
      rw [hJ] at HN
      refine (next_nil w0 H _ HN.out).mono ?_
      rintro e w2 ⟨rfl, hg2⟩
      have hb2 := Gb2.below (Below.refl H wA) hg2 (by omega) (Nat.le_refl _)
      have hz2 := hg2.size
      have hbx := hb2.alloc (by omega) (.cells #[.string ⟨#[]⟩, .string ⟨#[]⟩, .int .i64 0, .bool false, .string ⟨#[]⟩] 91)
      have hrel0 : NxRel w0 (w2.alloc (.cells #[.string ⟨#[]⟩, .string ⟨#[]⟩, .int .i64 0, .bool false, .string ⟨#[]⟩] 91)) H w2.heap.size (.bool false) (joinR ls) := .inr ⟨rfl, hJ⟩
      have hP0 : H + 2 ≤ w2.heap.size := by omega
      have hPz0 : w2.heap.size < (w2.alloc (.cells #[.string ⟨#[]⟩, .string ⟨#[]⟩, .int .i64 0, .bool false, .string ⟨#[]⟩] 91)).heap.size := by simp
      have HREL := hide hrel0
      unfold cA zeroC
      clear hJ hb2 hz2 hg2 hrel0 HN
      go_wp2_with fail
    case' cons =>
      rw [hJ] at HN
      refine (next_cons w0 H c L _ HN.out).mono ?_
      rintro e w2 ⟨rfl, hN2, hrem2, hg2⟩
      have hb2 := Gb2.below (Below.refl H wA) hg2 (by omega) (Nat.le_refl _)
      have hz2 := hg2.size
      have hbx := hb2.alloc (by omega) (.cells #[.string c.row, .string c.col, .int .i64 c.time, .bool c.gone, .string c.val] 91)
      have hrel0 : NxRel w0 (w2.alloc (.cells #[.string c.row, .string c.col, .int .i64 c.time, .bool c.gone, .string c.val] 91)) H w2.heap.size (.bool true) (joinR ls) := .inl ⟨c, L, rfl, Bk.new _ _ _, hN2.gb (below_alloc' _ _) (by omega), hJ⟩
      have hP0 : H + 2 ≤ w2.heap.size := by omega
      have hPz0 : w2.heap.size < (w2.alloc (.cells #[.string c.row, .string c.col, .int .i64 c.time, .bool c.gone, .string c.val] 91)).heap.size := by simp
      have HREL := hide hrel0
      unfold cA
      clear hJ hb2 hz2 hg2 hrel0 HN hN2 hrem2
      go_wp2_with fail
    all_goals
      go_loopw [6, 7, 8] (fun o p ok wr => ∃ (acc T : List Cl) (P : Nat), p = .pointer (some ⟨P, 0, none⟩) ∧ NxRel w0 wr H P ok T ∧ H + 2 ≤ P ∧ P < wr.heap.size ∧ OffB o P ∧ acc ++ T = joinR ls ∧ acc.length ≤ 1000 ∧ wr.ownsRow (H + 2) 91 5 o acc.length (cc acc) ∧ Below H wA wr)
        (fun _ _ ok wr => mNx ok wr H)
      case atStart => exact ⟨[], joinR ls, _, rfl, HREL.out, hP0, hPz0, (fun k hk => by simp [Value.ownBlock] at hk), rfl, by simp, World.ownsRow_nil _ _ _ _, hbx⟩
      case round =>
        obtain ⟨acc, T, P, rfl, hrel, hP, hPz, hoff, hat, hl1, hown, hbel⟩ := hrel
        have HAT := hide hat
        have HOFF := hide hoff
        clear hat hoff HREL hbx hP0 hPz0
        have hRr := hRA.below hbel (by omega)
        obtain ⟨ao2, cap2, hv2⟩ := ownsC_shape hown
        subst hv2
        rcases hrel with ⟨c, L, rfl, hcB, hNr, rfl⟩ | ⟨rfl, rfl⟩
        · obtain ⟨c0, c1, c2, c3, c4⟩ := hcB.facts
          by_cases hfull : acc.length = 1000
          · have HE : Hid (jnR ls = ([], (9, -1))) := hide (jnR_much HC.out (by rw [← HAT.out]; simp; omega))
            have hbe : ((acc.length : Int) == 1000) = true := by simp; omega
            have hbe2 : (acc.length == 1000) = true := by simp [hfull]
            have r0 := hRr.cell 0
            have r1 := hRr.cell 1
            have r2 := hRr.frozen 0
            have r3 := hRr.frozen 1
            have hsr := hRr.lt
            simp at r0 r1
            have hbw2 : Below w.heap.size w wr := hbwA.trans (hbel.mono (by omega))
            clear hfull hown
            go_wp2_with fail
            exact bodyPost_ret (v := .tuple #[.slice none 0 0, fltC (9, -1)]) (by simp [results, Try.results16, go_sem, fltC, r0, r1]) rfl ⟨_, by rw [HE.out], by rw [HE.out]; exact RdC.nil _, by go_grown, New.nil _⟩
          · have hbe : ((acc.length : Int) == 1000) = false := beq_eq_false_iff_ne.2 (by omega)
            have hbe2 : (acc.length == 1000) = false := beq_eq_false_iff_ne.2 hfull
            have hl8 : acc.length ≤ 100000000 := by omega
            have hb8 : H + 2 ≤ wr.heap.size := by omega
            have HCB := hide hcB
            have HNR := hide hNr
            clear hcB hNr
            have hH2 : H + 1 < H + 2 := by omega
            cases L with
            | nil =>
              go_wp2_with (first | (at_builtin; go_must (refine wpList_append_oneC (c := c) hown Try.underlying30 Try.info91 rfl rfl rfl rfl rfl hl8 (by decide) hb8 ?_); intro v4 w4 ho4 hb4 hg4; obtain ⟨ao4, cap4, hv4⟩ := ownsC_shape ho4; subst hv4; have hz4 := hb4.size; have hcB4 := HCB.out.grown hg4 (fun h => HOFF.out P h.symm rfl); obtain ⟨q0, q1, q2, q3, q4⟩ := hcB4.facts) | (go_at_call 92; refine (next_nil w0 H _ ((HNR.out.gb hb4 hH2).gb (below_alloc' w4 (.cells #[.string c.row, .string c.col, .int .i64 c.time, .bool c.gone, .string c.val] 91)) (by omega))).mono ?_; rintro e w6 ⟨rfl, hg6⟩; have hB6 := Bk.gb2 (show Bk (w4.alloc (.cells #[.string c.row, .string c.col, .int .i64 c.time, .bool c.gone, .string c.val] 91)) w4.heap.size 91 (ca c) from Bk.new _ _ _) hg6 (by omega) (by omega); obtain ⟨e0, e1, e2, e3, e4⟩ := hB6.facts; obtain ⟨f0, f1, f2, f3, f4⟩ := hB6.thaw; have hlt6 := hB6.lt; unfold cA zeroC))
              have hbel4 : Below H wA w4 := hbel.trans (hb4.mono (by omega))
              have hbel6 := Gb2.below (hbel4.alloc (by omega) (.cells #[.string c.row, .string c.col, .int .i64 c.time, .bool c.gone, .string c.val] 91)) hg6 (by simp; omega) (Nat.le_refl _)
              have ho6 := owns_gb2 (ho4.alloc (.cells #[.string c.row, .string c.col, .int .i64 c.time, .bool c.gone, .string c.val] 91)) hg6 (by omega)
              have hoff : OffB (.slice ao4 (acc.length + 1) cap4) w4.heap.size := OffB.past ho4
              have hlen : acc.length + 1 ≤ 1000 := by omega
              have hO7 := five_owns ho6 hoff zeroC
              have hBL7 := five_below hbel6 (B := w4.heap.size) (by omega) zeroC
              go_roundw
              case rel => exact ⟨acc ++ [c], [], w4.heap.size, rfl, .inr ⟨rfl, rfl⟩, by omega, by simp; omega, hoff, by rw [← HAT.out]; simp, by simp; omega, by rw [List.length_append]; exact hO7, hBL7⟩
              case measure => show 0 < remW wr H + 1; omega
            | cons c' L' =>
              go_wp2_with (first | (at_builtin; go_must (refine wpList_append_oneC (c := c) hown Try.underlying30 Try.info91 rfl rfl rfl rfl rfl hl8 (by decide) hb8 ?_); intro v4 w4 ho4 hb4 hg4; obtain ⟨ao4, cap4, hv4⟩ := ownsC_shape ho4; subst hv4; have hz4 := hb4.size; have hcB4 := HCB.out.grown hg4 (fun h => HOFF.out P h.symm rfl); obtain ⟨q0, q1, q2, q3, q4⟩ := hcB4.facts) | (go_at_call 92; refine (next_cons w0 H c' L' _ ((HNR.out.gb hb4 hH2).gb (below_alloc' w4 (.cells #[.string c.row, .string c.col, .int .i64 c.time, .bool c.gone, .string c.val] 91)) (by omega))).mono ?_; rintro e w6 ⟨rfl, hN6, hrem6, hg6⟩; have hB6 := Bk.gb2 (show Bk (w4.alloc (.cells #[.string c.row, .string c.col, .int .i64 c.time, .bool c.gone, .string c.val] 91)) w4.heap.size 91 (ca c) from Bk.new _ _ _) hg6 (by omega) (by omega); obtain ⟨e0, e1, e2, e3, e4⟩ := hB6.facts; obtain ⟨f0, f1, f2, f3, f4⟩ := hB6.thaw; have hlt6 := hB6.lt; unfold cA))
              have hbel4 : Below H wA w4 := hbel.trans (hb4.mono (by omega))
              have hbel6 := Gb2.below (hbel4.alloc (by omega) (.cells #[.string c.row, .string c.col, .int .i64 c.time, .bool c.gone, .string c.val] 91)) hg6 (by simp; omega) (Nat.le_refl _)
              have ho6 := owns_gb2 (ho4.alloc (.cells #[.string c.row, .string c.col, .int .i64 c.time, .bool c.gone, .string c.val] 91)) hg6 (by omega)
              have hoff : OffB (.slice ao4 (acc.length + 1) cap4) w4.heap.size := OffB.past ho4
              have hlen : acc.length + 1 ≤ 1000 := by omega
              have hO7 := five_owns ho6 hoff c'
              have hBL7 := five_below hbel6 (B := w4.heap.size) (by omega) c'
              have hN7 := hN6.grown (five_gb w6 w4.heap.size c') (by omega)
              have hB7 := hB6.store (c := c')
              have hR7 : remW (five w6 w4.heap.size c') H < remW wr H := by
                rw [remW_gb ((five_gb w6 w4.heap.size c').block H (by omega) (by simp; omega))]
                refine Nat.lt_of_lt_of_le hrem6 (Nat.le_of_eq ?_)
                exact (remW_gb (heap_alloc_old _ _ (by omega))).trans (remW_gb (hb4.block H (by omega)))
              go_roundw
              case rel => exact ⟨acc ++ [c], c' :: L', w4.heap.size, rfl, .inl ⟨c', L', rfl, hB7, hN7, rfl⟩, by omega, by simp; omega, hoff, by rw [← HAT.out]; simp, by simp; omega, by rw [List.length_append]; exact hO7, hBL7⟩
              case measure => show remW (five w6 w4.heap.size c') H + 1 < remW wr H + 1; omega
        · have HJ : Hid (joinR ls = acc) := hide (by rw [← HAT.out]; simp)
          have HE : Hid (jnR ls = (acc, (0, 0))) := hide (by rw [← HJ.out]; exact jnR_ok HC.out (by rw [HJ.out]; exact hl1))
          have r0 := hRr.cell 0
          have r1 := hRr.cell 1
          have r2 := hRr.frozen 0
          have r3 := hRr.frozen 1
          have hsr := hRr.lt
          simp at r0 r1
          have hbw2 : Below w.heap.size w wr := hbwA.trans (hbel.mono (by omega))
          go_wp2_with fail
          exact bodyPost_ret (v := .tuple #[.slice ao2 acc.length cap2, fltC (0, 0)]) (by simp [results, Try.results16, go_sem, fltC, r0, r1]) rfl ⟨_, by rw [HE.out], by rw [HE.out]; exact RdC.ofOwns (ownsRow_setCell_below (ownsRow_setCell_below hown (by simp only; omega) _) (by simp only; omega) _), by go_grown, (New.owns hown).mono (by omega)⟩
  · have HE := hide (jnR_bad hc)
    have hcb : ((lfR ls).1 == 0) = false := beq_eq_false_iff_ne.2 hc
    have hcb2 : ((lfR ls).1 != 0) = true := by simp [hc]
    have r0 := hR1.cell 0
    have r1 := hR1.cell 1
    have r2 := hR1.frozen 0
    have r3 := hR1.frozen 1
    simp at r0 r1
    clear hc
    generalize lfR ls = r at *
    obtain ⟨x, y⟩ := r
    simp only at hcb hcb2
    unfold fltC
    go_wp2_with fail
    go_region
    all_goals
      go_wp2_with fail
      exact bodyPost_ret (v := .tuple #[.slice none 0 0, fltC (x, y)]) (by simp [results, Try.results16, go_sem, fltC, r0, r1, hsz1]) rfl ⟨_, by rw [HE.out], by rw [HE.out]; exact RdC.nil _, by go_grown, New.nil _⟩

end Go.Proofs.Ytlebbkbbmgmmjad
