/-
  The walks over merge.listsFault and merge.Join.
-/
import Derived.Test.YtlebbkbbmgmmjadMergeW10
namespace Go.Proofs.Ytlebbkbbmgmmjad
open Go.RowKit

/-- What is wrong with lists. -/
def lcode (ls : List (List Cl)) (i : Nat) : Int := (checkC (ls.getD i [])).1
def lfR (ls : List (List Cl)) : Int × Int := if 20 < ls.length then (2, -1) else firstG (lcode ls) ls.length 0

theorem lfR_zero {ls : List (List Cl)} (h : (lfR ls).1 = 0) : lfR ls = (0, 0) ∧ ls.length ≤ 20 ∧ ∀ l ∈ ls, (checkC l).1 = 0 := by
  unfold lfR at h ⊢
  by_cases h2 : 20 < ls.length
  · simp [h2] at h
  · rw [if_neg h2] at h ⊢
    refine ⟨firstG_zero _ _ _ h, by omega, fun l hl => ?_⟩
    obtain ⟨i, hi, e⟩ := List.getElem_of_mem hl
    have := firstG_fine h i (by omega) (by omega)
    unfold lcode at this
    rw [List.getD_eq_getElem?_getD, List.getElem?_eq_getElem hi, e] at this
    exact this

theorem lcode_at {ls : List (List Cl)} {i : Nat} {l : List Cl} (h : ls[i]? = some l) : lcode ls i = (checkC l).1 := by
  unfold lcode
  rw [List.getD_eq_getElem?_getD, h]
  rfl

set_option maxRecDepth 100000 in
set_option maxHeartbeats 1000000 in
theorem mListsFault_any (v : Value) (ls : List (List Cl)) (w : World) (hv : RdL w v ls) :
    Calls Try.prog 56 #[v] w fun e w' => e = .returned (fltC (lfR ls)) ∧ Below w.heap.size w w' := by
  obtain ⟨ao, cap, hvv, hc1, hc2⟩ := hv.shape
  subst hvv
  unfold maxLen at hc2
  by_cases hbig : 20 < ls.length
  · have HE := hide (show lfR ls = (2, -1) by simp [lfR, hbig])
    go_enter Try.func56, Try.ntmps56
    go_wp2_with fail
    exact bodyPost_ret (v := fltC (2, -1)) (by simp [results, Try.results56, go_sem, fltC]) rfl ⟨by rw [HE.out], by go_grown⟩
  · have HF := hide (show lfR ls = firstG (lcode ls) ls.length 0 by simp [lfR, hbig])
    go_enter Try.func56, Try.ntmps56
    go_wp2_with fail
    go_loopw [12] (fun i wr => ∃ k : Nat, k ≤ ls.length ∧ i = .int .i64 k ∧ firstG (lcode ls) (ls.length - k) k = lfR ls ∧ Below (w.heap.size + 1) (w.alloc (.cells #[.int .i64 0, .int .i64 0] 28)) wr)
      (fun i _ => ls.length - (intOf i).toNat)
    case atStart => exact ⟨0, by omega, rfl, by rw [HF.out]; rfl, Below.refl _ _⟩
    case round =>
      obtain ⟨k, hk, rfl, hgo, hbel⟩ := hrel
      have HG := hide hgo
      clear hgo
      obtain ⟨hf0, hf1, hfr0, hfr1, hsz⟩ := two_later hbel
      have hbf := below_first hbel
      by_cases hlt : k < ls.length
      · obtain ⟨l, hl⟩ : ∃ l, ls[k]? = some l := ⟨_, List.getElem?_eq_getElem hlt⟩
        obtain ⟨b, off, u, rfl, hb, hcell, hrc⟩ := hv.here hl
        have hc0 := (hbf.cell (p := ⟨b, off + k, none⟩) hb).trans hcell
        have hk1 : (0 : Int) ≤ (k : Int) := by omega
        have hk2 : (k : Int) < (ls.length : Int) := by omega
        have HLC := hide (lcode_at hl)
        obtain ⟨uo, uc, huu, _, _⟩ := hrc.shape
        subst huu
        clear hl hcell
        go_wp2_with fail
        refine (CCheck_any _ l _ (hrc.below hbf)).mono ?_
        rintro e w1 ⟨rfl, hb1⟩
        have hbel1 := hbel.trans (hb1.mono (by omega))
        obtain ⟨gf0, gf1, gfr0, gfr1, gsz⟩ := two_later hbel1
        have hbf1 := below_first hbel1
        by_cases h0 : (checkC l).1 = 0
        · have HE := hide (firstG_next (f := lcode ls) (m := ls.length - k) (i := k) (by rw [HLC.out]; exact h0) (by omega))
          rw [checkC_zero h0]
          have hbel2 := hbel1.alloc (by omega) (.cells #[.int .i64 0, .int .i64 0] 28)
          have HB2 := hide hbel2
          clear hbel2
          unfold fltC
          go_wp2_with fail
          go_roundw
          case rel => exact ⟨k + 1, by omega, by go_num, by rw [← HG.out, HE.out]; congr 1, HB2.out⟩
          case measure => simp [intOf]; omega
        · have HE := hide (firstG_hit (f := lcode ls) (m := ls.length - k) (i := k) (by rw [HLC.out]; exact h0) (by omega))
          have HQ : Hid (lfR ls = ((checkC l).1, (k : Int))) := hide (by rw [← HG.out, HE.out, HLC.out])
          have hcb : ((checkC l).1 == 0) = false := beq_eq_false_iff_ne.2 h0
          have hcb2 : ((checkC l).1 != 0) = true := by simp [h0]
          generalize checkC l = rr at *
          obtain ⟨x, y⟩ := rr
          simp only at hcb hcb2 HQ
          clear h0
          unfold fltC
          go_wp2_with fail
          exact bodyPost_ret (v := fltC (x, k)) (by simp [results, Try.results56, go_sem, fltC, gf0, gf1, gsz]) rfl ⟨by rw [HQ.out], by go_grown⟩
      · have hz : ls.length - k = 0 := by omega
        rw [hz] at HG
        go_wp2_with fail
        exact bodyPost_ret (v := fltC (0, 0)) (by simp [results, Try.results56, go_sem, fltC, hf0, hf1]) rfl ⟨by rw [← HG.out]; rfl, by go_grown⟩

end Go.Proofs.Ytlebbkbbmgmmjad
