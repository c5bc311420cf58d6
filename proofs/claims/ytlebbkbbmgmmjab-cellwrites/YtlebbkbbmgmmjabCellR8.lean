/-
  The walks over the document's reading of cells: CellsOf.
-/
import Derived.Test.YtlebbkbbmgmmjabCellR7
namespace Go.Proofs.Ytlebbkbbmgmmjab
open Go.RowKit

set_option maxRecDepth 100000 in
set_option maxHeartbeats 1000000 in
theorem CellsOf_any (v : Value) (bs : List UInt8) (w : World) (hrd : Rd w v (bc bs)) (hbl : bs.length ≤ 100000) :
    Calls Try.prog 39 #[v] w fun e w' => ∃ v', e = .returned (.tuple #[v', fltC (readCR bs).2]) ∧ RdC w' v' (readCR bs).1 ∧ Below w.heap.size w w' ∧ New w.heap.size v' := by
  obtain ⟨ao, cap, hv, hc1, hc2⟩ := hrd.shape
  rw [bc_length] at hc1 hv
  subst hv
  unfold maxLen at hc2
  by_cases hbig : 60000 < bs.length
  · have HE := hide (readCR_big hbig)
    go_enter Try.func39, Try.ntmps39
    go_wp2_with fail
    refine (FC_any 8 0 _).mono ?_
    rintro e w1 ⟨rfl, hb1⟩
    have hbel := flt_later (Below.refl _ _) hb1
    obtain ⟨hf0, hf1, hfr0, hfr1, hsz⟩ := two_later hbel
    have hbf := below_first hbel
    unfold fltC
    go_wp2_with fail
    exact bodyPost_ret (v := .tuple #[.slice none 0 0, fltC (8, 0)]) (by simp [results, Try.results39, go_sem, fltC, hf0, hf1]) rfl ⟨.slice none 0 0, by rw [HE.out], by rw [HE.out]; exact RdC.nil _, by go_grown, New.nil _⟩
  · have HE := hide (readCR_go hbig)
    go_enter Try.func39, Try.ntmps39
    go_wp2_with fail
    go_loopw [0, 4] (fun b o wr => ∃ (ds : List UInt8) (f : Nat) (acc : List Cl), rdCells (f + 1) ds acc = rdCells (bs.length + 1) bs [] ∧ ds.length ≤ f ∧ acc.length + ds.length ≤ bs.length ∧ Rd w b (bc ds) ∧ wr.ownsRow (w.heap.size + 1) 52 5 o acc.length (cc acc) ∧ Below (w.heap.size + 1) (w.alloc (.cells #[.int .i64 0, .int .i64 0] 29)) wr)
      (fun b _ _ => lenV b)
    case atStart => exact ⟨bs, bs.length, [], rfl, Nat.le_refl _, by simp, hrd, World.ownsRow_nil _ _ _ _, Below.refl _ _⟩
    case round =>
      obtain ⟨ds, f, acc, hgo, hf, hacc, hr, hown, hbel⟩ := hrel
      have HG := hide hgo
      clear hgo
      have hbf := below_first hbel
      have hsz1 := (two_later hbel).2.2.2.2
      obtain ⟨bo, bcap, hbv, hd1, hd2⟩ := hr.shape
      rw [bc_length] at hd1 hbv
      subst hbv
      unfold maxLen at hd2
      by_cases hnil : ds = []
      · subst hnil
        obtain ⟨ao2, cap2, hv2⟩ := ownsC_shape hown
        subst hv2
        simp only [List.length_nil]
        go_wp2_with fail
        have hrc := RdC.ofOwns hown
        refine (CellsFault_any _ acc _ hrc).mono ?_
        rintro e w3 ⟨rfl, hb3⟩
        have hbel3 := flt_later hbel hb3
        have hown3 := owns_below hown hb3
        obtain ⟨gf0, gf1, gr0, gr1, gsz⟩ := two_later hbel3
        have hbf3 := below_first hbel3
        clear hown hbel hbf hb3
        by_cases hc : (checkC acc).1 = 0
        · have hcz := checkC_zero hc
          have HM := hide (@rdCells_end f acc hc)
          rw [hcz]
          unfold fltC
          clear hcz hc
          go_wp2_with fail
          exact bodyPost_ret (v := .tuple #[.slice ao2 acc.length cap2, fltC (0, 0)]) (by simp [results, Try.results39, go_sem, fltC, gf0, gf1, gsz]) rfl ⟨_, by rw [HE.out, ← HG.out, HM.out], by rw [HE.out, ← HG.out, HM.out]; exact RdC.ofOwns ((ownsRow_setCell_below (ownsRow_setCell_below hown3 (by simp only; omega) _) (by simp only; omega) _).alloc _), by go_grown, (New.owns hown3).mono (by omega)⟩
        · have HM := hide (@rdCells_fault f acc hc)
          have hcb2 : ((checkC acc).1 != 0) = true := by simp [hc]
          clear hc
          generalize checkC acc = r at *
          obtain ⟨x, y⟩ := r
          simp only at hcb2
          unfold fltC
          go_wp2_with fail
          go_region
          all_goals
            go_wp2_with fail
            exact bodyPost_ret (v := .tuple #[.slice none 0 0, fltC (x, y)]) (by simp [results, Try.results39, go_sem, fltC, gf0, gf1, gsz]) rfl ⟨_, by rw [HE.out, ← HG.out, HM.out], by rw [HE.out, ← HG.out, HM.out]; exact RdC.nil _, by go_grown, New.nil _⟩
      · have hpos : 0 < ds.length := by cases ds with | nil => exact absurd rfl hnil | cons => simp
        have HN := hide hnil
        clear hnil
        have hr1 := hr.below hbf
        have hlen := lenV_owns hown
        go_wp2_with fail
        refine (CellAt_any _ ds _ hr1 (by omega)).mono ?_
        rintro e w3 ⟨rfl, hb3⟩
        have hbel3 := flt_later hbel hb3
        have hown3 := owns_below hown hb3
        obtain ⟨gf0, gf1, gr0, gr1, gsz⟩ := two_later hbel3
        have hbf3 := below_first hbel3
        clear hown hbel hbf hb3 hr1
        obtain ⟨ao2, cap2, hv2⟩ := ownsC_shape hown3
        subst hv2
        cases hn : cellAt ds with
        | none =>
          have HM := hide (@rdCells_bad f ds acc HN.out hn)
          clear hn
          unfold catV cA
          simp only
          go_wp2_with fail
          refine (FC_any 5 acc.length _).mono ?_
          rintro e w4 ⟨rfl, hb4⟩
          have hbel4 : Below (w.heap.size + 1) (w.alloc (.cells #[.int .i64 0, .int .i64 0] 29)) w4 := (hbel3.alloc (by omega) _).trans (hb4.mono (by simp; omega))
          clear gf0 gf1 gr0 gr1 gsz
          obtain ⟨gf0, gf1, gr0, gr1, gsz⟩ := two_later hbel4
          have hbf4 := below_first hbel4
          unfold fltC
          go_wp2_with fail
          exact bodyPost_ret (v := .tuple #[.slice none 0 0, fltC (5, acc.length)]) (by simp [results, Try.results39, go_sem, fltC, gf0, gf1]) rfl ⟨_, by rw [HE.out, ← HG.out, HM.out], by rw [HE.out, ← HG.out, HM.out]; exact RdC.nil _, by go_grown, New.nil _⟩
        | some p =>
          obtain ⟨c, k⟩ := p
          have HM := hide (@rdCells_step f ds acc c k HN.out hn)
          obtain ⟨_, _, hk0, hkl⟩ := cellAt_len hn
          clear hn
          unfold catV cA
          simp only
          have hkb : ((k : Int) == 0) = false := beq_eq_false_iff_ne.2 (by omega)
          have hown4 := hown3.alloc (.cells #[.string c.row, .string c.col, .int .i64 c.time, .bool c.gone, .string c.val] 52)
          have hbel4 : Below (w.heap.size + 1) (w.alloc (.cells #[.int .i64 0, .int .i64 0] 29)) (w3.alloc (.cells #[.string c.row, .string c.col, .int .i64 c.time, .bool c.gone, .string c.val] 52)) := hbel3.alloc (by omega) _
          have hz4 : w.heap.size + 1 ≤ (w3.alloc (.cells #[.string c.row, .string c.col, .int .i64 c.time, .bool c.gone, .string c.val] 52)).heap.size := by simp; omega
          have hsl := run_slice_from (P := Try.prog) Try.underlying25 (by kernel_rfl) Try.info5 bo ds.length bcap k k rfl hkl
          have hV := hr.from (lo := k) hkl
          rw [bc_drop] at hV
          obtain ⟨va, hva⟩ := sliced_shape bo k ds.length bcap
          rw [hva] at hsl hV
          go_wp2_with (at_builtin; go_must (refine wpList_append_oneC (c := c) hown4 Try.underlying43 Try.info52 rfl rfl rfl rfl (by simp only [World.size_alloc]; rfl) (by omega) (by decide) hz4 ?_); intro v6 w6 ho6 hb6 hg6)
          go_roundw
          case rel =>
            obtain ⟨f', rfl⟩ : ∃ f', f = f' + 1 := ⟨f - 1, by omega⟩
            refine ⟨ds.drop k, f', acc ++ [c], by rw [← HG.out, HM.out], by rw [List.length_drop]; omega, by simp; omega, hV, by simpa using ho6, hbel4.trans hb6⟩
          case measure => simp [lenV]; omega

end Go.Proofs.Ytlebbkbbmgmmjab
