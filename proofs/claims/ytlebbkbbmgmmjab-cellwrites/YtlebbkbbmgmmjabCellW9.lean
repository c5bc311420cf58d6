/-
  The walk over cell.Read.
-/
import Derived.Test.YtlebbkbbmgmmjabCellW8
namespace Go.Proofs.Ytlebbkbbmgmmjab
open Go.RowKit

theorem lenV_ownsC {w : World} {base : Nat} {e : TypeId} {v : Value} {n : Nat} {xs : List Value} (h : w.ownsRow base e 5 v n xs) : lenV v = n := lenV_owns h

set_option maxRecDepth 100000 in
set_option maxHeartbeats 1000000 in
theorem CRead_any (v : Value) (bs : List UInt8) (w : World) (hrd : Rd w v (bc bs)) :
    Calls Try.prog 38 #[v] w fun e w' => ∃ v', e = .returned (.tuple #[v', fltC (readCR bs).2]) ∧ RdC w' v' (readCR bs).1 ∧ Below w.heap.size w w' ∧ New w.heap.size v' := by
  obtain ⟨ao, cap, hv, hc1, hc2⟩ := hrd.shape
  rw [bc_length] at hc1 hv
  subst hv
  unfold maxLen at hc2
  by_cases hbig : 60000 < bs.length
  · have HE := hide (readCR_big hbig)
    go_enter Try.func38, Try.ntmps38
    go_wp2_with fail
    exact bodyPost_ret (v := .tuple #[.slice none 0 0, fltC (8, 0)]) (by simp [results, Try.results38, go_sem, fltC]) rfl ⟨.slice none 0 0, by rw [HE.out], by rw [HE.out]; exact RdC.nil _, by go_grown, New.nil _⟩
  · have HE := hide (readCR_go hbig)
    go_enter Try.func38, Try.ntmps38
    go_wp2_with fail
    refine (ReaderOf_any ao bs.length cap _).mono ?_
    rintro e w1 ⟨rfl, hb1, hz1⟩
    have hF1 : Below (w.heap.size + 1) (w.alloc (.cells #[.int .i64 0, .int .i64 0] 29)) w1 := hb1.mono (by simp)
    have hz2 : w.heap.size + 1 < w1.heap.size := by rw [hz1]; simp
    have hblk : ∀ a l c, Value.slice ao bs.length cap = .slice (some a) l c → 0 < (bc bs).length → a.block < w.heap.size := by
      intro a l c e hp
      simp only [Value.slice.injEq] at e
      obtain ⟨rfl, _, _⟩ := e
      obtain ⟨b, off, cap', hv, _, _, hb, _⟩ := hrd.pos hp
      simp only [Value.slice.injEq, Option.some.injEq] at hv
      rw [hv.1]
      exact hb
    have HB := hide hblk
    clear hblk hb1 hz1
    go_wp2_with fail
    have hR0 : RdrT (w1.alloc (.cells #[.slice ao bs.length cap, .int .i64 0] 94)) 94 w1.heap.size (.slice ao bs.length cap) (0 : Nat) := heap_alloc_new _ _
    have hF2 : Below (w.heap.size + 1) (w.alloc (.cells #[.int .i64 0, .int .i64 0] 29)) (w1.alloc (.cells #[.slice ao bs.length cap, .int .i64 0] 94)) := hF1.alloc (by omega) _
    have hz3 : w1.heap.size < (w1.alloc (.cells #[.slice ao bs.length cap, .int .i64 0] 94)).heap.size := by simp
    generalize w1.alloc (.cells #[.slice ao bs.length cap, .int .i64 0] 94) = wA at *
    generalize w1.heap.size = R at *
    clear hF1
    go_loopw [5] (fun o wr => ∃ (k f : Nat) (acc : List Cl), k ≤ bs.length ∧ rdCells (f + 1) (bs.drop k) acc = rdCells (bs.length + 1) bs [] ∧ bs.length ≤ k + f ∧ acc.length ≤ k ∧ RdrT wr 94 R (.slice ao bs.length cap) k ∧ wr.ownsRow (R + 1) 52 5 o acc.length (cc acc) ∧ Below (w.heap.size + 1) (w.alloc (.cells #[.int .i64 0, .int .i64 0] 29)) wr)
      (fun o _ => bs.length + 1 - lenV o)
    case atStart => exact ⟨0, bs.length, [], by omega, rfl, by omega, by simp, hR0, World.ownsRow_nil _ _ _ _, hF2⟩
    case round =>
      obtain ⟨k, f, acc, hk, hgo, hf, hacc, hr, hown, hbel⟩ := hrel
      have HG := hide hgo
      clear hgo hR0 hF2 hz3
      have hbf := below_first hbel
      have hrd1 := hrd.below hbf
      have hszr := hr.facts.2.2.2.2
      have hlen := lenV_owns hown
      by_cases hkl : k = bs.length
      · subst hkl
        rw [List.drop_length] at HG
        go_wp2_with fail
        refine (Done_any _ _ _ _ _ _ _ hr).mono ?_
        rintro e w2 ⟨rfl, q, rfl⟩
        obtain ⟨ao2, cap2, hv2⟩ := ownsC_shape hown
        subst hv2
        go_wp2_with fail
        have hrc : RdC (wr.drewN q) (.slice ao2 acc.length cap2) acc := RdC.ofOwns hown
        refine (CCheck_any _ acc _ hrc).mono ?_
        rintro e w3 ⟨rfl, hb3⟩
        have hbel3 : Below (w.heap.size + 1) (w.alloc (.cells #[.int .i64 0, .int .i64 0] 29)) w3 := (below_drewN hbel q).trans (hb3.mono (by show _ ≤ wr.heap.size; omega))
        have hown3 : w3.ownsRow (R + 1) 52 5 (.slice ao2 acc.length cap2) acc.length (cc acc) := owns_below (w := wr.drewN q) hown hb3
        obtain ⟨gf0, gf1, gr0, gr1, gsz⟩ := two_later hbel3
        have hbf3 := below_first hbel3
        clear hown hbel hbf hb3
        by_cases hc : (checkC acc).1 = 0
        · have hcz := checkC_zero hc
          have HM := hide (@rdCells_end f acc hc)
          rw [hcz]
          unfold fltC
          clear hcz hc
          go_wp2_with fail
          exact bodyPost_ret (v := .tuple #[.slice ao2 acc.length cap2, fltC (0, 0)]) (by simp [results, Try.results38, go_sem, fltC, gf0, gf1, gsz]) rfl ⟨_, by rw [HE.out, ← HG.out, HM.out], by rw [HE.out, ← HG.out, HM.out]; exact RdC.ofOwns ((ownsRow_setCell_below (ownsRow_setCell_below hown3 (by simp only; omega) _) (by simp only; omega) _).alloc _), by go_grown, (New.owns hown3).mono (by omega)⟩
        · have HM := hide (@rdCells_fault f acc hc)
          have hcb : ((checkC acc).1 == 0) = false := beq_eq_false_iff_ne.2 hc
          have hcb2 : ((checkC acc).1 != 0) = true := by simp [hc]
          clear hc
          generalize checkC acc = r at *
          obtain ⟨x, y⟩ := r
          simp only at hcb hcb2
          unfold fltC
          go_wp2_with fail
          go_region
          all_goals
            go_wp2_with fail
            exact bodyPost_ret (v := .tuple #[.slice none 0 0, fltC (x, y)]) (by simp [results, Try.results38, go_sem, fltC, gf0, gf1, gsz]) rfl ⟨_, by rw [HE.out, ← HG.out, HM.out], by rw [HE.out, ← HG.out, HM.out]; exact RdC.nil _, by go_grown, New.nil _⟩
      · have hkb : ((k : Int) == bs.length) = false := beq_eq_false_iff_ne.2 (by omega)
        have hne : bs.drop k ≠ [] := by intro h; have := congrArg List.length h; simp at this; omega
        have HN := hide hne
        clear hne
        go_wp2_with fail
        refine (Done_any _ _ _ _ _ _ _ hr).mono ?_
        rintro e w2 ⟨rfl, q, rfl⟩
        go_wp2_with fail
        refine (readCell_any _ R _ bs k (wr.drewN q) (hrd1.drewN q) (fun a l c e hp => by have := HB.out a l c e hp; omega) hr hk).mono ?_
        rintro e w3 hp
        have hwq : ∀ {x : World}, (wr.drewN q).grownBy x (some R) → x.ownsRow (R + 1) 52 5 u5 acc.length (cc acc) ∧ Below (w.heap.size + 1) (w.alloc (.cells #[.int .i64 0, .int .i64 0] 29)) x ∧ R < x.heap.size := fun h => ⟨owns_grown (w := wr.drewN q) hown h (by omega), (below_drewN hbel q).grown h (by show _ ≤ wr.heap.size; omega) (fun j hj => by simp at hj; omega), by have := h.size; have e : (wr.drewN q).heap.size = wr.heap.size := rfl; omega⟩
        cases hn : rawAt (bs.drop k) with
        | none =>
          rw [hn] at hp
          obtain ⟨rfl, k', _, hr3, hg3⟩ := hp
          obtain ⟨hown3, hbel3, hsz3⟩ := hwq hg3
          have HM := hide (@rdCells_bad f (bs.drop k) acc HN.out (cellAt_no hn))
          clear hn hwq hg3 hown hbel hbf
          obtain ⟨ao2, cap2, hv2⟩ := ownsC_shape hown3
          subst hv2
          obtain ⟨gf0, gf1, gr0, gr1, gsz⟩ := two_later hbel3
          have hbf3 := below_first hbel3
          unfold cA
          go_wp2_with fail
          exact bodyPost_ret (v := .tuple #[.slice none 0 0, fltC (5, acc.length)]) (by simp [results, Try.results38, go_sem, fltC, gf0, gf1, gsz]) rfl ⟨_, by rw [HE.out, ← HG.out, HM.out], by rw [HE.out, ← HG.out, HM.out]; exact RdC.nil _, by go_grown, New.nil _⟩
        | some p =>
          obtain ⟨c, m⟩ := p
          rw [hn] at hp
          obtain ⟨rfl, hr3, hg3⟩ := hp
          obtain ⟨hown3, hbel3, hsz3⟩ := hwq hg3
          have hml := rawAt_len hn
          rw [List.length_drop] at hml
          clear hwq hg3 hown hbel hbf
          obtain ⟨ao2, cap2, hv2⟩ := ownsC_shape hown3
          subst hv2
          unfold cA
          have hC4 : Bk (w3.alloc (.cells #[.string c.row, .string c.col, .int .i64 c.time, .bool c.gone, .string c.val] 52)) w3.heap.size 52 (ca c) := Bk.new _ _ _
          have hr4 : RdrT (w3.alloc (.cells #[.string c.row, .string c.col, .int .i64 c.time, .bool c.gone, .string c.val] 52)) 94 R (.slice ao bs.length cap) (k + m : Nat) := by
            unfold RdrT
            rw [Below.heap_alloc _ _ _ hsz3]
            exact hr3
          have hbel4 : Below (w.heap.size + 1) (w.alloc (.cells #[.int .i64 0, .int .i64 0] 29)) (w3.alloc (.cells #[.string c.row, .string c.col, .int .i64 c.time, .bool c.gone, .string c.val] 52)) := hbel3.alloc (by omega) _
          have hown4 := hown3.alloc (.cells #[.string c.row, .string c.col, .int .i64 c.time, .bool c.gone, .string c.val] 52)
          have hz4 : w3.heap.size < (w3.alloc (.cells #[.string c.row, .string c.col, .int .i64 c.time, .bool c.gone, .string c.val] 52)).heap.size := by simp
          go_wp2_with fail
          refine (ownCode_any c _).mono ?_
          rintro e w5 ⟨rfl, hb5⟩
          have hC5 := hC4.below hb5 hz4
          have hr5 : RdrT w5 94 R (.slice ao bs.length cap) (k + m : Nat) := by
            unfold RdrT
            rw [hb5.block _ (by omega)]
            exact hr4
          have hbel5 : Below (w.heap.size + 1) (w.alloc (.cells #[.int .i64 0, .int .i64 0] 29)) w5 := hbel4.trans (hb5.mono (by omega))
          have hown5 := owns_below hown4 hb5
          have hz5 : w3.heap.size < w5.heap.size := hC5.lt
          clear hC4 hr4 hbel4 hown4 hz4 hb5 hown3 hbel3 hr3
          obtain ⟨gf0, gf1, gr0, gr1, gsz⟩ := two_later hbel5
          have hbf5 := below_first hbel5
          obtain ⟨c0, c1, c2, c3, c4⟩ := hC5.facts
          by_cases hc : codeC c = 0
          · have HM := hide (@rdCells_step f (bs.drop k) acc c m HN.out (cellAt_ok hn hc))
            rw [hc]
            clear hn hc
            go_wp2_with (at_builtin; go_must (refine wpList_append_oneC (c := c) hown5 Try.underlying43 Try.info52 rfl rfl rfl rfl rfl (by omega) (by decide) (by omega) ?_); intro v6 w6 ho6 hb6 hg6)
            have hlen6 := lenV_owns ho6
            have hr6 : RdrT w6 94 R (.slice ao bs.length cap) (k + m : Nat) := by
              unfold RdrT
              rw [hb6.block _ (by omega)]
              exact hr5
            go_roundw
            case rel =>
              obtain ⟨f', rfl⟩ : ∃ f', f = f' + 1 := ⟨f - 1, by omega⟩
              refine ⟨k + m, f', acc ++ [c], by omega, ?_, by omega, by simp; omega, hr6, by simpa using ho6, hbel5.trans (hb6.mono (by omega))⟩
              rw [← HG.out, HM.out, List.drop_drop]
            case measure => rw [hlen6, hlen]; omega
          · have HM := hide (@rdCells_bad f (bs.drop k) acc HN.out (cellAt_bad hn hc))
            have hcb : (codeC c != 0) = true := by simp [hc]
            clear hn hc
            go_wp2_with fail
            exact bodyPost_ret (v := .tuple #[.slice none 0 0, fltC (5, acc.length)]) (by simp [results, Try.results38, go_sem, fltC, gf0, gf1]) rfl ⟨_, by rw [HE.out, ← HG.out, HM.out], by rw [HE.out, ← HG.out, HM.out]; exact RdC.nil _, by go_grown, New.nil _⟩

end Go.Proofs.Ytlebbkbbmgmmjab
