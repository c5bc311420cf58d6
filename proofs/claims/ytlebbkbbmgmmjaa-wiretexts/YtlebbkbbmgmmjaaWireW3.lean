/-
  The walks over package wire's readers of lists.
-/
import Derived.Test.YtlebbkbbmgmmjaaWireW2
namespace Go.Proofs.Ytlebbkbbmgmmjaa
open Go.RowKit

set_option maxRecDepth 100000 in
set_option maxHeartbeats 400000 in
theorem ReadNums_any (v : Value) (bs : List UInt8) (w : World) (hrd : Rd w v (bc bs)) :
    Calls Try.prog 12 #[v] w fun e w' => ∃ v', e = .returned (.tuple #[v', flt (readNumsR bs).2.1 (readNumsR bs).2.2]) ∧ Rd w' v' (ic (readNumsR bs).1) ∧ Below w.heap.size w w' ∧ New w.heap.size v' := by
  obtain ⟨ao, cap, hv, hc1, hc2, _⟩ := hrd.open
  rw [bc_length] at hc1 hv
  subst hv
  unfold maxLen at hc2
  by_cases hbig : 60000 < bs.length
  · go_enter Try.func12, Try.ntmps12
    go_wp2_with fail
    exact bodyPost_ret (v := .tuple #[.slice none 0 0, flt 8 0]) (by simp [results, Try.results12, go_sem, flt]) rfl ⟨.slice none 0 0, by simp [readNumsR, hbig], by simp [readNumsR, hbig, ic]; exact Rd.nil _, by go_grown, New.nil _⟩
  · go_enter Try.func12, Try.ntmps12
    go_wp2_with fail
    refine (ReaderOf_any ao bs.length cap _).mono ?_
    rintro e w1 ⟨rfl, hb1, hz1⟩
    have hF1 : Below (w.heap.size + 1) (w.alloc (.cells #[.int .i64 0, .int .i64 0] 26)) w1 := hb1.mono (by simp)
    have hz2 : w.heap.size + 1 < w1.heap.size := by rw [hz1]; simp
    clear hb1 hz1
    go_wp2_with fail
    have hR0 : Rdr (w1.alloc (.cells #[.slice ao bs.length cap, .int .i64 0] 82)) w1.heap.size (.slice ao bs.length cap) (0 : Nat) := heap_alloc_new _ _
    have hF2 : Below (w.heap.size + 1) (w.alloc (.cells #[.int .i64 0, .int .i64 0] 26)) (w1.alloc (.cells #[.slice ao bs.length cap, .int .i64 0] 82)) := hF1.alloc (by omega) _
    generalize w1.alloc (.cells #[.slice ao bs.length cap, .int .i64 0] 82) = wA at *
    generalize w1.heap.size = R at *
    clear hF1
    go_loopw [5] (fun o wr => ∃ (k f : Nat) (acc : List Int), k ≤ bs.length ∧ rdNums (f + 1) (bs.drop k) acc = readNumsR bs ∧ bs.length ≤ k + f ∧ acc.length ≤ k ∧ Rdr wr R (.slice ao bs.length cap) k ∧ wr.ownsRow (R + 1) 3 1 o acc.length (ic acc) ∧ Below (w.heap.size + 1) (w.alloc (.cells #[.int .i64 0, .int .i64 0] 26)) wr)
      (fun o _ => bs.length + 1 - lenV o)
    case atStart =>
      refine ⟨0, bs.length, [], by omega, ?_, by omega, by simp, ?_, World.ownsRow_nil _ _ _ _, ?_⟩
      · rw [readNumsR, if_neg hbig]; rfl
      · exact hR0
      · exact hF2
    case round =>
      obtain ⟨k, f, acc, hk, hgo, hf, hacc, hr, hown, hbel⟩ := hrel
      have HG := hide hgo
      clear hgo hR0 hF2
      have hbf := below_first hbel
      have hrd1 := hrd.below hbf
      have hszr := hr.facts.2.2.2.2
      have hlen := lenV_owns hown
      by_cases hkl : k = bs.length
      · subst hkl
        rw [List.drop_length] at HG
        go_wp2_with fail
        refine (Done_any _ _ _ _ _ _ _ hr).mono ?_
        rintro e w1 ⟨rfl, q, rfl⟩
        have hbfq := below_drewN hbf q
        obtain ⟨ao2, cap2, hv2⟩ := owns_shape hown
        subst hv2
        by_cases hmany : 1000 < acc.length
        · have HE := hide (@rdNums_many f acc hmany)
          obtain ⟨gf0, gf1, gr0, gr1, gsz⟩ := two_later hbel
          go_wp2_with fail
          exact bodyPost_ret (v := .tuple #[.slice none 0 0, flt 2 0]) (by simp [results, Try.results12, go_sem, flt, gf0, gf1]) rfl ⟨.slice none 0 0, by rw [← HG.out, HE.out], by rw [← HG.out, HE.out]; exact Rd.nil _, by go_grown, New.nil _⟩
        · have HE := hide (@rdNums_end f acc (by omega))
          obtain ⟨gf0, gf1, gr0, gr1, gsz⟩ := two_later hbel
          go_wp2_with fail
          exact bodyPost_ret (v := .tuple #[.slice ao2 acc.length cap2, flt 0 0]) (by simp [results, Try.results12, go_sem, flt, gf0, gf1]) rfl ⟨_, by rw [← HG.out, HE.out], by rw [← HG.out, HE.out]; exact Rd.ofOwns (ownsRow_setCell_below (ownsRow_setCell_below (w := wr.drewN _) hown (by show w.heap.size < R + 1; omega) _) (by show w.heap.size < R + 1; omega) _), by go_grown, (New.owns hown).mono (by omega)⟩
      · have hkb : ((k : Int) == bs.length) = false := beq_eq_false_iff_ne.2 (by omega)
        have hne : bs.drop k ≠ [] := by intro h; have := congrArg List.length h; simp at this; omega
        have HN := hide hne
        clear hne
        go_wp2_with fail
        refine (Done_any _ _ _ _ _ _ _ hr).mono ?_
        rintro e w1 ⟨rfl, q, rfl⟩
        go_wp2_with fail
        refine (Num_any _ R _ bs k (wr.drewN q) (hrd1.drewN q) hr hk).mono ?_
        rintro e w2 ⟨rfl, hr2, hg2⟩
        have hown2 : w2.ownsRow (R + 1) 3 1 u5 acc.length (ic acc) := owns_grown (w := wr.drewN q) hown hg2 (by omega)
        have hbel2 : Below (w.heap.size + 1) (w.alloc (.cells #[.int .i64 0, .int .i64 0] 26)) w2 := (below_drewN hbel q).grown hg2 (by show _ ≤ wr.heap.size; omega) (fun j hj => by simp at hj; omega)
        have hsz2 : R + 1 ≤ w2.heap.size := by have := hg2.size; have e : (wr.drewN q).heap.size = wr.heap.size := rfl; omega
        clear hown hbel hg2 hbf
        obtain ⟨gf0, gf1, gr0, gr1, gsz⟩ := two_later hbel2
        have hbf := below_first hbel2
        cases hn : numAt (bs.drop k) with
        | none =>
          have HE := hide (@rdNums_bad f (bs.drop k) acc HN.out hn)
          clear hn
          obtain ⟨ao2, cap2, hv2⟩ := owns_shape hown2
          subst hv2
          simp only [numVC]
          go_wp2_with fail
          exact bodyPost_ret (v := .tuple #[.slice none 0 0, flt 5 acc.length]) (by simp [results, Try.results12, go_sem, flt, gf0, gf1]) rfl ⟨.slice none 0 0, by rw [← HG.out, HE.out], by rw [← HG.out, HE.out]; exact Rd.nil _, by go_grown, New.nil _⟩
        | some p =>
          obtain ⟨n, j⟩ := p
          rw [hn] at hr2
          have HE := hide (@rdNums_step f (bs.drop k) acc n j HN.out hn)
          have hj := numAt_len hn
          rw [List.length_drop] at hj
          clear hn
          simp only [numVC]
          simp only [numKC] at hr2
          go_wp2_with (at_builtin; go_must (refine wpList_append_one hown2 Try.underlying22 Try.info3 rfl rfl rfl rfl rfl rfl (by omega) (by decide) hsz2 ?_); intro v1 w3 ho3 hb3 hg3; clear hg3)
          rw [ic_snoc] at ho3
          have hlen3 := lenV_owns ho3
          have hr3 : Rdr w3 R (.slice ao bs.length cap) ((k + j : Nat) : Int) := by unfold Rdr RdrT; rw [hb3.block _ (by omega)]; exact hr2
          go_roundw
          case rel =>
            obtain ⟨f', rfl⟩ : ∃ f', f = f' + 1 := ⟨f - 1, by omega⟩
            refine ⟨k + j, f', acc ++ [(n : Int)], by omega, ?_, by omega, by simp; omega, hr3, by simpa using ho3, hbel2.trans (hb3.mono (by omega))⟩
            rw [← HG.out, HE.out, List.drop_drop]
          case measure => rw [hlen3, hlen]; omega

end Go.Proofs.Ytlebbkbbmgmmjaa
