/-
  The walks over package wire's texts.
-/
import Derived.Test.YtlebbkbbmgmmjaaWireW3
namespace Go.Proofs.Ytlebbkbbmgmmjaa
open Go.RowKit

/-- What ReadTexts comes to, from what is left on. -/
def rdTexts : Nat → List UInt8 → List (List UInt8) → List (List UInt8) × Int × Int
  | 0, _, _ => ([], 0, 0)
  | f + 1, bs, acc =>
    if bs = [] then (if 1000 < acc.length then ([], 2, 0) else (acc, 0, 0))
    else match textAt bs with
      | none => ([], 5, (acc.length : Int))
      | some (t, k) => rdTexts f (bs.drop k) (acc ++ [t])

def readTextsR (bs : List UInt8) : List (List UInt8) × Int × Int := if 60000 < bs.length then ([], 8, 0) else rdTexts (bs.length + 1) bs []
theorem rdTexts_end {f : Nat} {acc : List (List UInt8)} (h : acc.length ≤ 1000) : rdTexts (f + 1) [] acc = (acc, 0, 0) := by
  rw [rdTexts, if_pos rfl, if_neg (by omega)]

theorem rdTexts_many {f : Nat} {acc : List (List UInt8)} (h : 1000 < acc.length) : rdTexts (f + 1) [] acc = ([], 2, 0) := by
  rw [rdTexts, if_pos rfl, if_pos h]

theorem rdTexts_bad {f : Nat} {bs : List UInt8} {acc : List (List UInt8)} (h : bs ≠ []) (hn : textAt bs = none) : rdTexts (f + 1) bs acc = ([], 5, (acc.length : Int)) := by
  rw [rdTexts, if_neg h, hn]

theorem rdTexts_step {f : Nat} {bs t : List UInt8} {acc : List (List UInt8)} {k : Nat} (h : bs ≠ []) (hn : textAt bs = some (t, k)) : rdTexts (f + 1) bs acc = rdTexts f (bs.drop k) (acc ++ [t]) := by
  rw [rdTexts, if_neg h, hn]

theorem sc_snoc (l : List (List UInt8)) (x : List UInt8) : sc l ++ [.string ⟨x.toArray⟩] = sc (l ++ [x]) := by rw [sc_append]; rfl
theorem Try.info9 : (Try.prog.info? 9).map (fun i => (i.zero, i.size, i.bytes)) = some (some (.string ⟨#[]⟩), 1, 16) := by kernel_rfl

set_option maxRecDepth 100000 in
set_option maxHeartbeats 400000 in
theorem ReadTexts_any (v : Value) (bs : List UInt8) (w : World) (hrd : Rd w v (bc bs)) :
    Calls Try.prog 21 #[v] w fun e w' => ∃ v', e = .returned (.tuple #[v', flt (readTextsR bs).2.1 (readTextsR bs).2.2]) ∧ Rd w' v' (sc (readTextsR bs).1) ∧ Below w.heap.size w w' ∧ New w.heap.size v' := by
  obtain ⟨ao, cap, hv, hc1, hc2, _⟩ := hrd.open
  rw [bc_length] at hc1 hv
  subst hv
  unfold maxLen at hc2
  by_cases hbig : 60000 < bs.length
  · go_enter Try.func21, Try.ntmps21
    go_wp2_with fail
    exact bodyPost_ret (v := .tuple #[.slice none 0 0, flt 8 0]) (by simp [results, Try.results21, go_sem, flt]) rfl ⟨.slice none 0 0, by simp [readTextsR, hbig], by simp [readTextsR, hbig, sc]; exact Rd.nil _, by go_grown, New.nil _⟩
  · go_enter Try.func21, Try.ntmps21
    go_wp2_with fail
    refine (ReaderOf_any ao bs.length cap _).mono ?_
    rintro e w1 ⟨rfl, hb1, hz1⟩
    have hF1 : Below (w.heap.size + 1) (w.alloc (.cells #[.int .i64 0, .int .i64 0] 26)) w1 := hb1.mono (by simp)
    have hz2 : w.heap.size + 1 < w1.heap.size := by rw [hz1]; simp
    clear hb1 hz1
    go_wp2_with fail
    have hR0 : Rdr (w1.alloc (.cells #[.slice ao bs.length cap, .int .i64 0] 82)) w1.heap.size (.slice ao bs.length cap) (0 : Nat) := heap_alloc_new _ _
    have hF2 : Below (w.heap.size + 1) (w.alloc (.cells #[.int .i64 0, .int .i64 0] 26)) (w1.alloc (.cells #[.slice ao bs.length cap, .int .i64 0] 82)) := hF1.alloc (by omega) _
    generalize w1.alloc (.cells #[.slice ao bs.length cap, .int .i64 0] 82) = wA at *
    generalize w1.heap.size = R at *
    clear hF1
    go_loopw [5] (fun o wr => ∃ (k f : Nat) (acc : List (List UInt8)), k ≤ bs.length ∧ rdTexts (f + 1) (bs.drop k) acc = readTextsR bs ∧ bs.length ≤ k + f ∧ acc.length ≤ k ∧ Rdr wr R (.slice ao bs.length cap) k ∧ wr.ownsRow (R + 1) 9 1 o acc.length (sc acc) ∧ Below (w.heap.size + 1) (w.alloc (.cells #[.int .i64 0, .int .i64 0] 26)) wr)
      (fun o _ => bs.length + 1 - lenV o)
    case atStart =>
      refine ⟨0, bs.length, [], by omega, ?_, by omega, by simp, ?_, World.ownsRow_nil _ _ _ _, ?_⟩
      · rw [readTextsR, if_neg hbig]; rfl
      · exact hR0
      · exact hF2
    case round =>
      obtain ⟨k, f, acc, hk, hgo, hf, hacc, hr, hown, hbel⟩ := hrel
      have HG := hide hgo
      clear hgo hR0 hF2
      have hbf := below_first hbel
      have hrd1 := hrd.below hbf
      have hszr := hr.facts.2.2.2.2
      have hlen := lenV_owns hown
      by_cases hkl : k = bs.length
      · subst hkl
        rw [List.drop_length] at HG
        go_wp2_with fail
        refine (Done_any _ _ _ _ _ _ _ hr).mono ?_
        rintro e w1 ⟨rfl, q, rfl⟩
        have hbfq := below_drewN hbf q
        obtain ⟨ao2, cap2, hv2⟩ := owns_shape hown
        subst hv2
        by_cases hmany : 1000 < acc.length
        · have HE := hide (@rdTexts_many f acc hmany)
          obtain ⟨gf0, gf1, gr0, gr1, gsz⟩ := two_later hbel
          go_wp2_with fail
          exact bodyPost_ret (v := .tuple #[.slice none 0 0, flt 2 0]) (by simp [results, Try.results21, go_sem, flt, gf0, gf1]) rfl ⟨.slice none 0 0, by rw [← HG.out, HE.out], by rw [← HG.out, HE.out]; exact Rd.nil _, by go_grown, New.nil _⟩
        · have HE := hide (@rdTexts_end f acc (by omega))
          obtain ⟨gf0, gf1, gr0, gr1, gsz⟩ := two_later hbel
          go_wp2_with fail
          exact bodyPost_ret (v := .tuple #[.slice ao2 acc.length cap2, flt 0 0]) (by simp [results, Try.results21, go_sem, flt, gf0, gf1]) rfl ⟨_, by rw [← HG.out, HE.out], by rw [← HG.out, HE.out]; exact Rd.ofOwns (ownsRow_setCell_below (ownsRow_setCell_below (w := wr.drewN _) hown (by show w.heap.size < R + 1; omega) _) (by show w.heap.size < R + 1; omega) _), by go_grown, (New.owns hown).mono (by omega)⟩
      · have hkb : ((k : Int) == bs.length) = false := beq_eq_false_iff_ne.2 (by omega)
        have hne : bs.drop k ≠ [] := by intro h; have := congrArg List.length h; simp at this; omega
        have HN := hide hne
        clear hne
        have hblk : ∀ a l c, Value.slice ao bs.length cap = .slice (some a) l c → 0 < (bc bs).length → a.block ≠ R := by
          intro a l c e hp
          simp only [Value.slice.injEq] at e
          obtain ⟨rfl, _, _⟩ := e
          have := hrd.block_lt hp
          omega
        have HB := hide hblk
        clear hblk
        go_wp2_with fail
        refine (Done_any _ _ _ _ _ _ _ hr).mono ?_
        rintro e w1 ⟨rfl, q, rfl⟩
        go_wp2_with fail
        cases hn : textAt (bs.drop k) with
        | none =>
          have HE := hide (@rdTexts_bad f (bs.drop k) acc HN.out hn)
          refine (Text_none _ R _ bs k (wr.drewN q) (hrd1.drewN q) HB.out hr hk hn).mono ?_
          rintro e w2 ⟨rfl, hr2, hg2⟩
          clear hn
          have hown2 : w2.ownsRow (R + 1) 9 1 u5 acc.length (sc acc) := owns_grown (w := wr.drewN q) hown hg2 (by omega)
          have hbel2 : Below (w.heap.size + 1) (w.alloc (.cells #[.int .i64 0, .int .i64 0] 26)) w2 := (below_drewN hbel q).grown hg2 (by show _ ≤ wr.heap.size; omega) (fun j hj => by simp at hj; omega)
          clear hown hbel hg2 hbf
          obtain ⟨gf0, gf1, gr0, gr1, gsz⟩ := two_later hbel2
          have hbf := below_first hbel2
          obtain ⟨ao2, cap2, hv2⟩ := owns_shape hown2
          subst hv2
          go_wp2_with fail
          exact bodyPost_ret (v := .tuple #[.slice none 0 0, flt 5 acc.length]) (by simp [results, Try.results21, go_sem, flt, gf0, gf1]) rfl ⟨.slice none 0 0, by rw [← HG.out, HE.out], by rw [← HG.out, HE.out]; exact Rd.nil _, by go_grown, New.nil _⟩
        | some p =>
          obtain ⟨t, j⟩ := p
          have HE := hide (@rdTexts_step f (bs.drop k) t acc j HN.out hn)
          obtain ⟨n1, k1, hk1, hk2, hnm1, hj, ht1⟩ := textAt_some hn
          rw [List.length_drop] at hk2
          have hj1 : 0 < j := by omega
          have hj2 : k + j ≤ bs.length := by omega
          clear hk1 hk2 hj hnm1 ht1
          refine (Text_some _ R _ bs t k j (wr.drewN q) (hrd1.drewN q) HB.out hr hk hn).mono ?_
          rintro e w2 ⟨rfl, hr2, hg2⟩
          clear hn
          have hown2 : w2.ownsRow (R + 1) 9 1 u5 acc.length (sc acc) := owns_grown (w := wr.drewN q) hown hg2 (by omega)
          have hbel2 : Below (w.heap.size + 1) (w.alloc (.cells #[.int .i64 0, .int .i64 0] 26)) w2 := (below_drewN hbel q).grown hg2 (by show _ ≤ wr.heap.size; omega) (fun j hj => by simp at hj; omega)
          have hsz2 : R + 1 ≤ w2.heap.size := by have := hg2.size; have e : (wr.drewN q).heap.size = wr.heap.size := rfl; omega
          clear hown hbel hg2 hbf
          go_wp2_with (at_builtin; go_must (refine wpList_append_one hown2 Try.underlying41 Try.info9 rfl rfl rfl rfl rfl rfl (by omega) (by decide) hsz2 ?_); intro v1 w3 ho3 hb3 hg3; clear hg3)
          rw [sc_snoc] at ho3
          have hlen3 := lenV_owns ho3
          have hr3 : Rdr w3 R (.slice ao bs.length cap) ((k + j : Nat) : Int) := by unfold Rdr RdrT; rw [hb3.block _ (by omega)]; exact hr2
          go_roundw
          case rel =>
            obtain ⟨f', rfl⟩ : ∃ f', f = f' + 1 := ⟨f - 1, by omega⟩
            refine ⟨k + j, f', acc ++ [t], by omega, ?_, by omega, by simp; omega, hr3, by simpa using ho3, hbel2.trans (hb3.mono (by omega))⟩
            rw [← HG.out, HE.out, List.drop_drop]
          case measure => rw [hlen3, hlen]; omega

end Go.Proofs.Ytlebbkbbmgmmjaa
