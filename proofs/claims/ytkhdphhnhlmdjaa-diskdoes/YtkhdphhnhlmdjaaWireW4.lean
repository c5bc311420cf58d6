/-
  The walks over package wire's texts.
-/
import Derived.Test.YtkhdphhnhlmdjaaWireW3
namespace Go.Proofs.Ytkhdphhnhlmdjaa
open Go.RowKit

set_option maxRecDepth 100000 in
set_option maxHeartbeats 400000 in
theorem text_none (R : Nat) (v : Value) (bs : List UInt8) (k : Nat) (w : World) (hrd : Rd w v (bc bs)) (hr : Rdr w R v k) (hk : k ≤ bs.length) (hn : textAt (bs.drop k) = none) :
    Calls Try.prog 56 #[.pointer (some ⟨R, 0, none⟩)] w fun e w' => e = .returned (.tuple #[.string ⟨#[]⟩, .bool false]) ∧ Rdr w' R v k ∧ w.grownBy w' (some R) := by
  obtain ⟨c0, c1, f0, f1, hsz⟩ := hr.facts
  obtain ⟨ao, cap, hv, hc1, hc2, _⟩ := hrd.open
  rw [bc_length] at hc1 hv
  subst hv
  unfold maxLen at hc2
  have HT := hide hn
  clear hn
  go_enter Try.func56, Try.ntmps56
  go_wp2_with fail
  refine (num_any R _ bs k w hrd hr hk).mono ?_
  rintro e w2 ⟨rfl, hr2, hg2⟩
  cases hn : numAt (bs.drop k) with
  | none =>
    rw [hn] at hr2
    clear hn
    simp only [numV]
    simp only [numK, Nat.add_zero] at hr2
    obtain ⟨d0, d1, g0, g1, hsz2⟩ := hr2.facts
    go_wp2_with fail
    go_ret2
    exact ⟨rfl, hr2.set _, hg2.trans (grown_set _ _ _ _)⟩
  | some p =>
    obtain ⟨n, j⟩ := p
    rw [hn] at hr2
    have hj := numAt_len hn
    have hlong : (bs.length : Int) - (k + j : Nat) < n := by
      have := HT.out
      rw [textAt, hn] at this
      simp only [List.length_drop] at this
      split at this
      · omega
      · cases this
    clear hn
    rw [List.length_drop] at hj
    simp only [numV]
    simp only [numK] at hr2
    obtain ⟨d0, d1, g0, g1, hsz2⟩ := hr2.facts
    go_wp2_with fail
    refine (left_any R ao bs.length cap (k + j) w2 hr2 (by omega) (by omega)).mono ?_
    rintro e w3 ⟨rfl, q, rfl⟩
    go_wp2_with fail
    go_ret2
    exact ⟨rfl, Rdr.set (w := w2.drewN q) hr2 _, (hg2.trans (grown_drewN _ q _)).trans (grown_set _ _ _ _)⟩

set_option maxRecDepth 100000 in
set_option maxHeartbeats 400000 in
theorem text_some (R : Nat) (v : Value) (bs t : List UInt8) (k m : Nat) (w : World) (hrd : Rd w v (bc bs)) (hb : ∀ a l c, v = .slice (some a) l c → 0 < (bc bs).length → a.block ≠ R) (hr : Rdr w R v k) (hk : k ≤ bs.length) (hn : textAt (bs.drop k) = some (t, m)) :
    Calls Try.prog 56 #[.pointer (some ⟨R, 0, none⟩)] w fun e w' => e = .returned (.tuple #[.string ⟨t.toArray⟩, .bool true]) ∧ Rdr w' R v (k + m : Nat) ∧ w.grownBy w' (some R) := by
  obtain ⟨c0, c1, f0, f1, hsz⟩ := hr.facts
  obtain ⟨ao, cap, hv, hc1, hc2, _⟩ := hrd.open
  rw [bc_length] at hc1 hv
  subst hv
  unfold maxLen at hc2
  obtain ⟨n, j, hj1, hj2, hnm, hm, ht⟩ := textAt_some hn
  rw [List.length_drop] at hj2
  go_enter Try.func56, Try.ntmps56
  go_wp2_with fail
  refine (num_any R _ bs k w hrd hr hk).mono ?_
  rintro e w2 ⟨rfl, hr2, hg2⟩
  rw [hnm] at hr2 ⊢
  simp only [numV]
  simp only [numK] at hr2
  have hrd2 := hrd.grown hg2 hb
  have HM := hide hm
  have HT := hide ht
  clear hn hnm hm ht
  obtain ⟨d0, d1, g0, g1, hsz2⟩ := hr2.facts
  have hs := (hrd2.sliced (lo := k + j) (hi := k + j + n) (by omega) (by omega))
  have hs2 : Rd w2 (sliced ao (k + j) (k + j + n) cap 1) (bc ((bs.drop (k + j)).take n)) := by
    rw [show k + j + n - (k + j) = n by omega] at hs
    simpa [bc, List.map_drop, List.map_take] using hs
  have hsl := run_slice_rd (P := Try.prog) Try.underlying23 (by kernel_rfl) Try.info5 ao bs.length cap (k + j) (k + j + n) (k + j) (k + j + n) (by omega) (by omega) (by omega) (by omega)
  generalize sliced ao (k + j) (k + j + n) cap 1 = V at hs2 hsl
  have hcv : ∀ q, (convert 23 9 V).run Try.prog (w2.drewN q) = .ok (.string ⟨((bs.drop (k + j)).take n).toArray⟩) (w2.drewN q) := fun q => run_string_of_rd (P := Try.prog) Try.underlying23 Try.underlying5 Try.underlying9 (hs2.drewN q)
  have et : (bs.drop (k + j)).take n = t := by rw [HT.out, List.drop_drop]
  rw [et] at hcv
  clear hs hs2 et
  go_wp2_with fail
  refine (left_any R ao bs.length cap (k + j) w2 hr2 (by omega) (by omega)).mono ?_
  rintro e w3 ⟨rfl, q, rfl⟩
  go_wp2_with fail
  go_quiet (fail)
  go_wp2_with fail
  go_ret2
  refine ⟨rfl, ?_, (hg2.trans (grown_drewN _ _ _)).trans (grown_set _ _ _ _)⟩
  rw [HM.out, ← Nat.add_assoc]
  exact Rdr.set (w := w2.drewN _) hr2 _

/-- What ReadTexts comes to, from what is left on. -/
def rdTexts : Nat → List UInt8 → List (List UInt8) → List (List UInt8) × Int × Int
  | 0, _, _ => ([], 0, 0)
  | f + 1, bs, acc =>
    if bs = [] then (if 1000 < acc.length then ([], 2, 0) else (acc, 0, 0))
    else match textAt bs with
      | none => ([], 5, (acc.length : Int))
      | some (t, k) => rdTexts f (bs.drop k) (acc ++ [t])

def readTextsR (bs : List UInt8) : List (List UInt8) × Int × Int := if 60000 < bs.length then ([], 8, 0) else rdTexts (bs.length + 1) bs []
theorem rdTexts_end {f : Nat} {acc : List (List UInt8)} (h : acc.length ≤ 1000) : rdTexts (f + 1) [] acc = (acc, 0, 0) := by
  rw [rdTexts, if_pos rfl, if_neg (by omega)]

theorem rdTexts_many {f : Nat} {acc : List (List UInt8)} (h : 1000 < acc.length) : rdTexts (f + 1) [] acc = ([], 2, 0) := by
  rw [rdTexts, if_pos rfl, if_pos h]

theorem rdTexts_bad {f : Nat} {bs : List UInt8} {acc : List (List UInt8)} (h : bs ≠ []) (hn : textAt bs = none) : rdTexts (f + 1) bs acc = ([], 5, (acc.length : Int)) := by
  rw [rdTexts, if_neg h, hn]

theorem rdTexts_step {f : Nat} {bs t : List UInt8} {acc : List (List UInt8)} {k : Nat} (h : bs ≠ []) (hn : textAt bs = some (t, k)) : rdTexts (f + 1) bs acc = rdTexts f (bs.drop k) (acc ++ [t]) := by
  rw [rdTexts, if_neg h, hn]

theorem sc_snoc (l : List (List UInt8)) (x : List UInt8) : sc l ++ [.string ⟨x.toArray⟩] = sc (l ++ [x]) := by rw [sc_append]; rfl
theorem Try.info9 : (Try.prog.info? 9).map (fun i => (i.zero, i.size, i.bytes)) = some (some (.string ⟨#[]⟩), 1, 16) := by kernel_rfl

set_option maxRecDepth 100000 in
set_option maxHeartbeats 400000 in
theorem ReadTexts_any (v : Value) (bs : List UInt8) (w : World) (hrd : Rd w v (bc bs)) :
    Calls Try.prog 21 #[v] w fun e w' => ∃ v', e = .returned (.tuple #[v', flt (readTextsR bs).2.1 (readTextsR bs).2.2]) ∧ Rd w' v' (sc (readTextsR bs).1) ∧ Below w.heap.size w w' ∧ New w.heap.size v' := by
  obtain ⟨ao, cap, hv, hc1, hc2, _⟩ := hrd.open
  rw [bc_length] at hc1 hv
  subst hv
  unfold maxLen at hc2
  by_cases hbig : 60000 < bs.length
  · go_enter Try.func21, Try.ntmps21
    go_wp2_with fail
    exact bodyPost_ret (v := .tuple #[.slice none 0 0, flt 8 0]) (by simp [results, Try.results21, go_sem, flt]) rfl ⟨.slice none 0 0, by simp [readTextsR, hbig], by simp [readTextsR, hbig, sc]; exact Rd.nil _, by go_grown, New.nil _⟩
  · go_enter Try.func21, Try.ntmps21
    go_wp2_with fail
    go_loopw [5] (fun o wr => ∃ (k f : Nat) (acc : List (List UInt8)), k ≤ bs.length ∧ rdTexts (f + 1) (bs.drop k) acc = readTextsR bs ∧ bs.length ≤ k + f ∧ acc.length ≤ k ∧ Rdr wr (w.heap.size + 1) (.slice ao bs.length cap) k ∧ wr.ownsRow (w.heap.size + 2) 9 1 o acc.length (sc acc) ∧ Below (w.heap.size + 1) (w.alloc (.cells #[.int .i64 0, .int .i64 0] 26)) wr)
      (fun o _ => bs.length + 1 - lenV o)
    case atStart =>
      refine ⟨0, bs.length, [], by omega, ?_, by omega, by simp, ?_, World.ownsRow_nil _ _ _ _, ?_⟩
      · rw [readTextsR, if_neg hbig]; rfl
      · exact Rdr.new _ _ _ _
      · exact (Below.refl _ _).alloc (by simp) _
    case round =>
      obtain ⟨k, f, acc, hk, hgo, hf, hacc, hr, hown, hbel⟩ := hrel
      have HG := hide hgo
      clear hgo
      have hbf := below_first hbel
      have hrd1 := hrd.below hbf
      have hszr := hr.facts.2.2.2.2
      have hlen := lenV_owns hown
      by_cases hkl : k = bs.length
      · subst hkl
        rw [List.drop_length] at HG
        go_wp2_with fail
        refine (done_any _ _ _ _ _ _ hr).mono ?_
        rintro e w1 ⟨rfl, q, rfl⟩
        have hbfq := below_drewN hbf q
        obtain ⟨ao2, cap2, hv2⟩ := owns_shape hown
        subst hv2
        by_cases hmany : 1000 < acc.length
        · have HE := hide (@rdTexts_many f acc hmany)
          obtain ⟨gf0, gf1, gr0, gr1, gsz⟩ := two_later hbel
          go_wp2_with fail
          exact bodyPost_ret (v := .tuple #[.slice none 0 0, flt 2 0]) (by simp [results, Try.results21, go_sem, flt, gf0, gf1]) rfl ⟨.slice none 0 0, by rw [← HG.out, HE.out], by rw [← HG.out, HE.out]; exact Rd.nil _, by go_grown, New.nil _⟩
        · have HE := hide (@rdTexts_end f acc (by omega))
          obtain ⟨gf0, gf1, gr0, gr1, gsz⟩ := two_later hbel
          go_wp2_with fail
          exact bodyPost_ret (v := .tuple #[.slice ao2 acc.length cap2, flt 0 0]) (by simp [results, Try.results21, go_sem, flt, gf0, gf1]) rfl ⟨_, by rw [← HG.out, HE.out], by rw [← HG.out, HE.out]; exact Rd.ofOwns (ownsRow_setCell_below (ownsRow_setCell_below (w := wr.drewN _) hown (by simp) _) (by simp) _), by go_grown, (New.owns hown).mono (by omega)⟩
      · have hkb : ((k : Int) == bs.length) = false := beq_eq_false_iff_ne.2 (by omega)
        have hne : bs.drop k ≠ [] := by intro h; have := congrArg List.length h; simp at this; omega
        have HN := hide hne
        clear hne
        have hblk : ∀ a l c, Value.slice ao bs.length cap = .slice (some a) l c → 0 < (bc bs).length → a.block ≠ w.heap.size + 1 := by
          intro a l c e hp
          simp only [Value.slice.injEq] at e
          obtain ⟨rfl, _, _⟩ := e
          have := hrd.block_lt hp
          omega
        have HB := hide hblk
        clear hblk
        go_wp2_with fail
        refine (done_any _ _ _ _ _ _ hr).mono ?_
        rintro e w1 ⟨rfl, q, rfl⟩
        go_wp2_with fail
        cases hn : textAt (bs.drop k) with
        | none =>
          have HE := hide (@rdTexts_bad f (bs.drop k) acc HN.out hn)
          refine (text_none (w.heap.size + 1) _ bs k (wr.drewN q) (hrd1.drewN q) hr hk hn).mono ?_
          rintro e w2 ⟨rfl, hr2, hg2⟩
          clear hn
          have hown2 : w2.ownsRow (w.heap.size + 2) 9 1 u5 acc.length (sc acc) := owns_grown (w := wr.drewN q) hown hg2 (by omega)
          have hbel2 : Below (w.heap.size + 1) (w.alloc (.cells #[.int .i64 0, .int .i64 0] 26)) w2 := (below_drewN hbel q).grown hg2 (by show _ ≤ wr.heap.size; omega) (fun j hj => by simp at hj; omega)
          clear hown hbel hg2 hbf
          obtain ⟨gf0, gf1, gr0, gr1, gsz⟩ := two_later hbel2
          have hbf := below_first hbel2
          obtain ⟨ao2, cap2, hv2⟩ := owns_shape hown2
          subst hv2
          go_wp2_with fail
          exact bodyPost_ret (v := .tuple #[.slice none 0 0, flt 5 acc.length]) (by simp [results, Try.results21, go_sem, flt, gf0, gf1]) rfl ⟨.slice none 0 0, by rw [← HG.out, HE.out], by rw [← HG.out, HE.out]; exact Rd.nil _, by go_grown, New.nil _⟩
        | some p =>
          obtain ⟨t, j⟩ := p
          have HE := hide (@rdTexts_step f (bs.drop k) t acc j HN.out hn)
          obtain ⟨n1, k1, hk1, hk2, hnm1, hj, ht1⟩ := textAt_some hn
          rw [List.length_drop] at hk2
          have hj1 : 0 < j := by omega
          have hj2 : k + j ≤ bs.length := by omega
          clear hk1 hk2 hj hnm1 ht1
          refine (text_some (w.heap.size + 1) _ bs t k j (wr.drewN q) (hrd1.drewN q) HB.out hr hk hn).mono ?_
          rintro e w2 ⟨rfl, hr2, hg2⟩
          clear hn
          have hown2 : w2.ownsRow (w.heap.size + 2) 9 1 u5 acc.length (sc acc) := owns_grown (w := wr.drewN q) hown hg2 (by omega)
          have hbel2 : Below (w.heap.size + 1) (w.alloc (.cells #[.int .i64 0, .int .i64 0] 26)) w2 := (below_drewN hbel q).grown hg2 (by show _ ≤ wr.heap.size; omega) (fun j hj => by simp at hj; omega)
          have hsz2 : w.heap.size + 2 ≤ w2.heap.size := by have := hg2.size; have e : (wr.drewN q).heap.size = wr.heap.size := rfl; omega
          clear hown hbel hg2 hbf
          go_wp2_with (at_builtin; go_must (refine wpList_append_one hown2 Try.underlying41 Try.info9 rfl rfl rfl rfl rfl rfl (by omega) (by decide) hsz2 ?_); intro v1 w3 ho3 hb3 hg3; clear hg3)
          rw [sc_snoc] at ho3
          have hlen3 := lenV_owns ho3
          have hr3 : Rdr w3 (w.heap.size + 1) (.slice ao bs.length cap) ((k + j : Nat) : Int) := by unfold Rdr; rw [hb3.block _ (by omega)]; exact hr2
          go_roundw
          case rel =>
            obtain ⟨f', rfl⟩ : ∃ f', f = f' + 1 := ⟨f - 1, by omega⟩
            refine ⟨k + j, f', acc ++ [t], by omega, ?_, by omega, by simp; omega, hr3, by simpa using ho3, hbel2.trans (hb3.mono (by omega))⟩
            rw [← HG.out, HE.out, List.drop_drop]
          case measure => rw [hlen3, hlen]; omega

end Go.Proofs.Ytkhdphhnhlmdjaa
