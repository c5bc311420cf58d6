/-
  The walks over package coding: texts.
-/
import Derived.Test.YtlebbkbbmgmmjabCodeW2
namespace Go.Proofs.Ytlebbkbbmgmmjab
open Go.RowKit

set_option maxRecDepth 100000 in
set_option maxHeartbeats 400000 in
theorem AppendText_any (v : Value) (xs t : List UInt8) (base : Nat) (w : World) (hown : w.ownsRow base 5 1 v xs.length (bc xs)) (hb : base ≤ w.heap.size)
    (ht : t.length ≤ 1000000000) (hx : xs.length ≤ 1000000000) :
    Calls Try.prog 80 #[v, .string ⟨t.toArray⟩] w fun e w' => ∃ v', e = .returned v' ∧ w'.ownsRow base 5 1 v' (xs ++ (encN t.length ++ t)).length (bc (xs ++ (encN t.length ++ t))) ∧ Below base w w' ∧ Ext w w' v v' := by
  have hsz : (⟨t.toArray⟩ : ByteArray).size = t.length := by simp [ByteArray.size]
  have hel := encN_length t.length
  obtain ⟨ao, cap, hvv⟩ := owns_shape hown
  subst hvv
  go_enter Try.func80, Try.ntmps80
  go_wp2_with fail
  refine (AppendNum_any _ xs t.length base w hown hb (by omega) (by omega)).mono ?_
  rintro e w1 ⟨v1, rfl, ho1, hb1, he1⟩
  have hb2 : base ≤ w1.heap.size := Nat.le_trans hb hb1.size
  have hl : (xs ++ encN t.length).length + t.length ≤ 1000000000000 := by rw [List.length_append]; omega
  go_wp2_with (at_builtin; go_must (refine wpList_append_strE ho1 Try.underlying25 Try.underlying9 Try.info85 rfl rfl rfl rfl hl hb2 ?_); intro v2 w2 ho2 hb2' hg2)
  go_ret
  exact ⟨_, rfl, by rw [List.append_assoc] at ho2; exact ho2, hb1.trans hb2', he1.trans hg2⟩

theorem Rd.grownT {w w' : World} {v : Value} {xs : List Value} {R : Nat} (h : Rd w v xs) (hg : w.grownBy w' (some R)) (hR : ∀ a l c, v = .slice (some a) l c → 0 < xs.length → a.block ≠ R) : Rd w' v xs := by
  obtain ⟨ao, cap, hv, h1, h2, h3, h4⟩ := h
  refine ⟨ao, cap, hv, h1, h2, h3, fun a ha j u hu => ?_⟩
  have hc := h4 a ha j u hu
  refine hg.cell hc ?_
  subst ha
  have e : (a.add j).block = a.block := by unfold Addr.add; split <;> rfl
  rw [e]
  intro e
  exact hR a _ _ hv (by have := (List.getElem?_eq_some_iff.1 hu).1; omega) (by simpa using e)

set_option maxRecDepth 100000 in
set_option maxHeartbeats 1000000 in
theorem Text_none (t : TypeId) (R : Nat) (v : Value) (bs : List UInt8) (k : Nat) (w : World) (hrd : Rd w v (bc bs)) (hblk : ∀ a l c, v = .slice (some a) l c → 0 < (bc bs).length → a.block ≠ R) (hr : RdrT w t R v k) (hk : k ≤ bs.length) (hn : textAt (bs.drop k) = none) :
    Calls Try.prog 82 #[.pointer (some ⟨R, 0, none⟩)] w fun e w' => e = .returned (.tuple #[.string ⟨#[]⟩, .bool false]) ∧ RdrT w' t R v k ∧ w.grownBy w' (some R) := by
  obtain ⟨c0, c1, f0, f1, hsz⟩ := hr.facts
  obtain ⟨ao, cap, hv, hc1, hc2⟩ := hrd.shape
  rw [bc_length] at hc1 hv
  unfold maxLen at hc2
  have HT := hide hn
  have HV := hide hv
  clear hn
  go_enter Try.func82, Try.ntmps82
  go_wp2_with fail
  refine (Num_any t R _ bs k w hrd hr hk).mono ?_
  rintro e w2 ⟨rfl, hr2, hg2⟩
  have hrd2 := hrd.grownT hg2 hblk
  cases hn : numAt (bs.drop k) with
  | none =>
    rw [hn] at hr2
    clear hn
    simp only [numVC]
    simp only [numKC, Nat.add_zero] at hr2
    go_wp2_with fail
    refine (Rest_any t R _ bs k w2 hrd2 hr2 hk).mono ?_
    rintro e w3 ⟨⟨vo, vc, rfl, _, _⟩, q, rfl⟩
    obtain ⟨d0, d1, g0, g1, hsz2⟩ := hr2.facts
    go_wp2_with fail
    go_ret2
    exact ⟨rfl, RdrT.set (w := w2.drewN q) hr2 _, grownT_trans (grownT_trans hg2 (grownT_drewN _ q _)) (grownT_set _ _ _ _)⟩
  | some p =>
    obtain ⟨n, j⟩ := p
    rw [hn] at hr2
    have hj := numAt_len hn
    have hlong : bs.length < k + j + n := by
      have := HT.out
      rw [textAt, hn] at this
      simp only [List.length_drop] at this
      split at this
      · omega
      · cases this
    clear hn
    rw [List.length_drop] at hj
    simp only [numVC]
    simp only [numKC] at hr2
    have hr3 := hr2
    rw [HV.out] at hr3
    go_wp2_with fail
    refine (Rest_any t R _ bs (k + j) w2 hrd2 hr2 (by omega)).mono ?_
    rintro e w3 ⟨⟨vo, vc, rfl, _, _⟩, q, rfl⟩
    go_wp2_with fail
    refine (Skip_no t R ao bs.length cap (k + j) n (w2.drewN q) hr3 (by omega) hlong (by omega)).mono ?_
    rintro e w4 ⟨rfl, q2, rfl⟩
    obtain ⟨d0, d1, g0, g1, hsz2⟩ := hr2.facts
    go_wp2_with fail
    go_ret2
    exact ⟨rfl, RdrT.set (w := w2.drewN (q + q2)) hr2 _, grownT_trans (grownT_trans hg2 (grownT_drewN _ (q + q2) _)) (grownT_set _ _ _ _)⟩

set_option maxRecDepth 100000 in
set_option maxHeartbeats 1000000 in
theorem Text_some (t : TypeId) (R : Nat) (v : Value) (bs tx : List UInt8) (k m : Nat) (w : World) (hrd : Rd w v (bc bs)) (hblk : ∀ a l c, v = .slice (some a) l c → 0 < (bc bs).length → a.block ≠ R) (hr : RdrT w t R v k) (hk : k ≤ bs.length) (hn : textAt (bs.drop k) = some (tx, m)) :
    Calls Try.prog 82 #[.pointer (some ⟨R, 0, none⟩)] w fun e w' => e = .returned (.tuple #[.string ⟨tx.toArray⟩, .bool true]) ∧ RdrT w' t R v (k + m : Nat) ∧ w.grownBy w' (some R) := by
  obtain ⟨c0, c1, f0, f1, hsz⟩ := hr.facts
  obtain ⟨ao, cap, hv, hc1, hc2⟩ := hrd.shape
  rw [bc_length] at hc1 hv
  unfold maxLen at hc2
  have HV := hide hv
  obtain ⟨n, j, hj1, hj2, hnm, hm, ht⟩ := textAt_some hn
  rw [List.length_drop] at hj2
  have HM := hide hm
  have HT : Hid (tx = (bs.drop (k + j)).take n) := hide (by rw [ht, List.drop_drop])
  clear hn hm ht
  go_enter Try.func82, Try.ntmps82
  go_wp2_with fail
  refine (Num_any t R _ bs k w hrd hr hk).mono ?_
  rintro e w2 ⟨rfl, hr2, hg2⟩
  have hrd2 := hrd.grownT hg2 hblk
  rw [hnm] at hr2 ⊢
  clear hnm
  simp only [numVC]
  simp only [numKC] at hr2
  have hr3 := hr2
  rw [HV.out] at hr3
  go_wp2_with fail
  refine (Rest_any t R _ bs (k + j) w2 hrd2 hr2 (by omega)).mono ?_
  rintro e w3 ⟨⟨vo, vc, rfl, hV, hvb⟩, q, rfl⟩
  go_wp2_with fail
  refine (Skip_ok t R ao bs.length cap (k + j) n (w2.drewN q) hr3 (by omega) (by omega)).mono ?_
  rintro e w4 ⟨rfl, hr4, hg4⟩
  have hlB : 0 < (bc bs).length := by rw [bc_length]; omega
  have hV4 : Rd w4 (.slice vo (bs.length - (k + j)) vc) (bc (bs.drop (k + j))) := by
    refine (hV.drewN q).grownT hg4 (fun a l c h _ => ?_)
    simp only [Value.slice.injEq] at h
    obtain ⟨a', l', c', h1, h2⟩ := hvb a h.1
    rw [h2]
    exact hblk a' l' c' h1 hlB
  have hlen4 := hV4.len
  have hs := run_slice_upto (P := Try.prog) Try.underlying25 (by kernel_rfl) Try.info85 vo (bs.length - (k + j)) vc n (n : Int) rfl (by omega)
  have hU := hV4.upto (hi := n) (by omega)
  rw [bc_take] at hU
  generalize hge : Go.sliced vo 0 n vc 1 = U at hs hU
  clear hge
  have hcv : (convert 25 9 U).run Try.prog w4 = .ok (.string ⟨((bs.drop (k + j)).take n).toArray⟩) w4 := run_string_of_rd (P := Try.prog) Try.underlying25 Try.underlying5 Try.underlying9 hU
  rw [← HT.out] at hcv
  obtain ⟨uo, uc, hvu, _, _⟩ := hU.shape
  have hlU : (bc ((bs.drop (k + j)).take n)).length = n := by rw [bc_length, List.length_take, List.length_drop]; omega
  rw [hlU] at hvu
  subst hvu
  clear hV4 hlen4 hU hvb hV
  go_wp2_with fail
  go_ret2
  exact ⟨rfl, by rw [HM.out, HV.out, ← Nat.add_assoc]; exact hr4, grownT_trans (grownT_trans hg2 (grownT_drewN _ q _)) hg4⟩

set_option maxRecDepth 100000 in
set_option maxHeartbeats 400000 in
theorem ReaderOf_any (ao : Option Addr) (n c : Nat) (w : World) :
    Calls Try.prog 63 #[.slice ao n c] w fun e w' => e = .returned (.agg #[.slice ao n c, .int .i64 0]) ∧ Below w.heap.size w w' ∧ w'.heap.size = w.heap.size + 1 := by
  go_enter Try.func63, Try.ntmps63
  go_wp2_with fail
  exact bodyPost_ret (v := .agg #[.slice ao n c, .int .i64 0]) (by simp [results, Try.results63, go_sem]) rfl ⟨rfl, by go_grown, by simp⟩

set_option maxRecDepth 100000 in
set_option maxHeartbeats 400000 in
theorem At_any (t : TypeId) (R : Nat) (v : Value) (k : Int) (w : World) (hr : RdrT w t R v k) :
    Calls Try.prog 70 #[.pointer (some ⟨R, 0, none⟩)] w fun e w' => e = .returned (.int .i64 k) ∧ w' = w := by
  obtain ⟨c0, c1, _, _, _⟩ := hr.facts
  go_enter Try.func70, Try.ntmps70
  go_wp2_with fail
  go_ret
  exact ⟨rfl, rfl⟩

end Go.Proofs.Ytlebbkbbmgmmjab
