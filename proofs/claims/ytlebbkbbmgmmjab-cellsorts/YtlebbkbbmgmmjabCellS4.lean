/-
  The walks over cell.merged and cell.Sort.
-/
import Derived.Test.YtlebbkbbmgmmjabCellS3
namespace Go.Proofs.Ytlebbkbbmgmmjab
open Go.RowKit

theorem RdL.part {w : World} {ao : Option Addr} {n cap h : Nat} {ls : List (List Cl)} (hr : RdL w (.slice ao n cap) ls) (hh : h ≤ n) :
    RdL w (Go.sliced ao 0 h cap 1) (ls.take h) ∧ RdL w (Go.sliced ao h n cap 1) (ls.drop h) := by
  obtain ⟨vs, h1, h2, h3, h4⟩ := hr
  refine ⟨⟨vs.take h, h1.upto hh, by simp [h2], fun u hu => h3 u (List.mem_of_mem_take hu), fun i u l hu hl => ?_⟩, ⟨vs.drop h, h1.from hh, by simp [h2], fun u hu => h3 u (List.mem_of_mem_drop hu), fun i u l hu hl => ?_⟩⟩
  · rw [List.getElem?_take] at hu hl
    split at hu
    · rename_i hi
      rw [if_pos hi] at hl
      exact h4 i u l hu hl
    · cases hu
  · rw [List.getElem?_drop] at hu hl
    exact h4 _ u l hu hl

theorem RdL.below {w w' : World} {v : Value} {ls : List (List Cl)} (h : RdL w v ls) (hb : Below w.heap.size w w') : RdL w' v ls := by
  obtain ⟨vs, h1, h2, h3, h4⟩ := h
  exact ⟨vs, h1.below hb, h2, h3, fun i u l hu hl => (h4 i u l hu hl).below hb⟩

theorem RdL.shape {w : World} {v : Value} {ls : List (List Cl)} (h : RdL w v ls) : ∃ ao cap, v = .slice ao ls.length cap ∧ ls.length ≤ cap ∧ cap ≤ maxLen := by
  obtain ⟨vs, h1, h2, h3, h4⟩ := h
  obtain ⟨ao, cap, hv, h5, h6⟩ := h1.shape
  rw [h2] at hv h5
  exact ⟨ao, cap, hv, h5, h6⟩

set_option maxRecDepth 100000 in
set_option maxHeartbeats 2000000 in
theorem merged_any : ∀ (N : Nat) (v : Value) (ls : List (List Cl)) (w : World), ls.length ≤ N → RdL w v ls → (∀ l ∈ ls, l.Pairwise Lt) → ls.flatten.length ≤ 1000 → ls.length ≤ 1000 →
    Calls Try.prog 54 #[v] w fun e w' => ∃ v' out, e = .returned v' ∧ RdC w' v' out ∧ Srt ls.flatten out ∧ Below w.heap.size w w' ∧ New w.heap.size v' := by
  intro N
  induction N with
  | zero =>
    intro v ls w hN hr hp hl hl2
    have he : ls = [] := List.eq_nil_of_length_eq_zero (by omega)
    subst he
    obtain ⟨ao, cap, hvv, hc1, hc2⟩ := hr.shape
    subst hvv
    go_enter Try.func54, Try.ntmps54
    go_wp2_with fail
    go_ret
    exact ⟨_, [], rfl, RdC.nil _, Srt.nil, Below.refl _ _, New.nil _⟩
  | succ N ih =>
    intro v ls w hN hr hp hl hl2
    have IH := hide ih
    clear ih
    obtain ⟨ao, cap, hvv, hc1, hc2⟩ := hr.shape
    subst hvv
    unfold maxLen at hc2
    match ls, hN, hr, hp, hl, hl2, hc1 with
    | [], hN, hr, hp, hl, hl2, hc1 =>
      go_enter Try.func54, Try.ntmps54
      go_wp2_with fail
      go_ret
      exact ⟨_, [], rfl, RdC.nil _, Srt.nil, Below.refl _ _, New.nil _⟩
    | [l], hN, hr, hp, hl, hl2, hc1 =>
      obtain ⟨vs, h1, h2, h3, h4⟩ := hr
      obtain ⟨u, rfl⟩ : ∃ u, vs = [u] := by
        match vs, h2 with
        | [u], _ => exact ⟨u, rfl⟩
      have hu := h4 0 u l rfl rfl
      obtain ⟨b, off, cap', hv', _, _, hb, hcell⟩ := h1.pos (by simp)
      simp only [List.length_cons, List.length_nil, Value.slice.injEq] at hv'
      obtain ⟨rfl, _, _⟩ := hv'
      have hc0 := hcell 0 u rfl
      rw [Nat.add_zero] at hc0
      have HS := hide (Srt.pw (hp l (by simp)))
      have hl3 : l.length ≤ 1000000 := by simp at hl; omega
      obtain ⟨uo, uc, huu, _, _⟩ := hu.shape
      subst huu
      clear h1 h2 h3 h4 hcell hp
      go_enter Try.func54, Try.ntmps54
      go_wp2_with fail
      refine (Clone_any _ l _ hu hl3).mono ?_
      rintro e w1 ⟨v1, rfl, hr1, hb1, hn1⟩
      go_wp2_with fail
      go_ret
      exact ⟨_, l, rfl, hr1, by simpa using HS.out, hb1, hn1⟩
    | l1 :: l2 :: rest, hN, hr, hp, hl, hl2, hc1 =>
      generalize hge : l1 :: l2 :: rest = ls at hN hr hp hl hl2 hc1 ⊢
      have hlen : 2 ≤ ls.length := by rw [← hge]; simp
      clear hge
      have hb0 : ((ls.length : Int) == 0) = false := beq_eq_false_iff_ne.2 (by omega)
      have hb1 : ((ls.length : Int) == 1) = false := beq_eq_false_iff_ne.2 (by omega)
      have hb2 : (ls.length == 1) = false := beq_eq_false_iff_ne.2 (by omega)
      have hb3 : (ls.length == 0) = false := beq_eq_false_iff_ne.2 (by omega)
      obtain ⟨h, hh⟩ : ∃ h, h = ls.length / 2 := ⟨_, rfl⟩
      have hs1 := run_slice_upto (P := Try.prog) Try.underlying85 (by kernel_rfl) Try.info43 ao ls.length cap h ((ls.length : Int) / 2) (by omega) (by omega)
      have hs2 := run_slice_from (P := Try.prog) Try.underlying85 (by kernel_rfl) Try.info43 ao ls.length cap h ((ls.length : Int) / 2) (by omega) (by omega)
      obtain ⟨hV1, hV2⟩ := hr.part (h := h) (by omega)
      generalize hg1 : Go.sliced ao 0 h cap 1 = V1 at hs1 hV1
      generalize hg2 : Go.sliced ao h ls.length cap 1 = V2 at hs2 hV2
      clear hg1 hg2
      obtain ⟨vo1, vc1, hw1, _, _⟩ := hV1.shape
      obtain ⟨vo2, vc2, hw2, _, _⟩ := hV2.shape
      have hfl : ls.flatten = (ls.take h).flatten ++ (ls.drop h).flatten := by rw [← List.flatten_append, List.take_append_drop]
      have hlf : (ls.take h).flatten.length + (ls.drop h).flatten.length ≤ 1000 := by rw [← List.length_append, ← hfl]; exact hl
      have hp1 : ∀ l ∈ ls.take h, l.Pairwise Lt := fun l hl => hp l (List.mem_of_mem_take hl)
      have hp2 : ∀ l ∈ ls.drop h, l.Pairwise Lt := fun l hl => hp l (List.mem_of_mem_drop hl)
      have hn1 : (ls.take h).length ≤ N ∧ (ls.take h).length ≤ 1000 := by rw [List.length_take]; omega
      have hn2 : (ls.drop h).length ≤ N ∧ (ls.drop h).length ≤ 1000 := by rw [List.length_drop]; omega
      have HFL := hide hfl
      have H1 := hide hp1
      have H2 := hide hp2
      have HV1 := hide hV1
      have HV2 := hide hV2
      generalize ls.take h = L1 at hw1 hlf HFL H1 HV1 hn1
      generalize ls.drop h = L2 at hw2 hlf HFL H2 HV2 hn2
      clear hfl hp1 hp2 hV1 hV2 hp hr
      subst hw1 hw2
      go_enter Try.func54, Try.ntmps54
      go_wp2_with fail
      go_region_held3 (fun _ => True) (trivial) (first
        | (go_at_call 75; refine (mergedTwo_any _ _ o1 o2 _ (by exact hr1.below hb3) (by exact hr3) (by exact Nat.le_trans (Nat.add_le_add hq1.2.2 hq3.2.2) hlf)).mono ?_; rintro e w4 ⟨v4, rfl, hr4, hb4, hn4⟩)
        | (go_at_call 54; have k9 := hr1; refine (IH.out _ L2 _ hn2.1 (by exact HV2.out.below hbw1) H2.out (by exact Nat.le_trans (Nat.le_add_left _ _) hlf) hn2.2).mono ?_; rintro e w3 ⟨v3, o2, rfl, hr3, hq3, hb3, hn3⟩)
        | (go_at_call 54; refine (IH.out _ L1 _ hn1.1 (by exact HV1.out) H1.out (by exact Nat.le_trans (Nat.le_add_right _ _) hlf) hn1.2).mono ?_; rintro e w1 ⟨v1, o1, rfl, hr1, hq1, hb1', hn1'⟩; have hbw1 : Below w.heap.size w w1 := Below.trans (by go_grown) hb1'))
      have hbw3 : Below w.heap.size w w3 := hbw1.trans (hb3.mono hbw1.size)
      have hbw4 : Below w.heap.size w w4 := hbw3.trans (hb4.mono hbw3.size)
      go_wp2_with fail
      go_ret
      exact ⟨_, mrg o1 o2, rfl, hr4, by rw [HFL.out]; exact hq1.join hq3, hbw4, hn4.mono hbw3.size⟩

/-- The faults that Sort tells. -/
def sortF (cs : List Cl) : Int × Int := faultR (fun i => codeC (cs.getD i zeroC)) cs.length

set_option maxRecDepth 100000 in
set_option maxHeartbeats 2000000 in
theorem Sort_any (v : Value) (cs : List Cl) (w : World) (hv : RdC w v cs) :
    Calls Try.prog 24 #[v] w fun e w' => ∃ v' out, e = .returned (.tuple #[v', fltC (sortF cs)]) ∧ RdC w' v' out ∧ ((sortF cs).1 ≠ 0 → out = []) ∧ ((sortF cs).1 = 0 → Srt cs out) ∧ Below w.heap.size w w' ∧ New w.heap.size v' := by
  obtain ⟨ao, cap, hvv, hc1, hc2⟩ := hv.shape
  subst hvv
  unfold maxLen at hc2
  go_enter Try.func24, Try.ntmps24
  go_wp2_with fail
  have hL0 := (Bk.new w 43 #[.slice ao cs.length cap]).below (below_alloc' _ (.cells #[.int .i64 0, .int .i64 0] 29)) (by simp)
  have hR0 := Bk.new2 w (.cells #[.slice ao cs.length cap] 43) 29 #[.int .i64 0, .int .i64 0]
  have hbC : Below w.heap.size w ((w.alloc (.cells #[.slice ao cs.length cap] 43)).alloc (.cells #[.int .i64 0, .int .i64 0] 29)) := (below_alloc' _ _).trans ((below_alloc' _ _).mono (by simp))
  have hv0 := hv.below hbC
  refine (firstFaultS_any _ _ cs (fun i => codeC (cs.getD i zeroC)) _ hv0 (fun i W hi hW => Sort1_any _ _ cs i W ((hL0.below hW (by simp; omega)).cell 0) (hv0.below hW) hi)).mono ?_
  rintro e w1 ⟨rfl, hb1⟩
  have hL1 := hL0.below hb1 (by simp; omega)
  have hR1 := hR0.below hb1 (by simp)
  have hbw1 : Below w.heap.size w w1 := hbC.trans (hb1.mono (by simp; omega))
  have hsz1 := hR1.lt
  have hs0 : w.heap.size < w1.heap.size := by omega
  clear hb1 hL0 hR0 hbC hv0
  have l0 := hL1.cell 0
  have r0 := hR1.cell 0
  have r1 := hR1.cell 1
  have r2 := hR1.frozen 0
  have r3 := hR1.frozen 1
  simp at l0 r0 r1
  have HSF := hide (show sortF cs = faultR (fun i => codeC (cs.getD i zeroC)) cs.length from rfl)
  by_cases hc : (sortF cs).1 = 0
  · have hcz := faultR_zero (show (faultR (fun i => codeC (cs.getD i zeroC)) cs.length).1 = 0 from hc)
    have hlen := (faultR_fine (show (faultR (fun i => codeC (cs.getD i zeroC)) cs.length).1 = 0 from hc)).1
    rw [hcz] at HSF ⊢
    clear hcz hc
    unfold fltC
    go_wp2_with fail
    refine (runs_any _ cs _ ((hv.below hbw1).alloc _) hlen).mono ?_
    rintro e w2 ⟨v2, ls, rfl, hr2, hfl, hpw, hll0, hb2⟩
    have hbw2 : Below w.heap.size w w2 := hbw1.trans (((below_alloc' _ _).mono (by omega)).trans (hb2.mono (by simp; omega)))
    have hR2 := (hR1.below (below_alloc' _ (.cells #[.int .i64 0, .int .i64 0] 29)) hsz1).below hb2 (by simp; omega)
    have hlf : ls.flatten.length ≤ 1000 := by rw [hfl]; exact hlen
    have hll : ls.length ≤ 1000 := Nat.le_trans hll0 hlen
    have HF := hide hfl
    have HP := hide hpw
    clear l0 r0 r1 r2 r3 hL1 hR1 hb2 hfl hpw
    have hs2 := hR2.lt
    go_wp2_with fail
    refine (merged_any _ _ ls _ (Nat.le_refl _) hr2 HP.out hlf hll).mono ?_
    rintro e w3 ⟨v3, out, rfl, hr3, hsrt, hb3, hn3⟩
    rw [HF.out] at hsrt
    have hR3 := hR2.below hb3 hs2
    have hbw3 : Below w.heap.size w w3 := hbw2.trans (hb3.mono (by omega))
    have r0 := hR3.cell 0
    have r1 := hR3.cell 1
    have r2 := hR3.frozen 0
    have r3 := hR3.frozen 1
    have hs3 := hR3.lt
    simp at r0 r1
    obtain ⟨ao3, cap3, hv3, _, _⟩ := hr3.shape
    subst hv3
    go_wp2_with fail
    exact bodyPost_ret (v := .tuple #[.slice ao3 out.length cap3, fltC (0, 0)]) (by simp [results, Try.results24, go_sem, fltC, r0, r1]) rfl ⟨_, out, by rw [HSF.out], (hr3.setNew hn3 (by simp only; omega) _).setNew hn3 (by simp only; omega) _, fun h => absurd (by rw [HSF.out]) h, fun _ => hsrt, by go_grown, hn3.mono (by omega)⟩
  · have hcb : ((sortF cs).1 == 0) = false := beq_eq_false_iff_ne.2 hc
    have hcb2 : ((sortF cs).1 != 0) = true := by simp [hc]
    have HC := hide hc
    rw [← HSF.out]
    clear hc
    generalize hge : sortF cs = r at hcb hcb2 ⊢
    have HGE := hide hge
    clear hge
    obtain ⟨x, y⟩ := r
    simp only at hcb hcb2
    unfold fltC
    go_wp2_with fail
    go_region
    all_goals
      go_wp2_with fail
      exact bodyPost_ret (v := .tuple #[.slice none 0 0, fltC (x, y)]) (by simp [results, Try.results24, go_sem, fltC, r0, r1, hsz1]) rfl ⟨_, [], by rw [HGE.out], RdC.nil _, fun _ => rfl, fun h => absurd h HC.out, by go_grown, New.nil _⟩

end Go.Proofs.Ytlebbkbbmgmmjab
