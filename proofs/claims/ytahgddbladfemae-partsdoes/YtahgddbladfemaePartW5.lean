/-
  The walks over slices.Grow and Concat of parts, and parts.replaced.
-/
import Derived.Test.YtahgddbladfemaePartW4
import Derived.Test.YtahgddbladfemaeGenC
namespace Go.Proofs.Ytahgddbladfemae
open Go.RowKit
set_option linter.unusedVariables false

set_option maxRecDepth 100000 in
set_option maxHeartbeats 1000000 in
theorem growP_any (n : Nat) (w : World) (hn : n ≤ 1000000) :
    Calls Try.prog 34 #[.slice none 0 0, .int .i64 n] w fun e w' => ∃ v', e = .returned v' ∧ w'.ownsRow w.heap.size 34 3 v' 0 (pE.vs []) ∧ Below w.heap.size w w' := by
  by_cases h0 : n = 0
  · subst h0
    go_enter Try.func34, Try.ntmps34
    go_wp2_with fail
    go_ret
    exact ⟨_, rfl, World.ownsRow_nil _ _ _ _, Below.refl _ _⟩
  · obtain ⟨G, w1, hr, hg1, hg2, hown, hbel⟩ := run_grow_nil (P := Try.prog) w (ty := 22) Try.underlying22 Try.underlying3 infoPart rfl (by decide) (by decide) n (by omega) hn
    have hs1 := run_slice_uptoK (K := 3) (P := Try.prog) Try.underlying22 (by kernel_rfl) infoPart none 0 0 0 (0 : Int) rfl (Nat.le_refl _)
    have hs2 := run_slice_uptoK (K := 3) (P := Try.prog) Try.underlying22 (by kernel_rfl) infoPart (some ⟨w.heap.size, 0, none⟩) n G 0 (0 : Int) rfl (Nat.zero_le _)
    have e1 : Go.sliced none 0 0 0 3 = .slice none 0 0 := rfl
    have e2 : Go.sliced (some ⟨w.heap.size, 0, none⟩) 0 0 G 3 = .slice (some ⟨w.heap.size, 0, none⟩) 0 G := by unfold Go.sliced; split <;> simp [Addr.add]
    rw [e1] at hs1
    rw [e2] at hs2
    have h1 : (0 : Int) < (n : Int) := by omega
    unfold maxLen at hg2
    clear e1 e2
    go_enter Try.func34, Try.ntmps34
    go_wp2_with (at_builtin; refine Lib.wpList_append_run _ rfl _ _ _ _ rfl _ _ rfl rfl _ _ hr ?_)
    go_ret
    exact ⟨_, rfl, hown, hbel⟩

/-- How many there are in the first lists. -/
def tlenP (ls : List (List Pt)) : Nat := ls.flatten.length

theorem take_flat {ls : List (List Pt)} {k : Nat} {l : List Pt} (h : ls[k]? = some l) : (ls.take (k + 1)).flatten = (ls.take k).flatten ++ l := by
  obtain ⟨hl, rfl⟩ := List.getElem?_eq_some_iff.1 h
  rw [List.take_succ_eq_append_getElem hl, List.flatten_append]
  simp

theorem flat_le {ls : List (List Pt)} (k : Nat) : (ls.take k).flatten.length ≤ ls.flatten.length := by
  have : ls.flatten = (ls.take k).flatten ++ (ls.drop k).flatten := by rw [← List.flatten_append, List.take_append_drop]
  rw [this, List.length_append]
  omega

set_option maxRecDepth 100000 in
set_option maxHeartbeats 2000000 in
theorem concatP_any (v : Value) (ls : List (List Pt)) (w : World) (hv : RdLG pE w v ls) (hl : ls.flatten.length ≤ 100000) :
    Calls Try.prog 29 #[v] w fun e w' => ∃ v', e = .returned v' ∧ RdG pE w' v' ls.flatten ∧ Below w.heap.size w w' ∧ New w.heap.size v' := by
  obtain ⟨ao, cap, hvv, hc1, hc2⟩ := hv.shape
  subst hvv
  unfold maxLen at hc2
  go_enter Try.func29, Try.ntmps29
  go_wp2_with fail
  go_loop [3, 11] (fun sv iv => ∃ (j : Nat), j ≤ ls.length ∧ iv = .int .i64 j ∧ sv = .int .i64 ((ls.take j).flatten.length))
    (fun _ iv => ls.length - (intOf iv).toNat)
  case atStart => exact ⟨0, by omega, rfl, by simp⟩
  case round =>
    obtain ⟨j, hj, rfl, rfl⟩ := hrel
    have hle := flat_le (ls := ls) j
    generalize hN : (ls.take j).flatten.length = N at *
    by_cases hlt : j < ls.length
    · obtain ⟨l, hx⟩ : ∃ x, ls[j]? = some x := ⟨_, List.getElem?_eq_getElem hlt⟩
      obtain ⟨b, off, u, rfl, hb, hc, hru⟩ := hv.here hx
      obtain ⟨uo, uc, huu, hu1, hu2⟩ := hru.shape
      subst huu
      have hk1 : (0 : Int) ≤ (j : Int) := by omega
      have hk2 : (j : Int) < (ls.length : Int) := by omega
      have hle2 := flat_le (ls := ls) (j + 1)
      have HT := hide (show (ls.take (j + 1)).flatten.length = N + l.length by rw [take_flat hx, List.length_append, hN])
      have hsm : N + l.length ≤ 100000 := by rw [← HT.out]; omega
      have hnn : ¬ ((N : Int) + (l.length : Int) < 0) := by omega
      clear hN hx hle hle2
      go_wp2_with fail
      go_round
      case rel => exact ⟨j + 1, by omega, by go_num, by rw [HT.out]; go_num⟩
      case measure => simp [intOf]; omega
    · have hje : j = ls.length := by omega
      subst hje
      rw [List.take_length] at hN
      have hN2 : N ≤ 1000000 := by omega
      have HN := hide hN
      clear hN hle
      go_wp2_with fail
      refine (growP_any N _ hN2).mono ?_
      rintro e w1 ⟨v1, rfl, hown1, hb1⟩
      obtain ⟨vo, vc, hvs⟩ : ∃ ao cap, v1 = .slice ao 0 cap := by
        rcases hown1.2 with ⟨rfl, hn⟩ | ⟨g, cap, cur, rfl, _⟩
        · exact ⟨none, 0, rfl⟩
        · exact ⟨_, _, rfl⟩
      subst hvs
      go_wp2_with fail
      go_loopw [6, 27] (fun sv iv wr => ∃ (j : Nat) (s : Value), j ≤ ls.length ∧ iv = .int .i64 j ∧ s = sv ∧ wr.ownsRow w.heap.size 34 3 s (ls.take j).flatten.length (pE.vs (ls.take j).flatten) ∧ Below w.heap.size w wr)
        (fun _ iv _ => ls.length - (intOf iv).toNat)
      case atStart => exact ⟨0, _, by omega, rfl, rfl, by simpa using hown1, hb1⟩
      case round =>
        obtain ⟨j, s, hj, rfl, rfl, hown, hbel⟩ := hrel
        have hle := flat_le (ls := ls) j
        by_cases hlt : j < ls.length
        · obtain ⟨l, hx⟩ : ∃ x, ls[j]? = some x := ⟨_, List.getElem?_eq_getElem hlt⟩
          obtain ⟨b, off, u, rfl, hb, hc, hru⟩ := (hv.below hbel).here hx
          obtain ⟨uo, uc, huu, hu1, hu2⟩ := hru.shape
          subst huu
          have hk1 : (0 : Int) ≤ (j : Int) := by omega
          have hk2 : (j : Int) < (ls.length : Int) := by omega
          have hle2 := flat_le (ls := ls) (j + 1)
          have HT := hide (take_flat hx)
          rw [take_flat hx, List.length_append] at hle2
          generalize (ls.take j).flatten = F at *
          obtain ⟨so, sc, hso⟩ : ∃ ao cap, s = .slice ao F.length cap := by
            rcases hown.2 with ⟨rfl, hn⟩ | ⟨g, cap, cur, rfl, _⟩
            · exact ⟨none, 0, by rw [hn]⟩
            · exact ⟨_, _, rfl⟩
          subst hso
          have h63 : F.length + l.length ≤ 1000000000 := by omega
          have hbs := hbel.size
          clear hx
          go_wp2_with (at_builtin; go_must (refine wpList_append_rdG hown hru Try.underlying22 infoPart rfl rfl rfl rfl rfl h63 (by decide) hbs ?_); intro v2 w2 hown2 hb2 hg2; clear hg2)
          go_roundw
          case rel => exact ⟨j + 1, _, by omega, by go_num, rfl, by rw [HT.out, List.length_append]; exact hown2, hbel.trans hb2⟩
          case measure => simp [intOf]; omega
        · have hje : j = ls.length := by omega
          subst hje
          rw [List.take_length] at hown
          go_wp2_with fail
          go_ret
          exact ⟨_, rfl, RdG.ofOwns hown, hbel, New.owns hown⟩

set_option maxRecDepth 100000 in
set_option maxHeartbeats 2000000 in
theorem replaced_any (v o : Value) (l os : List Pt) (a b : Nat) (A B : Int) (w : World) (hv : RdG pE w v l) (ho : RdG pE w o os) (hA : A = a) (hB : B = b) (hab : a ≤ l.length) (hbl : b ≤ l.length) (hl : l.length ≤ 1000) (hol : os.length ≤ 1000) :
    Calls Try.prog 22 #[v, .int .i64 A, .int .i64 B, o] w fun e w' => ∃ v', e = .returned v' ∧ RdG pE w' v' (l.take a ++ os ++ l.drop b) ∧ Below w.heap.size w w' ∧ New w.heap.size v' := by
  obtain ⟨ao, cap, hvv, hc1, hc2⟩ := hv.shape
  obtain ⟨oo, oc, hoo, hc3, hc4⟩ := ho.shape
  subst hvv hoo hA hB
  unfold maxLen at hc2 hc4
  have hi1 : (a : Int) ≤ (l.length : Int) := by omega
  have hi2 : (b : Int) ≤ (l.length : Int) := by omega
  have hi3 : (a : Int) ≤ (cap : Int) := by omega
  have hs1 := run_slice_uptoK (K := 3) (P := Try.prog) Try.underlying22 (by kernel_rfl) infoPart ao l.length cap a a rfl (by omega)
  have hs2 := run_slice_fromK (K := 3) (P := Try.prog) Try.underlying22 (by kernel_rfl) infoPart ao l.length cap b b rfl hbl
  have hr1 := hv.upto (hi := a) hab
  have hr2 := hv.from (lo := b) hbl
  obtain ⟨x1, hx1⟩ : ∃ x, Go.sliced ao 0 a cap 3 = x := ⟨_, rfl⟩
  obtain ⟨x2, hx2⟩ : ∃ x, Go.sliced ao b l.length cap 3 = x := ⟨_, rfl⟩
  rw [hx1] at hs1 hr1
  rw [hx2] at hs2 hr2
  obtain ⟨y1, z1, hy1, _, _⟩ := hr1.shape
  obtain ⟨y2, z2, hy2, _, _⟩ := hr2.shape
  subst hy1 hy2
  have hll : RdLG pE (w.drew.alloc (.cells #[.slice y1 (l.take a).length z1, .slice oo os.length oc, .slice y2 (l.drop b).length z2] 22)) (.slice (some ⟨w.drew.heap.size, 0, none⟩) 3 3) [l.take a, os, l.drop b] := RdLG.three w.drew _ hr1.drew ho.drew hr2.drew
  have HLL := hide (concatP_any _ _ _ hll (by simp; omega))
  have HBA := hide (show Below w.heap.size w (w.drew.alloc (.cells #[.slice y1 (l.take a).length z1, .slice oo os.length oc, .slice y2 (l.drop b).length z2] 22)) by go_grown)
  rw [show [l.take a, os, l.drop b].flatten = l.take a ++ os ++ l.drop b by simp] at HLL
  clear hx1 hx2 hr1 hr2 hll hv ho
  generalize l.take a = L1 at *
  generalize l.drop b = L2 at *
  go_enter Try.func22, Try.ntmps22
  go_wp2_with fail
  go_region_held3 (fun _ => True) (trivial) (first
    | (go_at_call 29; refine HLL.out.mono ?_; rintro e w2 ⟨v2, rfl, hr2, hb2, hn2⟩))
  all_goals
    go_wp2_with fail
    go_ret
    exact ⟨_, rfl, hr2, HBA.out.trans (hb2.mono (by simp)), hn2.mono (by simp)⟩

end Go.Proofs.Ytahgddbladfemae
