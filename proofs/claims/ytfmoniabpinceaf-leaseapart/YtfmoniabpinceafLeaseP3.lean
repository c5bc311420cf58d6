/-
  The walk over the document's Trusting.
-/
import Derived.Test.YtfmoniabpinceafLeaseC11
import Derived.Test.YtfmoniabpinceafLeaseF1
import Derived.Test.YtfmoniabpinceafGenV
namespace Go.Proofs.Ytfmoniabpinceaf
open Go.RowKit
set_option linter.unusedVariables false

theorem owns_drewN {w : World} {base : Nat} {e : TypeId} {K : Nat} {v : Value} {n : Nat} {xs : List Value} (h : w.ownsRow base e K v n xs) (m : Nat) : (w.drewN m).ownsRow base e K v n xs := h

/-- Who trusts, of the first ones. -/
def trL (c : Ct) (j : Nat) : List Int := ((List.range j).filter fun (k : Nat) => decide (lget c.clocks (k : Int) 0 < (lget c.trusts (k : Int) ⟨0, 0⟩).til)).map fun (k : Nat) => (k : Int)

theorem trL_yes {c : Ct} {j : Nat} {x : Int} {t : Tr} (hx : c.clocks[j]? = some x) (ht : c.trusts[j]? = some t) (h : x < t.til) : trL c (j + 1) = trL c j ++ [(j : Int)] := by
  unfold trL
  rw [List.range_succ, List.filter_append, List.map_append]
  congr 1
  have e1 : lget c.clocks (j : Int) 0 = x := by simp [lget, List.getD, hx]
  have e2 : lget c.trusts (j : Int) ⟨0, 0⟩ = t := by simp [lget, List.getD, ht]
  simp [e1, e2, h]

theorem trL_no {c : Ct} {j : Nat} {x : Int} {t : Tr} (hx : c.clocks[j]? = some x) (ht : c.trusts[j]? = some t) (h : ¬ x < t.til) : trL c (j + 1) = trL c j := by
  unfold trL
  rw [List.range_succ, List.filter_append, List.map_append]
  have e1 : lget c.clocks (j : Int) 0 = x := by simp [lget, List.getD, hx]
  have e2 : lget c.trusts (j : Int) ⟨0, 0⟩ = t := by simp [lget, List.getD, ht]
  simp [e1, e2, h]

theorem trL_len (c : Ct) (j : Nat) : (trL c j).length ≤ j := by
  unfold trL
  rw [List.length_map]
  refine Nat.le_trans (List.length_filter_le _ _) ?_
  simp

set_option maxRecDepth 100000 in
set_option maxHeartbeats 4000000 in
theorem Trusting_any (c : Ct) (vc vt vw vr : Value) (w : World) (h1 : RdG iE w vc c.clocks) (h2 : RdG tE w vt c.trusts) (hl : c.trusts.length = c.clocks.length) (hn : c.clocks.length ≤ 8) :
    Calls Try.prog 35 #[ctV c vc vt vw vr] w fun e w' => ∃ v', e = .returned v' ∧ RdG iE w' v' (trL c c.clocks.length) ∧ New w.heap.size v' ∧ Below w.heap.size w w' := by
  have HA := hide h1
  have HB := hide h2
  have HL := hide hl
  have HN := hide hn
  obtain ⟨co, cap, rfl, hc1, hc2⟩ := h1.shape
  obtain ⟨to_, cap2, rfl, hd1, hd2⟩ := h2.shape
  unfold maxLen at hc2 hd2
  have HM := hide (Blk.new w 64 #[.int .i64 c.now, .int .i64 c.lease.hold, .int .i64 c.lease.ep, .int .i64 c.lease.til, .slice co c.clocks.length cap, .slice to_ c.trusts.length cap2, vw, vr])
  have HBEL := hide (below_allocG w (.cells #[.int .i64 c.now, .int .i64 c.lease.hold, .int .i64 c.lease.ep, .int .i64 c.lease.til, .slice co c.clocks.length cap, .slice to_ c.trusts.length cap2, vw, vr] 64))
  clear h1 h2 hl hn
  unfold ctV
  go_enter Try.func35, Try.ntmps35
  go_wp2_with fail
  go_loopw [3, 4] (fun ov iv wr => ∃ j : Nat, j ≤ c.clocks.length ∧ iv = .int .i64 j ∧ wr.ownsRow (w.heap.size + 1) 3 1 ov (trL c j).length (iE.vs (trL c j)) ∧ Below (w.heap.size + 1) (w.alloc (.cells #[.int .i64 c.now, .int .i64 c.lease.hold, .int .i64 c.lease.ep, .int .i64 c.lease.til, .slice co c.clocks.length cap, .slice to_ c.trusts.length cap2, vw, vr] 64)) wr)
    (fun _ iv _ => c.clocks.length - (intOf iv).toNat)
  case atStart => exact ⟨0, by omega, rfl, World.ownsRow_nil _ _ _ _, Below.refl _ _⟩
  case round =>
    obtain ⟨j, hj, rfl, hown, hbr⟩ := hrel
    have hbw := HBEL.out.trans (hbr.mono (by omega))
    have hM := HM.out.below hbr (by omega)
    have m4 := hM.cell 4
    have m5 := hM.cell 5
    have ml := hM.lt
    simp at m4 m5
    obtain ⟨oo, ocap, rfl⟩ := owns_shape hown
    have HBW := hide hbw
    have HBR := hide hbr
    clear hM
    by_cases hlt : j < c.clocks.length
    · have hla := HL.out
      have hnn := HN.out
      obtain ⟨x, hx⟩ : ∃ y, c.clocks[j]? = some y := ⟨_, List.getElem?_eq_getElem hlt⟩
      obtain ⟨t, ht⟩ : ∃ x, c.trusts[j]? = some x := ⟨_, List.getElem?_eq_getElem (by omega)⟩
      obtain ⟨b1, o1, rfl, hb1, q1⟩ := HA.out.hereI hx
      obtain ⟨b2, o2, rfl, hb2, hat⟩ := HB.out.here ht
      have p1 := cell_belowG q1 hbw
      have p2 := cell_belowG (hat 1 _ rfl) hbw
      have hk1 : (0 : Int) ≤ (j : Int) := by omega
      have hk2 : (j : Int) < (c.clocks.length : Int) := by omega
      have hk3 : (j : Int) < (c.trusts.length : Int) := by omega
      have hb1' : b1 < wr.heap.size := Nat.lt_of_lt_of_le hb1 hbw.size
      have hb2' : b2 < wr.heap.size := Nat.lt_of_lt_of_le hb2 hbw.size
      have hlen : (trL c j).length ≤ 100000000 := Nat.le_trans (trL_len c j) (by omega)
      have hbs : w.heap.size + 1 ≤ wr.heap.size := by omega
      by_cases hsl : x < t.til
      · have HE := hide (trL_yes hx ht hsl)
        have HO := hide hown
        obtain ⟨te, tt⟩ := t
        simp only at p2 hsl
        clear q1 hat hx ht hbw hbr hla hnn hown
        go_wp2_with fail
        go_quiet (fail)
        go_wp2_with (at_builtin; go_must (refine wpList_append_oneG (E := iE) (c := (j : Int)) (owns_drewN HO.out _) rfl Try.underlying57 infoInt1 rfl rfl rfl rfl rfl hlen (by decide) hbs ?_); intro v2 w2 hown2 hb2 hg2; clear hg2)
        go_roundw
        case rel => exact ⟨j + 1, by omega, by go_num, by rw [HE.out, List.length_append]; exact hown2, (below_drewN HBR.out _).trans hb2⟩
        case measure => simp [intOf]; omega
      · have HE := hide (trL_no hx ht hsl)
        have HO := hide hown
        obtain ⟨te, tt⟩ := t
        simp only at p2 hsl
        clear q1 hat hx ht hbw hbr hla hnn hown
        go_wp2_with fail
        go_quiet (fail)
        go_wp2_with fail
        go_roundw
        case rel => exact ⟨j + 1, by omega, by go_num, by rw [HE.out]; exact owns_drewN HO.out _, below_drewN HBR.out _⟩
        case measure => simp [intOf]; omega
    · have hje : j = c.clocks.length := by omega
      subst hje
      have HO := hide hown
      clear hown hbw hbr
      go_wp2_with fail
      go_ret
      exact ⟨_, rfl, RdG.ofOwns HO.out, (New.owns HO.out).mono (by omega), HBW.out⟩

end Go.Proofs.Ytfmoniabpinceaf
