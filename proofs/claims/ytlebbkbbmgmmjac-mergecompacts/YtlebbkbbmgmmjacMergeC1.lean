/-
  The walk over the closure of the law MergeCompacts.
-/
import Derived.Test.YtlebbkbbmgmmjacCompMath
import Derived.Test.YtlebbkbbmgmmjacMergeJ1
namespace Go.Proofs.Ytlebbkbbmgmmjac
open Go.RowKit

theorem oldB_step {t : Int} {x y : Cl} {J : List Cl} {j : Nat} (h : J[j]? = some y) : oldB t x (J.take (j + 1)) = (oldB t x (J.take j) || sameP t x y) := by
  unfold oldB
  rw [List.take_add_one, h]
  simp

set_option maxRecDepth 100000 in
set_option maxHeartbeats 4000000 in
theorem Compacts1_any (L S B : Nat) (v : Value) (J : List Cl) (t : Int) (wh : Bool) (w : World) (hL : w.cell? ⟨L, 0, none⟩ = some v) (hS : w.cell? ⟨S, 0, none⟩ = some (.int .i64 t)) (hB : w.cell? ⟨B, 0, none⟩ = some (.bool wh)) (hv : RdC w v J) (hl : J.length ≤ 1000) :
    Calls Try.prog 43 #[.pointer (some ⟨L, 0, none⟩), .pointer (some ⟨S, 0, none⟩), .pointer (some ⟨B, 0, none⟩)] w fun e w' => ∃ v', e = .returned v' ∧ RdC w' v' (docUp t wh J J.length) ∧ Below w.heap.size w w' := by
  obtain ⟨ao, cap, hvv, hc1, hc2⟩ := hv.shape
  subst hvv
  unfold maxLen at hc2
  have hkeep : ∀ W, Below w.heap.size w W → W.cell? ⟨L, 0, none⟩ = some (.slice ao J.length cap) ∧ W.cell? ⟨S, 0, none⟩ = some (.int .i64 t) ∧ W.cell? ⟨B, 0, none⟩ = some (.bool wh) := fun W h => ⟨cell_belowC hL h, cell_belowC hS h, cell_belowC hB h⟩
  have HKEEP := hide hkeep
  have hlL := World.block_lt_of_cell? w _ hL
  have hlS := World.block_lt_of_cell? w _ hS
  have hlB := World.block_lt_of_cell? w _ hB
  simp only at hlL hlS hlB
  clear hkeep hL hS hB
  go_enter Try.func43, Try.ntmps43
  go_wp2_with fail
  go_loopw [4, 5] (fun o i wr => ∃ (k : Nat) (acc : List Cl), k ≤ J.length ∧ i = .int .i64 k ∧ acc = docUp t wh J k ∧ acc.length ≤ k ∧ wr.ownsRow w.heap.size 53 5 o acc.length (cc acc) ∧ Below w.heap.size w wr)
    (fun _ i _ => J.length - (intOf i).toNat)
  case atStart => exact ⟨0, [], by omega, rfl, rfl, by simp, World.ownsRow_nil _ _ _ _, Below.refl _ _⟩
  case round =>
    obtain ⟨k, acc, hk, rfl, hac, hal, hown, hbel⟩ := hrel
    have HAC := hide hac
    have hzr := hbel.size
    clear hac
    obtain ⟨l0, s0, b0⟩ := HKEEP.out wr hbel
    obtain ⟨oo, ocap, hvo⟩ := ownsC_shape hown
    subst hvo
    by_cases hlt : k < J.length
    · obtain ⟨c, hc⟩ : ∃ c, J[k]? = some c := ⟨_, List.getElem?_eq_getElem hlt⟩
      obtain ⟨bb, off, rfl, hbb, hat⟩ := hv.hereD hc
      obtain ⟨c0, c1, c2, c3, c4⟩ := hat.below hbel
      have hk1 : (0 : Int) ≤ (k : Int) := by omega
      have hk2 : (k : Int) < (J.length : Int) := by omega
      have HC := hide hc
      obtain ⟨wL, hwL⟩ : ∃ wL, wL = wr := ⟨_, rfl⟩
      subst hwL
      have hbelC := hbel.alloc hzr (.cells #[.string c.row, .string c.col, .int .i64 c.time, .bool c.gone, .string c.val] 53)
      have hP0 : Bk (wL.alloc (.cells #[.string c.row, .string c.col, .int .i64 c.time, .bool c.gone, .string c.val] 53)) wL.heap.size 53 (ca c) := Bk.new _ _ _
      have hzC : (wL.alloc (.cells #[.string c.row, .string c.col, .int .i64 c.time, .bool c.gone, .string c.val] 53)).heap.size = wL.heap.size + 1 := by simp
      have HBC := hide hbelC
      have HP0 := hide hP0
      have HZC := hide hzC
      clear hat hc hbelC hP0 hzC
      go_wp2_with fail
      go_loopw [7, 8] (fun ov jv wr => ∃ j : Nat, j ≤ k ∧ jv = .int .i64 j ∧ ov = .bool (oldB t c (J.take j)) ∧ Below (wL.heap.size + 1) (wL.alloc (.cells #[.string c.row, .string c.col, .int .i64 c.time, .bool c.gone, .string c.val] 53)) wr)
        (fun _ jv _ => k - (intOf jv).toNat)
      case atStart => exact ⟨0, by omega, rfl, rfl, Below.refl _ _⟩
      case round =>
        obtain ⟨j, hj, rfl, rfl, hb2⟩ := hrel
        have hbw : Below w.heap.size w wr := HBC.out.trans (hb2.mono (by omega))
        clear l0 s0 b0 c0 c1 c2 c3 c4
        obtain ⟨l0, s0, b0⟩ := HKEEP.out wr hbw
        have hP := HP0.out.below hb2 (by omega)
        obtain ⟨c0, c1, c2, c3, c4⟩ := hP.facts
        have hzP := hP.lt
        by_cases hjk : j < k
        · obtain ⟨y, hy⟩ : ∃ y, J[j]? = some y := ⟨_, List.getElem?_eq_getElem (by omega)⟩
          obtain ⟨b9, off9, he9, _, hat⟩ := hv.hereD hy
          simp only [Option.some.injEq, Addr.mk.injEq, and_true] at he9
          obtain ⟨rfl, rfl⟩ := he9
          obtain ⟨d0, d1, d2, d3, d4⟩ := hat.below hbw
          have hj1 : (0 : Int) ≤ (j : Int) := by omega
          have hj2 : (j : Int) < (J.length : Int) := by omega
          have hjd : decide ((j : Int) < (k : Int)) = true := by simp; omega
          have hjd2 : decide (j < k) = true := by simp; omega
          have HST := hide (oldB_step (t := t) (x := c) hy)
          have HSP : Hid (sameP t c y = ((y.row.toList == c.row.toList) && (y.col.toList == c.col.toList) && decide (y.time ≤ t))) := hide rfl
          clear hy hat hP
          have hcs : oldB t c (J.take j) = true ∨ oldB t c (J.take j) = false ∧ ((y.row.toList == c.row.toList) = false ∨ (y.row.toList == c.row.toList) = true ∧ ((y.col.toList == c.col.toList) = false ∨ (y.col.toList == c.col.toList) = true ∧ (decide (y.time ≤ t) = false ∨ decide (y.time ≤ t) = true))) := by
            cases oldB t c (J.take j) <;> cases (y.row.toList == c.row.toList) <;> cases (y.col.toList == c.col.toList) <;> cases decide (y.time ≤ t) <;> simp
          rcases hcs with e1 | ⟨e1, e2 | ⟨e2, e3 | ⟨e3, e4 | e4⟩⟩⟩
          · have HR : Hid (oldB t c (J.take (j + 1)) = true) := hide (by rw [HST.out, e1]; rfl)
            rw [e1]
            go_wp2_with fail
            go_quiet (fail)
            go_wp2_with fail
            go_roundw
            case rel => exact ⟨j + 1, by omega, by go_num, by rw [HR.out], below_drewN hb2 _⟩
            case measure => simp [intOf]; omega
          · have HR : Hid (oldB t c (J.take (j + 1)) = false) := hide (by rw [HST.out, HSP.out, e1, e2]; rfl)
            rw [e1]
            go_wp2_with fail
            go_quiet (fail)
            go_wp2_with fail
            go_roundw
            case rel => exact ⟨j + 1, by omega, by go_num, by rw [HR.out], below_drewN hb2 _⟩
            case measure => simp [intOf]; omega
          · have HR : Hid (oldB t c (J.take (j + 1)) = false) := hide (by rw [HST.out, HSP.out, e1, e2, e3]; rfl)
            rw [e1]
            go_wp2_with fail
            go_quiet (fail)
            go_wp2_with fail
            go_roundw
            case rel => exact ⟨j + 1, by omega, by go_num, by rw [HR.out], below_drewN hb2 _⟩
            case measure => simp [intOf]; omega
          · have HR : Hid (oldB t c (J.take (j + 1)) = false) := hide (by rw [HST.out, HSP.out, e1, e2, e3, e4]; rfl)
            rw [e1]
            go_wp2_with fail
            go_quiet (fail)
            go_wp2_with fail
            go_roundw
            case rel => exact ⟨j + 1, by omega, by go_num, by rw [HR.out], below_drewN hb2 _⟩
            case measure => simp [intOf]; omega
          · have HR : Hid (oldB t c (J.take (j + 1)) = true) := hide (by rw [HST.out, HSP.out, e1, e2, e3, e4]; rfl)
            rw [e1]
            go_wp2_with fail
            go_quiet (fail)
            go_wp2_with fail
            go_roundw
            case rel => exact ⟨j + 1, by omega, by go_num, by rw [HR.out], below_drewN hb2 _⟩
            case measure => simp [intOf]; omega
        · have hje : j = k := by omega
          subst hje
          have hjd : decide ((j : Int) < (j : Int)) = false := by simp
          have hjd2 : decide (j < j) = false := by simp
          have how2 := owns_below (hown.alloc (.cells #[.string c.row, .string c.col, .int .i64 c.time, .bool c.gone, .string c.val] 53)) (show Below (wL.alloc (.cells #[.string c.row, .string c.col, .int .i64 c.time, .bool c.gone, .string c.val] 53)).heap.size (wL.alloc (.cells #[.string c.row, .string c.col, .int .i64 c.time, .bool c.gone, .string c.val] 53)) wr by rw [HZC.out]; exact hb2)
          have hl8 : acc.length ≤ 100000000 := by omega
          have hb8 : w.heap.size ≤ wr.heap.size := hbw.size
          have hkb : keepB t wh (J.take j) c = !(decide (c.time ≤ t) && (oldB t c (J.take j) || (c.gone && wh))) := rfl
          generalize oldB t c (J.take j) = ob at *
          have hcs : decide (c.time ≤ t) = false ∨ decide (c.time ≤ t) = true ∧ (ob = true ∨ ob = false ∧ (c.gone = false ∨ c.gone = true ∧ (wh = false ∨ wh = true))) := by
            cases decide (c.time ≤ t) <;> cases ob <;> cases c.gone <;> cases wh <;> simp
          clear hP
          rcases hcs with e1 | ⟨e1, e2 | ⟨e2, e3 | ⟨e3, e4 | e4⟩⟩⟩
          · have HKB : Hid (keepB t wh (J.take j) c = true) := hide (by rw [hkb, e1]; rfl)
            clear hkb
            go_wp2_with (at_builtin; go_must (refine wpList_append_oneC (c := c) how2 Try.underlying22 Try.info53 rfl rfl rfl rfl rfl hl8 (by decide) hb8 ?_); intro v4 w4 ho4 hb4 hg4; clear hg4)
            go_roundw
            case rel => exact ⟨j + 1, acc ++ [c], by omega, by go_num, by rw [docUp_hit HC.out HKB.out, ← HAC.out], by simp; omega, by simpa using ho4, hbw.trans hb4⟩
            case measure => simp [intOf]; omega
          · have HKB : Hid (keepB t wh (J.take j) c = false) := hide (by rw [hkb, e1, e2]; rfl)
            clear hkb
            rw [e2]
            go_wp2_with fail
            go_roundw
            case rel => exact ⟨j + 1, acc, by omega, by go_num, by rw [docUp_miss HC.out HKB.out]; exact HAC.out, by omega, how2, hbw⟩
            case measure => simp [intOf]; omega
          · have HKB : Hid (keepB t wh (J.take j) c = true) := hide (by rw [hkb, e1, e2, e3]; rfl)
            clear hkb
            rw [e2]
            have HCE : Hid ((⟨c.row, c.col, c.time, false, c.val⟩ : Cl) = c) := hide (by rw [← e3])
            go_wp2_with (at_builtin; go_must (refine wpList_append_oneC (c := ⟨c.row, c.col, c.time, false, c.val⟩) how2 Try.underlying22 Try.info53 rfl rfl rfl rfl rfl hl8 (by decide) hb8 ?_); intro v4 w4 ho4 hb4 hg4; clear hg4)
            rw [HCE.out] at ho4
            go_roundw
            case rel => exact ⟨j + 1, acc ++ [c], by omega, by go_num, by rw [docUp_hit HC.out HKB.out, ← HAC.out], by simp; omega, by simpa using ho4, hbw.trans hb4⟩
            case measure => simp [intOf]; omega
          · have HKB : Hid (keepB t wh (J.take j) c = true) := hide (by rw [hkb, e1, e2, e3, e4]; rfl)
            clear hkb
            rw [e2]
            have HCE : Hid ((⟨c.row, c.col, c.time, true, c.val⟩ : Cl) = c) := hide (by rw [← e3])
            go_wp2_with (at_builtin; go_must (refine wpList_append_oneC (c := ⟨c.row, c.col, c.time, true, c.val⟩) how2 Try.underlying22 Try.info53 rfl rfl rfl rfl rfl hl8 (by decide) hb8 ?_); intro v4 w4 ho4 hb4 hg4; clear hg4)
            rw [HCE.out] at ho4
            go_roundw
            case rel => exact ⟨j + 1, acc ++ [c], by omega, by go_num, by rw [docUp_hit HC.out HKB.out, ← HAC.out], by simp; omega, by simpa using ho4, hbw.trans hb4⟩
            case measure => simp [intOf]; omega
          · have HKB : Hid (keepB t wh (J.take j) c = false) := hide (by rw [hkb, e1, e2, e3, e4]; rfl)
            clear hkb
            rw [e2]
            go_wp2_with fail
            go_roundw
            case rel => exact ⟨j + 1, acc, by omega, by go_num, by rw [docUp_miss HC.out HKB.out]; exact HAC.out, by omega, how2, hbw⟩
            case measure => simp [intOf]; omega
    · have hke : k = J.length := by omega
      subst hke
      go_wp2_with fail
      go_ret
      exact ⟨_, rfl, by rw [← HAC.out]; exact RdC.ofOwns hown, hbel⟩

end Go.Proofs.Ytlebbkbbmgmmjac
