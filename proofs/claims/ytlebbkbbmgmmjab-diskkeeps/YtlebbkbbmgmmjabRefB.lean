/-
  The walk over the document's comparison of bodies; a list of bodies cut.
-/
import Derived.Test.YtlebbkbbmgmmjabTornMath
import Derived.Test.YtlebbkbbmgmmjabLawNums
namespace Go.Proofs.Ytlebbkbbmgmmjab
open Go.RowKit

theorem RdB.alloc {w : World} {v : Value} {bb : List (List UInt8)} (h : RdB w v bb) (o : Obj) : RdB (w.alloc o) v bb := h.below ((Below.refl _ _).alloc (Nat.le_refl _) o)
theorem RdB.upto {w : World} {ao : Option Addr} {n cap hi : Nat} {bb : List (List UInt8)} (h : RdB w (.slice ao n cap) bb) (h1 : hi ≤ n) : RdB w (Go.sliced ao 0 hi cap 1) (bb.take hi) := by
  obtain ⟨vs, h2, h3, h4⟩ := h
  refine ⟨vs.take hi, h2.upto h1, by simp [h3], fun i u b hu hb => ?_⟩
  rw [List.getElem?_take] at hu hb
  split at hu
  · rename_i hi'
    rw [if_pos hi'] at hb
    exact h4 i u b hu hb
  · cases hu

set_option maxRecDepth 100000 in
set_option maxHeartbeats 400000 in
theorem SameBodies_any (u v : Value) (xs ys : List (List UInt8)) (w : World) (h1 : RdB w u xs) (h2 : RdB w v ys) :
    Calls Try.prog 18 #[u, v] w fun e w' => e = .returned (.bool (xs == ys)) ∧ ∃ q, w' = w.drewN q := by
  obtain ⟨ao, cap, rfl, hc1, hc2, hcell⟩ := h1.open
  obtain ⟨bo, cbp, rfl, hd1, hd2, hdell⟩ := h2.open
  unfold maxLen at hc2 hd2
  clear h1 h2
  by_cases hl : xs.length = ys.length
  · have hlb : ((xs.length : Int) != (ys.length : Int)) = false := by simp [hl]
    have HL := hide hl
    clear hl
    go_enter Try.func18, Try.ntmps18
    go_wp2_with fail
    go_loopw [5] (fun i wr => ∃ k : Nat, k ≤ xs.length ∧ i = .int .i64 k ∧ xs.take k = ys.take k ∧ ∃ q, wr = w.drewN q) (fun i _ => xs.length - (intOf i).toNat)
    case atStart => exact ⟨0, by omega, rfl, rfl, 0, rfl⟩
    case round =>
      obtain ⟨k, hk, rfl, ht, q, rfl⟩ := hrel
      have HT := hide ht
      clear ht
      by_cases hlt : k < xs.length
      · have hlt2 : k < ys.length := by have := HL.out; omega
        obtain ⟨b, off, x, rfl, hb, hck, hrx⟩ := hcell k hlt
        obtain ⟨b', off', y, rfl, hb', hck', hry⟩ := hdell k hlt2
        have hno := fun h => @beq_no_at _ _ _ xs ys k hlt hlt2 h
        have hyes := fun h => @take_ext _ xs ys k HT.out hlt hlt2 h
        clear hcell hdell
        generalize xs[k] = xk at *
        generalize ys[k] = yk at *
        have HNO := hide hno
        have HYE := hide hyes
        clear hno hyes
        have HSM := hide (fun q => Same_any x y xk yk (w.drewN q) (hrx.drewN q) (hry.drewN q))
        by_cases hxy : xk = yk
        · have hb1 : (xk == yk) = true := beq_iff_eq.2 hxy
          have HXY := hide hxy
          clear hxy
          go_wp2_with fail
          go_quiet (first | (go_at_call 14; exact Calls.quiet_of_same (HSM.out _)) | (go_at_call 14; exact quiet_add (HSM.out _)))
          go_wp2_with fail
          go_roundw
          case rel => exact ⟨k + 1, by omega, by go_num, HYE.out HXY.out, _, rfl⟩
          case measure => simp [intOf]; omega
        · have hb1 : (xk == yk) = false := beq_eq_false_iff_ne.2 hxy
          have HXY := hide hxy
          clear hxy
          go_wp2_with fail
          go_quiet (first | (go_at_call 14; exact Calls.quiet_of_same (HSM.out _)) | (go_at_call 14; exact quiet_add (HSM.out _)))
          go_wp2_with fail
          go_ret
          exact ⟨by rw [HNO.out HXY.out]; rfl, q + nq, drewN_add _ _ _⟩
      · go_wp2_with fail
        go_ret
        exact ⟨by rw [beq_of_take HT.out (by omega) (by have := HL.out; omega)]; rfl, _, rfl⟩
  · have hlb : ((xs.length : Int) != (ys.length : Int)) = true := by simp; omega
    have HL := hide hl
    clear hl
    go_enter Try.func18, Try.ntmps18
    go_wp2_with fail
    go_ret
    exact ⟨by rw [beq_no_len HL.out]; rfl, 0, rfl⟩

set_option maxRecDepth 100000 in
set_option maxHeartbeats 400000 in
theorem ownBytesO_any (v : Value) (zs : List UInt8) (w : World) (h : Rd w v (bc zs)) (hl : zs.length ≤ 1000000000) :
    Calls Try.prog 12 #[v] w fun e w' => ∃ v', e = .returned v' ∧ w'.ownsRow w.heap.size 5 1 v' zs.length (bc zs) ∧ Below w.heap.size w w' := by
  go_enter Try.func12, Try.ntmps12
  go_wp2_with (at_builtin; go_must (refine wpList_append_rd (World.ownsRow_nil w w.heap.size 5 1) h Try.underlying25 Try.info5 rfl rfl rfl rfl rfl (bc_one _) (by rw [bc_length]; omega) (by decide) (Nat.le_refl _) ?_); intro v1 w1 ho1 hb1 hg1; clear hg1)
  go_ret
  exact ⟨v1, rfl, by simpa [bc_length] using ho1, hb1⟩

end Go.Proofs.Ytlebbkbbmgmmjab
