/-
  The walks over package coding's reader: numbers.
-/
import Derived.Test.YtlebbkbbmgmmjabCodeW1
namespace Go.Proofs.Ytlebbkbbmgmmjab
open Go.RowKit

/-- What Num answers. -/
def numVC : Option (Nat × Nat) → Value
  | none => .tuple #[.int .i64 0, .bool false]
  | some (n, _) => .tuple #[.int .i64 n, .bool true]

def numKC : Option (Nat × Nat) → Nat
  | none => 0
  | some (_, k) => k

set_option maxRecDepth 100000 in
set_option maxHeartbeats 1000000 in
theorem Num_any (t : TypeId) (R : Nat) (v : Value) (bs : List UInt8) (k : Nat) (w : World) (hrd : Rd w v (bc bs)) (hr : RdrT w t R v k) (hk : k ≤ bs.length) :
    Calls Try.prog 83 #[.pointer (some ⟨R, 0, none⟩)] w fun e w' => e = .returned (numVC (numAt (bs.drop k))) ∧ RdrT w' t R v (k + numKC (numAt (bs.drop k)) : Nat) ∧ w.grownBy w' (some R) := by
  obtain ⟨ao, cap, hvv, hc1, hc2⟩ := hrd.shape
  rw [bc_length] at hc1 hvv
  have hr0 := hr
  rw [hvv] at hr0
  unfold maxLen at hc2
  have hlen : bs.length - k = (bs.drop k).length := by simp
  have hM : (5 : Int) ≤ ((bs.drop k).length : Int) ∨ ((bs.drop k).length : Int) < 5 := by omega
  have hlb : k + (bs.drop k).length = bs.length := by simp; omega
  have HREST := hide (Rest_any t R v bs k w hrd hr hk)
  rw [hlen] at HREST
  generalize bs.drop k = ts at hM hlb HREST ⊢
  have HR0 := hide hr0
  have HR := hide hr
  have HV := hide hvv
  clear hr0 hr hvv hrd hlen hk
  rcases hM with hM | hM
  all_goals
    go_enter Try.func83, Try.ntmps83
    go_wp2_with fail
    refine HREST.out.mono ?_
    rintro e w1 ⟨⟨vo, vc, rfl, hV, _⟩, q, rfl⟩
    obtain ⟨ao2, cap2, hvv2, hd1, hd2, hcell⟩ := hV.open
    rw [bc_length] at hvv2 hd1 hcell
    simp only [Value.slice.injEq, true_and] at hvv2
    obtain ⟨rfl, rfl⟩ := hvv2
    unfold maxLen at hd2
    clear hV
    go_wp2_with fail
    go_loopw [5, 12] (fun n i wr => ∃ (j acc : Nat), j ≤ 5 ∧ j ≤ ts.length ∧ i = .int .i64 j ∧ n = .int .i64 acc ∧ acc < 128 ^ j ∧ readNum (5 - j) j acc (ts.drop j) = numAt ts ∧ ∃ q, wr = w.drewN q)
      (fun _ i _ => 5 - (intOf i).toNat)
    case atStart => exact ⟨0, 0, by omega, by omega, rfl, rfl, by omega, rfl, _, rfl⟩
    case round =>
      obtain ⟨j, acc, hj, hkj, rfl, rfl, hacc, hgo, q', rfl⟩ := hrel
      have HG := hide hgo
      have HA := hide hacc
      clear hgo hacc
      by_cases hlt : j < 5 ∧ j < ts.length
      · obtain ⟨hl1, hl2⟩ := hlt
        obtain ⟨b, off, rfl, hb, hcl⟩ := hcell j hl2
        obtain ⟨x, hx⟩ : ∃ x : UInt8, ts[j] = x := ⟨_, rfl⟩
        have hck : w.cell? ⟨b, off + j, none⟩ = some (.int .u8 (x.toNat : Int)) := hcl j _ (by simp [bc, hl2, hx])
        have hxl : x.toNat < 256 := x.toNat_lt
        have HX := hide hx
        clear hx hcl hcell
        go_upto_region 7 with fail
        have hval := num_val acc x.toNat j hxl (by omega) HA.out
        have hNb := num_bound acc x.toNat j HA.out
        have hN35 : 128 ^ (j + 1) ≤ 34359738368 := by have := pow128_le j (by omega); rw [Nat.pow_succ]; omega
        have hgo := HG.out
        rw [drop_cons ts j hl2, HX.out, show 5 - j = (4 - j) + 1 by omega] at hgo
        have hmore := fun h => @readNum_more (4 - j) j acc x (ts.drop (j + 1)) h
        have hnone := fun h => @readNum_none (4 - j) j acc x (ts.drop (j + 1)) h
        have hsome := fun h => @readNum_some (4 - j) j acc x (ts.drop (j + 1)) h
        rw [hgo] at hmore hnone hsome
        generalize acc + x.toNat % 128 * 128 ^ j = N at hval hNb hmore hnone hsome
        have hN : (N : Int) < 34359738368 := by omega
        have HNB := hide hNb
        clear hNb hgo hN35
        by_cases h128 : (128 : Int) ≤ (x.toNat : Int)
        · have HM := hide (hmore (by omega))
          clear hmore hnone hsome
          go_wp2_with fail
          go_roundw
          case rel => exact ⟨j + 1, N, by omega, by omega, by go_num, by rw [hval], HNB.out, by rw [HM.out, show 5 - (j + 1) = 4 - j by omega], _, rfl⟩
          case measure => simp [intOf]; omega
        · have hcases : ((((x.toNat : Int) == 0) = true ∧ (0 : Int) < j) ∨ (((x.toNat : Int) == 0) = true ∧ decide (0 < j) = false) ∨ (((x.toNat : Int) == 0) = false)) := by
            by_cases h0 : (x.toNat : Int) = 0
            · by_cases h1 : (0 : Int) < j
              · exact .inl ⟨beq_iff_eq.2 h0, h1⟩
              · exact .inr (.inl ⟨beq_iff_eq.2 h0, decide_eq_false (by omega)⟩)
            · exact .inr (.inr (beq_eq_false_iff_ne.2 h0))
          have hsplit : (1000000000 : Int) < N ∨ (N : Int) ≤ 1000000000 := by omega
          clear hN
          rcases hcases with ⟨hx0, hj0⟩ | ⟨hx0, hj0⟩ | hx0
          · have HM := hide (hnone (by omega) (.inl ⟨by have := beq_iff_eq.1 hx0; omega, by omega⟩))
            clear hmore hnone hsome hsplit
            go_wp2_with fail
            go_ret2
            exact ⟨by rw [HM.out]; rfl, by rw [HM.out]; exact HR.out, grownT_drewN _ _ _⟩
          all_goals
            rcases hsplit with hN10 | hN10
          · have HM := hide (hnone (by omega) (.inr (by omega)))
            clear hmore hnone hsome
            go_wp2_with fail
            go_ret2
            exact ⟨by rw [HM.out]; rfl, by rw [HM.out]; exact HR.out, grownT_drewN _ _ _⟩
          · have HM := hide (hsome (by omega) (by have := of_decide_eq_false hj0; omega))
            clear hmore hnone hsome
            go_wp2_with fail
            rw [show ((j : Int) + 1) = ((j + 1 : Nat) : Int) by omega]
            refine (Skip_ok t R ao bs.length cap k (j + 1) (w.drewN q') HR0.out (by omega) (by omega)).mono ?_
            rintro e w2 ⟨rfl, hr2, hg2⟩
            go_wp2_with fail
            go_ret2
            exact ⟨by rw [HM.out]; rfl, by rw [HM.out, HV.out]; exact hr2, grownT_trans (grownT_drewN _ _ _) hg2⟩
          · have HM := hide (hnone (by omega) (.inr (by omega)))
            clear hmore hnone hsome
            go_wp2_with fail
            go_ret2
            exact ⟨by rw [HM.out]; rfl, by rw [HM.out]; exact HR.out, grownT_drewN _ _ _⟩
          · have HM := hide (hsome (by omega) (by have := beq_eq_false_iff_ne.1 hx0; omega))
            clear hmore hnone hsome
            go_wp2_with fail
            rw [show ((j : Int) + 1) = ((j + 1 : Nat) : Int) by omega]
            refine (Skip_ok t R ao bs.length cap k (j + 1) (w.drewN q') HR0.out (by omega) (by omega)).mono ?_
            rintro e w2 ⟨rfl, hr2, hg2⟩
            go_wp2_with fail
            go_ret2
            exact ⟨by rw [HM.out]; rfl, by rw [HM.out, HV.out]; exact hr2, grownT_trans (grownT_drewN _ _ _) hg2⟩
      · go_wp2_with fail
        go_ret2
        have hnil : readNum (5 - j) j acc (ts.drop j) = none := by
          by_cases h5 : j = 5
          · subst h5; rfl
          · rw [List.drop_eq_nil_of_le (by omega)]; exact readNum_short
        exact ⟨by rw [← HG.out, hnil]; rfl, by rw [← HG.out, hnil]; exact HR.out, grownT_drewN _ _ _⟩

end Go.Proofs.Ytlebbkbbmgmmjab
