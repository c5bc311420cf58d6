/-
  The walks over package wire's writers.
-/
import Derived.Test.YtlebbkbbmgmmjaaCodeW1
namespace Go.Proofs.Ytlebbkbbmgmmjaa
open Go.RowKit

theorem Try.info5 : (Try.prog.info? 5).map (fun i => (i.zero, i.size, i.bytes)) = some (some (.int .u8 0), 1, 1) := by kernel_rfl
theorem Try.info3 : (Try.prog.info? 3).map (fun i => (i.zero, i.size, i.bytes)) = some (some (.int .i64 0), 1, 8) := by kernel_rfl

/-- A fault, as a value. -/
def flt (c a : Int) : Value := .agg #[.int .i64 c, .int .i64 a]

set_option maxRecDepth 100000 in
set_option maxHeartbeats 400000 in
theorem Nums_any (v : Value) (zs : List Int) (w : World) (hrd : Rd w v (ic zs)) :
    Calls Try.prog 10 #[v] w fun e w' => ∃ v', e = .returned (.tuple #[v', flt (numsR zs).2.1 (numsR zs).2.2]) ∧ Rd w' v' (bc (numsR zs).1) ∧ Below w.heap.size w w' ∧ New w.heap.size v' := by
  obtain ⟨ao, cap, rfl, hc1, hc2, hcell⟩ := hrd.open
  rw [ic_length] at hc1 hcell ⊢
  unfold maxLen at hc2
  by_cases hbig : 1000 < zs.length
  · go_enter Try.func10, Try.ntmps10
    go_wp2_with fail
    exact bodyPost_ret (v := .tuple #[.slice none 0 0, flt 2 0]) (by simp [results, Try.results10, go_sem, flt]) rfl ⟨.slice none 0 0, by simp [numsR, hbig], by simp [numsR, hbig, bc]; exact Rd.nil _, by go_grown, New.nil _⟩
  · go_enter Try.func10, Try.ntmps10
    go_wp2_with fail
    go_loopw [4, 13] (fun o i wr => ∃ (k : Nat) (acc : List UInt8), k ≤ zs.length ∧ i = .int .i64 k ∧ numsGo (zs.drop k) k acc = numsR zs ∧ acc.length ≤ 10 * k ∧ wr.ownsRow (w.heap.size + 1) 5 1 o acc.length (bc acc) ∧ Below (w.heap.size + 1) (w.alloc (.cells #[.int .i64 0, .int .i64 0] 26)) wr)
      (fun _ i _ => zs.length - (intOf i).toNat)
    case atStart => exact ⟨0, [], by omega, rfl, by simp [numsR, hbig], by simp, World.ownsRow_nil _ _ _ _, Below.refl _ _⟩
    case round =>
      obtain ⟨k, acc, hk, rfl, hgo, hacc, hown, hbel⟩ := hrel
      have HG : Hid (numsGo (zs.drop k) k acc = numsR zs) := hgo
      clear hgo
      obtain ⟨hf0, hf1, hfr0, hfr1, hsz⟩ := two_later hbel
      by_cases hlt : k < zs.length
      · obtain ⟨b, off, rfl, hb, hcl⟩ := hcell k hlt
        have hck : wr.cell? ⟨b, off + k, none⟩ = some (.int .i64 zs[k]) := by
          rw [(below_first hbel).cell (by exact hb)]
          exact hcl k _ (by simp [ic, hlt])
        clear hcell hcl
        generalize hz : zs[k] = z at hck
        have HZ : Hid (zs[k] = z) := hz
        clear hz
        have hbf := below_first hbel
        by_cases h1 : z < 0
        · have e1 := numsGo_bad zs k acc hlt (by rw [HZ.out]; omega)
          have HE := hide e1
          clear e1
          go_wp2_with fail
          have e1 := unhide HE
          exact bodyPost_ret (v := .tuple #[.slice none 0 0, flt 3 k]) (by simp [results, Try.results10, go_sem, flt, hf0, hf1]) rfl ⟨.slice none 0 0, by rw [← HG.out, e1], by rw [← HG.out, e1]; exact Rd.nil _, by go_grown, New.nil _⟩
        · by_cases h2 : 1000000000 < z
          · have e1 := numsGo_bad zs k acc hlt (by rw [HZ.out]; omega)
            have HE := hide e1
            clear e1
            go_wp2_with fail
            have e1 := unhide HE
            exact bodyPost_ret (v := .tuple #[.slice none 0 0, flt 3 k]) (by simp [results, Try.results10, go_sem, flt, hf0, hf1]) rfl ⟨.slice none 0 0, by rw [← HG.out, e1], by rw [← HG.out, e1]; exact Rd.nil _, by go_grown, New.nil _⟩
          · have e1 := numsGo_step zs k acc hlt (by rw [HZ.out]; omega) (by rw [HZ.out]; omega)
            obtain ⟨m, rfl⟩ := Int.eq_ofNat_of_zero_le (show 0 ≤ z by omega)
            have HE := hide e1
            clear e1
            have hbw : w.heap.size + 1 ≤ wr.heap.size := by omega
            have hle : acc.length ≤ 100000000000 := by omega
            go_wp2_with fail
            refine (AppendNum_any _ acc m (w.heap.size + 1) wr hown hbw (by omega) hle).mono ?_
            rintro e w1 ⟨v1, rfl, hown1, hb1, _⟩
            go_wp2_with fail
            go_roundw
            case rel => exact ⟨k + 1, acc ++ encN zs[k].toNat, by omega, by go_num, (unhide HE).trans HG.out, by have := encN_length zs[k].toNat; simp; omega, by rw [HZ.out]; exact hown1, hbel.trans hb1⟩
            case measure => simp [intOf]; omega
      · have e1 := numsGo_end zs k acc (by omega)
        have HE := hide e1
        clear e1
        go_wp2_with fail
        have e1 := unhide HE
        have hbf := below_first hbel
        exact bodyPost_ret (v := .tuple #[u4, flt 0 0]) (by simp [results, Try.results10, go_sem, flt, hf0, hf1]) rfl ⟨u4, by rw [← HG.out, e1], by rw [← HG.out, e1]; exact Rd.ofOwns (ownsRow_setCell_below (ownsRow_setCell_below hown (by simp) _) (by simp) _), by go_grown, (New.owns hown).mono (by omega)⟩

end Go.Proofs.Ytlebbkbbmgmmjaa
