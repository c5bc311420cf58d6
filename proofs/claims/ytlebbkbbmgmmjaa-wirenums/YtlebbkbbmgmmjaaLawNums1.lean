/-
  The law WireNums: its parts.
-/
import Derived.Test.YtlebbkbbmgmmjaaRefW3
import Derived.Test.YtlebbkbbmgmmjaaLawBack
import Derived.Deep.CutBlock
namespace Go.Proofs.Ytlebbkbbmgmmjaa
open Go.RowKit

theorem cell_below {w w' : World} {a : Addr} {v : Value} (h : w.cell? a = some v) (hb : Below w.heap.size w w') : w'.cell? a = some v :=
  (hb.cell (World.block_lt_of_cell? w _ h)).trans h

theorem flat_snoc (zs : List Int) (k : Nat) (h : k < zs.length) : flat (zs.take (k + 1)) = flat (zs.take k) ++ encN zs[k].toNat := by
  rw [List.take_succ_eq_append_getElem h]
  simp only [flat, List.flatMap_append, List.flatMap_cons, List.flatMap_nil, List.append_nil]

set_option maxRecDepth 100000 in
set_option maxHeartbeats 400000 in
theorem WireNums1_any (L : Nat) (v : Value) (zs : List Int) (w : World) (hc : w.cell? ⟨L, 0, none⟩ = some v) (hrd : Rd w v (ic zs)) (hl : zs.length ≤ 1000) (hok : ∀ z ∈ zs, okNum z) :
    Calls Try.prog 16 #[.pointer (some ⟨L, 0, none⟩)] w fun e w' => ∃ v', e = .returned v' ∧ Rd w' v' (bc (flat zs)) ∧ Below w.heap.size w w' ∧ New w.heap.size v' := by
  obtain ⟨ao, cap, hv, hc1, hc2, hcell⟩ := hrd.open
  rw [ic_length] at hc1 hcell hv
  subst hv
  unfold maxLen at hc2
  have hLs := World.block_lt_of_cell? w _ hc
  simp only at hLs
  have HOK := hide hok
  clear hok
  go_enter Try.func16, Try.ntmps16
  go_wp2_with fail
  go_loopw [2, 3] (fun o i wr => ∃ k : Nat, k ≤ zs.length ∧ i = .int .i64 k ∧ (flat (zs.take k)).length ≤ 5 * k ∧ wr.ownsRow w.heap.size 5 1 o (flat (zs.take k)).length (bc (flat (zs.take k))) ∧ Below w.heap.size w wr) (fun _ i _ => zs.length - (intOf i).toNat)
  case atStart => exact ⟨0, by omega, rfl, by simp [flat], World.ownsRow_nil _ _ _ _, Below.refl _ _⟩
  case round =>
    obtain ⟨k, hk, rfl, hfl, hown, hbel⟩ := hrel
    have hcw : wr.cell? ⟨L, 0, none⟩ = some (.slice ao zs.length cap) := by rw [hbel.cell (by exact hLs)]; exact hc
    have hsz := hbel.size
    by_cases hlt : k < zs.length
    · obtain ⟨b, off, rfl, hb, hcl⟩ := hcell k hlt
      have hck : wr.cell? ⟨b, off + k, none⟩ = some (.int .i64 zs[k]) := by
        rw [hbel.cell (by exact hb)]
        exact hcl k _ (by simp [ic, hlt])
      have hz := HOK.out zs[k] (List.getElem_mem hlt)
      unfold okNum at hz
      have hsn := flat_snoc zs k hlt
      have hel := enc_len_pow 9 4 zs[k].toNat (by omega)
      generalize zs[k] = z at *
      obtain ⟨m, rfl⟩ := Int.eq_ofNat_of_zero_le hz.1
      rw [Int.toNat_natCast] at hsn hel
      have HS := hide hsn
      clear hsn hcell hcl
      generalize flat (zs.take k) = acc at *
      go_wp2_with fail
      refine (Number_any m _ (by omega)).mono ?_
      rintro e w1 ⟨v1, rfl, hr1, hb1, _⟩
      have hown1 := owns_below hown hb1
      have hbel1 := hbel.trans (hb1.mono hsz)
      have hsz1 := hbel1.size
      have hel' : (encN m).length ≤ 5 := hel
      go_wp2_with (at_builtin; go_must (refine wpList_append_rd hown1 hr1 Try.underlying23 Try.info5 rfl rfl rfl rfl rfl (bc_one _) (by rw [bc_length]; omega) (by decide) hsz1 ?_); intro v2 w2 ho2 hb2 hg2; clear hg2)
      rw [← bc_append, bc_length, ← List.length_append] at ho2
      go_roundw
      case rel => exact ⟨k + 1, by omega, by go_num, by rw [HS.out]; simp; omega, by rw [HS.out]; exact ho2, hbel1.trans hb2⟩
      case measure => simp [intOf]; omega
    · go_wp2_with fail
      go_ret
      rw [List.take_of_length_le (by omega)] at hown
      exact ⟨_, rfl, Rd.ofOwns hown, hbel, New.owns hown⟩

set_option maxRecDepth 100000 in
set_option maxHeartbeats 400000 in
theorem bytesAs15_ok (L : Nat) (v x : Value) (zs : List Int) (bs : List UInt8) (w : World) (hc : w.cell? ⟨L, 0, none⟩ = some v) (hrd : Rd w v (ic zs)) (hl : zs.length ≤ 1000) (hok : ∀ z ∈ zs, okNum z) (hx : Rd w x (bc bs)) :
    Calls Try.prog 15 #[x, flt 0 0, flt 0 0, .func (.func 16) #[] #[.pointer (some ⟨L, 0, none⟩)]] w fun e w' => e = .returned (.bool (bs == flat zs)) ∧ Below w.heap.size w w' := by
  simp only [flt]
  go_enter Try.func15, Try.ntmps15
  go_wp2_with fail
  refine (WireNums1_any L v zs _ ?_ ((hrd.alloc _).alloc _) hl hok).mono ?_
  · exact cell_below hc (((Below.refl _ _).alloc (Nat.le_refl _) _).alloc (by simp) _)
  rintro e w1 ⟨v1, rfl, hr1, hb1, _⟩
  have hb1w : Below w.heap.size w w1 := (((Below.refl _ _).alloc (Nat.le_refl _) _).alloc (by simp) _).trans (hb1.mono (by simp; omega))
  go_wp2_with fail
  refine (Same_any _ _ bs (flat zs) _ (hx.below hb1w) hr1).mono ?_
  rintro e w2 ⟨rfl, rfl⟩
  go_wp2_with fail
  go_ret
  exact ⟨rfl, hb1w⟩

set_option maxRecDepth 100000 in
set_option maxHeartbeats 400000 in
/-- Where there is a fault the bytes must be none: whatever function is handed. -/
theorem bytesAs_bad (x fv : Value) (c a : Int) (w : World) (hc : c ≠ 0) (hx : Rd w x (bc [])) :
    Calls Try.prog 15 #[x, flt c a, flt c a, fv] w fun e w' => e = .returned (.bool true) ∧ Below w.heap.size w w' := by
  obtain ⟨ao, cap, hv, hc1, hc2, _⟩ := hx.open
  rw [bc_length] at hc1 hv
  subst hv
  have hcb : (c != 0) = true := by simp [hc]
  clear hc
  simp only [flt]
  go_enter Try.func15, Try.ntmps15
  go_wp2_with fail
  go_ret
  exact ⟨rfl, by go_grown⟩

end Go.Proofs.Ytlebbkbbmgmmjaa
