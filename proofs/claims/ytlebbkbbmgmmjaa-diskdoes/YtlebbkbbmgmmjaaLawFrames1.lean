/-
  The law WireFrames: its parts.
-/
import Derived.Test.YtlebbkbbmgmmjaaFramesUn
import Derived.Test.YtlebbkbbmgmmjaaLawTexts
namespace Go.Proofs.Ytlebbkbbmgmmjaa
open Go.RowKit

theorem OwnB.take_get {w : World} {base : Nat} {us : List Value} {bb : List (List UInt8)} (h : OwnB w base us bb) : us.length = bb.length := h.length

set_option maxRecDepth 100000 in
set_option maxHeartbeats 400000 in
theorem ownBodies_any (v : Value) (zs : List (List UInt8)) (w : World) (hrd : RdB w v zs) (hl : zs.length ≤ 3000) (hz : ∀ s ∈ zs, s.length ≤ 1000000) :
    Calls Try.prog 28 #[v] w fun e w' => ∃ v', e = .returned v' ∧ RdB w' v' zs ∧ Below w.heap.size w w' := by
  obtain ⟨ao, cap, rfl, hc1, hc2, hcell⟩ := hrd.open
  unfold maxLen at hc2
  have HZ := hide hz
  clear hz
  go_enter Try.func28, Try.ntmps28
  go_wp2_with fail
  go_loopw [3, 4] (fun o i wr => ∃ (k : Nat) (us : List Value), k ≤ zs.length ∧ i = .int .i64 k ∧ wr.ownsRow w.heap.size 23 1 o k us ∧ OwnB wr w.heap.size us (zs.take k) ∧ Below w.heap.size w wr) (fun _ i _ => zs.length - (intOf i).toNat)
  case atStart => exact ⟨0, [], by omega, rfl, World.ownsRow_nil _ _ _ _, trivial, Below.refl _ _⟩
  case round =>
    obtain ⟨k, us, hk, rfl, hown, hob, hbel⟩ := hrel
    have hsz := hbel.size
    by_cases hlt : k < zs.length
    · obtain ⟨b, off, x, rfl, hb, hck, hrx⟩ := hcell k hlt
      have hckr : wr.cell? ⟨b, off + k, none⟩ = some x := by rw [hbel.cell (by exact hb)]; exact hck
      have hrxr := hrx.below hbel
      have hzl := HZ.out zs[k] (List.getElem_mem hlt)
      have htk : zs.take (k + 1) = zs.take k ++ [zs[k]] := List.take_succ_eq_append_getElem hlt
      clear hcell hck hrx
      generalize zs[k] = z at *
      have HT := hide htk
      clear htk
      obtain ⟨ao2, cap2, hv2⟩ := owns_shape hown
      subst hv2
      go_wp2_with fail
      refine (ownBytesO_any _ z _ hrxr (by omega)).mono ?_
      rintro e w1 ⟨v1, rfl, ho1, hb1⟩
      have hown1 := owns_below hown hb1
      have hob1 := hob.keep (fun u n xs h => owns_below h hb1)
      have hbel1 := hbel.trans (hb1.mono hsz)
      have hsz1 := hbel1.size
      have ho1' := owns_base (base := w.heap.size) ho1 hsz
      obtain ⟨ao3, cap3, hv3⟩ := owns_shape ho1'
      subst hv3
      have ho1o := owns_one ho1'
      have hk3 : k ≤ 1000000000000 := by omega
      go_wp2_with (at_builtin; go_must (refine wpList_append_one hown1 Try.underlying50 Try.info23 rfl rfl rfl rfl rfl ho1o hk3 (by decide) hsz1 ?_); intro v2 w2 ho2 hb2 hg2)
      have hob2 := (hob1.snoc ho1').keep (fun u n xs h => owns_other (by decide) h hown1 hg2)
      go_roundw
      case rel => exact ⟨k + 1, _, by omega, by go_num, ho2, by rw [HT.out]; exact hob2, hbel1.trans hb2⟩
      case measure => simp [intOf]; omega
    · obtain rfl : k = zs.length := by omega
      rw [List.take_length] at hob
      go_wp2_with fail
      go_ret
      exact ⟨_, rfl, (rdBN_of hown hob (Nat.le_refl _)).toB, hbel⟩

set_option maxRecDepth 100000 in
set_option maxHeartbeats 400000 in
theorem WireFrames1_any (L : Nat) (v : Value) (zs : List (List UInt8)) (w : World) (hc : w.cell? ⟨L, 0, none⟩ = some v) (hrd : RdB w v zs) (hl : zs.length ≤ 1000) (hfl : (flatF zs).length ≤ 60000) :
    Calls Try.prog 33 #[.pointer (some ⟨L, 0, none⟩)] w fun e w' => ∃ v', e = .returned v' ∧ Rd w' v' (bc (flatF zs)) ∧ Below w.heap.size w w' := by
  obtain ⟨ao, cap, rfl, hc1, hc2, hcell⟩ := hrd.open
  unfold maxLen at hc2
  have hLs := World.block_lt_of_cell? w _ hc
  simp only at hLs
  have HFL := hide hfl
  clear hfl
  go_enter Try.func33, Try.ntmps33
  go_wp2_with fail
  go_loopw [2, 3] (fun o i wr => ∃ k : Nat, k ≤ zs.length ∧ i = .int .i64 k ∧ wr.ownsRow w.heap.size 5 1 o (flatF (zs.take k)).length (bc (flatF (zs.take k))) ∧ Below w.heap.size w wr) (fun _ i _ => zs.length - (intOf i).toNat)
  case atStart => exact ⟨0, by omega, rfl, World.ownsRow_nil _ _ _ _, Below.refl _ _⟩
  case round =>
    obtain ⟨k, hk, rfl, hown, hbel⟩ := hrel
    have hcw : wr.cell? ⟨L, 0, none⟩ = some (.slice ao zs.length cap) := by rw [hbel.cell (by exact hLs)]; exact hc
    have hsz := hbel.size
    by_cases hlt : k < zs.length
    · obtain ⟨b, off, x, rfl, hb, hck, hrx⟩ := hcell k hlt
      have hckr : wr.cell? ⟨b, off + k, none⟩ = some x := by rw [hbel.cell (by exact hb)]; exact hck
      have hrxr := hrx.below hbel
      have hsn := flatF_snoc zs k hlt
      have hsp := flatF_split zs (k + 1)
      rw [hsn] at hsp
      have hfll := HFL.out
      rw [hsp, List.length_append, List.length_append, framed_length] at hfll
      have hzl : zs[k].length ≤ 65535 := by omega
      have hfa : (flatF (zs.take k)).length ≤ 60000 := by omega
      have hfb : (framed zs[k]).length ≤ 70000 := by rw [framed_length]; omega
      clear hcell hck hrx hsp hfll
      generalize zs[k] = z at *
      generalize flatF (zs.take k) = acc at *
      have HS := hide hsn
      clear hsn
      go_wp2_with fail
      refine (Framed_any _ z _ hrxr hzl).mono ?_
      rintro e w1 ⟨v1, rfl, hr1, hb1, _⟩
      have hown1 := owns_below hown hb1
      have hbel1 := hbel.trans (hb1.mono hsz)
      have hsz1 := hbel1.size
      have hal : acc.length + (bc (framed z)).length ≤ 2000000000000 := by rw [bc_length]; omega
      go_wp2_with (at_builtin; go_must (refine wpList_append_rd hown1 hr1 Try.underlying23 Try.info5 rfl rfl rfl rfl rfl (bc_one _) hal (by decide) hsz1 ?_); intro v2 w2 ho2 hb2 hg2; clear hg2)
      rw [← bc_append, bc_length, ← List.length_append] at ho2
      go_roundw
      case rel => exact ⟨k + 1, by omega, by go_num, by rw [HS.out]; exact ho2, hbel1.trans hb2⟩
      case measure => simp [intOf]; omega
    · go_wp2_with fail
      go_ret
      rw [List.take_of_length_le (by omega)] at hown
      exact ⟨_, rfl, Rd.ofOwns hown, hbel⟩

set_option maxRecDepth 100000 in
set_option maxHeartbeats 400000 in
theorem bytesAs32_ok (L : Nat) (v x : Value) (zs : List (List UInt8)) (bs : List UInt8) (w : World) (hc : w.cell? ⟨L, 0, none⟩ = some v) (hrd : RdB w v zs) (hl : zs.length ≤ 1000) (hfl : (flatF zs).length ≤ 60000) (hx : Rd w x (bc bs)) :
    Calls Try.prog 15 #[x, flt 0 0, flt 0 0, .func (.func 33) #[] #[.pointer (some ⟨L, 0, none⟩)]] w fun e w' => e = .returned (.bool (bs == flatF zs)) ∧ Below w.heap.size w w' := by
  simp only [flt]
  go_enter Try.func15, Try.ntmps15
  go_wp2_with fail
  refine (WireFrames1_any L v zs _ ?_ ((hrd.alloc _).alloc _) hl hfl).mono ?_
  · exact cell_below hc (((Below.refl _ _).alloc (Nat.le_refl _) _).alloc (by simp) _)
  rintro e w1 ⟨v1, rfl, hr1, hb1⟩
  have hb1w : Below w.heap.size w w1 := (((Below.refl _ _).alloc (Nat.le_refl _) _).alloc (by simp) _).trans (hb1.mono (by simp; omega))
  go_wp2_with fail
  refine (Same_any _ _ bs (flatF zs) _ (hx.below hb1w) hr1).mono ?_
  rintro e w2 ⟨rfl, rfl⟩
  go_wp2_with fail
  go_ret
  exact ⟨rfl, hb1w⟩

end Go.Proofs.Ytlebbkbbmgmmjaa
