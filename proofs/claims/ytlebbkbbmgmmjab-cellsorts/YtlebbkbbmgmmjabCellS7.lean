/-
  The walks over the document's PutCells, and the closure of the law CellSorts.
-/
import Derived.Test.YtlebbkbbmgmmjabCellS6
namespace Go.Proofs.Ytlebbkbbmgmmjab
open Go.RowKit

theorem srt_snoc {m acc : List Cl} {k : Nat} {c : Cl} (hc : m[k]? = some c) (h : Srt (m.take k) acc) : Srt (m.take (k + 1)) (mrg acc [c]) := by
  rw [List.take_add_one, hc]
  exact h.join (Srt.pw (by simp))

set_option maxRecDepth 100000 in
set_option maxHeartbeats 2000000 in
theorem PutCells_any (v : Value) (m : List Cl) (w : World) (hv : RdC w v m) (hl : m.length ≤ 1000) :
    Calls Try.prog 30 #[.slice none 0 0, v] w fun e w' => ∃ v' out, e = .returned v' ∧ RdC w' v' out ∧ Srt m out ∧ Below w.heap.size w w' := by
  obtain ⟨ao, cap, hvv, hc1, hc2⟩ := hv.shape
  subst hvv
  unfold maxLen at hc2
  go_enter Try.func30, Try.ntmps30
  go_wp2_with fail
  go_loopw [0, 5] (fun u i wr => ∃ (k : Nat) (acc : List Cl) (uo : Option Addr) (uc : Nat), k ≤ m.length ∧ i = .int .i64 k ∧ u = .slice uo acc.length uc ∧ RdC wr (.slice uo acc.length uc) acc ∧ Srt (m.take k) acc ∧ Below w.heap.size w wr)
    (fun _ i _ => m.length - (intOf i).toNat)
  case atStart => exact ⟨0, [], none, 0, by omega, rfl, rfl, RdC.nil _, by simpa using Srt.nil, Below.refl _ _⟩
  case round =>
    obtain ⟨k, acc, uo, uc, hk, rfl, rfl, hacc, hsrt, hbel⟩ := hrel
    have HS := hide hsrt
    have hzr := hbel.size
    by_cases hlt : k < m.length
    · obtain ⟨c, hc⟩ : ∃ c, m[k]? = some c := ⟨_, List.getElem?_eq_getElem hlt⟩
      obtain ⟨b, off, rfl, _, hck⟩ := hv.hereD hc
      obtain ⟨c0, c1, c2, c3, c4⟩ := hck.below hbel
      have hk1 : (0 : Int) ≤ (k : Int) := by omega
      have hk2 : (k : Int) < (m.length : Int) := by omega
      have hla : acc.length ≤ 1000 := by have := hsrt.2.2; rw [List.length_take] at this; omega
      have HN := hide (srt_snoc hc hsrt)
      have HP := hide hsrt.1
      clear hc hck hsrt
      go_wp2_with fail
      refine (PutCell_any _ acc c _ hacc HP.out (by omega)).mono ?_
      rintro e w1 ⟨v1, rfl, hr1, hb1⟩
      obtain ⟨ao1, cap1, hv1, _, _⟩ := hr1.shape
      subst hv1
      go_wp2_with fail
      go_roundw
      case rel => exact ⟨k + 1, mrg acc [c], _, _, by omega, by go_num, rfl, hr1, HN.out, hbel.trans (hb1.mono hzr)⟩
      case measure => simp [intOf]; omega
    · have HM : Hid (Srt m acc) := hide (by have := hsrt; rw [List.take_of_length_le (by omega)] at this; exact this)
      clear hsrt
      go_wp2_with fail
      go_ret
      exact ⟨_, acc, rfl, hacc, HM.out, hbel⟩

set_option maxRecDepth 100000 in
set_option maxHeartbeats 1000000 in
theorem Sorts1_any (L : Nat) (v : Value) (cs out : List Cl) (w : World) (hL : w.cell? ⟨L, 0, none⟩ = some v) (hv : RdC w v cs) (hl : cs.length ≤ 1000) (hout : Srt cs out) :
    Calls Try.prog 29 #[.pointer (some ⟨L, 0, none⟩)] w fun e w' => ∃ v', e = .returned v' ∧ RdC w' v' out ∧ Below w.heap.size w w' := by
  obtain ⟨ao, cap, hu, hc1, hc2⟩ := hv.shape
  subst hu
  have HO := hide hout
  clear hout
  go_enter Try.func29, Try.ntmps29
  go_wp2_with fail
  refine (PutCells_any _ cs _ hv hl).mono ?_
  rintro e w1 ⟨v1, o1, rfl, hr1, hs1, hb1⟩
  rw [hs1.uniq HO.out] at hr1
  go_wp2_with fail
  go_ret
  exact ⟨_, rfl, hr1, hb1⟩

end Go.Proofs.Ytlebbkbbmgmmjab
