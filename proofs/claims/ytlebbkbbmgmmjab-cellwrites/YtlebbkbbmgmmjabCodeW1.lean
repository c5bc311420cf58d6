/-
  The walks over package coding: numbers and texts behind bytes, and the reader.
-/
import Derived.Test.YtlebbkbbmgmmjabRows
import Derived.Test.YtlebbkbbmgmmjabWireMath
import Derived.Test.YtlebbkbbmgmmjabExt
namespace Go.Proofs.Ytlebbkbbmgmmjab
open Go.RowKit

theorem Try.info85 : (Try.prog.info? 5).map (fun i => (i.zero, i.size, i.bytes)) = some (some (.int .u8 0), 1, 1) := by kernel_rfl

set_option maxRecDepth 100000 in
set_option maxHeartbeats 400000 in
theorem AppendNum_any (v : Value) (xs : List UInt8) (n base : Nat) (w : World) (hown : w.ownsRow base 5 1 v xs.length (bc xs)) (hb : base ≤ w.heap.size)
    (hn : (n : Int) ≤ 9223372036854775807) (hx : xs.length ≤ 100000000000) :
    Calls Try.prog 81 #[v, .int .i64 n] w fun e w' => ∃ v', e = .returned v' ∧ w'.ownsRow base 5 1 v' (xs ++ encN n).length (bc (xs ++ encN n)) ∧ Below base w w' ∧ Ext w w' v v' := by
  obtain ⟨i0, hi, hz0, hz1, hz2⟩ := info_parts Try.info85
  go_enter Try.func81, Try.ntmps81
  go_wp2_with fail
  go_loopw [0, 1] (fun vr i wr => ∃ (m f : Nat) (pre : List UInt8), i = .int .i64 m ∧ pre ++ enc f m = encN n ∧ m < 128 ^ f ∧ (m : Int) ≤ 9223372036854775807 ∧ pre.length + f = 9 ∧ wr.ownsRow base 5 1 vr (xs ++ pre).length (bc (xs ++ pre)) ∧ Below base w wr ∧ Ext w wr v vr)
    (fun _ i _ => (intOf i).toNat)
  case atStart => exact ⟨n, 9, [], rfl, rfl, by omega, hn, rfl, by simpa using hown, Below.refl _ _, Ext.refl _ _⟩
  case round =>
    obtain ⟨m, f, pre, rfl, hpre, hm, hm2, hf, hown', hbel, hext⟩ := hrel
    have HP : Hid (pre ++ enc f m = encN n) := hpre
    have HM : Hid (m < 128 ^ f) := hm
    clear hpre hm
    have hbw : base ≤ wr.heap.size := by have := hbel.size; omega
    have hxl : (xs ++ pre).length ≤ 1000000000000 := by simp; omega
    by_cases hlt : 128 ≤ m
    · go_wp2_with (at_builtin; go_must (refine wpList_append_oneE hown' Try.underlying25 Try.info85 rfl rfl rfl rfl rfl rfl hxl (by decide) hbw ?_); intro v1 w1 ho1 hb1 hg1)
      rw [or128, bc_snoc'] at ho1
      obtain ⟨f', e1, e2, e3⟩ := enc_step_big HP.out HM.out hf hlt
      go_roundw
      case rel => exact ⟨m / 128, f', pre ++ [UInt8.ofNat (m % 128 + 128)], by go_num, e1, e2, by omega, e3, by simpa [Nat.add_assoc] using ho1, hbel.trans hb1, hext.trans hg1⟩
      case measure => simp [intOf]; omega
    · go_wp2_with (at_builtin; go_must (refine wpList_append_oneE hown' Try.underlying25 Try.info85 rfl rfl rfl rfl rfl rfl hxl (by decide) hbw ?_); intro v1 w1 ho1 hb1 hg1)
      rw [bc_snoc _ m (by omega) _ rfl] at ho1
      have e1 := enc_step_small HP.out (by omega : m < 128)
      go_ret
      exact ⟨v1, rfl, by rw [← e1]; simpa [Nat.add_assoc] using ho1, hbel.trans hb1, hext.trans hg1⟩

/-- The reader's block: the bytes, and the place; of whichever type it is. -/
def RdrT (w : World) (t : TypeId) (R : Nat) (v : Value) (k : Int) : Prop := w.heap[R]? = some (.cells #[v, .int .i64 k] t (0, 0))

theorem RdrT.facts {w : World} {t : TypeId} {R : Nat} {v : Value} {k : Int} (h : RdrT w t R v k) :
    w.cell? ⟨R, 0, none⟩ = some v ∧ w.cell? ⟨R, 1, none⟩ = some (.int .i64 k) ∧ w.frozen? ⟨R, 0, none⟩ = false ∧ w.frozen? ⟨R, 1, none⟩ = false ∧ R < w.heap.size := by
  refine ⟨?_, ?_, frozen_of_row _ _ _ _ _ h, frozen_of_row _ _ _ _ _ h, ?_⟩
  · rw [cell_of_row _ _ _ _ _ _ h]; rfl
  · rw [cell_of_row _ _ _ _ _ _ h]; rfl
  · exact (Array.getElem?_eq_some_iff.1 h).1

theorem RdrT.set {w : World} {t : TypeId} {R : Nat} {v : Value} {k : Int} (h : RdrT w t R v k) (k' : Int) : RdrT (w.setCell ⟨R, 1, none⟩ (.int .i64 k')) t R v k' := by
  unfold RdrT
  rw [heap_setCell_same w R 1 _ _ _ h]
  rfl

theorem grownT_set (w : World) (R j : Nat) (u : Value) : w.grownBy (w.setCell ⟨R, j, none⟩ u) (some R) :=
  ⟨rfl, rfl, rfl, by simp [World.setCell], fun k _ hk => heap_setCell_other w _ k u (fun e => hk (by simp [e]))⟩

theorem grownT_drewN (w : World) (n : Nat) (row : Option Nat) : w.grownBy (w.drewN n) row := ⟨rfl, rfl, rfl, Nat.le_refl _, fun _ _ _ => rfl⟩
theorem grownT_trans {a b c : World} {row : Option Nat} (h : a.grownBy b row) (k : b.grownBy c row) : a.grownBy c row :=
  ⟨k.os.trans h.os, k.tape.trans h.tape, k.output.trans h.output, Nat.le_trans h.size k.size, fun i hi hn => (k.block i (Nat.lt_of_lt_of_le hi h.size) hn).trans (h.block i hi hn)⟩

set_option maxRecDepth 100000 in
set_option maxHeartbeats 400000 in
theorem Done_any (t : TypeId) (R : Nat) (ao : Option Addr) (n c k : Nat) (w : World) (hr : RdrT w t R (.slice ao n c) k) :
    Calls Try.prog 64 #[.pointer (some ⟨R, 0, none⟩)] w fun e w' => e = .returned (.bool ((k : Int) == n)) ∧ ∃ q, w' = w.drewN q := by
  obtain ⟨c0, c1, _, _, _⟩ := hr.facts
  go_enter Try.func64, Try.ntmps64
  go_wp2_with fail
  go_quiet (fail)
  go_wp2_with fail
  go_ret
  exact ⟨rfl, _, rfl⟩

set_option maxRecDepth 100000 in
set_option maxHeartbeats 400000 in
theorem Rest_any (t : TypeId) (R : Nat) (v : Value) (bs : List UInt8) (k : Nat) (w : World) (hrd : Rd w v (bc bs)) (hr : RdrT w t R v k) (hk : k ≤ bs.length) :
    Calls Try.prog 85 #[.pointer (some ⟨R, 0, none⟩)] w fun e w' => (∃ vo vc, e = .returned (.slice vo (bs.length - k) vc) ∧ Rd w (.slice vo (bs.length - k) vc) (bc (bs.drop k)) ∧ ∀ a, vo = some a → ∃ a' l c, v = .slice (some a') l c ∧ a.block = a'.block) ∧ ∃ q, w' = w.drewN q := by
  obtain ⟨ao, cap, hvv, hc1, hc2⟩ := hrd.shape
  rw [bc_length] at hc1 hvv
  subst hvv
  unfold maxLen at hc2
  obtain ⟨c0, c1, _, _, _⟩ := hr.facts
  have hs := run_slice_from (P := Try.prog) Try.underlying25 (by kernel_rfl) Try.info85 ao bs.length cap k (k : Int) rfl hk
  have hV := hrd.from (lo := k) hk
  rw [bc_drop] at hV
  have hblk : ∀ a l c, Go.sliced ao k bs.length cap 1 = .slice (some a) l c → ∃ a' l' c', Value.slice ao bs.length cap = .slice (some a') l' c' ∧ a.block = a'.block := fun a l c h => by
    unfold Go.sliced at h
    simp only [Value.slice.injEq] at h
    obtain ⟨h1, _, _⟩ := h
    split at h1
    · exact ⟨a, _, _, by rw [h1], rfl⟩
    · obtain ⟨a0, h2, h3⟩ := Option.map_eq_some_iff.1 h1
      refine ⟨a0, _, _, by rw [h2], ?_⟩
      rw [← h3]
      unfold Addr.add
      split <;> rfl
  generalize hge : Go.sliced ao k bs.length cap 1 = V at hs hV hblk
  clear hge
  obtain ⟨vo, vc, hvv, _, _⟩ := hV.shape
  rw [bc_length, List.length_drop] at hvv
  subst hvv
  have HB := hide hblk
  clear hblk
  go_enter Try.func85, Try.ntmps85
  go_wp2_with fail
  go_quiet (fail)
  go_wp2_with fail
  go_ret
  exact ⟨⟨_, _, rfl, hV, fun a ha => HB.out a _ _ (by rw [ha])⟩, _, rfl⟩

set_option maxRecDepth 100000 in
set_option maxHeartbeats 400000 in
theorem Skip_ok (t : TypeId) (R : Nat) (ao : Option Addr) (n c k j : Nat) (w : World) (hr : RdrT w t R (.slice ao n c) k) (hj : k + j ≤ n) (hn : n ≤ 9223372036854775807) :
    Calls Try.prog 88 #[.pointer (some ⟨R, 0, none⟩), .int .i64 j] w fun e w' => e = .returned (.bool true) ∧ RdrT w' t R (.slice ao n c) (k + j : Nat) ∧ w.grownBy w' (some R) := by
  obtain ⟨c0, c1, c2, c3, c4⟩ := hr.facts
  have hd : decide ((j : Int) < 0) = false := by simp
  have hd2 : decide ((n : Int) - (k : Int) < (j : Int)) = false := by simp; omega
  go_enter Try.func88, Try.ntmps88
  go_wp2_with fail
  go_quiet (fail)
  go_wp2_with fail
  go_ret
  exact ⟨rfl, by have := RdrT.set (w := w.drewN nq) hr ((k : Int) + j); simpa using this, grownT_trans (grownT_drewN _ _ _) (grownT_set _ _ _ _)⟩

set_option maxRecDepth 100000 in
set_option maxHeartbeats 400000 in
theorem Skip_no (t : TypeId) (R : Nat) (ao : Option Addr) (n c k j : Nat) (w : World) (hr : RdrT w t R (.slice ao n c) k) (hk : k ≤ n) (hj : n < k + j) (hn : n ≤ 9223372036854775807) :
    Calls Try.prog 88 #[.pointer (some ⟨R, 0, none⟩), .int .i64 j] w fun e w' => e = .returned (.bool false) ∧ ∃ q, w' = w.drewN q := by
  obtain ⟨c0, c1, c2, c3, c4⟩ := hr.facts
  have hd : decide ((j : Int) < 0) = false := by simp
  have hd2 : decide ((n : Int) - (k : Int) < (j : Int)) = true := by simp; omega
  go_enter Try.func88, Try.ntmps88
  go_wp2_with fail
  go_quiet (fail)
  go_wp2_with fail
  go_ret
  exact ⟨rfl, _, rfl⟩

end Go.Proofs.Ytlebbkbbmgmmjab
