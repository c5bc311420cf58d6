/-
  The walks over what cell.Sort calls: copies, two lists made one.
-/
import Derived.Test.YtlebbkbbmgmmjabCellW6
import Derived.Test.YtlebbkbbmgmmjabSortMath
namespace Go.Proofs.Ytlebbkbbmgmmjab
open Go.RowKit

set_option maxRecDepth 100000 in
set_option maxHeartbeats 400000 in
theorem Sort1_any (L : Nat) (v : Value) (cs : List Cl) (i : Nat) (w : World) (hL : w.cell? ⟨L, 0, none⟩ = some v) (hv : RdC w v cs) (hi : i < cs.length) :
    Calls Try.prog 53 #[.int .i64 i, .pointer (some ⟨L, 0, none⟩)] w fun e w' => e = .returned (.int .i64 (codeC (cs.getD i zeroC))) ∧ Below w.heap.size w w' := by
  obtain ⟨ao, cap, rfl, hc1, hc2, hat⟩ := hv.at
  unfold maxLen at hc2
  obtain ⟨b, off, rfl, hb, hcl⟩ := hat i hi
  have hci := hcl i hi
  have hcd : cs.getD i zeroC = cs[i] := by simp [List.getD_eq_getElem?_getD, hi]
  rw [hcd]
  generalize cs[i] = c at hci ⊢
  obtain ⟨c0, c1, c2, c3, c4⟩ := hci
  have hk1 : (0 : Int) ≤ (i : Int) := by omega
  have hk2 : (i : Int) < (cs.length : Int) := by omega
  clear hcl hat hv hcd
  go_enter Try.func53, Try.ntmps53
  go_wp2_with fail
  refine (ownCode_any c _).mono ?_
  rintro e w1 ⟨rfl, hb1⟩
  go_wp2_with fail
  go_ret
  exact ⟨rfl, hb1⟩

set_option maxRecDepth 100000 in
set_option maxHeartbeats 400000 in
theorem Clone_any (v : Value) (cs : List Cl) (w : World) (hv : RdC w v cs) (hl : cs.length ≤ 1000000) :
    Calls Try.prog 74 #[v] w fun e w' => ∃ v', e = .returned v' ∧ RdC w' v' cs ∧ Below w.heap.size w w' ∧ New w.heap.size v' := by
  obtain ⟨ao, cap, hvv, hc1, hc2, hnil, hcells⟩ := hv
  have hv : RdC w v cs := ⟨ao, cap, hvv, hc1, hc2, hnil, hcells⟩
  subst hvv
  have hl2 : 0 + cs.length ≤ 1000000000 := by omega
  cases ao with
  | none =>
    have hz := hnil rfl
    subst hz
    have he : cs = [] := List.eq_nil_of_length_eq_zero (by omega)
    subst he
    have heq : ∀ W, (binOp .eql 43 (.slice none 0 0) (.slice none 0 0)).run Try.prog W = .ok (.bool true) W := fun W => Lib.run_eql_slice_nil W _ _ none 0 0 0 0 Try.underlying43
    go_enter Try.func74, Try.ntmps74
    go_wp2_with fail
    go_ret
    exact ⟨_, rfl, RdC.nil _, Below.refl _ _, New.nil _⟩
  | some a =>
    have hown : (w.alloc (.cells #[] 52)).ownsRow w.heap.size 52 5 (.slice (some ⟨w.heap.size, 0, none⟩) 0 0) 0 (cc []) := World.ownsRow_made w #[] 0 (Nat.le_refl _) (by decide) rfl
    have hv1 := hv.alloc (.cells #[] 52)
    have hb8 : w.heap.size ≤ (w.alloc (.cells #[] 52)).heap.size := by simp
    have hbA := below_alloc' w (.cells #[] 52)
    clear hcells hnil
    have heq : ∀ W, (binOp .eql 43 (.slice (some a) cs.length cap) (.slice none 0 0)).run Try.prog W = .ok (.bool false) W := fun W => Lib.run_eql_slice_nil W _ _ (some a) cs.length cap 0 0 Try.underlying43
    go_enter Try.func74, Try.ntmps74
    go_wp2_with (at_builtin; go_must (refine wpList_append_rdC (cs := []) hown hv1 Try.underlying43 Try.info52 rfl rfl rfl rfl rfl hl2 (by decide) hb8 ?_); intro v1 w1 ho1 hb1 hg1; clear hg1)
    go_ret
    exact ⟨_, rfl, RdC.ofOwns (by simpa using ho1), hbA.trans hb1, New.owns ho1⟩

theorem RdC.from {w : World} {ao : Option Addr} {n cap lo : Nat} {cs : List Cl} (h : RdC w (.slice ao n cap) cs) (h1 : lo ≤ n) : RdC w (Go.sliced ao lo n cap 5) (cs.drop lo) := by
  obtain ⟨ao', cap', hv, h2, h3, h4, h5⟩ := h
  simp only [Value.slice.injEq] at hv
  obtain ⟨rfl, rfl, rfl⟩ := hv
  refine ⟨_, cap - lo, by rw [List.length_drop]; rfl, by rw [List.length_drop]; omega, by omega, ?_, ?_⟩
  · intro hn
    split at hn
    · omega
    · rw [Option.map_eq_none_iff] at hn
      have := h4 hn
      omega
  · intro a ha j u hu
    split at ha
    · rename_i hz
      have hj := (List.getElem?_eq_some_iff.1 hu).1
      rw [cc_length, List.length_drop] at hj
      omega
    · obtain ⟨a0, e0, rfl⟩ := Option.map_eq_some_iff.1 ha
      rw [← cc_drop, List.getElem?_drop] at hu
      have hl := (List.getElem?_eq_some_iff.1 hu).1
      have h0 := h5 a0 e0 0 (cc cs)[0] (by simp)
      obtain ⟨b, o, rfl⟩ := add_spot h0
      have := h5 _ e0 (lo * 5 + j) u hu
      simp only [Addr.add_lit] at this ⊢
      rw [Nat.add_assoc]
      exact this

end Go.Proofs.Ytlebbkbbmgmmjab
