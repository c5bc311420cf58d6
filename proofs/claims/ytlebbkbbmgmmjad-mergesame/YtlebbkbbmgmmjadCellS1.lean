/-
  The walks over what cell.Sort calls: copies, two lists made one.
-/
import Derived.Test.YtlebbkbbmgmmjadCellW6
import Derived.Test.YtlebbkbbmgmmjadSortMath
namespace Go.Proofs.Ytlebbkbbmgmmjad
open Go.RowKit


set_option maxRecDepth 100000 in
set_option maxHeartbeats 400000 in
theorem Clone_any (v : Value) (cs : List Cl) (w : World) (hv : RdC w v cs) (hl : cs.length ≤ 1000000) :
    Calls Try.prog 84 #[v] w fun e w' => ∃ v', e = .returned v' ∧ RdC w' v' cs ∧ Below w.heap.size w w' ∧ New w.heap.size v' := by
  obtain ⟨ao, cap, hvv, hc1, hc2, hnil, hcells⟩ := hv
  have hv : RdC w v cs := ⟨ao, cap, hvv, hc1, hc2, hnil, hcells⟩
  subst hvv
  have hl2 : 0 + cs.length ≤ 1000000000 := by omega
  cases ao with
  | none =>
    have hz := hnil rfl
    subst hz
    have he : cs = [] := List.eq_nil_of_length_eq_zero (by omega)
    subst he
    have heq : ∀ W, (binOp .eql 30 (.slice none 0 0) (.slice none 0 0)).run Try.prog W = .ok (.bool true) W := fun W => Lib.run_eql_slice_nil W _ _ none 0 0 0 0 Try.underlying30
    go_enter Try.func84, Try.ntmps84
    go_wp2_with fail
    go_ret
    exact ⟨_, rfl, RdC.nil _, Below.refl _ _, New.nil _⟩
  | some a =>
    have hown : (w.alloc (.cells #[] 91)).ownsRow w.heap.size 91 5 (.slice (some ⟨w.heap.size, 0, none⟩) 0 0) 0 (cc []) := World.ownsRow_made w #[] 0 (Nat.le_refl _) (by decide) rfl
    have hv1 := hv.alloc (.cells #[] 91)
    have hb8 : w.heap.size ≤ (w.alloc (.cells #[] 91)).heap.size := by simp
    have hbA := below_alloc' w (.cells #[] 91)
    clear hcells hnil
    have heq : ∀ W, (binOp .eql 30 (.slice (some a) cs.length cap) (.slice none 0 0)).run Try.prog W = .ok (.bool false) W := fun W => Lib.run_eql_slice_nil W _ _ (some a) cs.length cap 0 0 Try.underlying30
    go_enter Try.func84, Try.ntmps84
    go_wp2_with (at_builtin; go_must (refine wpList_append_rdC (cs := []) hown hv1 Try.underlying30 Try.info91 rfl rfl rfl rfl rfl hl2 (by decide) hb8 ?_); intro v1 w1 ho1 hb1 hg1; clear hg1)
    go_ret
    exact ⟨_, rfl, RdC.ofOwns (by simpa using ho1), hbA.trans hb1, New.owns ho1⟩

theorem RdC.from {w : World} {ao : Option Addr} {n cap lo : Nat} {cs : List Cl} (h : RdC w (.slice ao n cap) cs) (h1 : lo ≤ n) : RdC w (Go.sliced ao lo n cap 5) (cs.drop lo) := by
  obtain ⟨ao', cap', hv, h2, h3, h4, h5⟩ := h
  simp only [Value.slice.injEq] at hv
  obtain ⟨rfl, rfl, rfl⟩ := hv
  refine ⟨_, cap - lo, by rw [List.length_drop]; rfl, by rw [List.length_drop]; omega, by omega, ?_, ?_⟩
  · intro hn
    split at hn
    · omega
    · rw [Option.map_eq_none_iff] at hn
      have := h4 hn
      omega
  · intro a ha j u hu
    split at ha
    · rename_i hz
      have hj := (List.getElem?_eq_some_iff.1 hu).1
      rw [cc_length, List.length_drop] at hj
      omega
    · obtain ⟨a0, e0, rfl⟩ := Option.map_eq_some_iff.1 ha
      rw [← cc_drop, List.getElem?_drop] at hu
      have hl := (List.getElem?_eq_some_iff.1 hu).1
      have h0 := h5 a0 e0 0 (cc cs)[0] (by simp)
      obtain ⟨b, o, rfl⟩ := add_spot h0
      have := h5 _ e0 (lo * 5 + j) u hu
      simp only [Addr.add_lit] at this ⊢
      rw [Nat.add_assoc]
      exact this

end Go.Proofs.Ytlebbkbbmgmmjad
