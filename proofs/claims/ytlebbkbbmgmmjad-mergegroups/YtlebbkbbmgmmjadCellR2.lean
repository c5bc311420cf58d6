/-
  The walks over the document's answers of cells: the same cells.
-/
import Derived.Test.YtlebbkbbmgmmjadCellR1
namespace Go.Proofs.Ytlebbkbbmgmmjad
open Go.RowKit

theorem ba_ext {a b : ByteArray} (h : a.toList = b.toList) : a = b := by
  rw [ByteArray.toList_eq, ByteArray.toList_eq] at h
  cases a; cases b
  simp at h
  rw [h]

/-- Are two cells the same? -/
def eqC (a b : Cl) : Bool := (a.row.toList == b.row.toList) && ((a.col.toList == b.col.toList) && (decide (a.time = b.time) && ((a.gone == b.gone) && (a.val.toList == b.val.toList))))

theorem eqC_iff {a b : Cl} : eqC a b = true ↔ a = b := by
  unfold eqC
  constructor
  · intro h
    simp only [Bool.and_eq_true, beq_iff_eq, decide_eq_true_eq] at h
    obtain ⟨h1, h2, h3, h4, h5⟩ := h
    cases a; cases b
    simp only at h1 h2 h3 h4 h5
    rw [ba_ext h1, ba_ext h2, h3, h4, ba_ext h5]
  · rintro rfl
    simp

def sameC : List Cl → List Cl → Bool
  | [], [] => true
  | a :: l, b :: m => eqC a b && sameC l m
  | _, _ => false

theorem sameC_refl : ∀ l : List Cl, sameC l l = true
  | [] => rfl
  | a :: l => by simp [sameC, eqC_iff.2 rfl, sameC_refl l]

set_option maxRecDepth 100000 in
set_option maxHeartbeats 1000000 in
theorem SameCells_any (v u : Value) (cs : List Cl) (w : World) (hv : RdC w v cs) (hu : RdC w u cs) :
    Calls Try.prog 14 #[v, u] w fun e w' => e = .returned (.bool true) ∧ Below w.heap.size w w' := by
  obtain ⟨ao, cap, hvv, hc1, hc2, hat⟩ := hv.at
  obtain ⟨bo, cbp, huu, hd1, hd2, hbt⟩ := hu.at
  subst hvv huu
  unfold maxLen at hc2 hd2
  have hnb : ((cs.length : Int) != cs.length) = false := by simp
  go_enter Try.func14, Try.ntmps14
  go_wp2_with fail
  go_loopw [5] (fun i wr => ∃ k : Nat, k ≤ cs.length ∧ i = .int .i64 k ∧ Below w.heap.size w wr)
    (fun i _ => cs.length - (intOf i).toNat)
  case atStart => exact ⟨0, by omega, rfl, Below.refl _ _⟩
  case round =>
    obtain ⟨k, hk, rfl, hbel⟩ := hrel
    by_cases hlt : k < cs.length
    · obtain ⟨b, off, rfl, hb, hcl⟩ := hat k hlt
      obtain ⟨b2, off2, rfl, hb2, hcl2⟩ := hbt k hlt
      have h1 := (hcl k hlt).below hbel
      have h2 := (hcl2 k hlt).below hbel
      generalize cs[k] = c at *
      obtain ⟨c0, c1, c2, c3, c4⟩ := h1
      obtain ⟨d0, d1, d2, d3, d4⟩ := h2
      have hk1 : (0 : Int) ≤ (k : Int) := by omega
      have hk2 : (k : Int) < (cs.length : Int) := by omega
      clear hcl hcl2 hat hbt hv hu
      go_wp2_with fail
      go_quiet (fail)
      go_wp2_with fail
      go_roundw
      case rel => exact ⟨k + 1, by omega, by go_num, below_drewN hbel _⟩
      case measure => simp [intOf]; omega
    · go_wp2_with fail
      go_ret
      exact ⟨rfl, hbel⟩

end Go.Proofs.Ytlebbkbbmgmmjad
