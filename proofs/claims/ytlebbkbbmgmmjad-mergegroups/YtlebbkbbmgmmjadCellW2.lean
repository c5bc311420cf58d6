/-
  The walks over cell.Check.
-/
import Derived.Test.YtlebbkbbmgmmjadCellW1
import Derived.Deep.RegionHeld3
namespace Go.Proofs.Ytlebbkbbmgmmjad
open Go.RowKit

theorem cell_belowC {w w' : World} {p : Addr} {v : Value} (h : w.cell? p = some v) (hb : Below w.heap.size w w') : w'.cell? p = some v :=
  (hb.cell (World.block_lt_of_cell? w _ h)).trans h

/-- What Check says of the cell at a number. -/
def codeAt (cs : List Cl) (i : Nat) : Int :=
  match cs[i]? with
  | none => 0
  | some c => if codeC c ≠ 0 then codeC c else if 0 < i ∧ 0 ≤ ordC (cs.getD (i - 1) zeroC) c then 10 else 0

theorem ite_of_decide {p : Prop} [Decidable p] {b : Bool} {x y : Int} (h : decide p = b) : (if p then x else y) = cond b x y := by
  subst h
  by_cases hp : p <;> simp [hp]

theorem codeAt_own {cs : List Cl} {i : Nat} {c : Cl} (hi : cs[i]? = some c) (h : codeC c ≠ 0) : codeAt cs i = codeC c := by
  unfold codeAt; rw [hi]; simp [h]

theorem codeAt_first {cs : List Cl} {c : Cl} (hi : cs[0]? = some c) (h : codeC c = 0) : codeAt cs 0 = 0 := by
  unfold codeAt; rw [hi]; simp [h]

theorem codeAt_later {cs : List Cl} {i : Nat} {c d : Cl} (hi : cs[i + 1]? = some c) (hd : cs[i]? = some d) (h : codeC c = 0) : codeAt cs (i + 1) = if 0 ≤ ordC d c then 10 else 0 := by
  unfold codeAt; rw [hi]; simp [h, hd]

set_option maxRecDepth 100000 in
set_option maxHeartbeats 400000 in
theorem Check1_any (L : Nat) (v : Value) (cs : List Cl) (i : Nat) (w : World) (hL : w.cell? ⟨L, 0, none⟩ = some v) (hv : RdC w v cs) (hi : i < cs.length) :
    Calls Try.prog 61 #[.int .i64 i, .pointer (some ⟨L, 0, none⟩)] w fun e w' => e = .returned (.int .i64 (codeAt cs i)) ∧ Below w.heap.size w w' := by
  obtain ⟨ao, cap, rfl, hc1, hc2, hat⟩ := hv.at
  unfold maxLen at hc2
  obtain ⟨b, off, rfl, hb, hcl⟩ := hat i hi
  obtain ⟨c, hc⟩ : ∃ c, cs[i]? = some c := ⟨_, List.getElem?_eq_getElem hi⟩
  have hci := hcl i hi
  rw [(List.getElem?_eq_some_iff.1 hc).2] at hci
  have HL : Hid (w.cell? ⟨L, 0, none⟩ = some (.slice (some ⟨b, off, none⟩) cs.length cap)) := hL
  by_cases h0 : codeC c = 0
  · by_cases hi0 : i = 0
    · subst hi0
      have HE := hide (codeAt_first hc h0)
      rw [Nat.zero_mul, Nat.add_zero] at hci
      obtain ⟨c0, c1, c2, c3, c4⟩ := hci
      clear hcl hat hv hc
      go_enter Try.func61, Try.ntmps61
      go_wp2_with fail
      refine (ownCode_any c _).mono ?_
      rintro e w1 ⟨rfl, hb1⟩
      rw [h0]
      have hg : decide ((0 : Int) < ((0 : Nat) : Int)) = false := by simp
      go_wp2_with fail
      go_quiet (fail)
      go_wp2_with fail
      go_ret
      exact ⟨by rw [HE.out]; rfl, below_drewN hb1 _⟩
    · obtain ⟨j, hij⟩ : ∃ j, i = j + 1 := ⟨i - 1, by omega⟩
      obtain ⟨d, hd⟩ : ∃ c, cs[j]? = some c := ⟨_, List.getElem?_eq_getElem (by omega)⟩
      have hdi := hcl j (by omega)
      rw [(List.getElem?_eq_some_iff.1 hd).2] at hdi
      have HE : Hid (codeAt cs i = if 0 ≤ ordC d c then 10 else 0) := hide (by rw [hij] at hc ⊢; exact codeAt_later hc hd h0)
      have HC := hide hci
      have HD := hide hdi
      obtain ⟨c0, c1, c2, c3, c4⟩ := hci
      have hj1 : (i : Int) < (cs.length : Int) := by omega
      have hj2 : (0 : Int) ≤ (j : Int) := by omega
      have hj3 : (j : Int) < (cs.length : Int) := by omega
      have hj4 : (0 : Int) ≤ (i : Int) := by omega
      have hw : IntKind.i64.wrap ((i : Int) - 1) = (j : Int) := by rw [IntKind.wrap_i64]; omega
      have hg : decide (0 < i) = true := by simp; omega
      have HIJ := hide hij
      clear hcl hat hv hc hd hdi hij hi0
      go_enter Try.func61, Try.ntmps61
      go_wp2_with fail
      refine (ownCode_any c _).mono ?_
      rintro e w1 ⟨rfl, hb1⟩
      rw [h0]
      obtain ⟨c0, c1, c2, c3, c4⟩ := HC.out.below hb1
      obtain ⟨d0, d1, d2, d3, d4⟩ := HD.out.below hb1
      have hL1 := cell_belowC HL.out hb1
      have hk : ∀ W, Below w1.heap.size w1 W → W.cell? ⟨L, 0, none⟩ = some (.slice (some ⟨b, off, none⟩) cs.length cap) ∧ (W.cell? ⟨b, off + i * 5, none⟩ = some (.string c.row) ∧ W.cell? ⟨b, off + i * 5 + 1, none⟩ = some (.string c.col) ∧ W.cell? ⟨b, off + i * 5 + 2, none⟩ = some (.int .i64 c.time) ∧ W.cell? ⟨b, off + i * 5 + 3, none⟩ = some (.bool c.gone) ∧ W.cell? ⟨b, off + i * 5 + 4, none⟩ = some (.string c.val)) ∧ (W.cell? ⟨b, off + j * 5, none⟩ = some (.string d.row) ∧ W.cell? ⟨b, off + j * 5 + 1, none⟩ = some (.string d.col) ∧ W.cell? ⟨b, off + j * 5 + 2, none⟩ = some (.int .i64 d.time) ∧ W.cell? ⟨b, off + j * 5 + 3, none⟩ = some (.bool d.gone) ∧ W.cell? ⟨b, off + j * 5 + 4, none⟩ = some (.string d.val)) := fun W h => by
        obtain ⟨c0, c1, c2, c3, c4⟩ := (HC.out.below hb1).below h
        obtain ⟨d0, d1, d2, d3, d4⟩ := (HD.out.below hb1).below h
        exact ⟨cell_belowC hL1 h, ⟨c0, c1, c2, c3, c4⟩, d0, d1, d2, d3, d4⟩
      have HK := hide hk
      clear hk
      go_wp2_with fail
      cases h7 : decide (0 ≤ ordC d c)
      all_goals
        have HE2 := hide (show codeAt cs i = _ from HE.out.trans (ite_of_decide h7))
        go_region_held3 (fun W => W.cell? ⟨L, 0, none⟩ = some (.slice (some ⟨b, off, none⟩) cs.length cap) ∧ (W.cell? ⟨b, off + i * 5, none⟩ = some (.string c.row) ∧ W.cell? ⟨b, off + i * 5 + 1, none⟩ = some (.string c.col) ∧ W.cell? ⟨b, off + i * 5 + 2, none⟩ = some (.int .i64 c.time) ∧ W.cell? ⟨b, off + i * 5 + 3, none⟩ = some (.bool c.gone) ∧ W.cell? ⟨b, off + i * 5 + 4, none⟩ = some (.string c.val)) ∧ (W.cell? ⟨b, off + j * 5, none⟩ = some (.string d.row) ∧ W.cell? ⟨b, off + j * 5 + 1, none⟩ = some (.string d.col) ∧ W.cell? ⟨b, off + j * 5 + 2, none⟩ = some (.int .i64 d.time) ∧ W.cell? ⟨b, off + j * 5 + 3, none⟩ = some (.bool d.gone) ∧ W.cell? ⟨b, off + j * 5 + 4, none⟩ = some (.string d.val))) (exact HK.out _ (by go_grown)) (first
          | (go_at_call 63; refine (order_any d c _).mono ?_; rintro e w2 ⟨rfl, hb2⟩; have hb12 : Below w1.heap.size w1 w2 := Below.trans (by go_grown) hb2))
        go_wp2_with fail
        go_ret
        exact ⟨by rw [HE2.out]; rfl, hb1.trans (hb12.mono hb1.size)⟩
  · have hcb : (codeC c != 0) = true := by simp [h0]
    have HE := hide (codeAt_own hc h0)
    obtain ⟨c0, c1, c2, c3, c4⟩ := hci
    clear hcl hat hv hc h0
    go_enter Try.func61, Try.ntmps61
    go_wp2_with fail
    refine (ownCode_any c _).mono ?_
    rintro e w1 ⟨rfl, hb1⟩
    go_wp2_with fail
    go_ret
    exact ⟨by rw [HE.out]; rfl, hb1⟩

end Go.Proofs.Ytlebbkbbmgmmjad
