/-
  Texts joined: LoR1.
-/
import Derived.Test.YtoeobhehjnkkkaaMLocateDoesLoW1
import Derived.Test.YtoeobhehjnkkkaaMLocateDoesPartR1
/-
  The walks over the document's KnownCode, KnownFault and SameKnown.
-/
namespace Go.Proofs.Ytoeobhehjnkkkaa
open Go.RowKit Go.Maps
set_option linter.unusedVariables false

set_option maxRecDepth 100000 in
set_option maxHeartbeats 1000000 in
theorem KnownCode_any (k : Kn) (w : World) : Calls Try.prog 27 #[.agg #[.string k.p.fr, .string k.p.to_, .int .i64 k.p.id, .int .i64 k.ho, .int .i64 k.tu]] w fun e w' => e = .returned (.int .i64 (codeKn k.p)) ∧ Below w.heap.size w w' := by
  by_cases h1 : 40 < k.p.fr.size
  · have HE := hide (codeKn_long (p := k.p) (.inl h1))
    go_enter Try.func27, Try.ntmps27
    go_wp2_with fail
    go_ret
    exact ⟨by rw [HE.out]; rfl, by go_grown⟩
  · by_cases h2 : 40 < k.p.to_.size
    · have HE := hide (codeKn_long (p := k.p) (.inr h2))
      go_enter Try.func27, Try.ntmps27
      go_wp2_with fail
      go_ret
      exact ⟨by rw [HE.out]; rfl, by go_grown⟩
    · have HE := hide (codeKn_four (p := k.p) (by omega))
      unfold bLt at HE
      cases h3 : k.p.to_.toList.isEmpty <;> cases h4 : Op.bytesLess k.p.fr.toList k.p.to_.toList
      all_goals
        rw [h3, h4] at HE
        go_enter Try.func27, Try.ntmps27
        go_wp2_with fail
        go_ret
        exact ⟨by rw [HE.out]; rfl, by go_grown⟩

set_option maxRecDepth 100000 in
set_option maxHeartbeats 4000000 in
theorem SameKnown_eq (u v : Value) (l : List Kn) (w : World) (hu : RdG knE w u l) (hv : RdG knE w v l) :
    Calls Try.prog 26 #[u, v] w fun e w' => e = .returned (.bool true) ∧ Below w.heap.size w w' := by
  have HU := hide hu
  have HV := hide hv
  obtain ⟨ao, cap, rfl, hc1, hc2⟩ := hu.shape
  obtain ⟨bo, cap2, rfl, _, _⟩ := hv.shape
  unfold maxLen at hc2
  clear hu hv
  go_enter Try.func26, Try.ntmps26
  go_wp2_with fail
  go_loopw [5] (fun iv wr => ∃ j : Nat, j ≤ l.length ∧ iv = .int .i64 j ∧ Below w.heap.size w wr)
    (fun iv _ => l.length - (intOf iv).toNat)
  case atStart => exact ⟨0, by omega, rfl, Below.refl _ _⟩
  case round =>
    obtain ⟨j, hj, rfl, hbr⟩ := hrel
    have HBR := hide hbr
    by_cases hlt : j < l.length
    · obtain ⟨r, hr⟩ : ∃ r, l[j]? = some r := ⟨_, List.getElem?_eq_getElem hlt⟩
      obtain ⟨b1, o1, rfl, hb1, q1⟩ := HU.out.here hr
      obtain ⟨b2, o2, rfl, hb2, q2⟩ := HV.out.here hr
      obtain ⟨c0, c1, c2, c3, c4⟩ := (q1.below hbr).known
      obtain ⟨d0, d1, d2, d3, d4⟩ := (q2.below hbr).known
      have hk1 : (0 : Int) ≤ (j : Int) := by omega
      have hk2 : (j : Int) < (l.length : Int) := by omega
      have hl1 : b1 < wr.heap.size := Nat.lt_of_lt_of_le hb1 hbr.size
      have hl2 : b2 < wr.heap.size := Nat.lt_of_lt_of_le hb2 hbr.size
      obtain ⟨⟨rf, rt, ri⟩, rh, ru⟩ := r
      simp only at c0 c1 c2 c3 c4 d0 d1 d2 d3 d4
      clear q1 q2 hr hbr
      go_wp2_with fail
      go_quiet (fail)
      go_wp2_with fail
      go_roundw
      case rel => exact ⟨j + 1, by omega, by go_num, below_drewN HBR.out _⟩
      case measure => simp [intOf]; omega
    · have hje : j = l.length := by omega
      subst hje
      clear hbr
      go_wp2_with fail
      go_ret
      exact ⟨rfl, HBR.out⟩

end Go.Proofs.Ytoeobhehjnkkkaa
