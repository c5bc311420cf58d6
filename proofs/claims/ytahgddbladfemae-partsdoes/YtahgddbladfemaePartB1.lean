/-
  The walks beneath the laws of parts: the example, copies.
-/
import Derived.Test.YtahgddbladfemaePartW6
import Derived.Test.YtahgddbladfemaePartR1
namespace Go.Proofs.Ytahgddbladfemae
open Go.RowKit
set_option linter.unusedVariables false

theorem wfP_of_fine {l : List Pt} (h : ∀ p ∈ l, numB p.id = true) : WfP l := fun p hp => wf_num (h p hp)

theorem begun_f : splitF [⟨⟨#[]⟩, ⟨#[]⟩, 5⟩] 0 ⟨#[109]⟩ 1 2 = (0, 0) := by decide +kernel

set_option maxRecDepth 100000 in
set_option maxHeartbeats 1000000 in
theorem partsBegun_any (w : World) : Calls Try.prog 4 #[] w fun e w' => e = .returned (.bool true) ∧ Below w.heap.size w w' := by
  have hl0 : RdG pE (w.alloc (.cells #[.string ⟨#[]⟩, .string ⟨#[]⟩, .int .i64 5] 34)) (.slice (some ⟨w.heap.size, 0, none⟩) 1 1) ([⟨⟨#[]⟩, ⟨#[]⟩, 5⟩] : List Pt) := RdG.newL (E := pE) w ([⟨⟨#[]⟩, ⟨#[]⟩, 5⟩] : List Pt) _ _ rfl (by simp)
  have hwf : WfP [⟨⟨#[]⟩, ⟨#[]⟩, 5⟩] := wfP_of_fine (by simp [numB])
  have hsp := Split_any _ _ 0 ⟨#[109]⟩ 1 2 _ hl0 hwf
  have HS := hide hsp
  clear hsp hl0
  go_enter Try.func4, Try.ntmps4
  go_wp2_with fail
  refine HS.out.mono ?_
  rintro e w1 ⟨v1, rfl, hr1, hb1, _⟩
  have hbw1 : Below w.heap.size w w1 := (below_allocG _ _).trans (hb1.mono (by simp))
  have hs1 := hbw1.size
  have hrl : splitR [⟨⟨#[]⟩, ⟨#[]⟩, 5⟩] 0 ⟨#[109]⟩ 1 2 = [⟨⟨#[]⟩, ⟨#[109]⟩, 1⟩, ⟨⟨#[109]⟩, ⟨#[]⟩, 2⟩] := by
    unfold splitR
    rw [begun_f, if_pos rfl]
    rfl
  rw [hrl] at hr1
  rw [begun_f]
  obtain ⟨vo, vc, hvo, _, _⟩ := hr1.shape
  subst hvo
  have hW : Below w1.heap.size w1 ((w1.alloc (.cells #[.int .i64 0, .int .i64 0] 26)).alloc (.cells #[.string ⟨#[]⟩, .string ⟨#[109]⟩, .int .i64 1, .string ⟨#[109]⟩, .string ⟨#[]⟩, .int .i64 2] 34)) := by go_grown
  have hO : RdG pE ((w1.alloc (.cells #[.int .i64 0, .int .i64 0] 26)).alloc (.cells #[.string ⟨#[]⟩, .string ⟨#[109]⟩, .int .i64 1, .string ⟨#[109]⟩, .string ⟨#[]⟩, .int .i64 2] 34)) (.slice (some ⟨w1.heap.size + 1, 0, none⟩) 2 2) ([⟨⟨#[]⟩, ⟨#[109]⟩, 1⟩, ⟨⟨#[109]⟩, ⟨#[]⟩, 2⟩] : List Pt) := by
    have := RdG.newL (E := pE) (w1.alloc (.cells #[.int .i64 0, .int .i64 0] 26)) ([⟨⟨#[]⟩, ⟨#[109]⟩, 1⟩, ⟨⟨#[109]⟩, ⟨#[]⟩, 2⟩] : List Pt) 34 #[.string ⟨#[]⟩, .string ⟨#[109]⟩, .int .i64 1, .string ⟨#[109]⟩, .string ⟨#[]⟩, .int .i64 2] rfl (by simp)
    simpa using this
  have HSM := hide (SameParts_any _ _ _ _ (hr1.below hW) hO)
  have HW := hide hW
  clear hW hO hr1 hrl
  unfold flt
  go_wp2_with fail
  refine HSM.out.mono ?_
  rintro e w2 ⟨rfl, hb2⟩
  have hb12 : Below w1.heap.size w1 w2 := HW.out.trans (hb2.mono (by simp; omega))
  have hbw2 := hbw1.trans (hb12.mono hs1)
  go_wp2_with fail
  go_ret
  exact ⟨rfl, hbw2⟩

set_option maxRecDepth 100000 in
set_option maxHeartbeats 400000 in
theorem ownParts_any (v : Value) (l : List Pt) (w : World) (hv : RdG pE w v l) (hl : l.length ≤ 1000000) :
    Calls Try.prog 5 #[v] w fun e w' => ∃ v', e = .returned v' ∧ RdG pE w' v' l ∧ Below w.heap.size w w' ∧ New w.heap.size v' := by
  obtain ⟨ao, cap, hvv, hc1, hc2⟩ := hv.shape
  subst hvv
  have hl2 : 0 + l.length ≤ 1000000000 := by omega
  go_enter Try.func5, Try.ntmps5
  go_wp2_with (at_builtin; go_must (refine wpList_append_rdG (cs := []) (World.ownsRow_nil w w.heap.size 34 3) hv Try.underlying22 infoPart rfl rfl rfl rfl rfl hl2 (by decide) (Nat.le_refl _) ?_); intro v1 w1 ho1 hb1 hg1; clear hg1)
  go_ret
  exact ⟨_, rfl, RdG.ofOwns ho1, hb1, New.owns ho1⟩

end Go.Proofs.Ytahgddbladfemae
