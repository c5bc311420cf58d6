/-
  The walk over lease.played, as Play calls it, whatever comes.
-/
import Derived.Test.YtfmoniabpinceafLeaseC12
import Derived.Test.YtfmoniabpinceafLeaseC12b
namespace Go.Proofs.Ytfmoniabpinceaf
open Go.RowKit
set_option linter.unusedVariables false

theorem playedP_any (span clients : Int) (v : Value) (ds : List Dd) (w : World) (hv : RdG ddE w v ds) :
    Calls Try.prog 49 #[.int .i64 span, .int .i64 clients, v, .func (.func 50) #[] #[]] w fun e w' => ∃ vc vt vw vr, e = .returned (.tuple #[ctV (playC span clients ds) vc vt vw vr, flt (playR span clients ds)]) ∧ CtRd w' (playC span clients ds) vc vt vw vr ∧ NewC w.heap.size vc vt vw vr ∧ Below w.heap.size w w' := by
  by_cases hp : (playF span clients ds.length).1 = 0
  · have h := (playF_ok hp).2.2.1
    obtain ⟨n, rfl⟩ : ∃ n : Nat, clients = n := ⟨clients.toNat, by omega⟩
    exact playedP_ok span n v ds w hv hp
  · have e2 : playR span clients ds = playF span clients ds.length := by unfold playR; rw [if_pos hp]
    have e1 : playC span clients ds = noCt := by unfold playC; rw [e2, if_neg hp]
    refine (played_bad span clients v ds _ ⟨_, _, _, rfl⟩ w hv hp).mono ?_
    rintro e w1 ⟨rfl, hb⟩
    exact ⟨_, _, _, _, by rw [e1, e2], by rw [e1]; exact ⟨RdG.nil _, RdG.nil _, RdG.nil _, RdG.nil _⟩, ⟨New.nil _, New.nil _, New.nil _, New.nil _⟩, hb⟩

end Go.Proofs.Ytfmoniabpinceaf
