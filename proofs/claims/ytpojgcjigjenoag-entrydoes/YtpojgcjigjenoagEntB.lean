/-
  The walks beneath the laws of logs: the example, vastLog.
-/
import Derived.Test.YtpojgcjigjenoagEntR1
namespace Go.Proofs.Ytpojgcjigjenoag
open Go.RowKit
set_option linter.unusedVariables false

def vastE (n : Nat) : Bool := decide (300 < n)

set_option maxRecDepth 100000 in
theorem vastLog_any (ao : Option Addr) (n cap : Nat) (w : World) : Calls Try.prog 31 #[.slice ao n cap] w fun e w' => e = .returned (.bool (vastE n)) ∧ w' = w := by
  go_enter Try.func31, Try.ntmps31
  go_wp2_with fail
  go_ret
  exact ⟨by unfold vastE; first | rfl | (simp; done) | (simp; omega), rfl⟩

def exL : List Et := [⟨1, ⟨#[97]⟩⟩, ⟨1, ⟨#[98]⟩⟩]
def exM : List Et := [⟨2, ⟨#[99]⟩⟩]
def exP : List Et := [⟨1, ⟨#[97]⟩⟩, ⟨2, ⟨#[99]⟩⟩]

theorem ex_x : putX exL 1 1 exM = (0, 0) := by decide +kernel
theorem ex_i : putI exL 1 1 exM = true := by decide +kernel
theorem ex_l : putL exL 1 1 exM = exP := by kernel_rfl

set_option maxRecDepth 100000 in
set_option maxHeartbeats 1000000 in
theorem entryBegun_any (w : World) : Calls Try.prog 30 #[] w fun e w' => e = .returned (.bool true) ∧ Below w.heap.size w w' := by
  have hA : RdG eE (w.alloc (.cells #[.int .i64 1, .string ⟨#[97]⟩, .int .i64 1, .string ⟨#[98]⟩] 72)) (.slice (some ⟨w.heap.size, 0, none⟩) 2 2) exL := RdG.newL (E := eE) w exL _ _ rfl (by simp [exL])
  have hB : RdG eE ((w.alloc (.cells #[.int .i64 1, .string ⟨#[97]⟩, .int .i64 1, .string ⟨#[98]⟩] 72)).alloc (.cells #[.int .i64 2, .string ⟨#[99]⟩] 72)) (.slice (some ⟨w.heap.size + 1, 0, none⟩) 1 1) exM := by
    have := RdG.newL (E := eE) (w.alloc (.cells #[.int .i64 1, .string ⟨#[97]⟩, .int .i64 1, .string ⟨#[98]⟩] 72)) exM 72 #[.int .i64 2, .string ⟨#[99]⟩] rfl (by simp [exM])
    rw [show exM.length = 1 from rfl] at this
    simpa using this
  have hp := Put_any _ _ exL exM 1 1 _ (hA.alloc (.cells #[.int .i64 2, .string ⟨#[99]⟩] 72)) hB
  rw [ex_x, ex_i, ex_l] at hp
  have HP := hide hp
  have HW := hide (below_alloc2 w (.cells #[.int .i64 1, .string ⟨#[97]⟩, .int .i64 1, .string ⟨#[98]⟩] 72) (.cells #[.int .i64 2, .string ⟨#[99]⟩] 72))
  clear hp hA hB
  go_enter Try.func30, Try.ntmps30
  go_wp2_with fail
  refine HP.out.mono ?_
  rintro e w1 ⟨v1, rfl, hr1, hb1⟩
  have hbw1 : Below w.heap.size w w1 := HW.out.trans (hb1.mono HW.out.size)
  have hs1 := hbw1.size
  obtain ⟨vo, vc, hvo, _, _⟩ := hr1.shape
  subst hvo
  have hW : Below w1.heap.size w1 ((w1.alloc (.cells #[.int .i64 0, .int .i64 0] 29)).alloc (.cells #[.int .i64 1, .string ⟨#[97]⟩, .int .i64 2, .string ⟨#[99]⟩] 72)) := below_alloc2 _ _ _
  have hO : RdG eE ((w1.alloc (.cells #[.int .i64 0, .int .i64 0] 29)).alloc (.cells #[.int .i64 1, .string ⟨#[97]⟩, .int .i64 2, .string ⟨#[99]⟩] 72)) (.slice (some ⟨w1.heap.size + 1, 0, none⟩) 2 2) exP := by
    have := RdG.newL (E := eE) (w1.alloc (.cells #[.int .i64 0, .int .i64 0] 29)) exP 72 #[.int .i64 1, .string ⟨#[97]⟩, .int .i64 2, .string ⟨#[99]⟩] rfl (by simp [exP])
    rw [show exP.length = 2 from rfl] at this
    simpa using this
  have HSM := hide (SameLog_any _ _ _ _ (hr1.below hW) hO)
  have HW2 := hide hW
  clear hW hO hr1
  unfold flt
  go_wp2_with fail
  refine HSM.out.mono ?_
  rintro e w2 ⟨rfl, hb2⟩
  have hb12 : Below w1.heap.size w1 w2 := HW2.out.trans (hb2.mono HW2.out.size)
  have hbw2 := hbw1.trans (hb12.mono hs1)
  go_wp2_with fail
  go_ret
  exact ⟨rfl, hbw2⟩

end Go.Proofs.Ytpojgcjigjenoag
