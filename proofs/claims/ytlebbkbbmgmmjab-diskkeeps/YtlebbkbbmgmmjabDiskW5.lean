/-
  The document's example of a disk.
-/
import Derived.Test.YtlebbkbbmgmmjabDiskW4
namespace Go.Proofs.Ytlebbkbbmgmmjab
open Go.RowKit

theorem rd_lit (w : World) (xs : List Value) (e : TypeId) (h : xs.length ≤ maxLen) : Rd (w.alloc (.cells xs.toArray e)) (.slice (some ⟨w.heap.size, 0, none⟩) xs.length xs.length) xs :=
  Rd.ofOwns (by simpa using World.ownsRow_lit (base := w.heap.size) (size := 1) (e := e) w xs.toArray xs.length (Nat.le_refl _) h (by simp))

set_option maxRecDepth 100000 in
set_option maxHeartbeats 400000 in
theorem diskBegun_any (w : World) : Calls Try.prog 9 #[] w fun e w' => e = .returned (.bool true) ∧ Below w.heap.size w w' := by
  have ha : appendR [] 0 [1, 2, 3] = ([1, 2, 3], 0, 0) := rfl
  have hc : crashR [1, 2, 3] 0 1 = ([1], 1, 0, 0) := rfl
  go_enter Try.func9, Try.ntmps9
  go_wp2_with fail
  have hr0 := rd_lit w (bc [1, 2, 3]) 5 (by decide)
  refine (Append_any _ [] 0 _ [1, 2, 3] _ (Rd.nil _) hr0).mono ?_
  rintro e w1 ⟨v1, rfl, hr1, hb1, hn1⟩
  have hbw1 : Below w.heap.size w w1 := (below_alloc _ _).trans (hb1.mono (by simp))
  have hsz1 := hbw1.size
  simp only [ha, flt, dsk] at hr1 ⊢
  clear hb1 hr0 hn1
  obtain ⟨ao1, cap1, hu, hc3, hc4⟩ := hr1.shape
  subst hu
  go_wp2_with fail
  refine (Crash_any _ [1, 2, 3] 0 1 _ ((hr1.alloc _).alloc _)).mono ?_
  rintro e w2 ⟨v2, rfl, hr2, hb2, hn2⟩
  simp only [hc, flt, dsk] at hr2 ⊢
  have hF : Fb w2 (w1.heap.size + 1) 0 0 := by
    have := (Fb.new (w1.alloc (.cells #[.slice ao1 (bc [1, 2, 3]).length cap1, .int .i64 0] 27)) 0 0).below hb2
    simpa using this
  obtain ⟨f0, f1, f2, f3, f4⟩ := hF.facts
  have hbw2 : Below w.heap.size w w2 := hbw1.trans ((below_alloc _ _).trans ((below_alloc _ _).mono (by simp) |>.trans (hb2.mono (by simp; omega))) |>.mono (by omega))
  have hsz2 := hbw2.size
  clear hb2 hn2 hbw1 hF
  obtain ⟨ao2, cap2, hu, hc5, hc6⟩ := hr2.shape
  subst hu
  generalize w1.heap.size + 1 = z1 at *
  go_wp2_with fail
  have hr3 := rd_lit ((w2.alloc (.cells #[.slice ao2 (bc [1]).length cap2, .int .i64 1] 27)).alloc (.cells #[.int .i64 0, .int .i64 0] 29)) (bc [1]) 5 (by decide)
  simp only [World.size_alloc] at hr3
  refine (SameDisk_any _ _ [1] [1] 1 1 _ (((hr2.alloc _).alloc _).alloc _) hr3).mono ?_
  rintro e w3 ⟨rfl, hb3⟩
  have hbw3 : Below w.heap.size w w3 := Below.trans (by go_grown) (hb3.mono (by simp; omega))
  go_wp2_with fail
  go_ret
  exact ⟨rfl, hbw3⟩

end Go.Proofs.Ytlebbkbbmgmmjab
