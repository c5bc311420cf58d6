/-
  The walks over merge's heap: two places changed.
-/
import Derived.Test.YtlebbkbbmgmmjadMergeW1
namespace Go.Proofs.Ytlebbkbbmgmmjad
open Go.RowKit

theorem gb_drew {a w : World} {o : Option Nat} (h : a.grownBy w o) : a.grownBy w.drew o := ⟨h.os, h.tape, h.output, h.size, h.block⟩
theorem gb_drewN {a w : World} {o : Option Nat} (h : a.grownBy w o) (n : Nat) : a.grownBy (w.drewN n) o := ⟨h.os, h.tape, h.output, h.size, h.block⟩
theorem gb_below {a w : World} {B : Nat} (h : Below a.heap.size a w) : a.grownBy w (some B) := ⟨h.os, h.tape, h.output, h.size, fun k hk _ => h.block k hk⟩

/-- The block of a heap: the sources hs in its first places. -/
structure HpAt (xs : Array Value) (hs : List Src) : Prop where
  size : xs.size = 41
  len : hs.length ≤ 20
  n : xs[40]? = some (.int .i64 hs.length)
  at0 : ∀ (i : Nat) s, hs[i]? = some s → xs[i * 2]? = some s.v
  at1 : ∀ (i : Nat) s, hs[i]? = some s → xs[i * 2 + 1]? = some (.int .i64 s.n)
  one : xs.all (·.oneCell') = true

set_option maxRecDepth 100000 in
set_option maxHeartbeats 1000000 in
theorem swap_any (H : Nat) (xs : Array Value) (a b : Nat) (va vb : Value) (na nb : Int) (w : World) (hB : Bk w H 132 xs) (ha : a < 20) (hb : b < 20) (hne : a ≠ b)
    (h0 : xs[a * 2]? = some va) (h1 : xs[a * 2 + 1]? = some (.int .i64 na)) (h2 : xs[b * 2]? = some vb) (h3 : xs[b * 2 + 1]? = some (.int .i64 nb))
    (ho1 : ∃ ao n c, va = .slice ao n c) (ho2 : ∃ ao n c, vb = .slice ao n c) :
    Calls Try.prog 125 #[.pointer (some ⟨H, 0, none⟩), .int .i64 a, .int .i64 b] w fun e w' => e = .returned (.tuple #[]) ∧ Bk w' H 132 ((((xs.setIfInBounds (a * 2) vb).setIfInBounds (a * 2 + 1) (.int .i64 nb)).setIfInBounds (b * 2) va).setIfInBounds (b * 2 + 1) (.int .i64 na)) ∧ w.grownBy w' (some H) := by
  obtain ⟨ao1, l1, k1, rfl⟩ := ho1
  obtain ⟨ao2, l2, k2, rfl⟩ := ho2
  have c0 := (hB.cell (a * 2)).trans h0
  have c1 := (hB.cell (a * 2 + 1)).trans h1
  have c2 := (hB.cell (b * 2)).trans h2
  have c3 := (hB.cell (b * 2 + 1)).trans h3
  have f0 := hB.frozen (a * 2)
  have f1 := hB.frozen (a * 2 + 1)
  have f2 := hB.frozen (b * 2)
  have f3 := hB.frozen (b * 2 + 1)
  have i0 : (0 : Int) ≤ (a : Int) := by omega
  have i1 : (a : Int) < 20 := by omega
  have i2 : (0 : Int) ≤ (b : Int) := by omega
  have i3 : (b : Int) < 20 := by omega
  go_enter Try.func125, Try.ntmps125
  go_wp2_with fail
  go_region
  refine bodyPost_end (v := .tuple #[]) (by simp [results, Try.results125, go_sem]) rfl ⟨?_, ?_, ?_⟩
  · rfl
  · exact (((hB.set (a * 2) _).set (a * 2 + 1) _).set (b * 2) _).set (b * 2 + 1) _
  · exact gb_drew (gb_set (gb_set (gb_set (gb_set (gb_refl _ _) (a * 2) _) (a * 2 + 1) _) (b * 2) _) (b * 2 + 1) _)

end Go.Proofs.Ytlebbkbbmgmmjad
