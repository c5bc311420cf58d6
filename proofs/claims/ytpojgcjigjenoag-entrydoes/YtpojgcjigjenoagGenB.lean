/-
  Blocks of one's own; faults. Nothing of a program stands here.
-/
import Derived.Test.YtpojgcjigjenoagGen
import Derived.Laws.EntriesVeiled
import Derived.Deep.RegionHeld3
namespace Go.Proofs.Ytpojgcjigjenoag
open Go.RowKit

theorem quiet_addG {P : Program} {f : FuncId} {args : Array Value} {w : World} {p n : Nat} {v : Value} (h : Calls P f args (w.drewN (p + n)) fun e w' => e = .returned v ∧ ∃ m, w' = (w.drewN (p + n)).drewN m) :
    Calls P f args (w.drewN (p + n)) fun e w'' => e = .returned v ∧ ∃ m, w'' = w.drewN (p + m) := h.mono fun _ _ ⟨he, m, hm⟩ => ⟨he, n + m, by rw [hm, World.drewN_drewN, Nat.add_assoc]⟩

/-- A block of one's own. -/
def Blk (w : World) (B : Nat) (t : TypeId) (xs : Array Value) : Prop := w.heap[B]? = some (.cells xs t (0, 0))

theorem Blk.cell {w : World} {B : Nat} {t : TypeId} {xs : Array Value} (h : Blk w B t xs) (k : Nat) : w.cell? ⟨B, k, none⟩ = xs[k]? := by
  rw [cell_of_row _ _ _ _ _ _ h]

theorem Blk.frozen {w : World} {B : Nat} {t : TypeId} {xs : Array Value} (h : Blk w B t xs) (k : Nat) : w.frozen? ⟨B, k, none⟩ = false := frozen_of_row _ _ _ _ _ h
theorem Blk.lt {w : World} {B : Nat} {t : TypeId} {xs : Array Value} (h : Blk w B t xs) : B < w.heap.size := (Array.getElem?_eq_some_iff.1 h).1
theorem Blk.below {w w' : World} {B C : Nat} {t : TypeId} {xs : Array Value} (h : Blk w B t xs) (hb : Below C w w') (hC : B < C) : Blk w' B t xs := by
  unfold Blk
  rw [hb.block _ hC]
  exact h

theorem Blk.later {w w' : World} {B : Nat} {t : TypeId} {xs : Array Value} (h : Blk w B t xs) (hb : Below w.heap.size w w') : Blk w' B t xs := h.below hb h.lt

theorem Blk.grown {w w' : World} {B : Nat} {o : Option Nat} {t : TypeId} {xs : Array Value} (h : Blk w B t xs) (hg : w.grownBy w' o) (hne : some B ≠ o) : Blk w' B t xs := by
  unfold Blk
  rw [hg.block _ h.lt hne]
  exact h

theorem Blk.new (w : World) (t : TypeId) (xs : Array Value) : Blk (w.alloc (.cells xs t)) w.heap.size t xs := heap_alloc_new _ _
theorem Blk.set {w : World} {B : Nat} {t : TypeId} {xs : Array Value} (h : Blk w B t xs) (k : Nat) (u : Value) : Blk (w.setCell ⟨B, k, none⟩ u) B t (xs.setIfInBounds k u) := by
  unfold Blk
  rw [heap_setCell_same w B k _ _ _ h]

theorem Blk.other {w : World} {B : Nat} {t : TypeId} {xs : Array Value} (h : Blk w B t xs) {p : Addr} (hp : B ≠ p.block) (u : Value) : Blk (w.setCell p u) B t xs := by
  unfold Blk
  rw [heap_setCell_other w p _ u hp]
  exact h

/-- A block that was laid for some values, as a slice over all of it. -/
theorem Rd.newL (w : World) (vs : Array Value) (e : TypeId) (hl : vs.size ≤ 1000) : Rd (w.alloc (.cells vs e)) (.slice (some ⟨w.heap.size, 0, none⟩) vs.size vs.size) vs.toList :=
  ⟨some ⟨w.heap.size, 0, none⟩, vs.size, by simp, by simp, by unfold maxLen; omega, (fun h => by cases h), fun a ha j v hv => by
    cases ha
    rw [Addr.add_lit, Nat.zero_add, ← hv]
    have := cell_of_row (w.alloc (.cells vs e)) w.heap.size j _ e (0, 0) (heap_alloc_new w _)
    rw [this]
    simp⟩

/-- A fault as a value. -/
def flt (f : Int × Int) : Value := .agg #[.int .i64 f.1, .int .i64 f.2]

theorem below_allocG (w : World) (o : Obj) : Below w.heap.size w (w.alloc o) := (Below.refl _ _).alloc (Nat.le_refl _) o

theorem cell_belowG {w w' : World} {p : Addr} {v : Value} (h : w.cell? p = some v) (hb : Below w.heap.size w w') : w'.cell? p = some v :=
  (hb.cell (World.block_lt_of_cell? w _ h)).trans h

end Go.Proofs.Ytpojgcjigjenoag
