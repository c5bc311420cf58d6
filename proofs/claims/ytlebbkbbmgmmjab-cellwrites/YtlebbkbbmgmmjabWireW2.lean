/-
  The reader's block, and what package wire's walks want of it.
-/
import Derived.Test.YtlebbkbbmgmmjabWireW1
import Derived.Test.YtlebbkbbmgmmjabCodeW3
namespace Go.Proofs.Ytlebbkbbmgmmjab
open Go.RowKit

/-- The reader's block: the bytes, and the place. -/
def Rdr (w : World) (R : Nat) (v : Value) (k : Int) : Prop := RdrT w 94 R v k

theorem Rdr.facts {w : World} {R : Nat} {v : Value} {k : Int} (h : Rdr w R v k) :
    w.cell? ⟨R, 0, none⟩ = some v ∧ w.cell? ⟨R, 1, none⟩ = some (.int .i64 k) ∧ w.frozen? ⟨R, 0, none⟩ = false ∧ w.frozen? ⟨R, 1, none⟩ = false ∧ R < w.heap.size := RdrT.facts h

theorem Rdr.new (w : World) (o : Obj) (v : Value) (k : Int) : Rdr ((w.alloc o).alloc (.cells #[v, .int .i64 k] 94)) (w.heap.size + 1) v k := by
  have := heap_alloc_new (w.alloc o) (.cells #[v, .int .i64 k] 94)
  simpa [Rdr, RdrT] using this

theorem Rdr.set {w : World} {R : Nat} {v : Value} {k : Int} (h : Rdr w R v k) (k' : Int) : Rdr (w.setCell ⟨R, 1, none⟩ (.int .i64 k')) R v k' := RdrT.set h k'

theorem grown_set (w : World) (R j : Nat) (u : Value) : w.grownBy (w.setCell ⟨R, j, none⟩ u) (some R) :=
  ⟨rfl, rfl, rfl, by simp [World.setCell], fun k _ hk => heap_setCell_other w _ k u (fun e => hk (by simp [e]))⟩

theorem grown_drewN (w : World) (n : Nat) (row : Option Nat) : w.grownBy (w.drewN n) row := ⟨rfl, rfl, rfl, Nat.le_refl _, fun _ _ _ => rfl⟩

theorem Rd.grown {w w' : World} {v : Value} {xs : List Value} {R : Nat} (h : Rd w v xs) (hg : w.grownBy w' (some R)) (hR : ∀ a l c, v = .slice (some a) l c → 0 < xs.length → a.block ≠ R) : Rd w' v xs := by
  obtain ⟨ao, cap, hv, h1, h2, h3, h4⟩ := h
  refine ⟨ao, cap, hv, h1, h2, h3, fun a ha j u hu => ?_⟩
  have hc := h4 a ha j u hu
  have hlt := World.block_lt_of_cell? w _ hc
  refine hg.cell hc ?_
  subst ha
  have e : (a.add j).block = a.block := by unfold Addr.add; split <;> rfl
  rw [e]
  intro e
  exact hR a _ _ hv (by have := (List.getElem?_eq_some_iff.1 hu).1; omega) (by simpa using e)

theorem Rd.block_lt {w : World} {a : Addr} {n c : Nat} {xs : List Value} (h : Rd w (.slice (some a) n c) xs) (hp : 0 < xs.length) : a.block < w.heap.size := by
  obtain ⟨b, off, cap, hv, _, _, hb, _⟩ := h.pos hp
  simp only [Value.slice.injEq, Option.some.injEq] at hv
  obtain ⟨rfl, _, _⟩ := hv
  exact hb

end Go.Proofs.Ytlebbkbbmgmmjab
