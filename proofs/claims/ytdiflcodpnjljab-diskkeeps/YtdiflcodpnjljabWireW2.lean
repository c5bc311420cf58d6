/-
  The walks over package wire's reader.
-/
import Derived.Test.YtdiflcodpnjljabWireW1
namespace Go.Proofs.Ytdiflcodpnjljab
open Go.RowKit

/-- The reader's block: the bytes, and the place. -/
def Rdr (w : World) (R : Nat) (v : Value) (k : Int) : Prop := w.heap[R]? = some (.cells #[v, .int .i64 k] 103 (0, 0))

theorem Rdr.facts {w : World} {R : Nat} {v : Value} {k : Int} (h : Rdr w R v k) :
    w.cell? ⟨R, 0, none⟩ = some v ∧ w.cell? ⟨R, 1, none⟩ = some (.int .i64 k) ∧ w.frozen? ⟨R, 0, none⟩ = false ∧ w.frozen? ⟨R, 1, none⟩ = false ∧ R < w.heap.size := by
  refine ⟨?_, ?_, frozen_of_row _ _ _ _ _ h, frozen_of_row _ _ _ _ _ h, ?_⟩
  · rw [cell_of_row _ _ _ _ _ _ h]; rfl
  · rw [cell_of_row _ _ _ _ _ _ h]; rfl
  · exact (Array.getElem?_eq_some_iff.1 h).1

theorem Rdr.new (w : World) (o : Obj) (v : Value) (k : Int) : Rdr ((w.alloc o).alloc (.cells #[v, .int .i64 k] 103)) (w.heap.size + 1) v k := by
  have := heap_alloc_new (w.alloc o) (.cells #[v, .int .i64 k] 103)
  simpa [Rdr] using this

theorem Rdr.set {w : World} {R : Nat} {v : Value} {k : Int} (h : Rdr w R v k) (k' : Int) : Rdr (w.setCell ⟨R, 1, none⟩ (.int .i64 k')) R v k' := by
  unfold Rdr
  rw [heap_setCell_same w R 1 _ _ _ h]
  rfl

theorem grown_set (w : World) (R j : Nat) (u : Value) : w.grownBy (w.setCell ⟨R, j, none⟩ u) (some R) :=
  ⟨rfl, rfl, rfl, by simp [World.setCell], fun k _ hk => heap_setCell_other w _ k u (fun e => hk (by simp [e]))⟩

theorem grown_drewN (w : World) (n : Nat) (row : Option Nat) : w.grownBy (w.drewN n) row := ⟨rfl, rfl, rfl, Nat.le_refl _, fun _ _ _ => rfl⟩
theorem World.grownBy.trans {a b c : World} {row : Option Nat} (h : a.grownBy b row) (k : b.grownBy c row) : a.grownBy c row :=
  ⟨k.os.trans h.os, k.tape.trans h.tape, k.output.trans h.output, Nat.le_trans h.size k.size, fun i hi hn => (k.block i (Nat.lt_of_lt_of_le hi h.size) hn).trans (h.block i hi hn)⟩

theorem Rd.grown {w w' : World} {v : Value} {xs : List Value} {R : Nat} (h : Rd w v xs) (hg : w.grownBy w' (some R)) (hR : ∀ a l c, v = .slice (some a) l c → 0 < xs.length → a.block ≠ R) : Rd w' v xs := by
  obtain ⟨ao, cap, hv, h1, h2, h3, h4⟩ := h
  refine ⟨ao, cap, hv, h1, h2, h3, fun a ha j u hu => ?_⟩
  have hc := h4 a ha j u hu
  have hlt := World.block_lt_of_cell? w _ hc
  refine hg.cell hc ?_
  subst ha
  have e : (a.add j).block = a.block := by unfold Addr.add; split <;> rfl
  rw [e]
  intro e
  exact hR a _ _ hv (by have := (List.getElem?_eq_some_iff.1 hu).1; omega) (by simpa using e)

theorem Rd.block_lt {w : World} {a : Addr} {n c : Nat} {xs : List Value} (h : Rd w (.slice (some a) n c) xs) (hp : 0 < xs.length) : a.block < w.heap.size := by
  obtain ⟨b, off, cap, hv, _, _, hb, _⟩ := h.pos hp
  simp only [Value.slice.injEq, Option.some.injEq] at hv
  obtain ⟨rfl, _, _⟩ := hv
  exact hb



/-- What num answers. -/
def numV : Option (Nat × Nat) → Value
  | none => .tuple #[.int .i64 0, .bool false]
  | some (n, _) => .tuple #[.int .i64 n, .bool true]

def numK : Option (Nat × Nat) → Nat
  | none => 0
  | some (_, k) => k


end Go.Proofs.Ytdiflcodpnjljab
