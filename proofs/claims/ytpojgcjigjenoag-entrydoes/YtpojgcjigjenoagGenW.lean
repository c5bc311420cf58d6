/-
  Stores of one place, and of some places, into a block of one's own: the world behind is a letter. Nothing of a program stands here.
-/
import Derived.Test.YtpojgcjigjenoagGenV
import Derived.Deep.MidRow
namespace Go.Proofs.Ytpojgcjigjenoag
open Go.RowKit

theorem grown_setCell (w : World) (B k : Nat) (u : Value) : w.grownBy (w.setCell ⟨B, k, none⟩ u) (some B) := by
  refine ⟨rfl, rfl, rfl, by simp, fun j hj hne => ?_⟩
  exact heap_setCell_other w ⟨B, k, none⟩ j u (fun q => hne (by simp at q; rw [q]))

theorem run_storeAt_slice {P : Program} {w : World} {B k : Nat} {t ty : TypeId} {xs : Array Value} {ao : Option Addr} {n c : Nat} (h : Blk w B t xs) (hk : k < xs.size) (hi : (P.info? ty).map (·.size) = some 1) :
    (Instr.storeAt ty (.pointer (some ⟨B, k, none⟩)) (.slice ao n c)).run P w = .ok () (w.setCell ⟨B, k, none⟩ (.slice ao n c)) := by
  have hc := h.cell k
  have hz := h.frozen k
  rw [Array.getElem?_eq_getElem hk] at hc
  cases hq : P.info? ty with
  | none => simp [hq] at hi
  | some i =>
    have hs : i.size = 1 := by simpa [hq] using hi
    simp [Instr.storeAt, Instr.sureAddr, storeVar, sizeOf, typeInfo, hq, hs, Value.cells, storeCells, go_sem, hc, hz, Addr.add]

theorem run_storeAt_int {P : Program} {w : World} {B k : Nat} {t ty : TypeId} {xs : Array Value} {q : IntKind} {n : Int} (h : Blk w B t xs) (hk : k < xs.size) (hi : (P.info? ty).map (·.size) = some 1) :
    (Instr.storeAt ty (.pointer (some ⟨B, k, none⟩)) (.int q n)).run P w = .ok () (w.setCell ⟨B, k, none⟩ (.int q n)) := by
  have hc := h.cell k
  have hz := h.frozen k
  rw [Array.getElem?_eq_getElem hk] at hc
  cases hq : P.info? ty with
  | none => simp [hq] at hi
  | some i =>
    have hs : i.size = 1 := by simpa [hq] using hi
    simp [Instr.storeAt, Instr.sureAddr, storeVar, sizeOf, typeInfo, hq, hs, Value.cells, storeCells, go_sem, hc, hz, Addr.add]

/-- A slice into a place of a block. -/
theorem wpList_store_slice {P : Program} {ops : Array Oper} {rest : List Oper} {op : Oper} {a : Act} {w : World} {Q : Exit → Act → World → Prop} {ty : TypeId} {x y : Operand} {B k : Nat} {t : TypeId} {xs : Array Value} {ao : Option Addr} {n c : Nat}
    (hgd : op.guard = none) (ho : op.op = .store ty x y) (hx : a.eval x = .pointer (some ⟨B, k, none⟩)) (hy : a.eval y = .slice ao n c) (hB : Blk w B t xs) (hk : Nat.blt k xs.size = true) (hi : (P.info? ty).map (·.size) = some 1)
    (h : ∀ w', Blk w' B t (xs.setIfInBounds k (.slice ao n c)) → w.grownBy w' (some B) → wpList P ops Q rest (a.put op.dst undef) w') : wpList P ops Q (op :: rest) a w :=
  wpList_plain hgd fun _ hK => by
    unfold Oper.wp execOp
    simp only [ho, hx, hy, run_storeAt_slice hB (by simpa using hk) hi, Sem.run_bind, Sem.run_pure, Result.andThen_ok]
    exact hK _ _ (h _ (hB.set k _) (grown_setCell w B k _))

/-- A number into a place of a block. -/
theorem wpList_store_int {P : Program} {ops : Array Oper} {rest : List Oper} {op : Oper} {a : Act} {w : World} {Q : Exit → Act → World → Prop} {ty : TypeId} {x y : Operand} {B k : Nat} {t : TypeId} {xs : Array Value} {q : IntKind} {n : Int}
    (hgd : op.guard = none) (ho : op.op = .store ty x y) (hx : a.eval x = .pointer (some ⟨B, k, none⟩)) (hy : a.eval y = .int q n) (hB : Blk w B t xs) (hk : Nat.blt k xs.size = true) (hi : (P.info? ty).map (·.size) = some 1)
    (h : ∀ w', Blk w' B t (xs.setIfInBounds k (.int q n)) → w.grownBy w' (some B) → wpList P ops Q rest (a.put op.dst undef) w') : wpList P ops Q (op :: rest) a w :=
  wpList_plain hgd fun _ hK => by
    unfold Oper.wp execOp
    simp only [ho, hx, hy, run_storeAt_int hB (by simpa using hk) hi, Sem.run_bind, Sem.run_pure, Result.andThen_ok]
    exact hK _ _ (h _ (hB.set k _) (grown_setCell w B k _))

theorem run_storeAt_bool {P : Program} {w : World} {B k : Nat} {t ty : TypeId} {xs : Array Value} {b : Bool} (h : Blk w B t xs) (hk : k < xs.size) (hi : (P.info? ty).map (·.size) = some 1) :
    (Instr.storeAt ty (.pointer (some ⟨B, k, none⟩)) (.bool b)).run P w = .ok () (w.setCell ⟨B, k, none⟩ (.bool b)) := by
  have hc := h.cell k
  have hz := h.frozen k
  rw [Array.getElem?_eq_getElem hk] at hc
  cases hq : P.info? ty with
  | none => simp [hq] at hi
  | some i =>
    have hs : i.size = 1 := by simpa [hq] using hi
    simp [Instr.storeAt, Instr.sureAddr, storeVar, sizeOf, typeInfo, hq, hs, Value.cells, storeCells, go_sem, hc, hz, Addr.add]

/-- A bool into a place of a block. -/
theorem wpList_store_bool {P : Program} {ops : Array Oper} {rest : List Oper} {op : Oper} {a : Act} {w : World} {Q : Exit → Act → World → Prop} {ty : TypeId} {x y : Operand} {B k : Nat} {t : TypeId} {xs : Array Value} {b : Bool}
    (hgd : op.guard = none) (ho : op.op = .store ty x y) (hx : a.eval x = .pointer (some ⟨B, k, none⟩)) (hy : a.eval y = .bool b) (hB : Blk w B t xs) (hk : Nat.blt k xs.size = true) (hi : (P.info? ty).map (·.size) = some 1)
    (h : ∀ w', Blk w' B t (xs.setIfInBounds k (.bool b)) → w.grownBy w' (some B) → wpList P ops Q rest (a.put op.dst undef) w') : wpList P ops Q (op :: rest) a w :=
  wpList_plain hgd fun _ hK => by
    unfold Oper.wp execOp
    simp only [ho, hx, hy, run_storeAt_bool hB (by simpa using hk) hi, Sem.run_bind, Sem.run_pure, Result.andThen_ok]
    exact hK _ _ (h _ (hB.set k _) (grown_setCell w B k _))

/-- A block is written behind what is laid new; then another new one. -/
theorem grown_via {w A w2 : World} {C : Nat} (hA : Below w.heap.size w A) (hg : A.grownBy w2 (some C)) : w.grownBy w2 (some C) :=
  ⟨hg.os.trans hA.os, hg.tape.trans hA.tape, hg.output.trans hA.output, Nat.le_trans hA.size hg.size, fun k hk hne => (hg.block k (Nat.lt_of_lt_of_le hk hA.size) hne).trans (hA.block k hk)⟩

theorem grown_more {w w2 w3 : World} {C R : Nat} (h : w.grownBy w2 (some C)) (hg : w2.grownBy w3 (some R)) (hR : w.heap.size ≤ R ∨ R = C) : w.grownBy w3 (some C) :=
  ⟨hg.os.trans h.os, hg.tape.trans h.tape, hg.output.trans h.output, Nat.le_trans h.size hg.size, fun k hk hne => (hg.block k (Nat.lt_of_lt_of_le hk h.size) (fun q => by cases q; rcases hR with hR | hR; omega; exact hne (by rw [hR]))).trans (h.block k hk hne)⟩

theorem grown_below {w w2 w3 : World} {C : Nat} (h : w.grownBy w2 (some C)) (hb : Below w2.heap.size w2 w3) : w.grownBy w3 (some C) :=
  ⟨hb.os.trans h.os, hb.tape.trans h.tape, hb.output.trans h.output, Nat.le_trans h.size hb.size, fun k hk hne => (hb.block k (Nat.lt_of_lt_of_le hk h.size)).trans (h.block k hk hne)⟩

/-- What a step leaves but some blocks, one behind the other. -/
theorem below_grownO {w w1 w' : World} {C : Nat} {o : Option Nat} (h : Below C w w1) (hg : w1.grownBy w' o) (ho : ∀ k, o = some k → C ≤ k) (hC : C ≤ w1.heap.size) : Below C w w' :=
  ⟨hg.os.trans h.os, hg.tape.trans h.tape, hg.output.trans h.output, Nat.le_trans h.size hg.size, fun k hk => (hg.block k (by omega) (fun q => by have := ho k q.symm; omega)).trans (h.block k hk)⟩

theorem owns_grownO {w w' : World} {base : Nat} {e : TypeId} {size : Nat} {v : Value} {n : Nat} {xs : List Value} {o : Option Nat} (h : w.ownsRow base e size v n xs) (hg : w.grownBy w' o) (hne : v.ownBlock = none ∨ v.ownBlock ≠ o) : w'.ownsRow base e size v n xs :=
  h.kept hg hne

end Go.Proofs.Ytpojgcjigjenoag
