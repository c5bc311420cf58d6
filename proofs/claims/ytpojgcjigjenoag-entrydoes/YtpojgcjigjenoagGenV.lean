/-
  Whole variables, out of their blocks and into them; results that are read out of blocks. Nothing of a program stands here.
-/
import Derived.Test.YtpojgcjigjenoagGenD
import Derived.Deep.WholeRow
namespace Go.Proofs.Ytpojgcjigjenoag
open Go.RowKit

theorem run_loadVar_blk {P : Program} {w : World} {B : Nat} {t ty : TypeId} {xs : Array Value} {d : TypeDesc} (h : Blk w B t xs) (hu : P.underlying ty = some d) (hd : (match d with | .struct _ | .array _ _ => true | _ => false) = true) (hi : (P.info? ty).map (·.size) = some xs.size) :
    (loadVar ty ⟨B, 0, none⟩).run P w = .ok (.agg xs) w := run_loadVar_row w B t ty xs (0, 0) d h hu hd hi

theorem run_loadAt_blk {P : Program} {w : World} {B : Nat} {t ty : TypeId} {xs : Array Value} {d : TypeDesc} (h : Blk w B t xs) (hu : P.underlying ty = some d) (hd : (match d with | .struct _ | .array _ _ => true | _ => false) = true) (hi : (P.info? ty).map (·.size) = some xs.size) :
    (Instr.loadAt ty (.pointer (some ⟨B, 0, none⟩))).run P w = .ok (.agg xs) w := by
  simp only [Instr.loadAt, Instr.sureAddr, Sem.run_bind, Sem.run_pure, Result.andThen]
  exact run_loadVar_blk h hu hd hi

theorem run_storeAt_blk {P : Program} {w : World} {B : Nat} {t ty : TypeId} {old xs : Array Value} (h : Blk w B t old) (hi : (P.info? ty).map (·.size) = some xs.size) (ho : old.size = xs.size) (h1 : xs.all (·.oneCell') = true) :
    (Instr.storeAt ty (.pointer (some ⟨B, 0, none⟩)) (.agg xs)).run P w = .ok () (w.setRow B xs) := by
  simp only [Instr.storeAt, Instr.sureAddr, Sem.run_bind, Sem.run_pure, Result.andThen]
  exact run_storeVar_row w B t ty old xs h hi ho h1

theorem Blk.setRow {w : World} {B : Nat} {t : TypeId} {old : Array Value} (h : Blk w B t old) (xs : Array Value) : Blk (w.setRow B xs) B t xs := by
  unfold Blk at *
  simp [World.setRow, Array.getElem?_modify, h]

theorem grown_setRow (w : World) (B : Nat) (xs : Array Value) : w.grownBy (w.setRow B xs) (some B) := by
  refine ⟨rfl, rfl, rfl, by simp [World.setRow], fun k hk hne => ?_⟩
  have : ¬ B = k := fun q => hne (by rw [q])
  simp [World.setRow, Array.getElem?_modify, this]

/-- A whole variable out of its block. -/
theorem wpList_load_blk {P : Program} {ops : Array Oper} {rest : List Oper} {op : Oper} {a : Act} {w : World} {Q : Exit → Act → World → Prop} {ty : TypeId} {x : Operand} {B : Nat} {t : TypeId} {xs : Array Value} {d : TypeDesc}
    (hB : Blk w B t xs) (hu : P.underlying ty = some d) (hd : (match d with | .struct _ | .array _ _ => true | _ => false) = true) (hi : (P.info? ty).map (·.size) = some xs.size) (hgd : op.guard = none) (ho : op.op = .load ty x) (hx : a.eval x = .pointer (some ⟨B, 0, none⟩))
    (h : wpList P ops Q rest (a.put op.dst (.agg xs)) w) : wpList P ops Q (op :: rest) a w :=
  wpList_plain hgd fun _ hK => by
    unfold Oper.wp execOp
    simp only [ho, hx, run_loadAt_blk hB hu hd hi, Sem.run_bind, Sem.run_pure, Result.andThen_ok]
    exact hK _ _ h

/-- A whole variable into its block: the world behind is a letter. -/
theorem wpList_store_blk {P : Program} {ops : Array Oper} {rest : List Oper} {op : Oper} {a : Act} {w : World} {Q : Exit → Act → World → Prop} {ty : TypeId} {x y : Operand} {B : Nat} {t : TypeId} {old xs : Array Value}
    (hgd : op.guard = none) (ho : op.op = .store ty x y) (hx : a.eval x = .pointer (some ⟨B, 0, none⟩)) (hy : a.eval y = .agg xs) (hB : Blk w B t old) (hz : old.size = xs.size) (hi : (P.info? ty).map (·.size) = some xs.size) (h1 : xs.toList.all (·.oneCell') = true)
    (h : ∀ w', Blk w' B t xs → w.grownBy w' (some B) → wpList P ops Q rest (a.put op.dst undef) w') : wpList P ops Q (op :: rest) a w :=
  wpList_plain hgd fun _ hK => by
    unfold Oper.wp execOp
    simp only [ho, hx, hy, run_storeAt_blk hB hi hz (by rw [← Array.all_toList]; exact h1), Sem.run_bind, Sem.run_pure, Result.andThen_ok]
    exact hK _ _ (h _ (hB.setRow xs) (grown_setRow w B xs))

/-- The same as a step of a region that draws its order. -/
theorem step_store_blk {P : Program} {w : World} {ops : Array Oper} {o : Oper} {a : Act} {K : Act → World → Prop} {Q : Exit → Act → World → Prop} {EE : Prop} {x y : Operand} {B : Nat} {t ty : TypeId} {old xs : Array Value}
    (hgd : o.guard = none) (ho : o.op = .store ty x y) (hx : a.eval x = .pointer (some ⟨B, 0, none⟩)) (hy : a.eval y = .agg xs) (hB : Blk w B t old) (hz : old.size = xs.size) (hi : (P.info? ty).map (·.size) = some xs.size) (h1 : xs.toList.all (·.oneCell') = true)
    (h : ∀ w', Blk w' B t xs → w.grownBy w' (some B) → K (a.put o.dst undef) w') : if Region.wanted o (yielded ops a.tmps) = true then Oper.wp P o a w K Q else EE := by
  have hw : Region.wanted o (yielded ops a.tmps) = true := by simp [Region.wanted, hgd]
  rw [if_pos hw]
  unfold Oper.wp execOp
  simp only [ho, hx, hy, run_storeAt_blk hB hi hz (by rw [← Array.all_toList]; exact h1), Sem.run_bind, Sem.run_pure, Result.andThen_ok]
  exact h _ (hB.setRow xs) (grown_setRow w B xs)

theorem results1_cell {P : Program} {fn : Func} {i : Tmp} {t : TypeId} {tmps : Array Value} {B : Nat} {v : Value} {w : World} (h : fn.results = #[.cell i t]) (hp : tmps[i]?.getD undef = .pointer (some ⟨B, 0, none⟩)) (hl : (loadVar t ⟨B, 0, none⟩).run P w = .ok v w) :
    (results fn tmps).run P w = .ok v w := by
  simp [results, h, hp, asAddr, hl]

theorem results2_cells {P : Program} {fn : Func} {i j : Tmp} {t u : TypeId} {tmps : Array Value} {B C : Nat} {v1 v2 : Value} {w : World} (h : fn.results = #[.cell i t, .cell j u]) (hp : tmps[i]?.getD undef = .pointer (some ⟨B, 0, none⟩)) (hq : tmps[j]?.getD undef = .pointer (some ⟨C, 0, none⟩)) (hl : (loadVar t ⟨B, 0, none⟩).run P w = .ok v1 w) (hm : (loadVar u ⟨C, 0, none⟩).run P w = .ok v2 w) :
    (results fn tmps).run P w = .ok (.tuple #[v1, v2]) w := by
  simp [results, h, hp, hq, asAddr, hl, hm]

theorem results2_tc {P : Program} {fn : Func} {i j : Tmp} {u : TypeId} {tmps : Array Value} {C : Nat} {v1 v2 : Value} {w : World} (h : fn.results = #[.tmp i, .cell j u]) (hp : tmps[i]?.getD undef = v1) (hq : tmps[j]?.getD undef = .pointer (some ⟨C, 0, none⟩)) (hm : (loadVar u ⟨C, 0, none⟩).run P w = .ok v2 w) :
    (results fn tmps).run P w = .ok (.tuple #[v1, v2]) w := by
  simp [results, h, hp, hq, asAddr, hm]

end Go.Proofs.Ytpojgcjigjenoag
