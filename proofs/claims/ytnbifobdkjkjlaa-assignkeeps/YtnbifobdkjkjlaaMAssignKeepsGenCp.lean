/-
  Texts joined: GenCp.
-/
import Derived.Test.YtnbifobdkjkjlaaMAssignKeeps3
import Derived.Laws.CopyOwn
/-
  'copy' into a row that is known whole; a row behind two copies. Nothing of a program stands here.
-/
namespace Go.Proofs.Ytnbifobdkjkjlaa
open Go.RowKit
set_option linter.unusedVariables false

/-- A row, from a place on written over. -/
def ovw (R : List Value) (o : Nat) (cs : List Value) : List Value := R.take o ++ cs ++ R.drop (o + cs.length)

theorem ovw_length {R : List Value} {o : Nat} {cs : List Value} (h : o + cs.length ≤ R.length) : (ovw R o cs).length = R.length := by
  simp only [ovw, List.length_append, List.length_take, List.length_drop]
  omega

/-- What a copy into a row leaves. -/
structure CpG (w w' : World) (g : Nat) (t : TypeId) (R : List Value) : Prop where
  row : w'.heap[g]? = some (.cells R.toArray t (0, 0))
  grw : w.grownBy w' (some g)

theorem run_copyG {P : Program} {w : World} {dT sT ty elem t : TypeId} {K g o dLen dCap sLen sCap m : Nat} {a : Addr} {R : List Value} {cs : List Value}
    (hu : P.underlying dT = some (.slice elem)) (hs : (P.info? elem).map (·.size) = some K)
    (hg : w.heap[g]? = some (.cells R.toArray t (0, 0))) (hm : Nat.min sLen dLen = m) (hn : cs.length = m * K)
    (hsrc : ∀ j v, cs[j]? = some v → w.cell? (a.add j) = some v) (hfit : o + cs.length ≤ R.length) (h1 : ∀ v ∈ cs, v.oneCell' = true) :
    ∃ w', (Builtin.copy_ #[dT, sT] ty #[.slice (some ⟨g, o, none⟩) dLen dCap, .slice (some a) sLen sCap]).run P w = .ok (goInt m) w' ∧ CpG w w' g t (ovw R o cs) := by
  have hl := run_loadCells_list (P := P) w a cs hsrc
  rw [hn] at hl
  have hst := run_storeCells_at P g o t cs 0 R.toArray w hg (by simpa using hfit) h1
  cases hq : P.info? elem with
  | none => simp [hq] at hs
  | some i =>
    have hi : i.size = K := by simpa [hq] using hs
    refine ⟨w.setRow g (ovw R o cs).toArray, ?_, setRow_heap w g _ _ t _ hg, grown_setRow w g _⟩
    simp [Builtin.copy_, run_underlying hu, Builtin.lenOf, Builtin.firstCells, sizeOf, typeInfo, hq, hi, hm, hl, hst, ovw]

theorem wpList_copyG {P : Program} {w : World} {ops : Array Oper} {rest : List Oper} {op : Oper} {a : Act} {Q : Exit → Act → World → Prop} {d s : Operand} {dT sT elem t : TypeId} {K g off dLen dCap sLen sCap m : Nat} {ad : Addr} {R cs : List Value}
    (hu : P.underlying dT = some (.slice elem)) (hsz : (P.info? elem).map (·.size) = some K) (hg : w.heap[g]? = some (.cells R.toArray t (0, 0))) (hm : Nat.min sLen dLen = m) (hn : cs.length = m * K)
    (hsrc : ∀ j v, cs[j]? = some v → w.cell? (ad.add j) = some v) (hfit : off + cs.length ≤ R.length) (h1 : ∀ v ∈ cs, v.oneCell' = true)
    (hgd : op.guard = none) (ho : op.op = .call { callee := .builtin .copy, args := #[d, s], argTypes := #[dT, sT] }) (hd : a.eval d = .slice (some ⟨g, off, none⟩) dLen dCap) (hs : a.eval s = .slice (some ad) sLen sCap)
    (h : ∀ w', CpG w w' g t (ovw R off cs) → wpList P ops Q rest (a.put op.dst (goInt m)) w') : wpList P ops Q (op :: rest) a w := by
  refine wpList_plain hgd fun KK hK => ?_
  obtain ⟨w', hrun, hc⟩ := run_copyG (P := P) (w := w) (dT := dT) (sT := sT) (ty := op.type) (dCap := dCap) (sCap := sCap) hu hsz hg hm hn hsrc hfit h1
  unfold Oper.wp
  simp only [execOp, ho, resolve, invoke, builtin, Sem.run_bind, Sem.run_pure, Result.andThen_ok, List.map_toArray, List.map_cons, List.map_nil, hd, hs, hrun]
  exact hK _ _ (h _ hc)

theorem step_copyG {P : Program} {w : World} {ops : Array Oper} {op : Oper} {a : Act} {KK : Act → World → Prop} {Q : Exit → Act → World → Prop} {EE : Prop} {d s : Operand} {dT sT elem t : TypeId} {K g off dLen dCap sLen sCap m : Nat} {ad : Addr} {R cs : List Value}
    (hu : P.underlying dT = some (.slice elem)) (hsz : (P.info? elem).map (·.size) = some K) (hg : w.heap[g]? = some (.cells R.toArray t (0, 0))) (hm : Nat.min sLen dLen = m) (hn : cs.length = m * K)
    (hsrc : ∀ j v, cs[j]? = some v → w.cell? (ad.add j) = some v) (hfit : off + cs.length ≤ R.length) (h1 : ∀ v ∈ cs, v.oneCell' = true)
    (hgd : op.guard = none) (ho : op.op = .call { callee := .builtin .copy, args := #[d, s], argTypes := #[dT, sT] }) (hd : a.eval d = .slice (some ⟨g, off, none⟩) dLen dCap) (hs : a.eval s = .slice (some ad) sLen sCap)
    (h : ∀ w', CpG w w' g t (ovw R off cs) → KK (a.put op.dst (goInt m)) w') : if Region.wanted op (yielded ops a.tmps) = true then Oper.wp P op a w KK Q else EE := by
  have hw : Region.wanted op (yielded ops a.tmps) = true := by simp [Region.wanted, hgd]
  rw [if_pos hw]
  obtain ⟨w', hrun, hc⟩ := run_copyG (P := P) (w := w) (dT := dT) (sT := sT) (ty := op.type) (dCap := dCap) (sCap := sCap) hu hsz hg hm hn hsrc hfit h1
  unfold Oper.wp
  simp only [execOp, ho, resolve, invoke, builtin, Sem.run_bind, Sem.run_pure, Result.andThen_ok, List.map_toArray, List.map_cons, List.map_nil, hd, hs, hrun]
  exact h _ hc

section
variable {α : Type} {K : Nat} {E : En α K}

theorem take_len {R : List Value} {o : Nat} (h : o ≤ R.length) : (R.take o).length = o := by rw [List.length_take]; omega

/-- The middle is written first, then what stands behind. -/
theorem ovw_ms {R : List Value} {p i : Nat} {P M S : List α} (hP : R.take (p * K) = E.vs P) (hp : P.length = p) (hi : i = p + M.length) (hl : (i + S.length) * K ≤ R.length) :
    (ovw (ovw R (p * K) (E.vs M)) (i * K) (E.vs S)).take ((i + S.length) * K) = E.vs (P ++ M ++ S) ∧ (ovw (ovw R (p * K) (E.vs M)) (i * K) (E.vs S)).length = R.length ∧ (ovw R (p * K) (E.vs M)).length = R.length := by
  subst hi
  have hm : (E.vs M).length = M.length * K := vs_length _
  have hs : (E.vs S).length = S.length * K := vs_length _
  rw [Nat.add_mul, Nat.add_mul] at hl
  have l1 : (ovw R (p * K) (E.vs M)).length = R.length := ovw_length (by omega)
  have l2 : (ovw (ovw R (p * K) (E.vs M)) ((p + M.length) * K) (E.vs S)).length = R.length := by rw [ovw_length (by rw [Nat.add_mul]; omega), l1]
  refine ⟨?_, l2, l1⟩
  have t1 : (ovw R (p * K) (E.vs M)).take ((p + M.length) * K) = E.vs P ++ E.vs M := by
    have hA : (E.vs P ++ E.vs M).length = (p + M.length) * K := by rw [List.length_append, vs_length, vs_length, hp, Nat.add_mul]
    rw [ovw, hP, ← hA, List.take_left]
  have hB : (E.vs P ++ E.vs M ++ E.vs S).length = (p + M.length + S.length) * K := by simp only [List.length_append, vs_length, hp, Nat.add_mul]
  rw [ovw, t1, ← hB, List.take_left, vs_append, vs_append]

/-- What stands behind is written first, then the middle. -/
theorem ovw_sm {R : List Value} {p i : Nat} {P M S : List α} (hP : R.take (p * K) = E.vs P) (hp : P.length = p) (hi : i = p + M.length) (hl : (i + S.length) * K ≤ R.length) :
    (ovw (ovw R (i * K) (E.vs S)) (p * K) (E.vs M)).take ((i + S.length) * K) = E.vs (P ++ M ++ S) ∧ (ovw (ovw R (i * K) (E.vs S)) (p * K) (E.vs M)).length = R.length ∧ (ovw R (i * K) (E.vs S)).length = R.length := by
  subst hi
  have hm : (E.vs M).length = M.length * K := vs_length _
  have hs : (E.vs S).length = S.length * K := vs_length _
  rw [Nat.add_mul, Nat.add_mul] at hl
  have l1 : (ovw R ((p + M.length) * K) (E.vs S)).length = R.length := ovw_length (by rw [Nat.add_mul]; omega)
  have l2 : (ovw (ovw R ((p + M.length) * K) (E.vs S)) (p * K) (E.vs M)).length = R.length := by rw [ovw_length (by omega), l1]
  refine ⟨?_, l2, l1⟩
  have hA : (R.take ((p + M.length) * K)).length = (p + M.length) * K := take_len (by rw [Nat.add_mul]; omega)
  have t1 : (ovw R ((p + M.length) * K) (E.vs S)).take (p * K) = E.vs P := by
    rw [ovw, List.append_assoc, List.take_append_of_le_length (by rw [hA, Nat.add_mul]; omega), List.take_take, ← hP]
    congr 1
    rw [Nat.add_mul]
    omega
  have t2 : (ovw R ((p + M.length) * K) (E.vs S)).drop (p * K + M.length * K) = E.vs S ++ R.drop ((p + M.length) * K + S.length * K) := by
    rw [ovw, List.append_assoc, hs, ← Nat.add_mul]
    exact List.drop_left' hA
  rw [ovw, t1, hm, t2, ← List.append_assoc]
  have hB : (E.vs P ++ E.vs M ++ E.vs S).length = (p + M.length + S.length) * K := by simp only [List.length_append, vs_length, hp, Nat.add_mul]
  rw [← hB, List.take_left, vs_append, vs_append]

end

end Go.Proofs.Ytnbifobdkjkjlaa
