/-
  One structure of a row of one's own is written anew: the world behind is a letter. Nothing of a program stands here.
-/
import Derived.Test.YtpojgcjigjenoagGenW
import Derived.Test.YtpojgcjigjenoagGenE
namespace Go.Proofs.Ytpojgcjigjenoag
open Go.RowKit

section
variable {α : Type} {K : Nat} {E : En α K}

theorem vs_set (cs : List α) (k : Nat) (c : α) (hk : k < cs.length) : E.vs (cs.set k c) = E.vs (cs.take k) ++ E.v c ++ E.vs (cs.drop (k + 1)) := by
  rw [List.set_eq_take_append_cons_drop, if_pos hk, vs_append, vs_cons, List.append_assoc]

/-- The row behind the write. -/
theorem owns_storeAt {P : Program} {w : World} {base : Nat} {e ty : TypeId} {g n cap k : Nat} {cs : List α} {c : α} {xs : Array Value}
    (hown : w.ownsRow base e K (.slice (some ⟨g, 0, none⟩) n cap) n (E.vs cs)) (hk : k < n) (hxs : xs.toList = E.v c) (hi : (P.info? ty).map (·.size) = some K) :
    ∃ w', (Instr.storeAt ty (.pointer (some ⟨g, k * K, none⟩)) (.agg xs)).run P w = .ok () w' ∧ w'.ownsRow base e K (.slice (some ⟨g, 0, none⟩) n cap) n (E.vs (cs.set k c)) ∧ w.grownBy w' (some g) := by
  obtain ⟨g', cap', cur, hv, hb, hg, hnc, hcm, hcs, htake⟩ := owns_pos hown (by omega)
  simp only [Value.slice.injEq, Option.some.injEq, Addr.mk.injEq] at hv
  obtain ⟨⟨rfl, -, -⟩, -, rfl⟩ := hv
  have hl : cs.length = n := owns_len hown
  have hkk : k * K + K ≤ n * K := by rw [← Nat.succ_mul]; exact Nat.mul_le_mul_right _ hk
  have hmc : n * K ≤ cap * K := Nat.mul_le_mul_right _ hnc
  have hvl : (E.v c).length = K := E.len c
  have hst := run_storeCells_at P g (k * K) e (E.v c) 0 cur w hg (by rw [hvl, hcs]; omega) (E.one c)
  simp only [Nat.add_zero, hvl] at hst
  have h1 : cur.toList.take (k * K) = E.vs (cs.take k) := by
    rw [← vs_take, ← htake, List.take_take, Nat.min_eq_left (by omega)]
  have h1l : (cur.toList.take (k * K)).length = k * K := by rw [List.length_take, Array.length_toList, hcs]; omega
  have key := owns_setRow (K := K) (w := w) (xs := E.vs (cs.set k c)) (n := n) (new := (cur.toList.take (k * K) ++ E.v c ++ cur.toList.drop (k * K + K)).toArray) hb hg hnc hcm ?_ ?_ ?_
  · refine ⟨_, ?_, key.1, key.2⟩
    cases hq : P.info? ty with
    | none => simp [hq] at hi
    | some i =>
      have hs : i.size = K := by simpa [hq] using hi
      have hz : xs.size = K := by rw [← Array.length_toList, hxs, hvl]
      simp [Instr.storeAt, Instr.sureAddr, storeVar, sizeOf, typeInfo, hq, hs, Value.cells, hz, hxs, hst]
  · simp only [List.size_toArray, List.length_append, h1l, hvl, List.length_drop, Array.length_toList, hcs]
    omega
  · have h2 : (cur.toList.take (k * K) ++ E.v c).length = k * K + K := by rw [List.length_append, h1l, hvl]
    simp only
    rw [List.take_append, h2, List.take_of_length_le (by rw [h2]; omega), h1, vs_set cs k c (by omega)]
    congr 1
    rw [← vs_drop, ← htake, List.drop_take, Nat.succ_mul]
  · rw [vs_length, List.length_set, hl]

/-- A structure into its place of a row of one's own. -/
theorem wpList_store_own {P : Program} {ops : Array Oper} {rest : List Oper} {op : Oper} {a : Act} {w : World} {Q : Exit → Act → World → Prop} {ty : TypeId} {x y : Operand} {base : Nat} {e : TypeId} {g n cap k off : Nat} {cs : List α} {c : α} {xs : Array Value}
    (hown : w.ownsRow base e K (.slice (some ⟨g, 0, none⟩) n cap) n (E.vs cs)) (hk : k < n) (hxs : xs.toList = E.v c) (hoff : off = k * K)
    (hgd : op.guard = none) (ho : op.op = .store ty x y) (hx : a.eval x = .pointer (some ⟨g, off, none⟩)) (hy : a.eval y = .agg xs) (hi : (P.info? ty).map (·.size) = some K)
    (h : ∀ w', w'.ownsRow base e K (.slice (some ⟨g, 0, none⟩) n cap) n (E.vs (cs.set k c)) → w.grownBy w' (some g) → wpList P ops Q rest (a.put op.dst undef) w') : wpList P ops Q (op :: rest) a w :=
  wpList_plain hgd fun _ hK => by
    subst hoff
    obtain ⟨w', hr, h1, h2⟩ := owns_storeAt (ty := ty) (P := P) hown hk hxs hi
    unfold Oper.wp execOp
    simp only [ho, hx, hy, hr, Sem.run_bind, Sem.run_pure, Result.andThen_ok]
    exact hK _ _ (h _ h1 h2)

end

end Go.Proofs.Ytpojgcjigjenoag
