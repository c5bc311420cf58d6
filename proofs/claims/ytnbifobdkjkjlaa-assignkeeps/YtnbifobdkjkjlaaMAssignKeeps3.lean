/-
  Texts joined: GenW, GenE, GenX, GenL, GenM, GenH.
-/
import Derived.Test.YtnbifobdkjkjlaaMAssignKeeps2
import Derived.Deep.MidRow
import Derived.Laws.OwnMore
import Derived.Maps.AppendAt
import Derived.Deep.RegionHeld3
/-
  Stores of one place, and of some places, into a block of one's own: the world behind is a letter. Nothing of a program stands here.
-/
namespace Go.Proofs.Ytnbifobdkjkjlaa
open Go.RowKit

theorem grown_setCell (w : World) (B k : Nat) (u : Value) : w.grownBy (w.setCell ⟨B, k, none⟩ u) (some B) := by
  refine ⟨rfl, rfl, rfl, by simp, fun j hj hne => ?_⟩
  exact heap_setCell_other w ⟨B, k, none⟩ j u (fun q => hne (by simp at q; rw [q]))

theorem run_storeAt_slice {P : Program} {w : World} {B k : Nat} {t ty : TypeId} {xs : Array Value} {ao : Option Addr} {n c : Nat} (h : Blk w B t xs) (hk : k < xs.size) (hi : (P.info? ty).map (·.size) = some 1) :
    (Instr.storeAt ty (.pointer (some ⟨B, k, none⟩)) (.slice ao n c)).run P w = .ok () (w.setCell ⟨B, k, none⟩ (.slice ao n c)) := by
  have hc := h.cell k
  have hz := h.frozen k
  rw [Array.getElem?_eq_getElem hk] at hc
  cases hq : P.info? ty with
  | none => simp [hq] at hi
  | some i =>
    have hs : i.size = 1 := by simpa [hq] using hi
    simp [Instr.storeAt, Instr.sureAddr, storeVar, sizeOf, typeInfo, hq, hs, Value.cells, storeCells, go_sem, hc, hz, Addr.add]

theorem run_storeAt_int {P : Program} {w : World} {B k : Nat} {t ty : TypeId} {xs : Array Value} {q : IntKind} {n : Int} (h : Blk w B t xs) (hk : k < xs.size) (hi : (P.info? ty).map (·.size) = some 1) :
    (Instr.storeAt ty (.pointer (some ⟨B, k, none⟩)) (.int q n)).run P w = .ok () (w.setCell ⟨B, k, none⟩ (.int q n)) := by
  have hc := h.cell k
  have hz := h.frozen k
  rw [Array.getElem?_eq_getElem hk] at hc
  cases hq : P.info? ty with
  | none => simp [hq] at hi
  | some i =>
    have hs : i.size = 1 := by simpa [hq] using hi
    simp [Instr.storeAt, Instr.sureAddr, storeVar, sizeOf, typeInfo, hq, hs, Value.cells, storeCells, go_sem, hc, hz, Addr.add]

/-- A slice into a place of a block. -/
theorem wpList_store_slice {P : Program} {ops : Array Oper} {rest : List Oper} {op : Oper} {a : Act} {w : World} {Q : Exit → Act → World → Prop} {ty : TypeId} {x y : Operand} {B k : Nat} {t : TypeId} {xs : Array Value} {ao : Option Addr} {n c : Nat}
    (hgd : op.guard = none) (ho : op.op = .store ty x y) (hx : a.eval x = .pointer (some ⟨B, k, none⟩)) (hy : a.eval y = .slice ao n c) (hB : Blk w B t xs) (hk : Nat.blt k xs.size = true) (hi : (P.info? ty).map (·.size) = some 1)
    (h : ∀ w', Blk w' B t (xs.setIfInBounds k (.slice ao n c)) → w.grownBy w' (some B) → wpList P ops Q rest (a.put op.dst undef) w') : wpList P ops Q (op :: rest) a w :=
  wpList_plain hgd fun _ hK => by
    unfold Oper.wp execOp
    simp only [ho, hx, hy, run_storeAt_slice hB (by simpa using hk) hi, Sem.run_bind, Sem.run_pure, Result.andThen_ok]
    exact hK _ _ (h _ (hB.set k _) (grown_setCell w B k _))

/-- A number into a place of a block. -/
theorem wpList_store_int {P : Program} {ops : Array Oper} {rest : List Oper} {op : Oper} {a : Act} {w : World} {Q : Exit → Act → World → Prop} {ty : TypeId} {x y : Operand} {B k : Nat} {t : TypeId} {xs : Array Value} {q : IntKind} {n : Int}
    (hgd : op.guard = none) (ho : op.op = .store ty x y) (hx : a.eval x = .pointer (some ⟨B, k, none⟩)) (hy : a.eval y = .int q n) (hB : Blk w B t xs) (hk : Nat.blt k xs.size = true) (hi : (P.info? ty).map (·.size) = some 1)
    (h : ∀ w', Blk w' B t (xs.setIfInBounds k (.int q n)) → w.grownBy w' (some B) → wpList P ops Q rest (a.put op.dst undef) w') : wpList P ops Q (op :: rest) a w :=
  wpList_plain hgd fun _ hK => by
    unfold Oper.wp execOp
    simp only [ho, hx, hy, run_storeAt_int hB (by simpa using hk) hi, Sem.run_bind, Sem.run_pure, Result.andThen_ok]
    exact hK _ _ (h _ (hB.set k _) (grown_setCell w B k _))

theorem run_storeAt_bool {P : Program} {w : World} {B k : Nat} {t ty : TypeId} {xs : Array Value} {b : Bool} (h : Blk w B t xs) (hk : k < xs.size) (hi : (P.info? ty).map (·.size) = some 1) :
    (Instr.storeAt ty (.pointer (some ⟨B, k, none⟩)) (.bool b)).run P w = .ok () (w.setCell ⟨B, k, none⟩ (.bool b)) := by
  have hc := h.cell k
  have hz := h.frozen k
  rw [Array.getElem?_eq_getElem hk] at hc
  cases hq : P.info? ty with
  | none => simp [hq] at hi
  | some i =>
    have hs : i.size = 1 := by simpa [hq] using hi
    simp [Instr.storeAt, Instr.sureAddr, storeVar, sizeOf, typeInfo, hq, hs, Value.cells, storeCells, go_sem, hc, hz, Addr.add]

/-- A bool into a place of a block. -/
theorem wpList_store_bool {P : Program} {ops : Array Oper} {rest : List Oper} {op : Oper} {a : Act} {w : World} {Q : Exit → Act → World → Prop} {ty : TypeId} {x y : Operand} {B k : Nat} {t : TypeId} {xs : Array Value} {b : Bool}
    (hgd : op.guard = none) (ho : op.op = .store ty x y) (hx : a.eval x = .pointer (some ⟨B, k, none⟩)) (hy : a.eval y = .bool b) (hB : Blk w B t xs) (hk : Nat.blt k xs.size = true) (hi : (P.info? ty).map (·.size) = some 1)
    (h : ∀ w', Blk w' B t (xs.setIfInBounds k (.bool b)) → w.grownBy w' (some B) → wpList P ops Q rest (a.put op.dst undef) w') : wpList P ops Q (op :: rest) a w :=
  wpList_plain hgd fun _ hK => by
    unfold Oper.wp execOp
    simp only [ho, hx, hy, run_storeAt_bool hB (by simpa using hk) hi, Sem.run_bind, Sem.run_pure, Result.andThen_ok]
    exact hK _ _ (h _ (hB.set k _) (grown_setCell w B k _))

/-- A block is written behind what is laid new; then another new one. -/
theorem grown_via {w A w2 : World} {C : Nat} (hA : Below w.heap.size w A) (hg : A.grownBy w2 (some C)) : w.grownBy w2 (some C) :=
  ⟨hg.os.trans hA.os, hg.tape.trans hA.tape, hg.output.trans hA.output, Nat.le_trans hA.size hg.size, fun k hk hne => (hg.block k (Nat.lt_of_lt_of_le hk hA.size) hne).trans (hA.block k hk)⟩

theorem grown_more {w w2 w3 : World} {C R : Nat} (h : w.grownBy w2 (some C)) (hg : w2.grownBy w3 (some R)) (hR : w.heap.size ≤ R ∨ R = C) : w.grownBy w3 (some C) :=
  ⟨hg.os.trans h.os, hg.tape.trans h.tape, hg.output.trans h.output, Nat.le_trans h.size hg.size, fun k hk hne => (hg.block k (Nat.lt_of_lt_of_le hk h.size) (fun q => by cases q; rcases hR with hR | hR; omega; exact hne (by rw [hR]))).trans (h.block k hk hne)⟩

theorem grown_below {w w2 w3 : World} {C : Nat} (h : w.grownBy w2 (some C)) (hb : Below w2.heap.size w2 w3) : w.grownBy w3 (some C) :=
  ⟨hb.os.trans h.os, hb.tape.trans h.tape, hb.output.trans h.output, Nat.le_trans h.size hb.size, fun k hk hne => (hb.block k (Nat.lt_of_lt_of_le hk h.size)).trans (h.block k hk hne)⟩

/-- What a step leaves but some blocks, one behind the other. -/
theorem below_grownO {w w1 w' : World} {C : Nat} {o : Option Nat} (h : Below C w w1) (hg : w1.grownBy w' o) (ho : ∀ k, o = some k → C ≤ k) (hC : C ≤ w1.heap.size) : Below C w w' :=
  ⟨hg.os.trans h.os, hg.tape.trans h.tape, hg.output.trans h.output, Nat.le_trans h.size hg.size, fun k hk => (hg.block k (by omega) (fun q => by have := ho k q.symm; omega)).trans (h.block k hk)⟩

theorem owns_grownO {w w' : World} {base : Nat} {e : TypeId} {size : Nat} {v : Value} {n : Nat} {xs : List Value} {o : Option Nat} (h : w.ownsRow base e size v n xs) (hg : w.grownBy w' o) (hne : v.ownBlock = none ∨ v.ownBlock ≠ o) : w'.ownsRow base e size v n xs :=
  h.kept hg hne

end Go.Proofs.Ytnbifobdkjkjlaa

/-
  Appends to rows of one's own, as runs and as steps of regions that draw their order. Nothing of a program stands here.
-/
namespace Go.Proofs.Ytnbifobdkjkjlaa
open Go.RowKit

/-- 'append(out, xs...)' as a run. -/
theorem run_append_rdK {α : Type} {K : Nat} {E : En α K} {P : Program} {w : World} {t ty : TypeId} {base : Nat} {e : TypeId} {z : Value} {bytes : Nat} {v : Value} {n : Nat} {cs : List α} {vx : Value} {news : List α}
    (hown : w.ownsRow base e K v n (E.vs cs)) (hrd : RdG E w vx news)
    (ht : P.underlying t = some (.slice e)) (hinf : (P.info? e).map (fun i => (i.zero, i.size, i.bytes)) = some (some z, K, bytes)) (hzs : z.cells.size = K)
    (h63 : n + news.length ≤ 1000000000) (hbytes : bytes ≤ 128) (hbase : base ≤ w.heap.size) :
    ∃ v' w', (Builtin.append_ #[t, t] ty #[v, vx]).run P w = .ok v' w' ∧ w'.ownsRow base e K v' (n + news.length) (E.vs (cs ++ news)) ∧ w.grownBy w' v.ownBlock := by
  obtain ⟨i, hi, hz, hsize, hby⟩ := info_parts hinf
  have hbytes' : (n + news.length) * bytes ≤ 1000000000 * 128 := Nat.mul_le_mul h63 hbytes
  obtain ⟨ao, cap, hvx, h2, h3, h4, h5⟩ := hrd
  subst hvx
  cases ao with
  | none =>
    have hc := h4 rfl
    have hnews : news = [] := List.eq_nil_of_length_eq_zero (by omega)
    subst hnews
    subst hc
    exact ⟨v, w, run_append_owned_none w base t ty e i K ht hi v n _ hown, by simpa using hown, World.grownBy.refl _ _⟩
  | some ad =>
    obtain ⟨v', w', hr, ho', hg', _⟩ := run_append_own (P := P) w base t ty e i z K bytes ht hi hz hsize hby hzs E.pos v n (E.vs cs) hown ad news.length cap (E.vs news) (vs_length _) (h5 ad rfl) (vs_one _) (by simp [maxLen]; omega) (by omega) hbase
    rw [← vs_append] at ho'
    exact ⟨v', w', hr, ho', hg'⟩

/-- The same as a step of a region that draws its order. -/
theorem step_append_rdK {α : Type} {K : Nat} {E : En α K} {P : Program} {w : World} {ops : Array Oper} {o : Oper} {a : Act} {KK : Act → World → Prop} {Q : Exit → Act → World → Prop} {EE : Prop} {s x : Operand} {t : TypeId} {base : Nat} {e : TypeId} {z : Value} {bytes : Nat} {v : Value} {n : Nat} {cs : List α} {vx : Value} {news : List α}
    (hown : w.ownsRow base e K v n (E.vs cs)) (hrd : RdG E w vx news)
    (ht : P.underlying t = some (.slice e)) (hinf : (P.info? e).map (fun i => (i.zero, i.size, i.bytes)) = some (some z, K, bytes)) (hzs : z.cells.size = K)
    (hgd : o.guard = none) (ho : o.op = .call { callee := .builtin .append, args := #[s, x], argTypes := #[t, t] })
    (hs : a.eval s = v) (hx : a.eval x = vx) (h63 : n + news.length ≤ 1000000000) (hbytes : bytes ≤ 128) (hbase : base ≤ w.heap.size)
    (h : ∀ v' w', w'.ownsRow base e K v' (n + news.length) (E.vs (cs ++ news)) → w.grownBy w' v.ownBlock → KK (a.put o.dst v') w') :
    if Region.wanted o (yielded ops a.tmps) = true then Oper.wp P o a w KK Q else EE := by
  have hw : Region.wanted o (yielded ops a.tmps) = true := by simp [Region.wanted, hgd]
  rw [if_pos hw]
  obtain ⟨v', w', hr, h2, h3⟩ := run_append_rdK (ty := o.type) hown hrd ht hinf hzs h63 hbytes hbase
  unfold Oper.wp execOp
  simp only [ho, resolve, invoke, builtin, Sem.run_bind, Sem.run_pure, Result.andThen_ok, List.map_toArray, List.map_cons, List.map_nil, hs, hx, hr]
  exact h v' w' h2 h3

end Go.Proofs.Ytnbifobdkjkjlaa

/-
  One structure of a row of one's own is written anew: the world behind is a letter. Nothing of a program stands here.
-/
namespace Go.Proofs.Ytnbifobdkjkjlaa
open Go.RowKit

section
variable {α : Type} {K : Nat} {E : En α K}

theorem vs_set (cs : List α) (k : Nat) (c : α) (hk : k < cs.length) : E.vs (cs.set k c) = E.vs (cs.take k) ++ E.v c ++ E.vs (cs.drop (k + 1)) := by
  rw [List.set_eq_take_append_cons_drop, if_pos hk, vs_append, vs_cons, List.append_assoc]

/-- The row behind the write. -/
theorem owns_storeAt {P : Program} {w : World} {base : Nat} {e ty : TypeId} {g n cap k : Nat} {cs : List α} {c : α} {xs : Array Value}
    (hown : w.ownsRow base e K (.slice (some ⟨g, 0, none⟩) n cap) n (E.vs cs)) (hk : k < n) (hxs : xs.toList = E.v c) (hi : (P.info? ty).map (·.size) = some K) :
    ∃ w', (Instr.storeAt ty (.pointer (some ⟨g, k * K, none⟩)) (.agg xs)).run P w = .ok () w' ∧ w'.ownsRow base e K (.slice (some ⟨g, 0, none⟩) n cap) n (E.vs (cs.set k c)) ∧ w.grownBy w' (some g) := by
  obtain ⟨g', cap', cur, hv, hb, hg, hnc, hcm, hcs, htake⟩ := owns_pos hown (by omega)
  simp only [Value.slice.injEq, Option.some.injEq, Addr.mk.injEq] at hv
  obtain ⟨⟨rfl, -, -⟩, -, rfl⟩ := hv
  have hl : cs.length = n := owns_len hown
  have hkk : k * K + K ≤ n * K := by rw [← Nat.succ_mul]; exact Nat.mul_le_mul_right _ hk
  have hmc : n * K ≤ cap * K := Nat.mul_le_mul_right _ hnc
  have hvl : (E.v c).length = K := E.len c
  have hst := run_storeCells_at P g (k * K) e (E.v c) 0 cur w hg (by rw [hvl, hcs]; omega) (E.one c)
  simp only [Nat.add_zero, hvl] at hst
  have h1 : cur.toList.take (k * K) = E.vs (cs.take k) := by
    rw [← vs_take, ← htake, List.take_take, Nat.min_eq_left (by omega)]
  have h1l : (cur.toList.take (k * K)).length = k * K := by rw [List.length_take, Array.length_toList, hcs]; omega
  have key := owns_setRow (K := K) (w := w) (xs := E.vs (cs.set k c)) (n := n) (new := (cur.toList.take (k * K) ++ E.v c ++ cur.toList.drop (k * K + K)).toArray) hb hg hnc hcm ?_ ?_ ?_
  · refine ⟨_, ?_, key.1, key.2⟩
    cases hq : P.info? ty with
    | none => simp [hq] at hi
    | some i =>
      have hs : i.size = K := by simpa [hq] using hi
      have hz : xs.size = K := by rw [← Array.length_toList, hxs, hvl]
      simp [Instr.storeAt, Instr.sureAddr, storeVar, sizeOf, typeInfo, hq, hs, Value.cells, hz, hxs, hst]
  · simp only [List.size_toArray, List.length_append, h1l, hvl, List.length_drop, Array.length_toList, hcs]
    omega
  · have h2 : (cur.toList.take (k * K) ++ E.v c).length = k * K + K := by rw [List.length_append, h1l, hvl]
    simp only
    rw [List.take_append, h2, List.take_of_length_le (by rw [h2]; omega), h1, vs_set cs k c (by omega)]
    congr 1
    rw [← vs_drop, ← htake, List.drop_take, Nat.succ_mul]
  · rw [vs_length, List.length_set, hl]

/-- A structure into its place of a row of one's own. -/
theorem wpList_store_own {P : Program} {ops : Array Oper} {rest : List Oper} {op : Oper} {a : Act} {w : World} {Q : Exit → Act → World → Prop} {ty : TypeId} {x y : Operand} {base : Nat} {e : TypeId} {g n cap k off : Nat} {cs : List α} {c : α} {xs : Array Value}
    (hown : w.ownsRow base e K (.slice (some ⟨g, 0, none⟩) n cap) n (E.vs cs)) (hk : k < n) (hxs : xs.toList = E.v c) (hoff : off = k * K)
    (hgd : op.guard = none) (ho : op.op = .store ty x y) (hx : a.eval x = .pointer (some ⟨g, off, none⟩)) (hy : a.eval y = .agg xs) (hi : (P.info? ty).map (·.size) = some K)
    (h : ∀ w', w'.ownsRow base e K (.slice (some ⟨g, 0, none⟩) n cap) n (E.vs (cs.set k c)) → w.grownBy w' (some g) → wpList P ops Q rest (a.put op.dst undef) w') : wpList P ops Q (op :: rest) a w :=
  wpList_plain hgd fun _ hK => by
    subst hoff
    obtain ⟨w', hr, h1, h2⟩ := owns_storeAt (ty := ty) (P := P) hown hk hxs hi
    unfold Oper.wp execOp
    simp only [ho, hx, hy, hr, Sem.run_bind, Sem.run_pure, Result.andThen_ok]
    exact hK _ _ (h _ h1 h2)

end

end Go.Proofs.Ytnbifobdkjkjlaa

/-
  Rows of one's own, told apart by labels of their blocks. Nothing of a program stands here.
-/
namespace Go.Proofs.Ytnbifobdkjkjlaa
open Go.RowKit
set_option linter.unusedVariables false

section
variable {L : Type} {z : L}

/-- Blocks that are not laid yet have the label z. -/
def LbOk (z : L) (w : World) (lab : Nat → L) : Prop := ∀ g, w.heap.size ≤ g → lab g = z

/-- A row of one's own with a label. -/
def Row (w : World) (lab : Nat → L) (i : L) (e : TypeId) (K : Nat) (v : Value) (n : Nat) (xs : List Value) : Prop :=
  w.ownsRow 0 e K v n xs ∧ ∀ g, v.ownBlock = some g → lab g = i

/-- Structures that are read, in a block of the label z. -/
def Rd0 {α : Type} {K : Nat} (z : L) (E : En α K) (w : World) (lab : Nat → L) (v : Value) (xs : List α) : Prop :=
  RdG E w v xs ∧ ∀ a n c, v = .slice (some a) n c → xs ≠ [] → lab a.block = z

/-- From one world to another: blocks whose label is not in S stay as they are, and all labels do. -/
structure Chg (z : L) (w w' : World) (lab lab' : Nat → L) (S : L → Prop) : Prop where
  os : w'.os = w.os
  tape : w'.tape = w.tape
  output : w'.output = w.output
  size : w.heap.size ≤ w'.heap.size
  block : ∀ k, k < w.heap.size → ¬ S (lab k) → w'.heap[k]? = w.heap[k]?
  labs : ∀ k, k < w.heap.size → lab' k = lab k
  ok : LbOk z w' lab'

theorem LbOk.mono {w w' : World} {lab : Nat → L} (h : LbOk z w lab) (hs : w.heap.size ≤ w'.heap.size) : LbOk z w' lab := fun g hg => h g (Nat.le_trans hs hg)

theorem Chg.refl (w : World) (lab : Nat → L) (S : L → Prop) (h : LbOk z w lab) : Chg z w w lab lab S :=
  ⟨rfl, rfl, rfl, Nat.le_refl _, fun _ _ _ => rfl, fun _ _ => rfl, h⟩

theorem Chg.trans {w w1 w2 : World} {lab lab1 lab2 : Nat → L} {S : L → Prop} (h : Chg z w w1 lab lab1 S) (h2 : Chg z w1 w2 lab1 lab2 S) : Chg z w w2 lab lab2 S :=
  ⟨h2.os.trans h.os, h2.tape.trans h.tape, h2.output.trans h.output, Nat.le_trans h.size h2.size,
   fun k hk hn => (h2.block k (Nat.lt_of_lt_of_le hk h.size) (by rw [h.labs k hk]; exact hn)).trans (h.block k hk hn),
   fun k hk => (h2.labs k (Nat.lt_of_lt_of_le hk h.size)).trans (h.labs k hk), h2.ok⟩

theorem Chg.mono {w w1 : World} {lab lab1 : Nat → L} {S T : L → Prop} (h : Chg z w w1 lab lab1 S) (hS : ∀ i, S i → T i) : Chg z w w1 lab lab1 T :=
  ⟨h.os, h.tape, h.output, h.size, fun k hk hn => h.block k hk (fun q => hn (hS _ q)), h.labs, h.ok⟩

/-- New memory alone. -/
theorem Chg.below {w w' : World} {lab : Nat → L} (S : L → Prop) (hl : LbOk z w lab) (h : Below w.heap.size w w') : Chg z w w' lab lab S :=
  ⟨h.os, h.tape, h.output, h.size, fun k hk _ => h.block k hk, fun _ _ => rfl, hl.mono h.size⟩

/-- A block of a label is written. -/
theorem Chg.grown {w w' : World} {lab : Nat → L} {g : Nat} {S : L → Prop} (hl : LbOk z w lab) (h : w.grownBy w' (some g)) (hS : S (lab g)) : Chg z w w' lab lab S :=
  ⟨h.os, h.tape, h.output, h.size, fun k hk hn => h.block k hk (fun q => by cases q; exact hn hS), fun _ _ => rfl, hl.mono h.size⟩

/-- The labels behind an append. -/
def labTo [DecidableEq L] (lab : Nat → L) (o : Option Nat) (i : L) : Nat → L := fun k => if o = some k then i else lab k

/-- A row grows. -/
theorem Chg.row [DecidableEq L] {w w' : World} {lab : Nat → L} {v v' : Value} {i : L} {S : L → Prop} (hl : LbOk z w lab) (hv : ∀ g, v.ownBlock = some g → lab g = i) (h : w.grownBy w' v.ownBlock) (hS : S i)
    (hp : v'.ownBlock = v.ownBlock ∨ ∃ b, v'.ownBlock = some b ∧ w.heap.size ≤ b) (hlt : ∀ g, v'.ownBlock = some g → g < w'.heap.size) : Chg z w w' lab (labTo lab v'.ownBlock i) S := by
  refine ⟨h.os, h.tape, h.output, h.size, fun k hk hn => h.block k hk (fun q => hn (by rw [hv k q.symm]; exact hS)), fun k hk => ?_, fun g hg => ?_⟩
  · unfold labTo
    split
    · rename_i q
      rcases hp with hp | ⟨b, hp, hb⟩
      · rw [hp] at q; exact (hv k q).symm
      · rw [hp] at q; cases q; omega
    · rfl
  · unfold labTo
    split
    · rename_i q
      have := hlt g q
      omega
    · exact hl g (Nat.le_trans h.size hg)

theorem ownBlock_lt {w : World} {base : Nat} {e : TypeId} {K : Nat} {v : Value} {n : Nat} {xs : List Value} (h : w.ownsRow base e K v n xs) : ∀ g, v.ownBlock = some g → g < w.heap.size := fun g hg => (h.lt g hg).2

theorem Row.keep {w w' : World} {lab lab' : Nat → L} {S : L → Prop} {i : L} {e : TypeId} {K : Nat} {v : Value} {n : Nat} {xs : List Value} (h : Row w lab i e K v n xs) (hc : Chg z w w' lab lab' S) (hS : ¬ S i) : Row w' lab' i e K v n xs := by
  obtain ⟨h1, h2⟩ := h
  refine ⟨⟨h1.1, ?_⟩, fun g hg => ?_⟩
  · rcases h1.2 with hn | ⟨g, cap, cur, rfl, hb, hg, r⟩
    · exact .inl hn
    · have hlt : g < w.heap.size := (Array.getElem?_eq_some_iff.1 hg).1
      refine .inr ⟨g, cap, cur, rfl, hb, ?_, r⟩
      rw [hc.block g hlt (by rw [h2 g (by simp [Value.ownBlock])]; exact hS)]
      exact hg
  · rw [hc.labs g (ownBlock_lt h1 g hg)]
    exact h2 g hg

theorem Rd0.keep {α : Type} {K : Nat} {E : En α K} {w w' : World} {lab lab' : Nat → L} {S : L → Prop} {v : Value} {xs : List α} (h : Rd0 z E w lab v xs) (hc : Chg z w w' lab lab' S) (hS : ¬ S z) : Rd0 z E w' lab' v xs := by
  obtain ⟨h1, h2⟩ := h
  obtain ⟨ao, cap, rfl, k1, k2, k3, k4⟩ := h1
  have hblk : ∀ (a : Addr), ao = some a → xs ≠ [] → a.block < w.heap.size := by
    intro a ha hne
    have hp : 0 < (E.vs xs).length := by
      rw [vs_length]
      exact Nat.mul_pos (List.length_pos_iff.2 hne) E.pos
    have h0 := k4 a ha 0 (E.vs xs)[0] (by simp)
    have e : (a.add 0).block = a.block := by unfold Addr.add; split <;> rfl
    rw [← e]
    exact World.block_lt_of_cell? w _ h0
  refine ⟨⟨ao, cap, rfl, k1, k2, k3, fun a ha j u hu => ?_⟩, fun a n c hv hne => ?_⟩
  · have hne : xs ≠ [] := by
      rintro rfl
      simp [En.vs] at hu
    have hc0 := k4 a ha j u hu
    have e : (a.add j).block = a.block := by unfold Addr.add; split <;> rfl
    rw [← hc0]
    refine World.cell?_of_block ?_
    rw [e]
    exact hc.block _ (hblk a ha hne) (by rw [h2 a _ _ (by rw [ha]) hne]; exact hS)
  · simp only [Value.slice.injEq] at hv
    rw [hc.labs _ (hblk a hv.1 hne)]
    exact h2 a _ _ (by rw [hv.1]) hne

/-- What is new has the label z. -/
theorem Rd0.new {α : Type} {K : Nat} {E : En α K} {w w' : World} {lab : Nat → L} {base : Nat} {e : TypeId} {v : Value} {n : Nat} {xs : List α} (hl : LbOk z w lab) (h : w'.ownsRow base e K v n (E.vs xs)) (hb : w.heap.size ≤ base) : Rd0 z E w' lab v xs := by
  refine ⟨RdG.ofOwns h, fun a m c hv _ => ?_⟩
  rcases h.2 with ⟨h1, _⟩ | ⟨g, cap, cur, h1, hg, _⟩
  · rw [h1] at hv; cases hv
  · rw [h1] at hv
    cases hv
    exact hl _ (by show w.heap.size ≤ g; omega)

theorem Blk.keep {w w' : World} {lab lab' : Nat → L} {S : L → Prop} {B : Nat} {t : TypeId} {xs : Array Value} (h : Blk w B t xs) (hc : Chg z w w' lab lab' S) (hS : ¬ S (lab B)) : Blk w' B t xs := by
  unfold Blk
  rw [hc.block B h.lt hS]
  exact h

/-- A row that grew. -/
theorem Row.grew [DecidableEq L] {w' : World} {lab : Nat → L} {i : L} {e : TypeId} {K : Nat} {v' : Value} {n : Nat} {xs : List Value} (h : w'.ownsRow 0 e K v' n xs) : Row w' (labTo lab v'.ownBlock i) i e K v' n xs :=
  ⟨h, fun g hg => by unfold labTo; rw [if_pos hg]⟩

/-- A row, while nothing of its label is written. -/
theorem Row.same {w w' : World} {lab : Nat → L} {i : L} {e : TypeId} {K : Nat} {v : Value} {n : Nat} {xs ys : List Value} (h : Row w lab i e K v n xs) (h2 : w'.ownsRow 0 e K v n ys) : Row w' lab i e K v n ys := ⟨h2, h.2⟩

/-- Two rows of two labels lie in two blocks. -/
theorem Row.ne {w : World} {lab : Nat → L} {i j : L} {e e2 : TypeId} {K K2 : Nat} {v v2 : Value} {n n2 : Nat} {xs ys : List Value} (h : Row w lab i e K v n xs) (h2 : Row w lab j e2 K2 v2 n2 ys) (hij : i ≠ j) : v.ownBlock = none ∨ v.ownBlock ≠ v2.ownBlock := by
  cases hv : v.ownBlock with
  | none => exact .inl rfl
  | some g =>
    right
    intro q
    exact hij ((h.2 g hv).symm.trans (h2.2 g q.symm))

theorem Below.ofChg {w w' : World} {lab lab' : Nat → L} {S : L → Prop} {C : Nat} (hc : Chg z w w' lab lab' S) (hl : ∀ k, k < C → ¬ S (lab k)) (hC : C ≤ w.heap.size) : Below C w w' :=
  ⟨hc.os, hc.tape, hc.output, hc.size, fun k hk => hc.block k (by omega) (hl k hk)⟩

end

end Go.Proofs.Ytnbifobdkjkjlaa

/-
  Appends, with the place where the row lies then; stores into places of rows. Nothing of a program stands here.
-/
namespace Go.Proofs.Ytnbifobdkjkjlaa
open Go.RowKit Go.Maps
set_option linter.unusedVariables false

/-- Where a row lies behind an append. -/
def OnAt (w : World) (v v' : Value) : Prop := v'.ownBlock = v.ownBlock ∨ ∃ b, v'.ownBlock = some b ∧ w.heap.size ≤ b

theorem run_append_rdAt {α : Type} {K : Nat} {E : En α K} {P : Program} {w : World} {t ty : TypeId} {base : Nat} {e : TypeId} {z : Value} {bytes : Nat} {v : Value} {n : Nat} {cs : List α} {vx : Value} {news : List α}
    (hown : w.ownsRow base e K v n (E.vs cs)) (hrd : RdG E w vx news)
    (ht : P.underlying t = some (.slice e)) (hinf : (P.info? e).map (fun i => (i.zero, i.size, i.bytes)) = some (some z, K, bytes)) (hzs : z.cells.size = K)
    (h63 : n + news.length ≤ 1000000000) (hbytes : bytes ≤ 128) (hbase : base ≤ w.heap.size) :
    ∃ v' w', (Builtin.append_ #[t, t] ty #[v, vx]).run P w = .ok v' w' ∧ w'.ownsRow base e K v' (n + news.length) (E.vs (cs ++ news)) ∧ w.grownBy w' v.ownBlock ∧ OnAt w v v' := by
  obtain ⟨i, hi, hz, hsize, hby⟩ := info_parts hinf
  have hbytes' : (n + news.length) * bytes ≤ 1000000000 * 128 := Nat.mul_le_mul h63 hbytes
  obtain ⟨ao, cap, hvx, h2, h3, h4, h5⟩ := hrd
  subst hvx
  cases ao with
  | none =>
    have hc := h4 rfl
    have hnews : news = [] := List.eq_nil_of_length_eq_zero (by omega)
    subst hnews
    subst hc
    exact ⟨v, w, run_append_owned_none w base t ty e i K ht hi v n _ hown, by simpa using hown, World.grownBy.refl _ _, .inl rfl⟩
  | some ad =>
    obtain ⟨v', w', hr, ho', hg', _, hloc⟩ := run_append_own_at (P := P) (w := w) base t ty e i z K bytes ht hi hz hsize hby hzs E.pos v n (E.vs cs) hown ad news.length cap (E.vs news) (vs_length _) (h5 ad rfl) (vs_one _) (by simp [maxLen]; omega) (by omega) hbase
    rw [← vs_append] at ho'
    exact ⟨v', w', hr, ho', hg', hloc.elim .inl (fun q => .inr ⟨_, q, Nat.le_refl _⟩)⟩

/-- The same as a step of a region that draws its order. -/
theorem step_append_rdAt {α : Type} {K : Nat} {E : En α K} {P : Program} {w : World} {ops : Array Oper} {o : Oper} {a : Act} {KK : Act → World → Prop} {Q : Exit → Act → World → Prop} {EE : Prop} {s x : Operand} {t : TypeId} {base : Nat} {e : TypeId} {z : Value} {bytes : Nat} {v : Value} {n : Nat} {cs : List α} {vx : Value} {news : List α}
    (hown : w.ownsRow base e K v n (E.vs cs)) (hrd : RdG E w vx news)
    (ht : P.underlying t = some (.slice e)) (hinf : (P.info? e).map (fun i => (i.zero, i.size, i.bytes)) = some (some z, K, bytes)) (hzs : z.cells.size = K)
    (hgd : o.guard = none) (ho : o.op = .call { callee := .builtin .append, args := #[s, x], argTypes := #[t, t] })
    (hs : a.eval s = v) (hx : a.eval x = vx) (h63 : n + news.length ≤ 1000000000) (hbytes : bytes ≤ 128) (hbase : base ≤ w.heap.size)
    (h : ∀ v' w', w'.ownsRow base e K v' (n + news.length) (E.vs (cs ++ news)) → w.grownBy w' v.ownBlock → OnAt w v v' → KK (a.put o.dst v') w') :
    if Region.wanted o (yielded ops a.tmps) = true then Oper.wp P o a w KK Q else EE := by
  have hw : Region.wanted o (yielded ops a.tmps) = true := by simp [Region.wanted, hgd]
  rw [if_pos hw]
  obtain ⟨v', w', hr, h2, h3, h4⟩ := run_append_rdAt (ty := o.type) hown hrd ht hinf hzs h63 hbytes hbase
  unfold Oper.wp execOp
  simp only [ho, resolve, invoke, builtin, Sem.run_bind, Sem.run_pure, Result.andThen_ok, List.map_toArray, List.map_cons, List.map_nil, hs, hx, hr]
  exact h v' w' h2 h3 h4

/-- And in a plain region. -/
theorem wpList_append_rdAt {α : Type} {K : Nat} {E : En α K} {P : Program} {w : World} {ops : Array Oper} {rest : List Oper} {o : Oper} {a : Act} {Q : Exit → Act → World → Prop} {s x : Operand} {t : TypeId} {base : Nat} {e : TypeId} {z : Value} {bytes : Nat} {v : Value} {n : Nat} {cs : List α} {vx : Value} {news : List α}
    (hown : w.ownsRow base e K v n (E.vs cs)) (hrd : RdG E w vx news)
    (ht : P.underlying t = some (.slice e)) (hinf : (P.info? e).map (fun i => (i.zero, i.size, i.bytes)) = some (some z, K, bytes)) (hzs : z.cells.size = K)
    (hgd : o.guard = none) (ho : o.op = .call { callee := .builtin .append, args := #[s, x], argTypes := #[t, t] })
    (hs : a.eval s = v) (hx : a.eval x = vx) (h63 : n + news.length ≤ 1000000000) (hbytes : bytes ≤ 128) (hbase : base ≤ w.heap.size)
    (h : ∀ v' w', w'.ownsRow base e K v' (n + news.length) (E.vs (cs ++ news)) → w.grownBy w' v.ownBlock → OnAt w v v' → wpList P ops Q rest (a.put o.dst v') w') : wpList P ops Q (o :: rest) a w :=
  wpList_plain hgd fun _ hK => by
    obtain ⟨v', w', hr, h2, h3, h4⟩ := run_append_rdAt (ty := o.type) hown hrd ht hinf hzs h63 hbytes hbase
    unfold Oper.wp execOp
    simp only [ho, resolve, invoke, builtin, Sem.run_bind, Sem.run_pure, Result.andThen_ok, List.map_toArray, List.map_cons, List.map_nil, hs, hx, hr]
    exact hK _ _ (h v' w' h2 h3 h4)

/-- A structure into its place of a row of one's own, in a region that draws its order. -/
theorem step_store_own {α : Type} {K : Nat} {E : En α K} {P : Program} {w : World} {ops : Array Oper} {o : Oper} {a : Act} {KK : Act → World → Prop} {Q : Exit → Act → World → Prop} {EE : Prop} {ty : TypeId} {x y : Operand} {base : Nat} {e : TypeId} {g n cap k off : Nat} {cs : List α} {c : α} {xs : Array Value}
    (hown : w.ownsRow base e K (.slice (some ⟨g, 0, none⟩) n cap) n (E.vs cs)) (hk : k < n) (hxs : xs.toList = E.v c) (hoff : off = k * K)
    (hgd : o.guard = none) (ho : o.op = .store ty x y) (hx : a.eval x = .pointer (some ⟨g, off, none⟩)) (hy : a.eval y = .agg xs) (hi : (P.info? ty).map (·.size) = some K)
    (h : ∀ w', w'.ownsRow base e K (.slice (some ⟨g, 0, none⟩) n cap) n (E.vs (cs.set k c)) → w.grownBy w' (some g) → KK (a.put o.dst undef) w') :
    if Region.wanted o (yielded ops a.tmps) = true then Oper.wp P o a w KK Q else EE := by
  have hw : Region.wanted o (yielded ops a.tmps) = true := by simp [Region.wanted, hgd]
  rw [if_pos hw]
  subst hoff
  obtain ⟨w', hr, h1, h2⟩ := owns_storeAt (ty := ty) (P := P) hown hk hxs hi
  unfold Oper.wp execOp
  simp only [ho, hx, hy, hr, Sem.run_bind, Sem.run_pure, Result.andThen_ok]
  exact h w' h1 h2

/-- One place of a structure of a row of one's own is written: the structure is another one. -/
theorem owns_setField {α : Type} {K : Nat} {E : En α K} {w : World} {base : Nat} {e : TypeId} {g n cap j k : Nat} {cs : List α} {c c' : α} {u : Value} (h : w.ownsRow base e K (.slice (some ⟨g, 0, none⟩) n cap) n (E.vs cs)) (hj : cs[j]? = some c) (hk : k < K) (hu : E.v c' = (E.v c).set k u) :
    (w.setCell ⟨g, j * K + k, none⟩ u).ownsRow base e K (.slice (some ⟨g, 0, none⟩) n cap) n (E.vs (cs.set j c')) := by
  have h1 := owns_setCell h (j * K + k) u
  have e1 : (E.vs cs).set (j * K + k) u = E.vs (cs.set j c') := by
    obtain ⟨hl, rfl⟩ := List.getElem?_eq_some_iff.1 hj
    apply List.ext_getElem?
    intro i
    rw [vs_set cs j c' hl, hu]
    have el : E.vs cs = E.vs (cs.take j) ++ E.v cs[j] ++ E.vs (cs.drop (j + 1)) := by
      have := vs_set (E := E) cs j cs[j] hl
      rw [List.set_getElem_self] at this
      exact this
    rw [el]
    have l1 : (E.vs (cs.take j)).length = j * K := by rw [vs_length, List.length_take, Nat.min_eq_left (by omega)]
    have l2 : (E.v cs[j]).length = K := E.len _
    rw [List.set_append, if_pos (by rw [List.length_append, l1, l2]; omega), List.set_append, if_neg (by rw [l1]; omega), l1, Nat.add_sub_cancel_left]
  rw [← e1]
  exact h1

end Go.Proofs.Ytnbifobdkjkjlaa

/-
  Regions that draw their order, step by step: an operation is taken out of the region's list by its place; what is done is told by a list that is written out. Nothing of a program stands here.
-/
namespace Go.Proofs.Ytnbifobdkjkjlaa
open Go.RowKit Go.Maps

/-- Of n the first k are done. -/
def upB : Nat → Nat → List Bool
  | 0, _ => []
  | n + 1, 0 => false :: upB n 0
  | n + 1, k + 1 => true :: upB n k

section
variable {P : Program} {ops : Array Oper} {Q : Exit → Act → World → Prop} {md : Region.Mode} {S : World → Prop}

theorem at_of_drop {i : Nat} {oi : Oper} (hi : (ops.toList.drop i).head? = some oi) : ops[i]? = some oi := by
  rw [List.head?_drop] at hi
  simpa using hi

/-- Number i is taken first. -/
theorem wpAnyH_takeD {l l' : Array Bool} {i : Nat} {oi : Oper} {v : Value} {fuel : Nat} {a : Act} {w : World} (hi : (ops.toList.drop i).head? = some oi)
    (hs : Region.noSelect ops = true) (hf : Region.free md ops l i = true) (hr : (Region.ready md ops l).contains i = true) (hl : l.setIfInBounds i true = l')
    (hQ : ∀ c a w, Q (.panic c) (a.put oi.dst v) w → Q (.panic c) a w) (hw : Region.wanted oi (yielded ops a.tmps) = true) (hy : ∀ w, S w → (execOp a.eval oi).run P w = .ok (.value v) w) (hS : S w)
    (h : wpAnyH P md ops Q S fuel l' (a.put oi.dst v) w) : wpAnyH P md ops Q S (fuel + 1) l a w :=
  wpAnyH_take (at_of_drop hi) hs hf hr hQ (.inl ⟨hw, hy⟩) hS (by rw [hl]; exact h)

/-- Number i is not wanted. -/
theorem wpAnyH_skipD {l l' : Array Bool} {i : Nat} {oi : Oper} {fuel : Nat} {a : Act} {w : World} (hi : (ops.toList.drop i).head? = some oi)
    (hs : Region.noSelect ops = true) (hf : Region.free md ops l i = true) (hr : (Region.ready md ops l).contains i = true) (hl : l.setIfInBounds i true = l')
    (hQ : ∀ c a w, Q (.panic c) (a.put oi.dst undef) w → Q (.panic c) a w) (hw : Region.wanted oi (yielded ops a.tmps) = false) (hS : S w)
    (h : wpAnyH P md ops Q S fuel l' (a.put oi.dst undef) w) : wpAnyH P md ops Q S (fuel + 1) l a w :=
  wpAnyH_take (at_of_drop hi) hs hf hr hQ (.inr ⟨hw, rfl⟩) hS (by rw [hl]; exact h)

/-- Number i comes up, and nothing else can. -/
theorem wpAnyH_oneD {l l' : Array Bool} {fuel : Nat} {a : Act} {w : World} {i : Nat} {o : Oper} (hi : (ops.toList.drop i).head? = some o) (hr : Region.ready md ops l = [i]) (hl : l.setIfInBounds i true = l')
    (h : ∀ K' : Act → World → Prop, Shut (∀ a w, S w → (S w → wpAnyH P md ops Q S fuel l' a w) → K' a w) → if Region.wanted o (yielded ops a.tmps) = true then Oper.wp P o a w K' Q else K' (a.put o.dst undef) w) : wpAnyH P md ops Q S (fuel + 1) l a w :=
  wpAnyH_ready hr (by simp) (AllReadyH.cons (at_of_drop hi) (by rw [hl]; exact h) AllReadyH.nil)

/-- The beginning. -/
theorem wp_region_heldD {l : Array Bool} {n id : Nat} {a : Act} {w : World} (hm : P.follows .mixedOrders = true) (hn : ops.size = n) (hl : Array.replicate n false = l) (hs : Region.noSelect ops = true) (hS : S w.drew)
    (h : Hid (Region.noSelect ops = true) → S w.drew → wpAnyH P .any ops Q S n l a w.drew) : (Code.region id ops true).wp P Q a w :=
  wp_region_held_drew hm hS (fun k => by rw [hn, hl]; exact h (hide hs) k)

end
end Go.Proofs.Ytnbifobdkjkjlaa
