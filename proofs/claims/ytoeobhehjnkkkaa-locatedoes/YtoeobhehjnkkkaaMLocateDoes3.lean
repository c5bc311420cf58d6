/-
  Texts joined: GenW, GenE, GenX, GenL, GenM, LoMath, GenH, GenCp.
-/
import Derived.Test.YtoeobhehjnkkkaaMLocateDoes2
import Derived.Deep.MidRow
import Derived.Laws.OwnMore
import Derived.Maps.AppendAt
import Derived.Deep.RegionHeld3
import Derived.Laws.CopyOwn
/-
  Stores of one place, and of some places, into a block of one's own: the world behind is a letter. Nothing of a program stands here.
-/
namespace Go.Proofs.Ytoeobhehjnkkkaa
open Go.RowKit

theorem grown_setCell (w : World) (B k : Nat) (u : Value) : w.grownBy (w.setCell ⟨B, k, none⟩ u) (some B) := by
  refine ⟨rfl, rfl, rfl, by simp, fun j hj hne => ?_⟩
  exact heap_setCell_other w ⟨B, k, none⟩ j u (fun q => hne (by simp at q; rw [q]))

theorem run_storeAt_slice {P : Program} {w : World} {B k : Nat} {t ty : TypeId} {xs : Array Value} {ao : Option Addr} {n c : Nat} (h : Blk w B t xs) (hk : k < xs.size) (hi : (P.info? ty).map (·.size) = some 1) :
    (Instr.storeAt ty (.pointer (some ⟨B, k, none⟩)) (.slice ao n c)).run P w = .ok () (w.setCell ⟨B, k, none⟩ (.slice ao n c)) := by
  have hc := h.cell k
  have hz := h.frozen k
  rw [Array.getElem?_eq_getElem hk] at hc
  cases hq : P.info? ty with
  | none => simp [hq] at hi
  | some i =>
    have hs : i.size = 1 := by simpa [hq] using hi
    simp [Instr.storeAt, Instr.sureAddr, storeVar, sizeOf, typeInfo, hq, hs, Value.cells, storeCells, go_sem, hc, hz, Addr.add]

theorem run_storeAt_int {P : Program} {w : World} {B k : Nat} {t ty : TypeId} {xs : Array Value} {q : IntKind} {n : Int} (h : Blk w B t xs) (hk : k < xs.size) (hi : (P.info? ty).map (·.size) = some 1) :
    (Instr.storeAt ty (.pointer (some ⟨B, k, none⟩)) (.int q n)).run P w = .ok () (w.setCell ⟨B, k, none⟩ (.int q n)) := by
  have hc := h.cell k
  have hz := h.frozen k
  rw [Array.getElem?_eq_getElem hk] at hc
  cases hq : P.info? ty with
  | none => simp [hq] at hi
  | some i =>
    have hs : i.size = 1 := by simpa [hq] using hi
    simp [Instr.storeAt, Instr.sureAddr, storeVar, sizeOf, typeInfo, hq, hs, Value.cells, storeCells, go_sem, hc, hz, Addr.add]

/-- A slice into a place of a block. -/
theorem wpList_store_slice {P : Program} {ops : Array Oper} {rest : List Oper} {op : Oper} {a : Act} {w : World} {Q : Exit → Act → World → Prop} {ty : TypeId} {x y : Operand} {B k : Nat} {t : TypeId} {xs : Array Value} {ao : Option Addr} {n c : Nat}
    (hgd : op.guard = none) (ho : op.op = .store ty x y) (hx : a.eval x = .pointer (some ⟨B, k, none⟩)) (hy : a.eval y = .slice ao n c) (hB : Blk w B t xs) (hk : Nat.blt k xs.size = true) (hi : (P.info? ty).map (·.size) = some 1)
    (h : ∀ w', Blk w' B t (xs.setIfInBounds k (.slice ao n c)) → w.grownBy w' (some B) → wpList P ops Q rest (a.put op.dst undef) w') : wpList P ops Q (op :: rest) a w :=
  wpList_plain hgd fun _ hK => by
    unfold Oper.wp execOp
    simp only [ho, hx, hy, run_storeAt_slice hB (by simpa using hk) hi, Sem.run_bind, Sem.run_pure, Result.andThen_ok]
    exact hK _ _ (h _ (hB.set k _) (grown_setCell w B k _))

/-- A number into a place of a block. -/
theorem wpList_store_int {P : Program} {ops : Array Oper} {rest : List Oper} {op : Oper} {a : Act} {w : World} {Q : Exit → Act → World → Prop} {ty : TypeId} {x y : Operand} {B k : Nat} {t : TypeId} {xs : Array Value} {q : IntKind} {n : Int}
    (hgd : op.guard = none) (ho : op.op = .store ty x y) (hx : a.eval x = .pointer (some ⟨B, k, none⟩)) (hy : a.eval y = .int q n) (hB : Blk w B t xs) (hk : Nat.blt k xs.size = true) (hi : (P.info? ty).map (·.size) = some 1)
    (h : ∀ w', Blk w' B t (xs.setIfInBounds k (.int q n)) → w.grownBy w' (some B) → wpList P ops Q rest (a.put op.dst undef) w') : wpList P ops Q (op :: rest) a w :=
  wpList_plain hgd fun _ hK => by
    unfold Oper.wp execOp
    simp only [ho, hx, hy, run_storeAt_int hB (by simpa using hk) hi, Sem.run_bind, Sem.run_pure, Result.andThen_ok]
    exact hK _ _ (h _ (hB.set k _) (grown_setCell w B k _))

theorem run_storeAt_bool {P : Program} {w : World} {B k : Nat} {t ty : TypeId} {xs : Array Value} {b : Bool} (h : Blk w B t xs) (hk : k < xs.size) (hi : (P.info? ty).map (·.size) = some 1) :
    (Instr.storeAt ty (.pointer (some ⟨B, k, none⟩)) (.bool b)).run P w = .ok () (w.setCell ⟨B, k, none⟩ (.bool b)) := by
  have hc := h.cell k
  have hz := h.frozen k
  rw [Array.getElem?_eq_getElem hk] at hc
  cases hq : P.info? ty with
  | none => simp [hq] at hi
  | some i =>
    have hs : i.size = 1 := by simpa [hq] using hi
    simp [Instr.storeAt, Instr.sureAddr, storeVar, sizeOf, typeInfo, hq, hs, Value.cells, storeCells, go_sem, hc, hz, Addr.add]

/-- A bool into a place of a block. -/
theorem wpList_store_bool {P : Program} {ops : Array Oper} {rest : List Oper} {op : Oper} {a : Act} {w : World} {Q : Exit → Act → World → Prop} {ty : TypeId} {x y : Operand} {B k : Nat} {t : TypeId} {xs : Array Value} {b : Bool}
    (hgd : op.guard = none) (ho : op.op = .store ty x y) (hx : a.eval x = .pointer (some ⟨B, k, none⟩)) (hy : a.eval y = .bool b) (hB : Blk w B t xs) (hk : Nat.blt k xs.size = true) (hi : (P.info? ty).map (·.size) = some 1)
    (h : ∀ w', Blk w' B t (xs.setIfInBounds k (.bool b)) → w.grownBy w' (some B) → wpList P ops Q rest (a.put op.dst undef) w') : wpList P ops Q (op :: rest) a w :=
  wpList_plain hgd fun _ hK => by
    unfold Oper.wp execOp
    simp only [ho, hx, hy, run_storeAt_bool hB (by simpa using hk) hi, Sem.run_bind, Sem.run_pure, Result.andThen_ok]
    exact hK _ _ (h _ (hB.set k _) (grown_setCell w B k _))

/-- A block is written behind what is laid new; then another new one. -/
theorem grown_via {w A w2 : World} {C : Nat} (hA : Below w.heap.size w A) (hg : A.grownBy w2 (some C)) : w.grownBy w2 (some C) :=
  ⟨hg.os.trans hA.os, hg.tape.trans hA.tape, hg.output.trans hA.output, Nat.le_trans hA.size hg.size, fun k hk hne => (hg.block k (Nat.lt_of_lt_of_le hk hA.size) hne).trans (hA.block k hk)⟩

theorem grown_more {w w2 w3 : World} {C R : Nat} (h : w.grownBy w2 (some C)) (hg : w2.grownBy w3 (some R)) (hR : w.heap.size ≤ R ∨ R = C) : w.grownBy w3 (some C) :=
  ⟨hg.os.trans h.os, hg.tape.trans h.tape, hg.output.trans h.output, Nat.le_trans h.size hg.size, fun k hk hne => (hg.block k (Nat.lt_of_lt_of_le hk h.size) (fun q => by cases q; rcases hR with hR | hR; omega; exact hne (by rw [hR]))).trans (h.block k hk hne)⟩

theorem grown_below {w w2 w3 : World} {C : Nat} (h : w.grownBy w2 (some C)) (hb : Below w2.heap.size w2 w3) : w.grownBy w3 (some C) :=
  ⟨hb.os.trans h.os, hb.tape.trans h.tape, hb.output.trans h.output, Nat.le_trans h.size hb.size, fun k hk hne => (hb.block k (Nat.lt_of_lt_of_le hk h.size)).trans (h.block k hk hne)⟩

/-- What a step leaves but some blocks, one behind the other. -/
theorem below_grownO {w w1 w' : World} {C : Nat} {o : Option Nat} (h : Below C w w1) (hg : w1.grownBy w' o) (ho : ∀ k, o = some k → C ≤ k) (hC : C ≤ w1.heap.size) : Below C w w' :=
  ⟨hg.os.trans h.os, hg.tape.trans h.tape, hg.output.trans h.output, Nat.le_trans h.size hg.size, fun k hk => (hg.block k (by omega) (fun q => by have := ho k q.symm; omega)).trans (h.block k hk)⟩

theorem owns_grownO {w w' : World} {base : Nat} {e : TypeId} {size : Nat} {v : Value} {n : Nat} {xs : List Value} {o : Option Nat} (h : w.ownsRow base e size v n xs) (hg : w.grownBy w' o) (hne : v.ownBlock = none ∨ v.ownBlock ≠ o) : w'.ownsRow base e size v n xs :=
  h.kept hg hne

end Go.Proofs.Ytoeobhehjnkkkaa

/-
  Appends to rows of one's own, as runs and as steps of regions that draw their order. Nothing of a program stands here.
-/
namespace Go.Proofs.Ytoeobhehjnkkkaa
open Go.RowKit

/-- 'append(out, xs...)' as a run. -/
theorem run_append_rdK {α : Type} {K : Nat} {E : En α K} {P : Program} {w : World} {t ty : TypeId} {base : Nat} {e : TypeId} {z : Value} {bytes : Nat} {v : Value} {n : Nat} {cs : List α} {vx : Value} {news : List α}
    (hown : w.ownsRow base e K v n (E.vs cs)) (hrd : RdG E w vx news)
    (ht : P.underlying t = some (.slice e)) (hinf : (P.info? e).map (fun i => (i.zero, i.size, i.bytes)) = some (some z, K, bytes)) (hzs : z.cells.size = K)
    (h63 : n + news.length ≤ 1000000000) (hbytes : bytes ≤ 128) (hbase : base ≤ w.heap.size) :
    ∃ v' w', (Builtin.append_ #[t, t] ty #[v, vx]).run P w = .ok v' w' ∧ w'.ownsRow base e K v' (n + news.length) (E.vs (cs ++ news)) ∧ w.grownBy w' v.ownBlock := by
  obtain ⟨i, hi, hz, hsize, hby⟩ := info_parts hinf
  have hbytes' : (n + news.length) * bytes ≤ 1000000000 * 128 := Nat.mul_le_mul h63 hbytes
  obtain ⟨ao, cap, hvx, h2, h3, h4, h5⟩ := hrd
  subst hvx
  cases ao with
  | none =>
    have hc := h4 rfl
    have hnews : news = [] := List.eq_nil_of_length_eq_zero (by omega)
    subst hnews
    subst hc
    exact ⟨v, w, run_append_owned_none w base t ty e i K ht hi v n _ hown, by simpa using hown, World.grownBy.refl _ _⟩
  | some ad =>
    obtain ⟨v', w', hr, ho', hg', _⟩ := run_append_own (P := P) w base t ty e i z K bytes ht hi hz hsize hby hzs E.pos v n (E.vs cs) hown ad news.length cap (E.vs news) (vs_length _) (h5 ad rfl) (vs_one _) (by simp [maxLen]; omega) (by omega) hbase
    rw [← vs_append] at ho'
    exact ⟨v', w', hr, ho', hg'⟩

/-- The same as a step of a region that draws its order. -/
theorem step_append_rdK {α : Type} {K : Nat} {E : En α K} {P : Program} {w : World} {ops : Array Oper} {o : Oper} {a : Act} {KK : Act → World → Prop} {Q : Exit → Act → World → Prop} {EE : Prop} {s x : Operand} {t : TypeId} {base : Nat} {e : TypeId} {z : Value} {bytes : Nat} {v : Value} {n : Nat} {cs : List α} {vx : Value} {news : List α}
    (hown : w.ownsRow base e K v n (E.vs cs)) (hrd : RdG E w vx news)
    (ht : P.underlying t = some (.slice e)) (hinf : (P.info? e).map (fun i => (i.zero, i.size, i.bytes)) = some (some z, K, bytes)) (hzs : z.cells.size = K)
    (hgd : o.guard = none) (ho : o.op = .call { callee := .builtin .append, args := #[s, x], argTypes := #[t, t] })
    (hs : a.eval s = v) (hx : a.eval x = vx) (h63 : n + news.length ≤ 1000000000) (hbytes : bytes ≤ 128) (hbase : base ≤ w.heap.size)
    (h : ∀ v' w', w'.ownsRow base e K v' (n + news.length) (E.vs (cs ++ news)) → w.grownBy w' v.ownBlock → KK (a.put o.dst v') w') :
    if Region.wanted o (yielded ops a.tmps) = true then Oper.wp P o a w KK Q else EE := by
  have hw : Region.wanted o (yielded ops a.tmps) = true := by simp [Region.wanted, hgd]
  rw [if_pos hw]
  obtain ⟨v', w', hr, h2, h3⟩ := run_append_rdK (ty := o.type) hown hrd ht hinf hzs h63 hbytes hbase
  unfold Oper.wp execOp
  simp only [ho, resolve, invoke, builtin, Sem.run_bind, Sem.run_pure, Result.andThen_ok, List.map_toArray, List.map_cons, List.map_nil, hs, hx, hr]
  exact h v' w' h2 h3

end Go.Proofs.Ytoeobhehjnkkkaa

/-
  One structure of a row of one's own is written anew: the world behind is a letter. Nothing of a program stands here.
-/
namespace Go.Proofs.Ytoeobhehjnkkkaa
open Go.RowKit

section
variable {α : Type} {K : Nat} {E : En α K}

theorem vs_set (cs : List α) (k : Nat) (c : α) (hk : k < cs.length) : E.vs (cs.set k c) = E.vs (cs.take k) ++ E.v c ++ E.vs (cs.drop (k + 1)) := by
  rw [List.set_eq_take_append_cons_drop, if_pos hk, vs_append, vs_cons, List.append_assoc]

/-- The row behind the write. -/
theorem owns_storeAt {P : Program} {w : World} {base : Nat} {e ty : TypeId} {g n cap k : Nat} {cs : List α} {c : α} {xs : Array Value}
    (hown : w.ownsRow base e K (.slice (some ⟨g, 0, none⟩) n cap) n (E.vs cs)) (hk : k < n) (hxs : xs.toList = E.v c) (hi : (P.info? ty).map (·.size) = some K) :
    ∃ w', (Instr.storeAt ty (.pointer (some ⟨g, k * K, none⟩)) (.agg xs)).run P w = .ok () w' ∧ w'.ownsRow base e K (.slice (some ⟨g, 0, none⟩) n cap) n (E.vs (cs.set k c)) ∧ w.grownBy w' (some g) := by
  obtain ⟨g', cap', cur, hv, hb, hg, hnc, hcm, hcs, htake⟩ := owns_pos hown (by omega)
  simp only [Value.slice.injEq, Option.some.injEq, Addr.mk.injEq] at hv
  obtain ⟨⟨rfl, -, -⟩, -, rfl⟩ := hv
  have hl : cs.length = n := owns_len hown
  have hkk : k * K + K ≤ n * K := by rw [← Nat.succ_mul]; exact Nat.mul_le_mul_right _ hk
  have hmc : n * K ≤ cap * K := Nat.mul_le_mul_right _ hnc
  have hvl : (E.v c).length = K := E.len c
  have hst := run_storeCells_at P g (k * K) e (E.v c) 0 cur w hg (by rw [hvl, hcs]; omega) (E.one c)
  simp only [Nat.add_zero, hvl] at hst
  have h1 : cur.toList.take (k * K) = E.vs (cs.take k) := by
    rw [← vs_take, ← htake, List.take_take, Nat.min_eq_left (by omega)]
  have h1l : (cur.toList.take (k * K)).length = k * K := by rw [List.length_take, Array.length_toList, hcs]; omega
  have key := owns_setRow (K := K) (w := w) (xs := E.vs (cs.set k c)) (n := n) (new := (cur.toList.take (k * K) ++ E.v c ++ cur.toList.drop (k * K + K)).toArray) hb hg hnc hcm ?_ ?_ ?_
  · refine ⟨_, ?_, key.1, key.2⟩
    cases hq : P.info? ty with
    | none => simp [hq] at hi
    | some i =>
      have hs : i.size = K := by simpa [hq] using hi
      have hz : xs.size = K := by rw [← Array.length_toList, hxs, hvl]
      simp [Instr.storeAt, Instr.sureAddr, storeVar, sizeOf, typeInfo, hq, hs, Value.cells, hz, hxs, hst]
  · simp only [List.size_toArray, List.length_append, h1l, hvl, List.length_drop, Array.length_toList, hcs]
    omega
  · have h2 : (cur.toList.take (k * K) ++ E.v c).length = k * K + K := by rw [List.length_append, h1l, hvl]
    simp only
    rw [List.take_append, h2, List.take_of_length_le (by rw [h2]; omega), h1, vs_set cs k c (by omega)]
    congr 1
    rw [← vs_drop, ← htake, List.drop_take, Nat.succ_mul]
  · rw [vs_length, List.length_set, hl]

/-- A structure into its place of a row of one's own. -/
theorem wpList_store_own {P : Program} {ops : Array Oper} {rest : List Oper} {op : Oper} {a : Act} {w : World} {Q : Exit → Act → World → Prop} {ty : TypeId} {x y : Operand} {base : Nat} {e : TypeId} {g n cap k off : Nat} {cs : List α} {c : α} {xs : Array Value}
    (hown : w.ownsRow base e K (.slice (some ⟨g, 0, none⟩) n cap) n (E.vs cs)) (hk : k < n) (hxs : xs.toList = E.v c) (hoff : off = k * K)
    (hgd : op.guard = none) (ho : op.op = .store ty x y) (hx : a.eval x = .pointer (some ⟨g, off, none⟩)) (hy : a.eval y = .agg xs) (hi : (P.info? ty).map (·.size) = some K)
    (h : ∀ w', w'.ownsRow base e K (.slice (some ⟨g, 0, none⟩) n cap) n (E.vs (cs.set k c)) → w.grownBy w' (some g) → wpList P ops Q rest (a.put op.dst undef) w') : wpList P ops Q (op :: rest) a w :=
  wpList_plain hgd fun _ hK => by
    subst hoff
    obtain ⟨w', hr, h1, h2⟩ := owns_storeAt (ty := ty) (P := P) hown hk hxs hi
    unfold Oper.wp execOp
    simp only [ho, hx, hy, hr, Sem.run_bind, Sem.run_pure, Result.andThen_ok]
    exact hK _ _ (h _ h1 h2)

end

end Go.Proofs.Ytoeobhehjnkkkaa

/-
  Rows of one's own, told apart by labels of their blocks. Nothing of a program stands here.
-/
namespace Go.Proofs.Ytoeobhehjnkkkaa
open Go.RowKit
set_option linter.unusedVariables false

section
variable {L : Type} {z : L}

/-- Blocks that are not laid yet have the label z. -/
def LbOk (z : L) (w : World) (lab : Nat → L) : Prop := ∀ g, w.heap.size ≤ g → lab g = z

/-- A row of one's own with a label. -/
def Row (w : World) (lab : Nat → L) (i : L) (e : TypeId) (K : Nat) (v : Value) (n : Nat) (xs : List Value) : Prop :=
  w.ownsRow 0 e K v n xs ∧ ∀ g, v.ownBlock = some g → lab g = i

/-- Structures that are read, in a block of the label z. -/
def Rd0 {α : Type} {K : Nat} (z : L) (E : En α K) (w : World) (lab : Nat → L) (v : Value) (xs : List α) : Prop :=
  RdG E w v xs ∧ ∀ a n c, v = .slice (some a) n c → xs ≠ [] → lab a.block = z

/-- From one world to another: blocks whose label is not in S stay as they are, and all labels do. -/
structure Chg (z : L) (w w' : World) (lab lab' : Nat → L) (S : L → Prop) : Prop where
  os : w'.os = w.os
  tape : w'.tape = w.tape
  output : w'.output = w.output
  size : w.heap.size ≤ w'.heap.size
  block : ∀ k, k < w.heap.size → ¬ S (lab k) → w'.heap[k]? = w.heap[k]?
  labs : ∀ k, k < w.heap.size → lab' k = lab k
  ok : LbOk z w' lab'

theorem LbOk.mono {w w' : World} {lab : Nat → L} (h : LbOk z w lab) (hs : w.heap.size ≤ w'.heap.size) : LbOk z w' lab := fun g hg => h g (Nat.le_trans hs hg)

theorem Chg.refl (w : World) (lab : Nat → L) (S : L → Prop) (h : LbOk z w lab) : Chg z w w lab lab S :=
  ⟨rfl, rfl, rfl, Nat.le_refl _, fun _ _ _ => rfl, fun _ _ => rfl, h⟩

theorem Chg.trans {w w1 w2 : World} {lab lab1 lab2 : Nat → L} {S : L → Prop} (h : Chg z w w1 lab lab1 S) (h2 : Chg z w1 w2 lab1 lab2 S) : Chg z w w2 lab lab2 S :=
  ⟨h2.os.trans h.os, h2.tape.trans h.tape, h2.output.trans h.output, Nat.le_trans h.size h2.size,
   fun k hk hn => (h2.block k (Nat.lt_of_lt_of_le hk h.size) (by rw [h.labs k hk]; exact hn)).trans (h.block k hk hn),
   fun k hk => (h2.labs k (Nat.lt_of_lt_of_le hk h.size)).trans (h.labs k hk), h2.ok⟩

theorem Chg.mono {w w1 : World} {lab lab1 : Nat → L} {S T : L → Prop} (h : Chg z w w1 lab lab1 S) (hS : ∀ i, S i → T i) : Chg z w w1 lab lab1 T :=
  ⟨h.os, h.tape, h.output, h.size, fun k hk hn => h.block k hk (fun q => hn (hS _ q)), h.labs, h.ok⟩

/-- New memory alone. -/
theorem Chg.below {w w' : World} {lab : Nat → L} (S : L → Prop) (hl : LbOk z w lab) (h : Below w.heap.size w w') : Chg z w w' lab lab S :=
  ⟨h.os, h.tape, h.output, h.size, fun k hk _ => h.block k hk, fun _ _ => rfl, hl.mono h.size⟩

/-- A block of a label is written. -/
theorem Chg.grown {w w' : World} {lab : Nat → L} {g : Nat} {S : L → Prop} (hl : LbOk z w lab) (h : w.grownBy w' (some g)) (hS : S (lab g)) : Chg z w w' lab lab S :=
  ⟨h.os, h.tape, h.output, h.size, fun k hk hn => h.block k hk (fun q => by cases q; exact hn hS), fun _ _ => rfl, hl.mono h.size⟩

/-- The labels behind an append. -/
def labTo [DecidableEq L] (lab : Nat → L) (o : Option Nat) (i : L) : Nat → L := fun k => if o = some k then i else lab k

/-- A row grows. -/
theorem Chg.row [DecidableEq L] {w w' : World} {lab : Nat → L} {v v' : Value} {i : L} {S : L → Prop} (hl : LbOk z w lab) (hv : ∀ g, v.ownBlock = some g → lab g = i) (h : w.grownBy w' v.ownBlock) (hS : S i)
    (hp : v'.ownBlock = v.ownBlock ∨ ∃ b, v'.ownBlock = some b ∧ w.heap.size ≤ b) (hlt : ∀ g, v'.ownBlock = some g → g < w'.heap.size) : Chg z w w' lab (labTo lab v'.ownBlock i) S := by
  refine ⟨h.os, h.tape, h.output, h.size, fun k hk hn => h.block k hk (fun q => hn (by rw [hv k q.symm]; exact hS)), fun k hk => ?_, fun g hg => ?_⟩
  · unfold labTo
    split
    · rename_i q
      rcases hp with hp | ⟨b, hp, hb⟩
      · rw [hp] at q; exact (hv k q).symm
      · rw [hp] at q; cases q; omega
    · rfl
  · unfold labTo
    split
    · rename_i q
      have := hlt g q
      omega
    · exact hl g (Nat.le_trans h.size hg)

theorem ownBlock_lt {w : World} {base : Nat} {e : TypeId} {K : Nat} {v : Value} {n : Nat} {xs : List Value} (h : w.ownsRow base e K v n xs) : ∀ g, v.ownBlock = some g → g < w.heap.size := fun g hg => (h.lt g hg).2

theorem Row.keep {w w' : World} {lab lab' : Nat → L} {S : L → Prop} {i : L} {e : TypeId} {K : Nat} {v : Value} {n : Nat} {xs : List Value} (h : Row w lab i e K v n xs) (hc : Chg z w w' lab lab' S) (hS : ¬ S i) : Row w' lab' i e K v n xs := by
  obtain ⟨h1, h2⟩ := h
  refine ⟨⟨h1.1, ?_⟩, fun g hg => ?_⟩
  · rcases h1.2 with hn | ⟨g, cap, cur, rfl, hb, hg, r⟩
    · exact .inl hn
    · have hlt : g < w.heap.size := (Array.getElem?_eq_some_iff.1 hg).1
      refine .inr ⟨g, cap, cur, rfl, hb, ?_, r⟩
      rw [hc.block g hlt (by rw [h2 g (by simp [Value.ownBlock])]; exact hS)]
      exact hg
  · rw [hc.labs g (ownBlock_lt h1 g hg)]
    exact h2 g hg

theorem Rd0.keep {α : Type} {K : Nat} {E : En α K} {w w' : World} {lab lab' : Nat → L} {S : L → Prop} {v : Value} {xs : List α} (h : Rd0 z E w lab v xs) (hc : Chg z w w' lab lab' S) (hS : ¬ S z) : Rd0 z E w' lab' v xs := by
  obtain ⟨h1, h2⟩ := h
  obtain ⟨ao, cap, rfl, k1, k2, k3, k4⟩ := h1
  have hblk : ∀ (a : Addr), ao = some a → xs ≠ [] → a.block < w.heap.size := by
    intro a ha hne
    have hp : 0 < (E.vs xs).length := by
      rw [vs_length]
      exact Nat.mul_pos (List.length_pos_iff.2 hne) E.pos
    have h0 := k4 a ha 0 (E.vs xs)[0] (by simp)
    have e : (a.add 0).block = a.block := by unfold Addr.add; split <;> rfl
    rw [← e]
    exact World.block_lt_of_cell? w _ h0
  refine ⟨⟨ao, cap, rfl, k1, k2, k3, fun a ha j u hu => ?_⟩, fun a n c hv hne => ?_⟩
  · have hne : xs ≠ [] := by
      rintro rfl
      simp [En.vs] at hu
    have hc0 := k4 a ha j u hu
    have e : (a.add j).block = a.block := by unfold Addr.add; split <;> rfl
    rw [← hc0]
    refine World.cell?_of_block ?_
    rw [e]
    exact hc.block _ (hblk a ha hne) (by rw [h2 a _ _ (by rw [ha]) hne]; exact hS)
  · simp only [Value.slice.injEq] at hv
    rw [hc.labs _ (hblk a hv.1 hne)]
    exact h2 a _ _ (by rw [hv.1]) hne

/-- What is new has the label z. -/
theorem Rd0.new {α : Type} {K : Nat} {E : En α K} {w w' : World} {lab : Nat → L} {base : Nat} {e : TypeId} {v : Value} {n : Nat} {xs : List α} (hl : LbOk z w lab) (h : w'.ownsRow base e K v n (E.vs xs)) (hb : w.heap.size ≤ base) : Rd0 z E w' lab v xs := by
  refine ⟨RdG.ofOwns h, fun a m c hv _ => ?_⟩
  rcases h.2 with ⟨h1, _⟩ | ⟨g, cap, cur, h1, hg, _⟩
  · rw [h1] at hv; cases hv
  · rw [h1] at hv
    cases hv
    exact hl _ (by show w.heap.size ≤ g; omega)

theorem Blk.keep {w w' : World} {lab lab' : Nat → L} {S : L → Prop} {B : Nat} {t : TypeId} {xs : Array Value} (h : Blk w B t xs) (hc : Chg z w w' lab lab' S) (hS : ¬ S (lab B)) : Blk w' B t xs := by
  unfold Blk
  rw [hc.block B h.lt hS]
  exact h

/-- A row that grew. -/
theorem Row.grew [DecidableEq L] {w' : World} {lab : Nat → L} {i : L} {e : TypeId} {K : Nat} {v' : Value} {n : Nat} {xs : List Value} (h : w'.ownsRow 0 e K v' n xs) : Row w' (labTo lab v'.ownBlock i) i e K v' n xs :=
  ⟨h, fun g hg => by unfold labTo; rw [if_pos hg]⟩

/-- A row, while nothing of its label is written. -/
theorem Row.same {w w' : World} {lab : Nat → L} {i : L} {e : TypeId} {K : Nat} {v : Value} {n : Nat} {xs ys : List Value} (h : Row w lab i e K v n xs) (h2 : w'.ownsRow 0 e K v n ys) : Row w' lab i e K v n ys := ⟨h2, h.2⟩

/-- Two rows of two labels lie in two blocks. -/
theorem Row.ne {w : World} {lab : Nat → L} {i j : L} {e e2 : TypeId} {K K2 : Nat} {v v2 : Value} {n n2 : Nat} {xs ys : List Value} (h : Row w lab i e K v n xs) (h2 : Row w lab j e2 K2 v2 n2 ys) (hij : i ≠ j) : v.ownBlock = none ∨ v.ownBlock ≠ v2.ownBlock := by
  cases hv : v.ownBlock with
  | none => exact .inl rfl
  | some g =>
    right
    intro q
    exact hij ((h.2 g hv).symm.trans (h2.2 g q.symm))

theorem Below.ofChg {w w' : World} {lab lab' : Nat → L} {S : L → Prop} {C : Nat} (hc : Chg z w w' lab lab' S) (hl : ∀ k, k < C → ¬ S (lab k)) (hC : C ≤ w.heap.size) : Below C w w' :=
  ⟨hc.os, hc.tape, hc.output, hc.size, fun k hk => hc.block k (by omega) (hl k hk)⟩

end

end Go.Proofs.Ytoeobhehjnkkkaa

/-
  Appends, with the place where the row lies then; stores into places of rows. Nothing of a program stands here.
-/
namespace Go.Proofs.Ytoeobhehjnkkkaa
open Go.RowKit Go.Maps
set_option linter.unusedVariables false

/-- Where a row lies behind an append. -/
def OnAt (w : World) (v v' : Value) : Prop := v'.ownBlock = v.ownBlock ∨ ∃ b, v'.ownBlock = some b ∧ w.heap.size ≤ b

theorem run_append_rdAt {α : Type} {K : Nat} {E : En α K} {P : Program} {w : World} {t ty : TypeId} {base : Nat} {e : TypeId} {z : Value} {bytes : Nat} {v : Value} {n : Nat} {cs : List α} {vx : Value} {news : List α}
    (hown : w.ownsRow base e K v n (E.vs cs)) (hrd : RdG E w vx news)
    (ht : P.underlying t = some (.slice e)) (hinf : (P.info? e).map (fun i => (i.zero, i.size, i.bytes)) = some (some z, K, bytes)) (hzs : z.cells.size = K)
    (h63 : n + news.length ≤ 1000000000) (hbytes : bytes ≤ 128) (hbase : base ≤ w.heap.size) :
    ∃ v' w', (Builtin.append_ #[t, t] ty #[v, vx]).run P w = .ok v' w' ∧ w'.ownsRow base e K v' (n + news.length) (E.vs (cs ++ news)) ∧ w.grownBy w' v.ownBlock ∧ OnAt w v v' := by
  obtain ⟨i, hi, hz, hsize, hby⟩ := info_parts hinf
  have hbytes' : (n + news.length) * bytes ≤ 1000000000 * 128 := Nat.mul_le_mul h63 hbytes
  obtain ⟨ao, cap, hvx, h2, h3, h4, h5⟩ := hrd
  subst hvx
  cases ao with
  | none =>
    have hc := h4 rfl
    have hnews : news = [] := List.eq_nil_of_length_eq_zero (by omega)
    subst hnews
    subst hc
    exact ⟨v, w, run_append_owned_none w base t ty e i K ht hi v n _ hown, by simpa using hown, World.grownBy.refl _ _, .inl rfl⟩
  | some ad =>
    obtain ⟨v', w', hr, ho', hg', _, hloc⟩ := run_append_own_at (P := P) (w := w) base t ty e i z K bytes ht hi hz hsize hby hzs E.pos v n (E.vs cs) hown ad news.length cap (E.vs news) (vs_length _) (h5 ad rfl) (vs_one _) (by simp [maxLen]; omega) (by omega) hbase
    rw [← vs_append] at ho'
    exact ⟨v', w', hr, ho', hg', hloc.elim .inl (fun q => .inr ⟨_, q, Nat.le_refl _⟩)⟩

/-- The same as a step of a region that draws its order. -/
theorem step_append_rdAt {α : Type} {K : Nat} {E : En α K} {P : Program} {w : World} {ops : Array Oper} {o : Oper} {a : Act} {KK : Act → World → Prop} {Q : Exit → Act → World → Prop} {EE : Prop} {s x : Operand} {t : TypeId} {base : Nat} {e : TypeId} {z : Value} {bytes : Nat} {v : Value} {n : Nat} {cs : List α} {vx : Value} {news : List α}
    (hown : w.ownsRow base e K v n (E.vs cs)) (hrd : RdG E w vx news)
    (ht : P.underlying t = some (.slice e)) (hinf : (P.info? e).map (fun i => (i.zero, i.size, i.bytes)) = some (some z, K, bytes)) (hzs : z.cells.size = K)
    (hgd : o.guard = none) (ho : o.op = .call { callee := .builtin .append, args := #[s, x], argTypes := #[t, t] })
    (hs : a.eval s = v) (hx : a.eval x = vx) (h63 : n + news.length ≤ 1000000000) (hbytes : bytes ≤ 128) (hbase : base ≤ w.heap.size)
    (h : ∀ v' w', w'.ownsRow base e K v' (n + news.length) (E.vs (cs ++ news)) → w.grownBy w' v.ownBlock → OnAt w v v' → KK (a.put o.dst v') w') :
    if Region.wanted o (yielded ops a.tmps) = true then Oper.wp P o a w KK Q else EE := by
  have hw : Region.wanted o (yielded ops a.tmps) = true := by simp [Region.wanted, hgd]
  rw [if_pos hw]
  obtain ⟨v', w', hr, h2, h3, h4⟩ := run_append_rdAt (ty := o.type) hown hrd ht hinf hzs h63 hbytes hbase
  unfold Oper.wp execOp
  simp only [ho, resolve, invoke, builtin, Sem.run_bind, Sem.run_pure, Result.andThen_ok, List.map_toArray, List.map_cons, List.map_nil, hs, hx, hr]
  exact h v' w' h2 h3 h4

/-- And in a plain region. -/
theorem wpList_append_rdAt {α : Type} {K : Nat} {E : En α K} {P : Program} {w : World} {ops : Array Oper} {rest : List Oper} {o : Oper} {a : Act} {Q : Exit → Act → World → Prop} {s x : Operand} {t : TypeId} {base : Nat} {e : TypeId} {z : Value} {bytes : Nat} {v : Value} {n : Nat} {cs : List α} {vx : Value} {news : List α}
    (hown : w.ownsRow base e K v n (E.vs cs)) (hrd : RdG E w vx news)
    (ht : P.underlying t = some (.slice e)) (hinf : (P.info? e).map (fun i => (i.zero, i.size, i.bytes)) = some (some z, K, bytes)) (hzs : z.cells.size = K)
    (hgd : o.guard = none) (ho : o.op = .call { callee := .builtin .append, args := #[s, x], argTypes := #[t, t] })
    (hs : a.eval s = v) (hx : a.eval x = vx) (h63 : n + news.length ≤ 1000000000) (hbytes : bytes ≤ 128) (hbase : base ≤ w.heap.size)
    (h : ∀ v' w', w'.ownsRow base e K v' (n + news.length) (E.vs (cs ++ news)) → w.grownBy w' v.ownBlock → OnAt w v v' → wpList P ops Q rest (a.put o.dst v') w') : wpList P ops Q (o :: rest) a w :=
  wpList_plain hgd fun _ hK => by
    obtain ⟨v', w', hr, h2, h3, h4⟩ := run_append_rdAt (ty := o.type) hown hrd ht hinf hzs h63 hbytes hbase
    unfold Oper.wp execOp
    simp only [ho, resolve, invoke, builtin, Sem.run_bind, Sem.run_pure, Result.andThen_ok, List.map_toArray, List.map_cons, List.map_nil, hs, hx, hr]
    exact hK _ _ (h v' w' h2 h3 h4)

/-- A structure into its place of a row of one's own, in a region that draws its order. -/
theorem step_store_own {α : Type} {K : Nat} {E : En α K} {P : Program} {w : World} {ops : Array Oper} {o : Oper} {a : Act} {KK : Act → World → Prop} {Q : Exit → Act → World → Prop} {EE : Prop} {ty : TypeId} {x y : Operand} {base : Nat} {e : TypeId} {g n cap k off : Nat} {cs : List α} {c : α} {xs : Array Value}
    (hown : w.ownsRow base e K (.slice (some ⟨g, 0, none⟩) n cap) n (E.vs cs)) (hk : k < n) (hxs : xs.toList = E.v c) (hoff : off = k * K)
    (hgd : o.guard = none) (ho : o.op = .store ty x y) (hx : a.eval x = .pointer (some ⟨g, off, none⟩)) (hy : a.eval y = .agg xs) (hi : (P.info? ty).map (·.size) = some K)
    (h : ∀ w', w'.ownsRow base e K (.slice (some ⟨g, 0, none⟩) n cap) n (E.vs (cs.set k c)) → w.grownBy w' (some g) → KK (a.put o.dst undef) w') :
    if Region.wanted o (yielded ops a.tmps) = true then Oper.wp P o a w KK Q else EE := by
  have hw : Region.wanted o (yielded ops a.tmps) = true := by simp [Region.wanted, hgd]
  rw [if_pos hw]
  subst hoff
  obtain ⟨w', hr, h1, h2⟩ := owns_storeAt (ty := ty) (P := P) hown hk hxs hi
  unfold Oper.wp execOp
  simp only [ho, hx, hy, hr, Sem.run_bind, Sem.run_pure, Result.andThen_ok]
  exact h w' h1 h2

/-- One place of a structure of a row of one's own is written: the structure is another one. -/
theorem owns_setField {α : Type} {K : Nat} {E : En α K} {w : World} {base : Nat} {e : TypeId} {g n cap j k : Nat} {cs : List α} {c c' : α} {u : Value} (h : w.ownsRow base e K (.slice (some ⟨g, 0, none⟩) n cap) n (E.vs cs)) (hj : cs[j]? = some c) (hk : k < K) (hu : E.v c' = (E.v c).set k u) :
    (w.setCell ⟨g, j * K + k, none⟩ u).ownsRow base e K (.slice (some ⟨g, 0, none⟩) n cap) n (E.vs (cs.set j c')) := by
  have h1 := owns_setCell h (j * K + k) u
  have e1 : (E.vs cs).set (j * K + k) u = E.vs (cs.set j c') := by
    obtain ⟨hl, rfl⟩ := List.getElem?_eq_some_iff.1 hj
    apply List.ext_getElem?
    intro i
    rw [vs_set cs j c' hl, hu]
    have el : E.vs cs = E.vs (cs.take j) ++ E.v cs[j] ++ E.vs (cs.drop (j + 1)) := by
      have := vs_set (E := E) cs j cs[j] hl
      rw [List.set_getElem_self] at this
      exact this
    rw [el]
    have l1 : (E.vs (cs.take j)).length = j * K := by rw [vs_length, List.length_take, Nat.min_eq_left (by omega)]
    have l2 : (E.v cs[j]).length = K := E.len _
    rw [List.set_append, if_pos (by rw [List.length_append, l1, l2]; omega), List.set_append, if_neg (by rw [l1]; omega), l1, Nat.add_sub_cancel_left]
  rw [← e1]
  exact h1

end Go.Proofs.Ytoeobhehjnkkkaa

/-
  Plain maths of what is known of who serves which rows: what Check says, which of it has a row, what is learnt. Nothing of a program stands here.
-/
namespace Go.Proofs.Ytoeobhehjnkkkaa
open Go.RowKit
set_option linter.unusedVariables false

/-- What is known of a part. -/
structure Kn where
  p : Pt
  ho : Int
  tu : Int

def zeroKn : Kn := ⟨zeroPt, 0, 0⟩

/-- How it lies in memory. -/
def knE : En Kn 5 where
  v k := [.string k.p.fr, .string k.p.to_, .int .i64 k.p.id, .int .i64 k.ho, .int .i64 k.tu]
  len _ := rfl
  one k u hu := by
    simp only [List.mem_cons, List.not_mem_nil, or_false] at hu
    rcases hu with rfl | rfl | rfl | rfl | rfl <;> rfl
  pos := by decide

/-- What is wrong with a part by itself. -/
def codeKn (p : Pt) : Int :=
  if 40 < p.fr.size ∨ 40 < p.to_.size then 8
  else if p.to_.toList ≠ [] ∧ bLt p.fr.toList p.to_.toList = false then 5
  else 0

/-- Does a part end, and not behind where another one begins? -/
def ahK (p q : Pt) : Bool := !p.to_.toList.isEmpty && !bLt q.fr.toList p.to_.toList

/-- What is wrong with one of what is known, where those ahead are fine. -/
def codeK (l : List Kn) (i : Nat) : Int :=
  if codeKn (l.getD i zeroKn).p ≠ 0 then codeKn (l.getD i zeroKn).p
  else if 0 < i ∧ ahK (l.getD (i - 1) zeroKn).p (l.getD i zeroKn).p = false then 10
  else 0

def chkKGo (l : List Kn) : Nat → Nat → Int × Int
  | 0, _ => (0, 0)
  | n + 1, i => if codeK l i = 0 then chkKGo l n (i + 1) else (codeK l i, i)

/-- What Check tells. -/
def chkK (l : List Kn) : Int × Int := if 200 < l.length then (2, -1) else chkKGo l l.length 0

theorem chkKGo_ok {l : List Kn} {n i : Nat} (h : codeK l i = 0) : chkKGo l (n + 1) i = chkKGo l n (i + 1) := by rw [chkKGo, if_pos h]
theorem chkKGo_no {l : List Kn} {n i : Nat} (h : ¬ codeK l i = 0) : chkKGo l (n + 1) i = (codeK l i, (i : Int)) := by rw [chkKGo, if_neg h]

theorem chkKGo_zero {l : List Kn} : ∀ {n i : Nat}, (chkKGo l n i).1 = 0 → ∀ j, j < n → codeK l (i + j) = 0
  | 0, _, _, _, hj => by omega
  | n + 1, i, h, j, hj => by
    by_cases h0 : codeK l i = 0
    · rw [chkKGo_ok h0] at h
      cases j with
      | zero => exact h0
      | succ j =>
        have := chkKGo_zero h j (by omega)
        rwa [show i + (j + 1) = i + 1 + j by omega]
    · rw [chkKGo_no h0] at h
      exact absurd h h0

theorem chkKGo_all {l : List Kn} : ∀ {n i : Nat}, (∀ j, j < n → codeK l (i + j) = 0) → chkKGo l n i = (0, 0)
  | 0, _, _ => rfl
  | n + 1, i, h => by
    rw [chkKGo_ok (i := i) (h 0 (by omega))]
    exact chkKGo_all fun j hj => by have := h (j + 1) (by omega); rwa [show i + (j + 1) = i + 1 + j by omega] at this

/-- What may be known. -/
structure FineK (l : List Kn) : Prop where
  len : l.length ≤ 200
  one : ∀ i, i < l.length → codeK l i = 0

theorem chkK_fine {l : List Kn} (h : FineK l) : chkK l = (0, 0) := by
  unfold chkK
  rw [if_neg (by have := h.len; omega)]
  exact chkKGo_all fun j hj => by rw [Nat.zero_add]; exact h.one j hj

theorem fine_chkK {l : List Kn} (h : (chkK l).1 = 0) : FineK l := by
  unfold chkK at h
  by_cases h1 : 200 < l.length
  · rw [if_pos h1] at h; cases h
  · rw [if_neg h1] at h
    exact ⟨by omega, fun i hi => by have := chkKGo_zero h i hi; rwa [Nat.zero_add] at this⟩

theorem chkK_z {l : List Kn} (h : (chkK l).1 = 0) : chkK l = (0, 0) := chkK_fine (fine_chkK h)

theorem chkKGo_at {l : List Kn} : ∀ {n i : Nat}, 0 ≤ (chkKGo l n i).2 ∧ (chkKGo l n i).2 ≤ (n : Int) + i
  | 0, i => by simp [chkKGo]
  | n + 1, i => by
    by_cases h0 : codeK l i = 0
    · rw [chkKGo_ok h0]
      have := chkKGo_at (l := l) (n := n) (i := i + 1)
      omega
    · rw [chkKGo_no h0]
      simp
      omega

theorem chkK_at (l : List Kn) : -1 ≤ (chkK l).2 ∧ (chkK l).2 ≤ 200 := by
  unfold chkK
  split
  · simp
  · have := chkKGo_at (l := l) (n := l.length) (i := 0)
    omega

theorem codeK_z {l : List Kn} {i : Nat} (h : codeK l i = 0) : codeKn (l.getD i zeroKn).p = 0 ∧ (0 < i → ahK (l.getD (i - 1) zeroKn).p (l.getD i zeroKn).p = true) := by
  unfold codeK at h
  by_cases h0 : codeKn (l.getD i zeroKn).p ≠ 0
  · rw [if_pos h0] at h; exact absurd h h0
  · rw [if_neg h0] at h
    refine ⟨Decidable.not_not.1 h0, fun hi => ?_⟩
    cases h1 : ahK (l.getD (i - 1) zeroKn).p (l.getD i zeroKn).p
    · rw [if_pos ⟨hi, h1⟩] at h; cases h
    · rfl

theorem codeK_own {l : List Kn} {i : Nat} (h : codeKn (l.getD i zeroKn).p ≠ 0) : codeK l i = codeKn (l.getD i zeroKn).p := by rw [codeK, if_pos h]
theorem codeK_tw {l : List Kn} {i : Nat} (h : codeKn (l.getD i zeroKn).p = 0) (hi : 0 < i) (h2 : ahK (l.getD (i - 1) zeroKn).p (l.getD i zeroKn).p = false) : codeK l i = 10 := by
  rw [codeK, if_neg (fun q => q h), if_pos ⟨hi, h2⟩]
theorem codeK_ok {l : List Kn} {i : Nat} (h : codeKn (l.getD i zeroKn).p = 0) (h2 : 0 < i → ahK (l.getD (i - 1) zeroKn).p (l.getD i zeroKn).p = true) : codeK l i = 0 := by
  rw [codeK, if_neg (fun q => q h), if_neg (fun q => by rw [h2 q.1] at q; cases q.2)]

theorem codeKn_long {p : Pt} (h : 40 < p.fr.size ∨ 40 < p.to_.size) : codeKn p = 8 := by rw [codeKn, if_pos h]
theorem codeKn_form {p : Pt} (h : ¬ (40 < p.fr.size ∨ 40 < p.to_.size)) (h2 : p.to_.toList ≠ [] ∧ bLt p.fr.toList p.to_.toList = false) : codeKn p = 5 := by rw [codeKn, if_neg h, if_pos h2]
theorem codeKn_ok {p : Pt} (h : ¬ (40 < p.fr.size ∨ 40 < p.to_.size)) (h2 : ¬ (p.to_.toList ≠ [] ∧ bLt p.fr.toList p.to_.toList = false)) : codeKn p = 0 := by rw [codeKn, if_neg h, if_neg h2]

/-- A part that is right has its end behind its beginning, if it has one. -/
theorem codeKn_lt {p : Pt} (h : codeKn p = 0) (ht : p.to_.toList ≠ []) : bLt p.fr.toList p.to_.toList = true := by
  unfold codeKn at h
  split at h
  · cases h
  · split at h
    · cases h
    · rename_i h2
      cases hb : bLt p.fr.toList p.to_.toList
      · exact absurd ⟨ht, hb⟩ h2
      · rfl

theorem ahK_iff {p q : Pt} : ahK p q = true ↔ p.to_.toList ≠ [] ∧ bLt q.fr.toList p.to_.toList = false := by
  unfold ahK
  simp

theorem ahK_trans {p q r : Pt} (h1 : ahK p q = true) (hq : codeKn q = 0) (h2 : ahK q r = true) : ahK p r = true := by
  rw [ahK_iff] at h1 h2 ⊢
  refine ⟨h1.1, ?_⟩
  have hl := codeKn_lt hq h2.1
  cases hb : bLt r.fr.toList p.to_.toList
  · rfl
  · exfalso
    -- r < p.to ≤ q.fr < q.to ≤ r
    have a1 := bLt_le hb h1.2
    have a2 := bLt_trans a1 hl
    rw [a2] at h2
    cases h2.2

/-- Those ahead of one, all fine, are in order. -/
theorem ahK_all {l : List Kn} {i : Nat} (h : ∀ j, j ≤ i → codeK l j = 0) : ∀ k, k < i → ahK (l.getD k zeroKn).p (l.getD i zeroKn).p = true := by
  induction i with
  | zero => intro k hk; omega
  | succ i ih =>
    intro k hk
    have hi := (codeK_z (h (i + 1) (Nat.le_refl _))).2 (by omega)
    rw [show i + 1 - 1 = i by omega] at hi
    by_cases hk2 : k = i
    · subst hk2; exact hi
    · exact ahK_trans (ih (fun j hj => h j (by omega)) k (by omega)) (codeK_z (h i (by omega))).1 hi

/-- If one of those ahead is not ahead of it, the last one is not. -/
theorem codeK_some {l : List Kn} {i k : Nat} (h : ∀ j, j < i → codeK l j = 0) (hk : k < i) (hc : codeKn (l.getD i zeroKn).p = 0) (ha : ahK (l.getD k zeroKn).p (l.getD i zeroKn).p = false) : codeK l i = 10 := by
  refine codeK_tw hc (by omega) ?_
  cases hb : ahK (l.getD (i - 1) zeroKn).p (l.getD i zeroKn).p
  · rfl
  · exfalso
    by_cases hk2 : k = i - 1
    · subst hk2; rw [ha] at hb; cases hb
    · have h1 := ahK_all (l := l) (i := i - 1) (fun j hj => h j (by omega)) k (by omega)
      rw [ahK_trans h1 (codeK_z (h (i - 1) (by omega))).1 hb] at ha
      cases ha

theorem FineK.ah {l : List Kn} (h : FineK l) {i k : Nat} (hi : i < l.length) (hk : k < i) : ahK (l.getD k zeroKn).p (l.getD i zeroKn).p = true :=
  ahK_all (fun j hj => h.one j (by omega)) k hk

theorem FineK.code {l : List Kn} (h : FineK l) {i : Nat} (hi : i < l.length) : codeKn (l.getD i zeroKn).p = 0 := (codeK_z (h.one i hi)).1

theorem getDK {l : List Kn} {i : Nat} (hi : i < l.length) : l.getD i zeroKn = l[i] := by simp [List.getD, hi]

/-- What is fine, said of each two. -/
theorem fineK_iff {l : List Kn} : FineK l ↔ l.length ≤ 200 ∧ (∀ x ∈ l, codeKn x.p = 0) ∧ l.Pairwise (fun x y => ahK x.p y.p = true) := by
  constructor
  · intro h
    refine ⟨h.len, fun x hx => ?_, ?_⟩
    · obtain ⟨i, hi, rfl⟩ := List.getElem_of_mem hx
      have := h.code hi
      rwa [getDK hi] at this
    · rw [List.pairwise_iff_getElem]
      intro i j hi hj hij
      have := h.ah hj hij
      rwa [getDK hi, getDK hj] at this
  · rintro ⟨h1, h2, h3⟩
    rw [List.pairwise_iff_getElem] at h3
    refine ⟨h1, fun i hi => codeK_ok ?_ fun h0 => ?_⟩
    · rw [getDK hi]; exact h2 _ (List.getElem_mem hi)
    · rw [getDK hi, getDK (show i - 1 < l.length by omega)]
      exact h3 _ _ _ _ (by omega)

/-! ### Which has a row -/

theorem inB_lt {r a b : ByteArray} (h : inB r a b = true) : bLt r.toList a.toList = false ∧ (b.toList = [] ∨ bLt r.toList b.toList = true) := by
  unfold inB at h
  simp [List.isEmpty_iff] at h
  exact h

theorem ahK_in {p q : Pt} {r : ByteArray} (h : ahK p q = true) (hp : inB r p.fr p.to_ = true) (hq : inB r q.fr q.to_ = true) : False := by
  rw [ahK_iff] at h
  have h1 := inB_lt hp
  have h2 := inB_lt hq
  rcases h1.2 with h3 | h3
  · exact h.1 h3
  · -- r < p.to ≤ q.fr ≤ r
    have := bLt_le h3 h.2
    rw [this] at h2
    cases h2.1

/-- No two have a row in common. -/
theorem FineK.once {l : List Kn} (h : FineK l) {r : ByteArray} {i j : Nat} (hi : i < l.length) (hj : j < l.length)
    (h1 : inB r (l.getD i zeroKn).p.fr (l.getD i zeroKn).p.to_ = true) (h2 : inB r (l.getD j zeroKn).p.fr (l.getD j zeroKn).p.to_ = true) : i = j := by
  rcases Nat.lt_trichotomy i j with q | q | q
  · exact (ahK_in (h.ah hj q) h1 h2).elim
  · exact q
  · exact (ahK_in (h.ah hi q) h2 h1).elim

/-! ### What is learnt -/

/-- What is known behind one that is learnt. -/
def lrn (l : List Kn) (k : Kn) : List Kn := (l.filter fun x => ahK x.p k.p) ++ k :: (l.filter fun x => ahK k.p x.p)

/-- Have two parts a row in common? -/
def meetB (a b : Pt) : Bool := (a.to_.toList.isEmpty || bLt b.fr.toList a.to_.toList) && (b.to_.toList.isEmpty || bLt a.fr.toList b.to_.toList)

theorem ahK_fr {p q : Pt} (hp : codeKn p = 0) (h : ahK p q = true) : bLt p.fr.toList q.fr.toList = true := by
  rw [ahK_iff] at h
  exact bLt_le (codeKn_lt hp h.1) h.2

theorem meet_ahead {p q : Pt} (hp : codeKn p = 0) (hq : codeKn q = 0) : (!meetB p q && bLt p.fr.toList q.fr.toList) = ahK p q := by
  cases h : ahK p q
  · cases hf : bLt p.fr.toList q.fr.toList
    · simp
    · simp only [Bool.and_true, Bool.not_eq_false']
      unfold meetB
      rw [Bool.and_eq_true]
      constructor
      · unfold ahK at h
        cases he : p.to_.toList.isEmpty
        · simpa [he] using h
        · rfl
      · cases he : q.to_.toList.isEmpty
        · have hl := codeKn_lt hq (by intro q0; rw [q0] at he; cases he)
          rw [bLt_trans hf hl]; rfl
        · rfl
  · rw [ahK_fr hp h]
    rw [ahK_iff] at h
    unfold meetB
    rw [h.2]
    simp [h.1]

theorem meet_comm (p q : Pt) : meetB p q = meetB q p := by unfold meetB; rw [Bool.and_comm]

theorem meet_behind {p q : Pt} (hp : codeKn p = 0) (hq : codeKn q = 0) : (!meetB p q && bLt q.fr.toList p.fr.toList) = ahK q p := by
  rw [meet_comm]; exact meet_ahead hq hp

theorem filter_len_le {α : Type} (f : α → Bool) (l : List α) : (l.filter f).length ≤ l.length := List.length_filter_le f l

theorem lrn_len (l : List Kn) (k : Kn) : (lrn l k).length ≤ 2 * l.length + 1 := by
  unfold lrn
  have h1 := List.length_filter_le (fun x : Kn => ahK x.p k.p) l
  have h2 := List.length_filter_le (fun x : Kn => ahK k.p x.p) l
  simp
  omega

/-- What is learnt stays fine, if there is room. -/
theorem lrn_fine {l : List Kn} {k : Kn} (h : FineK l) (hk : codeKn k.p = 0) (hl : (lrn l k).length ≤ 200) : FineK (lrn l k) := by
  obtain ⟨_, h2, h3⟩ := fineK_iff.1 h
  refine fineK_iff.2 ⟨hl, fun x hx => ?_, ?_⟩
  · unfold lrn at hx
    simp only [List.mem_append, List.mem_cons, List.mem_filter] at hx
    rcases hx with hx | rfl | hx
    · exact h2 x hx.1
    · exact hk
    · exact h2 x hx.1
  · unfold lrn
    rw [List.pairwise_append, List.pairwise_cons]
    refine ⟨h3.filter _, ⟨fun x hx => (List.mem_filter.1 hx).2, h3.filter _⟩, fun x hx y hy => ?_⟩
    have ha := (List.mem_filter.1 hx).2
    rcases List.mem_cons.1 hy with rfl | hy
    · exact ha
    · exact ahK_trans ha hk (List.mem_filter.1 hy).2

/-- What was known before is thinned out at most by one. -/
theorem fine_sub {l m : List Kn} (h : FineK l) (hs : m.Sublist l) : FineK m := by
  obtain ⟨h1, h2, h3⟩ := fineK_iff.1 h
  exact fineK_iff.2 ⟨Nat.le_trans hs.length_le h1, fun x hx => h2 x (hs.subset hx), h3.sublist hs⟩

end Go.Proofs.Ytoeobhehjnkkkaa

/-
  Regions that draw their order, step by step: an operation is taken out of the region's list by its place; what is done is told by a list that is written out. Nothing of a program stands here.
-/
namespace Go.Proofs.Ytoeobhehjnkkkaa
open Go.RowKit Go.Maps

/-- Of n the first k are done. -/
def upB : Nat → Nat → List Bool
  | 0, _ => []
  | n + 1, 0 => false :: upB n 0
  | n + 1, k + 1 => true :: upB n k

section
variable {P : Program} {ops : Array Oper} {Q : Exit → Act → World → Prop} {md : Region.Mode} {S : World → Prop}

theorem at_of_drop {i : Nat} {oi : Oper} (hi : (ops.toList.drop i).head? = some oi) : ops[i]? = some oi := by
  rw [List.head?_drop] at hi
  simpa using hi

/-- Number i is taken first. -/
theorem wpAnyH_takeD {l l' : Array Bool} {i : Nat} {oi : Oper} {v : Value} {fuel : Nat} {a : Act} {w : World} (hi : (ops.toList.drop i).head? = some oi)
    (hs : Region.noSelect ops = true) (hf : Region.free md ops l i = true) (hr : (Region.ready md ops l).contains i = true) (hl : l.setIfInBounds i true = l')
    (hQ : ∀ c a w, Q (.panic c) (a.put oi.dst v) w → Q (.panic c) a w) (hw : Region.wanted oi (yielded ops a.tmps) = true) (hy : ∀ w, S w → (execOp a.eval oi).run P w = .ok (.value v) w) (hS : S w)
    (h : wpAnyH P md ops Q S fuel l' (a.put oi.dst v) w) : wpAnyH P md ops Q S (fuel + 1) l a w :=
  wpAnyH_take (at_of_drop hi) hs hf hr hQ (.inl ⟨hw, hy⟩) hS (by rw [hl]; exact h)

/-- Number i is not wanted. -/
theorem wpAnyH_skipD {l l' : Array Bool} {i : Nat} {oi : Oper} {fuel : Nat} {a : Act} {w : World} (hi : (ops.toList.drop i).head? = some oi)
    (hs : Region.noSelect ops = true) (hf : Region.free md ops l i = true) (hr : (Region.ready md ops l).contains i = true) (hl : l.setIfInBounds i true = l')
    (hQ : ∀ c a w, Q (.panic c) (a.put oi.dst undef) w → Q (.panic c) a w) (hw : Region.wanted oi (yielded ops a.tmps) = false) (hS : S w)
    (h : wpAnyH P md ops Q S fuel l' (a.put oi.dst undef) w) : wpAnyH P md ops Q S (fuel + 1) l a w :=
  wpAnyH_take (at_of_drop hi) hs hf hr hQ (.inr ⟨hw, rfl⟩) hS (by rw [hl]; exact h)

/-- Number i comes up, and nothing else can. -/
theorem wpAnyH_oneD {l l' : Array Bool} {fuel : Nat} {a : Act} {w : World} {i : Nat} {o : Oper} (hi : (ops.toList.drop i).head? = some o) (hr : Region.ready md ops l = [i]) (hl : l.setIfInBounds i true = l')
    (h : ∀ K' : Act → World → Prop, Shut (∀ a w, S w → (S w → wpAnyH P md ops Q S fuel l' a w) → K' a w) → if Region.wanted o (yielded ops a.tmps) = true then Oper.wp P o a w K' Q else K' (a.put o.dst undef) w) : wpAnyH P md ops Q S (fuel + 1) l a w :=
  wpAnyH_ready hr (by simp) (AllReadyH.cons (at_of_drop hi) (by rw [hl]; exact h) AllReadyH.nil)

/-- The beginning. -/
theorem wp_region_heldD {l : Array Bool} {n id : Nat} {a : Act} {w : World} (hm : P.follows .mixedOrders = true) (hn : ops.size = n) (hl : Array.replicate n false = l) (hs : Region.noSelect ops = true) (hS : S w.drew)
    (h : Hid (Region.noSelect ops = true) → S w.drew → wpAnyH P .any ops Q S n l a w.drew) : (Code.region id ops true).wp P Q a w :=
  wp_region_held_drew hm hS (fun k => by rw [hn, hl]; exact h (hide hs) k)

end
end Go.Proofs.Ytoeobhehjnkkkaa

/-
  'copy' into a row that is known whole; a row behind two copies. Nothing of a program stands here.
-/
namespace Go.Proofs.Ytoeobhehjnkkkaa
open Go.RowKit
set_option linter.unusedVariables false

/-- A row, from a place on written over. -/
def ovw (R : List Value) (o : Nat) (cs : List Value) : List Value := R.take o ++ cs ++ R.drop (o + cs.length)

theorem ovw_length {R : List Value} {o : Nat} {cs : List Value} (h : o + cs.length ≤ R.length) : (ovw R o cs).length = R.length := by
  simp only [ovw, List.length_append, List.length_take, List.length_drop]
  omega

/-- What a copy into a row leaves. -/
structure CpG (w w' : World) (g : Nat) (t : TypeId) (R : List Value) : Prop where
  row : w'.heap[g]? = some (.cells R.toArray t (0, 0))
  grw : w.grownBy w' (some g)

theorem run_copyG {P : Program} {w : World} {dT sT ty elem t : TypeId} {K g o dLen dCap sLen sCap m : Nat} {a : Addr} {R : List Value} {cs : List Value}
    (hu : P.underlying dT = some (.slice elem)) (hs : (P.info? elem).map (·.size) = some K)
    (hg : w.heap[g]? = some (.cells R.toArray t (0, 0))) (hm : Nat.min sLen dLen = m) (hn : cs.length = m * K)
    (hsrc : ∀ j v, cs[j]? = some v → w.cell? (a.add j) = some v) (hfit : o + cs.length ≤ R.length) (h1 : ∀ v ∈ cs, v.oneCell' = true) :
    ∃ w', (Builtin.copy_ #[dT, sT] ty #[.slice (some ⟨g, o, none⟩) dLen dCap, .slice (some a) sLen sCap]).run P w = .ok (goInt m) w' ∧ CpG w w' g t (ovw R o cs) := by
  have hl := run_loadCells_list (P := P) w a cs hsrc
  rw [hn] at hl
  have hst := run_storeCells_at P g o t cs 0 R.toArray w hg (by simpa using hfit) h1
  cases hq : P.info? elem with
  | none => simp [hq] at hs
  | some i =>
    have hi : i.size = K := by simpa [hq] using hs
    refine ⟨w.setRow g (ovw R o cs).toArray, ?_, setRow_heap w g _ _ t _ hg, grown_setRow w g _⟩
    simp [Builtin.copy_, run_underlying hu, Builtin.lenOf, Builtin.firstCells, sizeOf, typeInfo, hq, hi, hm, hl, hst, ovw]

theorem wpList_copyG {P : Program} {w : World} {ops : Array Oper} {rest : List Oper} {op : Oper} {a : Act} {Q : Exit → Act → World → Prop} {d s : Operand} {dT sT elem t : TypeId} {K g off dLen dCap sLen sCap m : Nat} {ad : Addr} {R cs : List Value}
    (hu : P.underlying dT = some (.slice elem)) (hsz : (P.info? elem).map (·.size) = some K) (hg : w.heap[g]? = some (.cells R.toArray t (0, 0))) (hm : Nat.min sLen dLen = m) (hn : cs.length = m * K)
    (hsrc : ∀ j v, cs[j]? = some v → w.cell? (ad.add j) = some v) (hfit : off + cs.length ≤ R.length) (h1 : ∀ v ∈ cs, v.oneCell' = true)
    (hgd : op.guard = none) (ho : op.op = .call { callee := .builtin .copy, args := #[d, s], argTypes := #[dT, sT] }) (hd : a.eval d = .slice (some ⟨g, off, none⟩) dLen dCap) (hs : a.eval s = .slice (some ad) sLen sCap)
    (h : ∀ w', CpG w w' g t (ovw R off cs) → wpList P ops Q rest (a.put op.dst (goInt m)) w') : wpList P ops Q (op :: rest) a w := by
  refine wpList_plain hgd fun KK hK => ?_
  obtain ⟨w', hrun, hc⟩ := run_copyG (P := P) (w := w) (dT := dT) (sT := sT) (ty := op.type) (dCap := dCap) (sCap := sCap) hu hsz hg hm hn hsrc hfit h1
  unfold Oper.wp
  simp only [execOp, ho, resolve, invoke, builtin, Sem.run_bind, Sem.run_pure, Result.andThen_ok, List.map_toArray, List.map_cons, List.map_nil, hd, hs, hrun]
  exact hK _ _ (h _ hc)

theorem step_copyG {P : Program} {w : World} {ops : Array Oper} {op : Oper} {a : Act} {KK : Act → World → Prop} {Q : Exit → Act → World → Prop} {EE : Prop} {d s : Operand} {dT sT elem t : TypeId} {K g off dLen dCap sLen sCap m : Nat} {ad : Addr} {R cs : List Value}
    (hu : P.underlying dT = some (.slice elem)) (hsz : (P.info? elem).map (·.size) = some K) (hg : w.heap[g]? = some (.cells R.toArray t (0, 0))) (hm : Nat.min sLen dLen = m) (hn : cs.length = m * K)
    (hsrc : ∀ j v, cs[j]? = some v → w.cell? (ad.add j) = some v) (hfit : off + cs.length ≤ R.length) (h1 : ∀ v ∈ cs, v.oneCell' = true)
    (hgd : op.guard = none) (ho : op.op = .call { callee := .builtin .copy, args := #[d, s], argTypes := #[dT, sT] }) (hd : a.eval d = .slice (some ⟨g, off, none⟩) dLen dCap) (hs : a.eval s = .slice (some ad) sLen sCap)
    (h : ∀ w', CpG w w' g t (ovw R off cs) → KK (a.put op.dst (goInt m)) w') : if Region.wanted op (yielded ops a.tmps) = true then Oper.wp P op a w KK Q else EE := by
  have hw : Region.wanted op (yielded ops a.tmps) = true := by simp [Region.wanted, hgd]
  rw [if_pos hw]
  obtain ⟨w', hrun, hc⟩ := run_copyG (P := P) (w := w) (dT := dT) (sT := sT) (ty := op.type) (dCap := dCap) (sCap := sCap) hu hsz hg hm hn hsrc hfit h1
  unfold Oper.wp
  simp only [execOp, ho, resolve, invoke, builtin, Sem.run_bind, Sem.run_pure, Result.andThen_ok, List.map_toArray, List.map_cons, List.map_nil, hd, hs, hrun]
  exact h _ hc

section
variable {α : Type} {K : Nat} {E : En α K}

theorem take_len {R : List Value} {o : Nat} (h : o ≤ R.length) : (R.take o).length = o := by rw [List.length_take]; omega

/-- The middle is written first, then what stands behind. -/
theorem ovw_ms {R : List Value} {p i : Nat} {P M S : List α} (hP : R.take (p * K) = E.vs P) (hp : P.length = p) (hi : i = p + M.length) (hl : (i + S.length) * K ≤ R.length) :
    (ovw (ovw R (p * K) (E.vs M)) (i * K) (E.vs S)).take ((i + S.length) * K) = E.vs (P ++ M ++ S) ∧ (ovw (ovw R (p * K) (E.vs M)) (i * K) (E.vs S)).length = R.length ∧ (ovw R (p * K) (E.vs M)).length = R.length := by
  subst hi
  have hm : (E.vs M).length = M.length * K := vs_length _
  have hs : (E.vs S).length = S.length * K := vs_length _
  rw [Nat.add_mul, Nat.add_mul] at hl
  have l1 : (ovw R (p * K) (E.vs M)).length = R.length := ovw_length (by omega)
  have l2 : (ovw (ovw R (p * K) (E.vs M)) ((p + M.length) * K) (E.vs S)).length = R.length := by rw [ovw_length (by rw [Nat.add_mul]; omega), l1]
  refine ⟨?_, l2, l1⟩
  have t1 : (ovw R (p * K) (E.vs M)).take ((p + M.length) * K) = E.vs P ++ E.vs M := by
    have hA : (E.vs P ++ E.vs M).length = (p + M.length) * K := by rw [List.length_append, vs_length, vs_length, hp, Nat.add_mul]
    rw [ovw, hP, ← hA, List.take_left]
  have hB : (E.vs P ++ E.vs M ++ E.vs S).length = (p + M.length + S.length) * K := by simp only [List.length_append, vs_length, hp, Nat.add_mul]
  rw [ovw, t1, ← hB, List.take_left, vs_append, vs_append]

/-- What stands behind is written first, then the middle. -/
theorem ovw_sm {R : List Value} {p i : Nat} {P M S : List α} (hP : R.take (p * K) = E.vs P) (hp : P.length = p) (hi : i = p + M.length) (hl : (i + S.length) * K ≤ R.length) :
    (ovw (ovw R (i * K) (E.vs S)) (p * K) (E.vs M)).take ((i + S.length) * K) = E.vs (P ++ M ++ S) ∧ (ovw (ovw R (i * K) (E.vs S)) (p * K) (E.vs M)).length = R.length ∧ (ovw R (i * K) (E.vs S)).length = R.length := by
  subst hi
  have hm : (E.vs M).length = M.length * K := vs_length _
  have hs : (E.vs S).length = S.length * K := vs_length _
  rw [Nat.add_mul, Nat.add_mul] at hl
  have l1 : (ovw R ((p + M.length) * K) (E.vs S)).length = R.length := ovw_length (by rw [Nat.add_mul]; omega)
  have l2 : (ovw (ovw R ((p + M.length) * K) (E.vs S)) (p * K) (E.vs M)).length = R.length := by rw [ovw_length (by omega), l1]
  refine ⟨?_, l2, l1⟩
  have hA : (R.take ((p + M.length) * K)).length = (p + M.length) * K := take_len (by rw [Nat.add_mul]; omega)
  have t1 : (ovw R ((p + M.length) * K) (E.vs S)).take (p * K) = E.vs P := by
    rw [ovw, List.append_assoc, List.take_append_of_le_length (by rw [hA, Nat.add_mul]; omega), List.take_take, ← hP]
    congr 1
    rw [Nat.add_mul]
    omega
  have t2 : (ovw R ((p + M.length) * K) (E.vs S)).drop (p * K + M.length * K) = E.vs S ++ R.drop ((p + M.length) * K + S.length * K) := by
    rw [ovw, List.append_assoc, hs, ← Nat.add_mul]
    exact List.drop_left' hA
  rw [ovw, t1, hm, t2, ← List.append_assoc]
  have hB : (E.vs P ++ E.vs M ++ E.vs S).length = (p + M.length + S.length) * K := by simp only [List.length_append, vs_length, hp, Nat.add_mul]
  rw [← hB, List.take_left, vs_append, vs_append]

end

end Go.Proofs.Ytoeobhehjnkkkaa
