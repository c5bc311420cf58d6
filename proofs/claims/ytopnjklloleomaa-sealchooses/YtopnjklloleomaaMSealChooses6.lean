/-
  Texts joined: GenX, GenL, GenM, SealV1, SealV2, SealV3, SealV4.
-/
import Derived.Test.YtopnjklloleomaaMSealChooses5
import Derived.Maps.AppendAt
/-
  One structure of a row of one's own is written anew: the world behind is a letter. Nothing of a program stands here.
-/
namespace Go.Proofs.Ytopnjklloleomaa
open Go.RowKit

section
variable {α : Type} {K : Nat} {E : En α K}

theorem vs_set (cs : List α) (k : Nat) (c : α) (hk : k < cs.length) : E.vs (cs.set k c) = E.vs (cs.take k) ++ E.v c ++ E.vs (cs.drop (k + 1)) := by
  rw [List.set_eq_take_append_cons_drop, if_pos hk, vs_append, vs_cons, List.append_assoc]

/-- The row behind the write. -/
theorem owns_storeAt {P : Program} {w : World} {base : Nat} {e ty : TypeId} {g n cap k : Nat} {cs : List α} {c : α} {xs : Array Value}
    (hown : w.ownsRow base e K (.slice (some ⟨g, 0, none⟩) n cap) n (E.vs cs)) (hk : k < n) (hxs : xs.toList = E.v c) (hi : (P.info? ty).map (·.size) = some K) :
    ∃ w', (Instr.storeAt ty (.pointer (some ⟨g, k * K, none⟩)) (.agg xs)).run P w = .ok () w' ∧ w'.ownsRow base e K (.slice (some ⟨g, 0, none⟩) n cap) n (E.vs (cs.set k c)) ∧ w.grownBy w' (some g) := by
  obtain ⟨g', cap', cur, hv, hb, hg, hnc, hcm, hcs, htake⟩ := owns_pos hown (by omega)
  simp only [Value.slice.injEq, Option.some.injEq, Addr.mk.injEq] at hv
  obtain ⟨⟨rfl, -, -⟩, -, rfl⟩ := hv
  have hl : cs.length = n := owns_len hown
  have hkk : k * K + K ≤ n * K := by rw [← Nat.succ_mul]; exact Nat.mul_le_mul_right _ hk
  have hmc : n * K ≤ cap * K := Nat.mul_le_mul_right _ hnc
  have hvl : (E.v c).length = K := E.len c
  have hst := run_storeCells_at P g (k * K) e (E.v c) 0 cur w hg (by rw [hvl, hcs]; omega) (E.one c)
  simp only [Nat.add_zero, hvl] at hst
  have h1 : cur.toList.take (k * K) = E.vs (cs.take k) := by
    rw [← vs_take, ← htake, List.take_take, Nat.min_eq_left (by omega)]
  have h1l : (cur.toList.take (k * K)).length = k * K := by rw [List.length_take, Array.length_toList, hcs]; omega
  have key := owns_setRow (K := K) (w := w) (xs := E.vs (cs.set k c)) (n := n) (new := (cur.toList.take (k * K) ++ E.v c ++ cur.toList.drop (k * K + K)).toArray) hb hg hnc hcm ?_ ?_ ?_
  · refine ⟨_, ?_, key.1, key.2⟩
    cases hq : P.info? ty with
    | none => simp [hq] at hi
    | some i =>
      have hs : i.size = K := by simpa [hq] using hi
      have hz : xs.size = K := by rw [← Array.length_toList, hxs, hvl]
      simp [Instr.storeAt, Instr.sureAddr, storeVar, sizeOf, typeInfo, hq, hs, Value.cells, hz, hxs, hst]
  · simp only [List.size_toArray, List.length_append, h1l, hvl, List.length_drop, Array.length_toList, hcs]
    omega
  · have h2 : (cur.toList.take (k * K) ++ E.v c).length = k * K + K := by rw [List.length_append, h1l, hvl]
    simp only
    rw [List.take_append, h2, List.take_of_length_le (by rw [h2]; omega), h1, vs_set cs k c (by omega)]
    congr 1
    rw [← vs_drop, ← htake, List.drop_take, Nat.succ_mul]
  · rw [vs_length, List.length_set, hl]

/-- A structure into its place of a row of one's own. -/
theorem wpList_store_own {P : Program} {ops : Array Oper} {rest : List Oper} {op : Oper} {a : Act} {w : World} {Q : Exit → Act → World → Prop} {ty : TypeId} {x y : Operand} {base : Nat} {e : TypeId} {g n cap k off : Nat} {cs : List α} {c : α} {xs : Array Value}
    (hown : w.ownsRow base e K (.slice (some ⟨g, 0, none⟩) n cap) n (E.vs cs)) (hk : k < n) (hxs : xs.toList = E.v c) (hoff : off = k * K)
    (hgd : op.guard = none) (ho : op.op = .store ty x y) (hx : a.eval x = .pointer (some ⟨g, off, none⟩)) (hy : a.eval y = .agg xs) (hi : (P.info? ty).map (·.size) = some K)
    (h : ∀ w', w'.ownsRow base e K (.slice (some ⟨g, 0, none⟩) n cap) n (E.vs (cs.set k c)) → w.grownBy w' (some g) → wpList P ops Q rest (a.put op.dst undef) w') : wpList P ops Q (op :: rest) a w :=
  wpList_plain hgd fun _ hK => by
    subst hoff
    obtain ⟨w', hr, h1, h2⟩ := owns_storeAt (ty := ty) (P := P) hown hk hxs hi
    unfold Oper.wp execOp
    simp only [ho, hx, hy, hr, Sem.run_bind, Sem.run_pure, Result.andThen_ok]
    exact hK _ _ (h _ h1 h2)

end

end Go.Proofs.Ytopnjklloleomaa

/-
  Rows of one's own, told apart by labels of their blocks. Nothing of a program stands here.
-/
namespace Go.Proofs.Ytopnjklloleomaa
open Go.RowKit
set_option linter.unusedVariables false

section
variable {L : Type} {z : L}

/-- Blocks that are not laid yet have the label z. -/
def LbOk (z : L) (w : World) (lab : Nat → L) : Prop := ∀ g, w.heap.size ≤ g → lab g = z

/-- A row of one's own with a label. -/
def Row (w : World) (lab : Nat → L) (i : L) (e : TypeId) (K : Nat) (v : Value) (n : Nat) (xs : List Value) : Prop :=
  w.ownsRow 0 e K v n xs ∧ ∀ g, v.ownBlock = some g → lab g = i

/-- Structures that are read, in a block of the label z. -/
def Rd0 {α : Type} {K : Nat} (z : L) (E : En α K) (w : World) (lab : Nat → L) (v : Value) (xs : List α) : Prop :=
  RdG E w v xs ∧ ∀ a n c, v = .slice (some a) n c → xs ≠ [] → lab a.block = z

/-- From one world to another: blocks whose label is not in S stay as they are, and all labels do. -/
structure Chg (z : L) (w w' : World) (lab lab' : Nat → L) (S : L → Prop) : Prop where
  os : w'.os = w.os
  tape : w'.tape = w.tape
  output : w'.output = w.output
  size : w.heap.size ≤ w'.heap.size
  block : ∀ k, k < w.heap.size → ¬ S (lab k) → w'.heap[k]? = w.heap[k]?
  labs : ∀ k, k < w.heap.size → lab' k = lab k
  ok : LbOk z w' lab'

theorem LbOk.mono {w w' : World} {lab : Nat → L} (h : LbOk z w lab) (hs : w.heap.size ≤ w'.heap.size) : LbOk z w' lab := fun g hg => h g (Nat.le_trans hs hg)

theorem Chg.refl (w : World) (lab : Nat → L) (S : L → Prop) (h : LbOk z w lab) : Chg z w w lab lab S :=
  ⟨rfl, rfl, rfl, Nat.le_refl _, fun _ _ _ => rfl, fun _ _ => rfl, h⟩

theorem Chg.trans {w w1 w2 : World} {lab lab1 lab2 : Nat → L} {S : L → Prop} (h : Chg z w w1 lab lab1 S) (h2 : Chg z w1 w2 lab1 lab2 S) : Chg z w w2 lab lab2 S :=
  ⟨h2.os.trans h.os, h2.tape.trans h.tape, h2.output.trans h.output, Nat.le_trans h.size h2.size,
   fun k hk hn => (h2.block k (Nat.lt_of_lt_of_le hk h.size) (by rw [h.labs k hk]; exact hn)).trans (h.block k hk hn),
   fun k hk => (h2.labs k (Nat.lt_of_lt_of_le hk h.size)).trans (h.labs k hk), h2.ok⟩

theorem Chg.mono {w w1 : World} {lab lab1 : Nat → L} {S T : L → Prop} (h : Chg z w w1 lab lab1 S) (hS : ∀ i, S i → T i) : Chg z w w1 lab lab1 T :=
  ⟨h.os, h.tape, h.output, h.size, fun k hk hn => h.block k hk (fun q => hn (hS _ q)), h.labs, h.ok⟩

/-- New memory alone. -/
theorem Chg.below {w w' : World} {lab : Nat → L} (S : L → Prop) (hl : LbOk z w lab) (h : Below w.heap.size w w') : Chg z w w' lab lab S :=
  ⟨h.os, h.tape, h.output, h.size, fun k hk _ => h.block k hk, fun _ _ => rfl, hl.mono h.size⟩

/-- A block of a label is written. -/
theorem Chg.grown {w w' : World} {lab : Nat → L} {g : Nat} {S : L → Prop} (hl : LbOk z w lab) (h : w.grownBy w' (some g)) (hS : S (lab g)) : Chg z w w' lab lab S :=
  ⟨h.os, h.tape, h.output, h.size, fun k hk hn => h.block k hk (fun q => by cases q; exact hn hS), fun _ _ => rfl, hl.mono h.size⟩

/-- The labels behind an append. -/
def labTo [DecidableEq L] (lab : Nat → L) (o : Option Nat) (i : L) : Nat → L := fun k => if o = some k then i else lab k

/-- A row grows. -/
theorem Chg.row [DecidableEq L] {w w' : World} {lab : Nat → L} {v v' : Value} {i : L} {S : L → Prop} (hl : LbOk z w lab) (hv : ∀ g, v.ownBlock = some g → lab g = i) (h : w.grownBy w' v.ownBlock) (hS : S i)
    (hp : v'.ownBlock = v.ownBlock ∨ ∃ b, v'.ownBlock = some b ∧ w.heap.size ≤ b) (hlt : ∀ g, v'.ownBlock = some g → g < w'.heap.size) : Chg z w w' lab (labTo lab v'.ownBlock i) S := by
  refine ⟨h.os, h.tape, h.output, h.size, fun k hk hn => h.block k hk (fun q => hn (by rw [hv k q.symm]; exact hS)), fun k hk => ?_, fun g hg => ?_⟩
  · unfold labTo
    split
    · rename_i q
      rcases hp with hp | ⟨b, hp, hb⟩
      · rw [hp] at q; exact (hv k q).symm
      · rw [hp] at q; cases q; omega
    · rfl
  · unfold labTo
    split
    · rename_i q
      have := hlt g q
      omega
    · exact hl g (Nat.le_trans h.size hg)

theorem ownBlock_lt {w : World} {base : Nat} {e : TypeId} {K : Nat} {v : Value} {n : Nat} {xs : List Value} (h : w.ownsRow base e K v n xs) : ∀ g, v.ownBlock = some g → g < w.heap.size := fun g hg => (h.lt g hg).2

theorem Row.keep {w w' : World} {lab lab' : Nat → L} {S : L → Prop} {i : L} {e : TypeId} {K : Nat} {v : Value} {n : Nat} {xs : List Value} (h : Row w lab i e K v n xs) (hc : Chg z w w' lab lab' S) (hS : ¬ S i) : Row w' lab' i e K v n xs := by
  obtain ⟨h1, h2⟩ := h
  refine ⟨⟨h1.1, ?_⟩, fun g hg => ?_⟩
  · rcases h1.2 with hn | ⟨g, cap, cur, rfl, hb, hg, r⟩
    · exact .inl hn
    · have hlt : g < w.heap.size := (Array.getElem?_eq_some_iff.1 hg).1
      refine .inr ⟨g, cap, cur, rfl, hb, ?_, r⟩
      rw [hc.block g hlt (by rw [h2 g (by simp [Value.ownBlock])]; exact hS)]
      exact hg
  · rw [hc.labs g (ownBlock_lt h1 g hg)]
    exact h2 g hg

theorem Rd0.keep {α : Type} {K : Nat} {E : En α K} {w w' : World} {lab lab' : Nat → L} {S : L → Prop} {v : Value} {xs : List α} (h : Rd0 z E w lab v xs) (hc : Chg z w w' lab lab' S) (hS : ¬ S z) : Rd0 z E w' lab' v xs := by
  obtain ⟨h1, h2⟩ := h
  obtain ⟨ao, cap, rfl, k1, k2, k3, k4⟩ := h1
  have hblk : ∀ (a : Addr), ao = some a → xs ≠ [] → a.block < w.heap.size := by
    intro a ha hne
    have hp : 0 < (E.vs xs).length := by
      rw [vs_length]
      exact Nat.mul_pos (List.length_pos_iff.2 hne) E.pos
    have h0 := k4 a ha 0 (E.vs xs)[0] (by simp)
    have e : (a.add 0).block = a.block := by unfold Addr.add; split <;> rfl
    rw [← e]
    exact World.block_lt_of_cell? w _ h0
  refine ⟨⟨ao, cap, rfl, k1, k2, k3, fun a ha j u hu => ?_⟩, fun a n c hv hne => ?_⟩
  · have hne : xs ≠ [] := by
      rintro rfl
      simp [En.vs] at hu
    have hc0 := k4 a ha j u hu
    have e : (a.add j).block = a.block := by unfold Addr.add; split <;> rfl
    rw [← hc0]
    refine World.cell?_of_block ?_
    rw [e]
    exact hc.block _ (hblk a ha hne) (by rw [h2 a _ _ (by rw [ha]) hne]; exact hS)
  · simp only [Value.slice.injEq] at hv
    rw [hc.labs _ (hblk a hv.1 hne)]
    exact h2 a _ _ (by rw [hv.1]) hne

/-- What is new has the label z. -/
theorem Rd0.new {α : Type} {K : Nat} {E : En α K} {w w' : World} {lab : Nat → L} {base : Nat} {e : TypeId} {v : Value} {n : Nat} {xs : List α} (hl : LbOk z w lab) (h : w'.ownsRow base e K v n (E.vs xs)) (hb : w.heap.size ≤ base) : Rd0 z E w' lab v xs := by
  refine ⟨RdG.ofOwns h, fun a m c hv _ => ?_⟩
  rcases h.2 with ⟨h1, _⟩ | ⟨g, cap, cur, h1, hg, _⟩
  · rw [h1] at hv; cases hv
  · rw [h1] at hv
    cases hv
    exact hl _ (by show w.heap.size ≤ g; omega)

theorem Blk.keep {w w' : World} {lab lab' : Nat → L} {S : L → Prop} {B : Nat} {t : TypeId} {xs : Array Value} (h : Blk w B t xs) (hc : Chg z w w' lab lab' S) (hS : ¬ S (lab B)) : Blk w' B t xs := by
  unfold Blk
  rw [hc.block B h.lt hS]
  exact h

/-- A row that grew. -/
theorem Row.grew [DecidableEq L] {w' : World} {lab : Nat → L} {i : L} {e : TypeId} {K : Nat} {v' : Value} {n : Nat} {xs : List Value} (h : w'.ownsRow 0 e K v' n xs) : Row w' (labTo lab v'.ownBlock i) i e K v' n xs :=
  ⟨h, fun g hg => by unfold labTo; rw [if_pos hg]⟩

/-- A row, while nothing of its label is written. -/
theorem Row.same {w w' : World} {lab : Nat → L} {i : L} {e : TypeId} {K : Nat} {v : Value} {n : Nat} {xs ys : List Value} (h : Row w lab i e K v n xs) (h2 : w'.ownsRow 0 e K v n ys) : Row w' lab i e K v n ys := ⟨h2, h.2⟩

/-- Two rows of two labels lie in two blocks. -/
theorem Row.ne {w : World} {lab : Nat → L} {i j : L} {e e2 : TypeId} {K K2 : Nat} {v v2 : Value} {n n2 : Nat} {xs ys : List Value} (h : Row w lab i e K v n xs) (h2 : Row w lab j e2 K2 v2 n2 ys) (hij : i ≠ j) : v.ownBlock = none ∨ v.ownBlock ≠ v2.ownBlock := by
  cases hv : v.ownBlock with
  | none => exact .inl rfl
  | some g =>
    right
    intro q
    exact hij ((h.2 g hv).symm.trans (h2.2 g q.symm))

theorem Below.ofChg {w w' : World} {lab lab' : Nat → L} {S : L → Prop} {C : Nat} (hc : Chg z w w' lab lab' S) (hl : ∀ k, k < C → ¬ S (lab k)) (hC : C ≤ w.heap.size) : Below C w w' :=
  ⟨hc.os, hc.tape, hc.output, hc.size, fun k hk => hc.block k (by omega) (hl k hk)⟩

end

end Go.Proofs.Ytopnjklloleomaa

/-
  Appends, with the place where the row lies then; stores into places of rows. Nothing of a program stands here.
-/
namespace Go.Proofs.Ytopnjklloleomaa
open Go.RowKit Go.Maps
set_option linter.unusedVariables false

/-- Where a row lies behind an append. -/
def OnAt (w : World) (v v' : Value) : Prop := v'.ownBlock = v.ownBlock ∨ ∃ b, v'.ownBlock = some b ∧ w.heap.size ≤ b

theorem run_append_rdAt {α : Type} {K : Nat} {E : En α K} {P : Program} {w : World} {t ty : TypeId} {base : Nat} {e : TypeId} {z : Value} {bytes : Nat} {v : Value} {n : Nat} {cs : List α} {vx : Value} {news : List α}
    (hown : w.ownsRow base e K v n (E.vs cs)) (hrd : RdG E w vx news)
    (ht : P.underlying t = some (.slice e)) (hinf : (P.info? e).map (fun i => (i.zero, i.size, i.bytes)) = some (some z, K, bytes)) (hzs : z.cells.size = K)
    (h63 : n + news.length ≤ 1000000000) (hbytes : bytes ≤ 128) (hbase : base ≤ w.heap.size) :
    ∃ v' w', (Builtin.append_ #[t, t] ty #[v, vx]).run P w = .ok v' w' ∧ w'.ownsRow base e K v' (n + news.length) (E.vs (cs ++ news)) ∧ w.grownBy w' v.ownBlock ∧ OnAt w v v' := by
  obtain ⟨i, hi, hz, hsize, hby⟩ := info_parts hinf
  have hbytes' : (n + news.length) * bytes ≤ 1000000000 * 128 := Nat.mul_le_mul h63 hbytes
  obtain ⟨ao, cap, hvx, h2, h3, h4, h5⟩ := hrd
  subst hvx
  cases ao with
  | none =>
    have hc := h4 rfl
    have hnews : news = [] := List.eq_nil_of_length_eq_zero (by omega)
    subst hnews
    subst hc
    exact ⟨v, w, run_append_owned_none w base t ty e i K ht hi v n _ hown, by simpa using hown, World.grownBy.refl _ _, .inl rfl⟩
  | some ad =>
    obtain ⟨v', w', hr, ho', hg', _, hloc⟩ := run_append_own_at (P := P) (w := w) base t ty e i z K bytes ht hi hz hsize hby hzs E.pos v n (E.vs cs) hown ad news.length cap (E.vs news) (vs_length _) (h5 ad rfl) (vs_one _) (by simp [maxLen]; omega) (by omega) hbase
    rw [← vs_append] at ho'
    exact ⟨v', w', hr, ho', hg', hloc.elim .inl (fun q => .inr ⟨_, q, Nat.le_refl _⟩)⟩

/-- The same as a step of a region that draws its order. -/
theorem step_append_rdAt {α : Type} {K : Nat} {E : En α K} {P : Program} {w : World} {ops : Array Oper} {o : Oper} {a : Act} {KK : Act → World → Prop} {Q : Exit → Act → World → Prop} {EE : Prop} {s x : Operand} {t : TypeId} {base : Nat} {e : TypeId} {z : Value} {bytes : Nat} {v : Value} {n : Nat} {cs : List α} {vx : Value} {news : List α}
    (hown : w.ownsRow base e K v n (E.vs cs)) (hrd : RdG E w vx news)
    (ht : P.underlying t = some (.slice e)) (hinf : (P.info? e).map (fun i => (i.zero, i.size, i.bytes)) = some (some z, K, bytes)) (hzs : z.cells.size = K)
    (hgd : o.guard = none) (ho : o.op = .call { callee := .builtin .append, args := #[s, x], argTypes := #[t, t] })
    (hs : a.eval s = v) (hx : a.eval x = vx) (h63 : n + news.length ≤ 1000000000) (hbytes : bytes ≤ 128) (hbase : base ≤ w.heap.size)
    (h : ∀ v' w', w'.ownsRow base e K v' (n + news.length) (E.vs (cs ++ news)) → w.grownBy w' v.ownBlock → OnAt w v v' → KK (a.put o.dst v') w') :
    if Region.wanted o (yielded ops a.tmps) = true then Oper.wp P o a w KK Q else EE := by
  have hw : Region.wanted o (yielded ops a.tmps) = true := by simp [Region.wanted, hgd]
  rw [if_pos hw]
  obtain ⟨v', w', hr, h2, h3, h4⟩ := run_append_rdAt (ty := o.type) hown hrd ht hinf hzs h63 hbytes hbase
  unfold Oper.wp execOp
  simp only [ho, resolve, invoke, builtin, Sem.run_bind, Sem.run_pure, Result.andThen_ok, List.map_toArray, List.map_cons, List.map_nil, hs, hx, hr]
  exact h v' w' h2 h3 h4

/-- And in a plain region. -/
theorem wpList_append_rdAt {α : Type} {K : Nat} {E : En α K} {P : Program} {w : World} {ops : Array Oper} {rest : List Oper} {o : Oper} {a : Act} {Q : Exit → Act → World → Prop} {s x : Operand} {t : TypeId} {base : Nat} {e : TypeId} {z : Value} {bytes : Nat} {v : Value} {n : Nat} {cs : List α} {vx : Value} {news : List α}
    (hown : w.ownsRow base e K v n (E.vs cs)) (hrd : RdG E w vx news)
    (ht : P.underlying t = some (.slice e)) (hinf : (P.info? e).map (fun i => (i.zero, i.size, i.bytes)) = some (some z, K, bytes)) (hzs : z.cells.size = K)
    (hgd : o.guard = none) (ho : o.op = .call { callee := .builtin .append, args := #[s, x], argTypes := #[t, t] })
    (hs : a.eval s = v) (hx : a.eval x = vx) (h63 : n + news.length ≤ 1000000000) (hbytes : bytes ≤ 128) (hbase : base ≤ w.heap.size)
    (h : ∀ v' w', w'.ownsRow base e K v' (n + news.length) (E.vs (cs ++ news)) → w.grownBy w' v.ownBlock → OnAt w v v' → wpList P ops Q rest (a.put o.dst v') w') : wpList P ops Q (o :: rest) a w :=
  wpList_plain hgd fun _ hK => by
    obtain ⟨v', w', hr, h2, h3, h4⟩ := run_append_rdAt (ty := o.type) hown hrd ht hinf hzs h63 hbytes hbase
    unfold Oper.wp execOp
    simp only [ho, resolve, invoke, builtin, Sem.run_bind, Sem.run_pure, Result.andThen_ok, List.map_toArray, List.map_cons, List.map_nil, hs, hx, hr]
    exact hK _ _ (h v' w' h2 h3 h4)

/-- A structure into its place of a row of one's own, in a region that draws its order. -/
theorem step_store_own {α : Type} {K : Nat} {E : En α K} {P : Program} {w : World} {ops : Array Oper} {o : Oper} {a : Act} {KK : Act → World → Prop} {Q : Exit → Act → World → Prop} {EE : Prop} {ty : TypeId} {x y : Operand} {base : Nat} {e : TypeId} {g n cap k off : Nat} {cs : List α} {c : α} {xs : Array Value}
    (hown : w.ownsRow base e K (.slice (some ⟨g, 0, none⟩) n cap) n (E.vs cs)) (hk : k < n) (hxs : xs.toList = E.v c) (hoff : off = k * K)
    (hgd : o.guard = none) (ho : o.op = .store ty x y) (hx : a.eval x = .pointer (some ⟨g, off, none⟩)) (hy : a.eval y = .agg xs) (hi : (P.info? ty).map (·.size) = some K)
    (h : ∀ w', w'.ownsRow base e K (.slice (some ⟨g, 0, none⟩) n cap) n (E.vs (cs.set k c)) → w.grownBy w' (some g) → KK (a.put o.dst undef) w') :
    if Region.wanted o (yielded ops a.tmps) = true then Oper.wp P o a w KK Q else EE := by
  have hw : Region.wanted o (yielded ops a.tmps) = true := by simp [Region.wanted, hgd]
  rw [if_pos hw]
  subst hoff
  obtain ⟨w', hr, h1, h2⟩ := owns_storeAt (ty := ty) (P := P) hown hk hxs hi
  unfold Oper.wp execOp
  simp only [ho, hx, hy, hr, Sem.run_bind, Sem.run_pure, Result.andThen_ok]
  exact h w' h1 h2

/-- One place of a structure of a row of one's own is written: the structure is another one. -/
theorem owns_setField {α : Type} {K : Nat} {E : En α K} {w : World} {base : Nat} {e : TypeId} {g n cap j k : Nat} {cs : List α} {c c' : α} {u : Value} (h : w.ownsRow base e K (.slice (some ⟨g, 0, none⟩) n cap) n (E.vs cs)) (hj : cs[j]? = some c) (hk : k < K) (hu : E.v c' = (E.v c).set k u) :
    (w.setCell ⟨g, j * K + k, none⟩ u).ownsRow base e K (.slice (some ⟨g, 0, none⟩) n cap) n (E.vs (cs.set j c')) := by
  have h1 := owns_setCell h (j * K + k) u
  have e1 : (E.vs cs).set (j * K + k) u = E.vs (cs.set j c') := by
    obtain ⟨hl, rfl⟩ := List.getElem?_eq_some_iff.1 hj
    apply List.ext_getElem?
    intro i
    rw [vs_set cs j c' hl, hu]
    have el : E.vs cs = E.vs (cs.take j) ++ E.v cs[j] ++ E.vs (cs.drop (j + 1)) := by
      have := vs_set (E := E) cs j cs[j] hl
      rw [List.set_getElem_self] at this
      exact this
    rw [el]
    have l1 : (E.vs (cs.take j)).length = j * K := by rw [vs_length, List.length_take, Nat.min_eq_left (by omega)]
    have l2 : (E.v cs[j]).length = K := E.len _
    rw [List.set_append, if_pos (by rw [List.length_append, l1, l2]; omega), List.set_append, if_neg (by rw [l1]; omega), l1, Nat.add_sub_cancel_left]
  rw [← e1]
  exact h1

end Go.Proofs.Ytopnjklloleomaa

/-
  A vault in memory.
-/
namespace Go.Proofs.Ytopnjklloleomaa
open Go.RowKit
set_option linter.unusedVariables false

/-- A slice's three numbers. -/
structure Sl where
  ao : Option Addr
  n : Nat
  c : Nat

def Sl.v (s : Sl) : Value := .slice s.ao s.n s.c

def ssE : En Sl 1 where
  v s := [s.v]
  len _ := rfl
  one p u hu := by
    simp only [List.mem_cons, List.not_mem_nil, or_false] at hu
    subst hu
    rfl
  pos := by decide

/-- A recovery's six places. -/
structure Hf where
  ep : Int
  hd : Sl
  sd : Sl
  has : Bool
  re : Sl
  en : Sl

def hfE : En Hf 6 where
  v h := [.int .i64 h.ep, h.hd.v, h.sd.v, .bool h.has, h.re.v, h.en.v]
  len _ := rfl
  one p u hu := by
    simp only [List.mem_cons, List.not_mem_nil, or_false] at hu
    rcases hu with rfl | rfl | rfl | rfl | rfl | rfl <;> rfl
  pos := by decide

/-- A recovery. -/
structure Hl where
  ep : Int
  heard : List Int
  said : List Cp
  has : Bool
  recs : List ByteArray
  ends : List Int

/-- A vault, and what is yet to be written. -/
structure Vt where
  copies : List Cp
  wrote : List ByteArray
  took : List (List Int)
  heals : List Hl
  left : List ByteArray

/-- Copies in a row of one's own. -/
def CopM (w : World) (lab : Nat → Nat) (i : Nat) (v : Value) (cs : List Cp) : Prop :=
  ∃ fs : List Qf, Row w lab i 24 4 v fs.length (qfE.vs fs) ∧ fs.length = cs.length ∧
    ∀ (j : Nat) f c, fs[j]? = some f → cs[j]? = some c → f.ep = c.ep ∧ f.cl = c.cl ∧ f.en = c.en ∧ Rd0 0 txE w lab (.slice f.ao f.len f.cap) c.recs

/-- Who took each. -/
def TkM (w : World) (lab : Nat → Nat) (v : Value) (ls : List (List Int)) : Prop :=
  ∃ ss : List Sl, Row w lab 3 53 1 v ss.length (ssE.vs ss) ∧ ss.length = ls.length ∧
    ∀ (j : Nat) s l, ss[j]? = some s → ls[j]? = some l → Row w lab (8 + 4 * j) 3 1 s.v l.length (iE.vs l)

def HlIs (w : World) (lab : Nat → Nat) (j : Nat) (h : Hf) (a : Hl) : Prop :=
  h.ep = a.ep ∧ h.has = a.has ∧ Row w lab (9 + 4 * j) 3 1 h.hd.v a.heard.length (iE.vs a.heard) ∧ CopM w lab (10 + 4 * j) h.sd.v a.said ∧
    Rd0 0 txE w lab h.re.v a.recs ∧ Row w lab (11 + 4 * j) 3 1 h.en.v a.ends.length (iE.vs a.ends)

/-- Recoveries in a row of one's own. -/
def HlM (w : World) (lab : Nat → Nat) (v : Value) (hl : List Hl) : Prop :=
  ∃ hs : List Hf, Row w lab 4 55 6 v hs.length (hfE.vs hs) ∧ hs.length = hl.length ∧ ∀ (j : Nat) h a, hs[j]? = some h → hl[j]? = some a → HlIs w lab j h a

/-- A vault in memory: its slices. -/
structure Vs where
  cv : Sl
  wv : Sl
  tv : Sl
  hv : Sl
  lv : Sl

def Vs.a (s : Vs) : Array Value := #[s.cv.v, s.wv.v, s.tv.v, s.hv.v, s.lv.v]

structure Vm (w : World) (lab : Nat → Nat) (B : Nat) (s : Vs) (t : Vt) : Prop where
  blk : Blk w B 68 s.a
  lb : lab B = 5
  cop : CopM w lab 2 s.cv.v t.copies
  wro : Row w lab 1 9 1 s.wv.v t.wrote.length (txE.vs t.wrote)
  tok : TkM w lab s.tv.v t.took
  hea : HlM w lab s.hv.v t.heals
  lef : Rd0 0 txE w lab s.lv.v t.left
  ok : LbOk 0 w lab

section
variable {w w' : World} {lab lab' : Nat → Nat} {S : Nat → Prop}

theorem CopM.keep {i : Nat} {v : Value} {cs : List Cp} (h : CopM w lab i v cs) (hc : Chg 0 w w' lab lab' S) (h0 : ¬ S 0) (hi : ¬ S i) : CopM w' lab' i v cs := by
  obtain ⟨fs, h1, h2, h3⟩ := h
  exact ⟨fs, h1.keep hc hi, h2, fun j f c hf hcc => by
    obtain ⟨a, b, d, e⟩ := h3 j f c hf hcc
    exact ⟨a, b, d, e.keep hc h0⟩⟩

theorem TkM.keep {v : Value} {ls : List (List Int)} (h : TkM w lab v ls) (hc : Chg 0 w w' lab lab' S) (h3 : ¬ S 3) (hi : ∀ j, ¬ S (8 + 4 * j)) : TkM w' lab' v ls := by
  obtain ⟨ss, h1, h2, h4⟩ := h
  exact ⟨ss, h1.keep hc h3, h2, fun j s l hs hl => (h4 j s l hs hl).keep hc (hi j)⟩

theorem HlIs.keep {j : Nat} {h : Hf} {a : Hl} (hh : HlIs w lab j h a) (hc : Chg 0 w w' lab lab' S) (h0 : ¬ S 0) (h9 : ¬ S (9 + 4 * j)) (h10 : ¬ S (10 + 4 * j)) (h11 : ¬ S (11 + 4 * j)) : HlIs w' lab' j h a := by
  obtain ⟨a1, a2, a3, a4, a5, a6⟩ := hh
  exact ⟨a1, a2, a3.keep hc h9, a4.keep hc h0 h10, a5.keep hc h0, a6.keep hc h11⟩

theorem HlM.keep {v : Value} {hl : List Hl} (h : HlM w lab v hl) (hc : Chg 0 w w' lab lab' S) (h0 : ¬ S 0) (h4 : ¬ S 4) (hi : ∀ j, ¬ S (9 + 4 * j) ∧ ¬ S (10 + 4 * j) ∧ ¬ S (11 + 4 * j)) : HlM w' lab' v hl := by
  obtain ⟨hs, h1, h2, h3⟩ := h
  exact ⟨hs, h1.keep hc h4, h2, fun j h a hh ha => (h3 j h a hh ha).keep hc h0 (hi j).1 (hi j).2.1 (hi j).2.2⟩

/-- New memory alone changes nothing. -/
theorem Vm.below {B : Nat} {s : Vs} {t : Vt} (h : Vm w lab B s t) (hb : Below w.heap.size w w') : Vm w' lab B s t := by
  have hc : Chg 0 w w' lab lab (fun _ => False) := Chg.below _ h.ok hb
  exact ⟨h.blk.later hb, h.lb, h.cop.keep hc (fun q => q) (fun q => q), h.wro.keep hc (fun q => q), h.tok.keep hc (fun q => q) (fun _ q => q), h.hea.keep hc (fun q => q) (fun q => q) (fun _ => ⟨fun q => q, fun q => q, fun q => q⟩), h.lef.keep hc (fun q => q), hc.ok⟩

end

/-- Where a copy of a row lies. -/
theorem CopM.here {w : World} {lab : Nat → Nat} {i : Nat} {v : Value} {cs : List Cp} (h : CopM w lab i v cs) {j : Nat} {c : Cp} (hj : cs[j]? = some c) :
    ∃ g cap ao' cap', v = .slice (some ⟨g, 0, none⟩) cs.length cap ∧ g < w.heap.size ∧ w.cell? ⟨g, j * 4, none⟩ = some (.int .i64 c.ep) ∧ w.cell? ⟨g, j * 4 + 1, none⟩ = some (.bool c.cl) ∧ w.cell? ⟨g, j * 4 + 2, none⟩ = some (.slice ao' c.recs.length cap') ∧ w.cell? ⟨g, j * 4 + 3, none⟩ = some (.int .i64 c.en) ∧ Rd0 0 txE w lab (.slice ao' c.recs.length cap') c.recs ∧ lab g = i := by
  obtain ⟨fs, h1, h2, h3⟩ := h
  have hl := (List.getElem?_eq_some_iff.1 hj).1
  obtain ⟨f, hf⟩ : ∃ f, fs[j]? = some f := ⟨_, List.getElem?_eq_getElem (by omega)⟩
  obtain ⟨g, cap, cur, rfl, hb, hg, hnc, hcm, hcs, htake⟩ := owns_pos h1.1 (by omega)
  have hr := RdG.ofOwns h1.1
  obtain ⟨b, off, e, hb2, hat⟩ := hr.here hf
  cases e
  obtain ⟨e1, e2, e3, hrd⟩ := h3 j f c hf hj
  have hlen : f.len = c.recs.length := hrd.1.len.1
  have c0 := hat 0 _ rfl
  have c1 := hat 1 _ rfl
  have c2 := hat 2 _ rfl
  have c3 := hat 3 _ rfl
  rw [e1, Nat.zero_add, Nat.add_zero] at c0
  rw [e2, Nat.zero_add] at c1
  rw [hlen, Nat.zero_add] at c2
  rw [e3, Nat.zero_add] at c3
  rw [hlen] at hrd
  rw [h2]
  exact ⟨g, cap, f.ao, f.cap, rfl, hb2, c0, c1, c2, c3, hrd, h1.2 g (by simp [Value.ownBlock])⟩

theorem CopM.len {w : World} {lab : Nat → Nat} {i : Nat} {s : Sl} {cs : List Cp} (h : CopM w lab i s.v cs) : s.n = cs.length := by
  obtain ⟨fs, h1, h2, _⟩ := h
  obtain ⟨ao, cap, e⟩ := owns_shapeK h1.1
  unfold Sl.v at e
  simp only [Value.slice.injEq] at e
  rw [e.2.1, h2]

theorem HlM.len {w : World} {lab : Nat → Nat} {s : Sl} {hl : List Hl} (h : HlM w lab s.v hl) : s.n = hl.length := by
  obtain ⟨hs, h1, h2, _⟩ := h
  obtain ⟨ao, cap, e⟩ := owns_shapeK h1.1
  unfold Sl.v at e
  simp only [Value.slice.injEq] at e
  rw [e.2.1, h2]

theorem TkM.len {w : World} {lab : Nat → Nat} {s : Sl} {ls : List (List Int)} (h : TkM w lab s.v ls) : s.n = ls.length := by
  obtain ⟨ss, h1, h2, _⟩ := h
  obtain ⟨ao, cap, e⟩ := owns_shapeK h1.1
  unfold Sl.v at e
  simp only [Value.slice.injEq] at e
  rw [e.2.1, h2]

theorem Row.len {w : World} {lab : Nat → Nat} {i : Nat} {e : TypeId} {K : Nat} {s : Sl} {n : Nat} {xs : List Value} (h : Row w lab i e K s.v n xs) : s.n = n := by
  obtain ⟨ao, cap, e⟩ := owns_shapeK h.1
  unfold Sl.v at e
  simp only [Value.slice.injEq] at e
  exact e.2.1

theorem Rd0.len {w : World} {lab : Nat → Nat} {α : Type} {K : Nat} {E : En α K} {s : Sl} {xs : List α} (h : Rd0 0 E w lab s.v xs) : s.n = xs.length := h.1.len.1

/-- Copies in a row, as they are read. -/
theorem CopM.rd {w : World} {lab : Nat → Nat} {i : Nat} {v : Value} {cs : List Cp} (h : CopM w lab i v cs) : RdQ w v cs := by
  obtain ⟨fs, h1, h2, h3⟩ := h
  refine ⟨fs, RdG.ofOwns h1.1, h2, fun j f c hf hc => ?_⟩
  obtain ⟨a, b, d, e⟩ := h3 j f c hf hc
  exact ⟨a, b, d, e.1⟩

/-- A recovery's places. -/
theorem HlM.here {w : World} {lab : Nat → Nat} {v : Value} {hl : List Hl} (h : HlM w lab v hl) {j : Nat} {a : Hl} (hj : hl[j]? = some a) :
    ∃ g cap hf, v = .slice (some ⟨g, 0, none⟩) hl.length cap ∧ g < w.heap.size ∧ lab g = 4 ∧ AtG hfE w g (j * 6) hf ∧ HlIs w lab j hf a ∧ Blk w g 55 (w.heap[g]?.elim #[] (fun o => match o with | .cells xs _ _ => xs | _ => #[])) := by
  obtain ⟨hs, h1, h2, h3⟩ := h
  have hl := (List.getElem?_eq_some_iff.1 hj).1
  obtain ⟨f, hf⟩ : ∃ f, hs[j]? = some f := ⟨_, List.getElem?_eq_getElem (by omega)⟩
  obtain ⟨g, cap, cur, rfl, hb, hg, hnc, hcm, hcs, htake⟩ := owns_pos h1.1 (by omega)
  obtain ⟨b, off, e, hb2, hat⟩ := (RdG.ofOwns h1.1).here hf
  cases e
  rw [Nat.zero_add] at hat
  rw [h2]
  refine ⟨g, cap, f, rfl, hb2, h1.2 g (by simp [Value.ownBlock]), hat, h3 j f a hf hj, ?_⟩
  unfold Blk
  rw [hg]
  rfl

end Go.Proofs.Ytopnjklloleomaa

/-
  The walks over the functions that the vault's bring, hear and end hand to ask. (Written by sv2.py.)
-/
namespace Go.Proofs.Ytopnjklloleomaa
open Go.RowKit
set_option linter.unusedVariables false

/-- A copy and a fault into their blocks. -/
theorem six_set {w : World} {R Q base : Nat} {t1 t2 ts : TypeId} {a0 a1 a2 a3 b0 b1 r0 r1 r2 r3 q0 q1 v : Value} {n : Nat} {xs : List Value} (hne : R ≠ Q) (hR : Blk w R t1 #[a0, a1, a2, a3]) (hQ : Blk w Q t2 #[b0, b1]) (ho : w.ownsRow base ts 1 v n xs) (h1 : v.ownBlock ≠ some R) (h2 : v.ownBlock ≠ some Q) :
    Blk ((((((w.setCell ⟨R, 0, none⟩ r0).setCell ⟨R, 1, none⟩ r1).setCell ⟨R, 2, none⟩ r2).setCell ⟨R, 3, none⟩ r3).setCell ⟨Q, 0, none⟩ q0).setCell ⟨Q, 1, none⟩ q1) R t1 #[r0, r1, r2, r3] ∧
    Blk ((((((w.setCell ⟨R, 0, none⟩ r0).setCell ⟨R, 1, none⟩ r1).setCell ⟨R, 2, none⟩ r2).setCell ⟨R, 3, none⟩ r3).setCell ⟨Q, 0, none⟩ q0).setCell ⟨Q, 1, none⟩ q1) Q t2 #[q0, q1] ∧
    ((((((w.setCell ⟨R, 0, none⟩ r0).setCell ⟨R, 1, none⟩ r1).setCell ⟨R, 2, none⟩ r2).setCell ⟨R, 3, none⟩ r3).setCell ⟨Q, 0, none⟩ q0).setCell ⟨Q, 1, none⟩ q1).ownsRow base ts 1 v n xs := by
  refine ⟨?_, ?_, ?_⟩
  · have := ((((((hR.set 0 r0).set 1 r1).set 2 r2).set 3 r3).other (p := ⟨Q, 0, none⟩) hne q0).other (p := ⟨Q, 1, none⟩) hne q1)
    simpa using this
  · have := ((((((hQ.other (p := ⟨R, 0, none⟩) hne.symm r0).other (p := ⟨R, 1, none⟩) hne.symm r1).other (p := ⟨R, 2, none⟩) hne.symm r2).other (p := ⟨R, 3, none⟩) hne.symm r3).set 0 q0).set 1 q1)
    simpa using this
  · exact owns_setOther (owns_setOther (owns_setOther (owns_setOther (owns_setOther (owns_setOther ho (p := ⟨R, 0, none⟩) h1 r0) (p := ⟨R, 1, none⟩) h1 r1) (p := ⟨R, 2, none⟩) h1 r2) (p := ⟨R, 3, none⟩) h1 r3) (p := ⟨Q, 0, none⟩) h2 q0) (p := ⟨Q, 1, none⟩) h2 q1

theorem below_six {w A w2 : World} {C R Q : Nat} {r0 r1 r2 r3 q0 q1 : Value} (h : Below C w w2) (hR : C ≤ R) (hQ : C ≤ Q) (hC : C ≤ w.heap.size) : Below C w ((((((w2.setCell ⟨R, 0, none⟩ r0).setCell ⟨R, 1, none⟩ r1).setCell ⟨R, 2, none⟩ r2).setCell ⟨R, 3, none⟩ r3).setCell ⟨Q, 0, none⟩ q0).setCell ⟨Q, 1, none⟩ q1) := by
  have g : ∀ (W : World) (B k : Nat) (u : Value), Below C w W → C ≤ B → Below C w (W.setCell ⟨B, k, none⟩ u) := fun W B k u hW hB => below_grownO hW (grown_setCell W B k u) (fun j hj => by cases hj; exact hB) (Nat.le_trans hC hW.size)
  exact g _ _ _ _ (g _ _ _ _ (g _ _ _ _ (g _ _ _ _ (g _ _ _ _ (g _ _ _ _ h hR) hR) hR) hR) hQ) hQ

set_option maxRecDepth 100000 in
set_option maxHeartbeats 4000000 in
theorem cloHear_any (Y g off : Nat) (e_ : Int) (c : Cp) (v : Value) (w : World) (cl0 : w.cell? ⟨Y, 0, none⟩ = some (.pointer (some ⟨g, off, none⟩))) (cl1 : w.cell? ⟨g, off, none⟩ = some (.int .i64 e_)) (hv : RdG txE w v c.recs) :
    Calls Try.prog 60 #[cpV c v, .pointer (some ⟨Y, 0, none⟩)] w fun e w' => ∃ v', e = .returned (.tuple #[cpV (cloC c e_) v', flt (cloF c e_)]) ∧ w'.ownsRow w.heap.size 9 1 v' (cloC c e_).recs.length (txE.vs (cloC c e_).recs) ∧ Below w.heap.size w w' := by
  have HV := hide hv
  obtain ⟨ao, cap, rfl, _, _⟩ := hv.shape
  have bl0 : Y < w.heap.size := World.block_lt_of_cell? w _ cl0
  have bl1 : g < w.heap.size := World.block_lt_of_cell? w _ cl1
  obtain ⟨hB, hR, hQ, hA⟩ := three_atS w (cpA c (.slice ao c.recs.length cap)) #[.int .i64 0, .bool false, .slice none 0 0, .int .i64 0] #[.int .i64 0, .int .i64 0] 24 24 29
  unfold cpA at hB hR hQ hA
  have HB0 := hide hB
  have HR0 := hide hR
  have HQ0 := hide hQ
  have HA0 := hide hA
  clear hB hR hQ hA hv
  show Calls Try.prog 60 #[.agg #[.int .i64 c.ep, .bool c.cl, .slice ao c.recs.length cap, .int .i64 c.en], .pointer (some ⟨Y, 0, none⟩)] w _
  go_enter Try.func60, Try.ntmps60
  go_wp2_with fail
  generalize ((w.alloc (.cells #[.int .i64 c.ep, .bool c.cl, .slice ao c.recs.length cap, .int .i64 c.en] 24)).alloc (.cells #[.int .i64 0, .bool false, .slice none 0 0, .int .i64 0] 24)).alloc (.cells #[.int .i64 0, .int .i64 0] 29) = A at *
  have HCH := hide (Close_any c _ e_ A.drew (RdG.drew (HV.out.below HA0.out)))
  generalize hcl : cloC c e_ = RC at *
  generalize hcf : cloF c e_ = RF at *
  obtain ⟨rep, rcl, rl, ren⟩ := RC
  obtain ⟨fx, fy⟩ := RF
  have HCLE := hide hcl
  have HCFE := hide hcf
  clear hcl hcf
  unfold cpV flt at HCH
  have bb0 : w.heap.size < A.heap.size := HB0.out.lt
  have bb1 : w.heap.size + 1 < A.heap.size := HR0.out.lt
  have bb2 : w.heap.size + 1 + 1 < A.heap.size := HQ0.out.lt
  have HT1 : Hid (∀ W, Below A.drew.heap.size A.drew W → Below A.heap.size A W) := hide fun W h => ⟨h.os, h.tape, h.output, h.size, h.block⟩
  have HKEEP : Hid (∀ W, Below (w.heap.size + 1) A W → W.cell? ⟨w.heap.size, 0, none⟩ = some (.int .i64 c.ep) ∧ W.cell? ⟨w.heap.size, 1, none⟩ = some (.bool c.cl) ∧ W.cell? ⟨w.heap.size, 2, none⟩ = some (.slice ao c.recs.length cap) ∧ W.cell? ⟨w.heap.size, 3, none⟩ = some (.int .i64 c.en) ∧ W.cell? ⟨Y, 0, none⟩ = some (.pointer (some ⟨g, off, none⟩)) ∧ W.cell? ⟨g, off, none⟩ = some (.int .i64 e_)) := hide fun W hW => ⟨(hW.cell (by show w.heap.size < _; omega)).trans (HB0.out.cell 0), (hW.cell (by show w.heap.size < _; omega)).trans (HB0.out.cell 1), (hW.cell (by show w.heap.size < _; omega)).trans (HB0.out.cell 2), (hW.cell (by show w.heap.size < _; omega)).trans (HB0.out.cell 3), (hW.cell (p := ⟨Y, 0, none⟩) (by show Y < _; omega)).trans ((HA0.out.cell bl0).trans cl0), (hW.cell (p := ⟨g, off, none⟩) (by show g < _; omega)).trans ((HA0.out.cell bl1).trans cl1)⟩
  have HRC : Hid (∀ W, Below A.heap.size A W → Blk W (w.heap.size + 1) 24 #[.int .i64 0, .bool false, .slice none 0 0, .int .i64 0] ∧ W.cell? ⟨w.heap.size + 1, 0, none⟩ = some (.int .i64 0) ∧ W.cell? ⟨w.heap.size + 1, 1, none⟩ = some (.bool false) ∧ W.cell? ⟨w.heap.size + 1, 2, none⟩ = some (.slice none 0 0) ∧ W.cell? ⟨w.heap.size + 1, 3, none⟩ = some (.int .i64 0) ∧ W.frozen? ⟨w.heap.size + 1, 0, none⟩ = false ∧ W.frozen? ⟨w.heap.size + 1, 1, none⟩ = false ∧ W.frozen? ⟨w.heap.size + 1, 2, none⟩ = false ∧ W.frozen? ⟨w.heap.size + 1, 3, none⟩ = false) := hide fun W h => have q := HR0.out.later h; ⟨q, q.cell 0, q.cell 1, q.cell 2, q.cell 3, q.frozen 0, q.frozen 1, q.frozen 2, q.frozen 3⟩
  have HQC : Hid (∀ W, Below A.heap.size A W → Blk W (w.heap.size + 1 + 1) 29 #[.int .i64 0, .int .i64 0] ∧ W.cell? ⟨w.heap.size + 1 + 1, 0, none⟩ = some (.int .i64 0) ∧ W.cell? ⟨w.heap.size + 1 + 1, 1, none⟩ = some (.int .i64 0) ∧ W.frozen? ⟨w.heap.size + 1 + 1, 0, none⟩ = false ∧ W.frozen? ⟨w.heap.size + 1 + 1, 1, none⟩ = false) := hide fun W h => have q := HQ0.out.later h; ⟨q, q.cell 0, q.cell 1, q.frozen 0, q.frozen 1⟩
  have HMO : Hid (∀ W, Below A.heap.size A W → Below (w.heap.size + 1) A W) := hide fun W h => h.mono (by omega)
  go_region_held3 (fun W => W.cell? ⟨w.heap.size, 0, none⟩ = some (.int .i64 c.ep) ∧ W.cell? ⟨w.heap.size, 1, none⟩ = some (.bool c.cl) ∧ W.cell? ⟨w.heap.size, 2, none⟩ = some (.slice ao c.recs.length cap) ∧ W.cell? ⟨w.heap.size, 3, none⟩ = some (.int .i64 c.en) ∧ W.cell? ⟨Y, 0, none⟩ = some (.pointer (some ⟨g, off, none⟩)) ∧ W.cell? ⟨g, off, none⟩ = some (.int .i64 e_)) (exact HKEEP.out _ (by go_grown)) (first
    | (go_at_call 10; refine HCH.out.mono ?_; rintro e w2 ⟨v2, rfl, ho2, hb2⟩; obtain ⟨ao2, cap2, hv2⟩ := owns_shape ho2; subst hv2; have hbA2 := HT1.out _ hb2; have hsA2 := hbA2.size; have hbD2 := HMO.out _ hbA2; obtain ⟨hR2, rc0, rc1, rc2, rc3, rz0, rz1, rz2, rz3⟩ := HRC.out _ hbA2; obtain ⟨hQ2, qc0, qc1, qz0, qz1⟩ := HQC.out _ hbA2; clear hb2))
  all_goals
    have HOR := owns_off ho2 hR2 (by decide)
    have HOQ := owns_off ho2 hQ2 (by decide)
    obtain ⟨hR9, hQ9, hO9⟩ := six_set (r0 := .int .i64 rep) (r1 := .bool rcl) (r2 := .slice ao2 rl.length cap2) (r3 := .int .i64 ren) (q0 := .int .i64 fx) (q1 := .int .i64 fy) (by omega) hR2 hQ2 ho2 HOR HOQ
    have hb9 := below_six (A := A) (R := w.heap.size + 1) (Q := w.heap.size + 1 + 1) (r0 := .int .i64 rep) (r1 := .bool rcl) (r2 := .slice ao2 rl.length cap2) (r3 := .int .i64 ren) (q0 := .int .i64 fx) (q1 := .int .i64 fy) (HA0.out.trans (hbA2.mono HA0.out.size)) (by omega) (by omega) (Nat.le_refl _)
    clear rc0 rc1 rc2 rc3 rz0 rz1 rz2 rz3 qc0 qc1 qz0 qz1 hR2 hQ2 ho2 HOR HOQ
    generalize ((((((w2.setCell ⟨w.heap.size + 1, 0, none⟩ (.int .i64 rep)).setCell ⟨w.heap.size + 1, 1, none⟩ (.bool rcl)).setCell ⟨w.heap.size + 1, 2, none⟩ (.slice ao2 rl.length cap2)).setCell ⟨w.heap.size + 1, 3, none⟩ (.int .i64 ren)).setCell ⟨w.heap.size + 1 + 1, 0, none⟩ (.int .i64 fx)).setCell ⟨w.heap.size + 1 + 1, 1, none⟩ (.int .i64 fy)) = wz at *
    have HR9 := hide hR9
    have HQ9 := hide hQ9
    have HO9 := hide (owns_base0 hO9 HA0.out.size)
    have HB9 := hide hb9
    clear hR9 hQ9 hO9 hb9 hbA2 hbD2
    go_wp2_with fail
    refine bodyPost_ret (v := .tuple #[.agg #[.int .i64 rep, .bool rcl, .slice ao2 rl.length cap2, .int .i64 ren], .agg #[.int .i64 fx, .int .i64 fy]]) (results2_cells Try.results60 rfl rfl (run_loadVar_blk HR9.out Try.underlying24 rfl Try.sizeCopy) (run_loadVar_blk HQ9.out Try.underlying29 rfl Try.sizeFaultS)) rfl ?_
    rw [HCLE.out, HCFE.out]
    exact ⟨_, rfl, HO9.out, HB9.out⟩

set_option maxRecDepth 100000 in
set_option maxHeartbeats 4000000 in
theorem cloEnd_any (Y g off : Nat) (e_ : Int) (mo : Option Addr) (mc : Nat) (m : List ByteArray) (c : Cp) (v : Value) (w : World) (cl0 : w.cell? ⟨Y, 0, none⟩ = some (.pointer (some ⟨g, off, none⟩))) (cl1 : w.cell? ⟨g, off, none⟩ = some (.int .i64 e_)) (cl2 : w.cell? ⟨g, off + 4, none⟩ = some (.slice mo m.length mc)) (hm : RdG txE w (.slice mo m.length mc) m) (hv : RdG txE w v c.recs) :
    Calls Try.prog 61 #[cpV c v, .pointer (some ⟨Y, 0, none⟩)] w fun e w' => ∃ v', e = .returned (.tuple #[cpV (endC c e_ m) v', flt (endF c e_ m)]) ∧ w'.ownsRow w.heap.size 9 1 v' (endC c e_ m).recs.length (txE.vs (endC c e_ m).recs) ∧ Below w.heap.size w w' := by
  have HV := hide hv
  obtain ⟨ao, cap, rfl, _, _⟩ := hv.shape
  have HM := hide hm
  have bl0 : Y < w.heap.size := World.block_lt_of_cell? w _ cl0
  have bl1 : g < w.heap.size := World.block_lt_of_cell? w _ cl1
  have bl2 : g < w.heap.size := World.block_lt_of_cell? w _ cl2
  obtain ⟨hB, hR, hQ, hA⟩ := three_atS w (cpA c (.slice ao c.recs.length cap)) #[.int .i64 0, .bool false, .slice none 0 0, .int .i64 0] #[.int .i64 0, .int .i64 0] 24 24 29
  unfold cpA at hB hR hQ hA
  have HB0 := hide hB
  have HR0 := hide hR
  have HQ0 := hide hQ
  have HA0 := hide hA
  clear hB hR hQ hA hv
  show Calls Try.prog 61 #[.agg #[.int .i64 c.ep, .bool c.cl, .slice ao c.recs.length cap, .int .i64 c.en], .pointer (some ⟨Y, 0, none⟩)] w _
  go_enter Try.func61, Try.ntmps61
  go_wp2_with fail
  generalize ((w.alloc (.cells #[.int .i64 c.ep, .bool c.cl, .slice ao c.recs.length cap, .int .i64 c.en] 24)).alloc (.cells #[.int .i64 0, .bool false, .slice none 0 0, .int .i64 0] 24)).alloc (.cells #[.int .i64 0, .int .i64 0] 29) = A at *
  have HCH := hide (End_any c _ _ e_ m A.drew (RdG.drew (HV.out.below HA0.out)) (RdG.drew (HM.out.below HA0.out)))
  generalize hcl : endC c e_ m = RC at *
  generalize hcf : endF c e_ m = RF at *
  obtain ⟨rep, rcl, rl, ren⟩ := RC
  obtain ⟨fx, fy⟩ := RF
  have HCLE := hide hcl
  have HCFE := hide hcf
  clear hcl hcf
  unfold cpV flt at HCH
  have bb0 : w.heap.size < A.heap.size := HB0.out.lt
  have bb1 : w.heap.size + 1 < A.heap.size := HR0.out.lt
  have bb2 : w.heap.size + 1 + 1 < A.heap.size := HQ0.out.lt
  have HT1 : Hid (∀ W, Below A.drew.heap.size A.drew W → Below A.heap.size A W) := hide fun W h => ⟨h.os, h.tape, h.output, h.size, h.block⟩
  have HKEEP : Hid (∀ W, Below (w.heap.size + 1) A W → W.cell? ⟨w.heap.size, 0, none⟩ = some (.int .i64 c.ep) ∧ W.cell? ⟨w.heap.size, 1, none⟩ = some (.bool c.cl) ∧ W.cell? ⟨w.heap.size, 2, none⟩ = some (.slice ao c.recs.length cap) ∧ W.cell? ⟨w.heap.size, 3, none⟩ = some (.int .i64 c.en) ∧ W.cell? ⟨Y, 0, none⟩ = some (.pointer (some ⟨g, off, none⟩)) ∧ W.cell? ⟨g, off, none⟩ = some (.int .i64 e_) ∧ W.cell? ⟨g, off + 4, none⟩ = some (.slice mo m.length mc)) := hide fun W hW => ⟨(hW.cell (by show w.heap.size < _; omega)).trans (HB0.out.cell 0), (hW.cell (by show w.heap.size < _; omega)).trans (HB0.out.cell 1), (hW.cell (by show w.heap.size < _; omega)).trans (HB0.out.cell 2), (hW.cell (by show w.heap.size < _; omega)).trans (HB0.out.cell 3), (hW.cell (p := ⟨Y, 0, none⟩) (by show Y < _; omega)).trans ((HA0.out.cell bl0).trans cl0), (hW.cell (p := ⟨g, off, none⟩) (by show g < _; omega)).trans ((HA0.out.cell bl1).trans cl1), (hW.cell (p := ⟨g, off + 4, none⟩) (by show g < _; omega)).trans ((HA0.out.cell bl2).trans cl2)⟩
  have HRC : Hid (∀ W, Below A.heap.size A W → Blk W (w.heap.size + 1) 24 #[.int .i64 0, .bool false, .slice none 0 0, .int .i64 0] ∧ W.cell? ⟨w.heap.size + 1, 0, none⟩ = some (.int .i64 0) ∧ W.cell? ⟨w.heap.size + 1, 1, none⟩ = some (.bool false) ∧ W.cell? ⟨w.heap.size + 1, 2, none⟩ = some (.slice none 0 0) ∧ W.cell? ⟨w.heap.size + 1, 3, none⟩ = some (.int .i64 0) ∧ W.frozen? ⟨w.heap.size + 1, 0, none⟩ = false ∧ W.frozen? ⟨w.heap.size + 1, 1, none⟩ = false ∧ W.frozen? ⟨w.heap.size + 1, 2, none⟩ = false ∧ W.frozen? ⟨w.heap.size + 1, 3, none⟩ = false) := hide fun W h => have q := HR0.out.later h; ⟨q, q.cell 0, q.cell 1, q.cell 2, q.cell 3, q.frozen 0, q.frozen 1, q.frozen 2, q.frozen 3⟩
  have HQC : Hid (∀ W, Below A.heap.size A W → Blk W (w.heap.size + 1 + 1) 29 #[.int .i64 0, .int .i64 0] ∧ W.cell? ⟨w.heap.size + 1 + 1, 0, none⟩ = some (.int .i64 0) ∧ W.cell? ⟨w.heap.size + 1 + 1, 1, none⟩ = some (.int .i64 0) ∧ W.frozen? ⟨w.heap.size + 1 + 1, 0, none⟩ = false ∧ W.frozen? ⟨w.heap.size + 1 + 1, 1, none⟩ = false) := hide fun W h => have q := HQ0.out.later h; ⟨q, q.cell 0, q.cell 1, q.frozen 0, q.frozen 1⟩
  have HMO : Hid (∀ W, Below A.heap.size A W → Below (w.heap.size + 1) A W) := hide fun W h => h.mono (by omega)
  go_region_held3 (fun W => W.cell? ⟨w.heap.size, 0, none⟩ = some (.int .i64 c.ep) ∧ W.cell? ⟨w.heap.size, 1, none⟩ = some (.bool c.cl) ∧ W.cell? ⟨w.heap.size, 2, none⟩ = some (.slice ao c.recs.length cap) ∧ W.cell? ⟨w.heap.size, 3, none⟩ = some (.int .i64 c.en) ∧ W.cell? ⟨Y, 0, none⟩ = some (.pointer (some ⟨g, off, none⟩)) ∧ W.cell? ⟨g, off, none⟩ = some (.int .i64 e_) ∧ W.cell? ⟨g, off + 4, none⟩ = some (.slice mo m.length mc)) (exact HKEEP.out _ (by go_grown)) (first
    | (go_at_call 11; refine HCH.out.mono ?_; rintro e w2 ⟨v2, rfl, ho2, hb2⟩; obtain ⟨ao2, cap2, hv2⟩ := owns_shape ho2; subst hv2; have hbA2 := HT1.out _ hb2; have hsA2 := hbA2.size; have hbD2 := HMO.out _ hbA2; obtain ⟨hR2, rc0, rc1, rc2, rc3, rz0, rz1, rz2, rz3⟩ := HRC.out _ hbA2; obtain ⟨hQ2, qc0, qc1, qz0, qz1⟩ := HQC.out _ hbA2; clear hb2))
  all_goals
    have HOR := owns_off ho2 hR2 (by decide)
    have HOQ := owns_off ho2 hQ2 (by decide)
    obtain ⟨hR9, hQ9, hO9⟩ := six_set (r0 := .int .i64 rep) (r1 := .bool rcl) (r2 := .slice ao2 rl.length cap2) (r3 := .int .i64 ren) (q0 := .int .i64 fx) (q1 := .int .i64 fy) (by omega) hR2 hQ2 ho2 HOR HOQ
    have hb9 := below_six (A := A) (R := w.heap.size + 1) (Q := w.heap.size + 1 + 1) (r0 := .int .i64 rep) (r1 := .bool rcl) (r2 := .slice ao2 rl.length cap2) (r3 := .int .i64 ren) (q0 := .int .i64 fx) (q1 := .int .i64 fy) (HA0.out.trans (hbA2.mono HA0.out.size)) (by omega) (by omega) (Nat.le_refl _)
    clear rc0 rc1 rc2 rc3 rz0 rz1 rz2 rz3 qc0 qc1 qz0 qz1 hR2 hQ2 ho2 HOR HOQ
    generalize ((((((w2.setCell ⟨w.heap.size + 1, 0, none⟩ (.int .i64 rep)).setCell ⟨w.heap.size + 1, 1, none⟩ (.bool rcl)).setCell ⟨w.heap.size + 1, 2, none⟩ (.slice ao2 rl.length cap2)).setCell ⟨w.heap.size + 1, 3, none⟩ (.int .i64 ren)).setCell ⟨w.heap.size + 1 + 1, 0, none⟩ (.int .i64 fx)).setCell ⟨w.heap.size + 1 + 1, 1, none⟩ (.int .i64 fy)) = wz at *
    have HR9 := hide hR9
    have HQ9 := hide hQ9
    have HO9 := hide (owns_base0 hO9 HA0.out.size)
    have HB9 := hide hb9
    clear hR9 hQ9 hO9 hb9 hbA2 hbD2
    go_wp2_with fail
    refine bodyPost_ret (v := .tuple #[.agg #[.int .i64 rep, .bool rcl, .slice ao2 rl.length cap2, .int .i64 ren], .agg #[.int .i64 fx, .int .i64 fy]]) (results2_cells Try.results61 rfl rfl (run_loadVar_blk HR9.out Try.underlying24 rfl Try.sizeCopy) (run_loadVar_blk HQ9.out Try.underlying29 rfl Try.sizeFaultS)) rfl ?_
    rw [HCLE.out, HCFE.out]
    exact ⟨_, rfl, HO9.out, HB9.out⟩

set_option maxRecDepth 100000 in
set_option maxHeartbeats 4000000 in
theorem cloBring_any (X Y B b off k : Nat) (wc wn : Nat) (r : ByteArray) (c : Cp) (v : Value) (w : World) (cl0 : w.cell? ⟨X, 0, none⟩ = some (.int .i64 k)) (cl1 : w.cell? ⟨Y, 0, none⟩ = some (.pointer (some ⟨B, 0, none⟩))) (cl2 : w.cell? ⟨B, 1, none⟩ = some (.slice (some ⟨b, off, none⟩) wn wc)) (cl3 : w.cell? ⟨b, off + k, none⟩ = some (.string r)) (hk2 : (k : Int) < (wn : Int)) (hv : RdG txE w v c.recs) :
    Calls Try.prog 58 #[cpV c v, .pointer (some ⟨X, 0, none⟩), .pointer (some ⟨Y, 0, none⟩)] w fun e w' => ∃ v', e = .returned (.tuple #[cpV (appC c 1 k r) v', flt (appF c 1 k r)]) ∧ w'.ownsRow w.heap.size 9 1 v' (appC c 1 k r).recs.length (txE.vs (appC c 1 k r).recs) ∧ Below w.heap.size w w' := by
  have HV := hide hv
  obtain ⟨ao, cap, rfl, _, _⟩ := hv.shape
  have hk1 : (0 : Int) ≤ (k : Int) := by omega
  have bl0 : X < w.heap.size := World.block_lt_of_cell? w _ cl0
  have bl1 : Y < w.heap.size := World.block_lt_of_cell? w _ cl1
  have bl2 : B < w.heap.size := World.block_lt_of_cell? w _ cl2
  have bl3 : b < w.heap.size := World.block_lt_of_cell? w _ cl3
  obtain ⟨hB, hR, hQ, hA⟩ := three_atS w (cpA c (.slice ao c.recs.length cap)) #[.int .i64 0, .bool false, .slice none 0 0, .int .i64 0] #[.int .i64 0, .int .i64 0] 24 24 29
  unfold cpA at hB hR hQ hA
  have HB0 := hide hB
  have HR0 := hide hR
  have HQ0 := hide hQ
  have HA0 := hide hA
  clear hB hR hQ hA hv
  show Calls Try.prog 58 #[.agg #[.int .i64 c.ep, .bool c.cl, .slice ao c.recs.length cap, .int .i64 c.en], .pointer (some ⟨X, 0, none⟩), .pointer (some ⟨Y, 0, none⟩)] w _
  go_enter Try.func58, Try.ntmps58
  go_wp2_with fail
  generalize ((w.alloc (.cells #[.int .i64 c.ep, .bool c.cl, .slice ao c.recs.length cap, .int .i64 c.en] 24)).alloc (.cells #[.int .i64 0, .bool false, .slice none 0 0, .int .i64 0] 24)).alloc (.cells #[.int .i64 0, .int .i64 0] 29) = A at *
  have HCH := hide (Append_any c _ 1 k r A.drew (RdG.drew (HV.out.below HA0.out)))
  generalize hcl : appC c 1 k r = RC at *
  generalize hcf : appF c 1 k r = RF at *
  obtain ⟨rep, rcl, rl, ren⟩ := RC
  obtain ⟨fx, fy⟩ := RF
  have HCLE := hide hcl
  have HCFE := hide hcf
  clear hcl hcf
  unfold cpV flt at HCH
  have bb0 : w.heap.size < A.heap.size := HB0.out.lt
  have bb1 : w.heap.size + 1 < A.heap.size := HR0.out.lt
  have bb2 : w.heap.size + 1 + 1 < A.heap.size := HQ0.out.lt
  have HT1 : Hid (∀ W, Below A.drew.heap.size A.drew W → Below A.heap.size A W) := hide fun W h => ⟨h.os, h.tape, h.output, h.size, h.block⟩
  have HKEEP : Hid (∀ W, Below (w.heap.size + 1) A W → W.cell? ⟨w.heap.size, 0, none⟩ = some (.int .i64 c.ep) ∧ W.cell? ⟨w.heap.size, 1, none⟩ = some (.bool c.cl) ∧ W.cell? ⟨w.heap.size, 2, none⟩ = some (.slice ao c.recs.length cap) ∧ W.cell? ⟨w.heap.size, 3, none⟩ = some (.int .i64 c.en) ∧ W.cell? ⟨X, 0, none⟩ = some (.int .i64 k) ∧ W.cell? ⟨Y, 0, none⟩ = some (.pointer (some ⟨B, 0, none⟩)) ∧ W.cell? ⟨B, 1, none⟩ = some (.slice (some ⟨b, off, none⟩) wn wc) ∧ W.cell? ⟨b, off + k, none⟩ = some (.string r)) := hide fun W hW => ⟨(hW.cell (by show w.heap.size < _; omega)).trans (HB0.out.cell 0), (hW.cell (by show w.heap.size < _; omega)).trans (HB0.out.cell 1), (hW.cell (by show w.heap.size < _; omega)).trans (HB0.out.cell 2), (hW.cell (by show w.heap.size < _; omega)).trans (HB0.out.cell 3), (hW.cell (p := ⟨X, 0, none⟩) (by show X < _; omega)).trans ((HA0.out.cell bl0).trans cl0), (hW.cell (p := ⟨Y, 0, none⟩) (by show Y < _; omega)).trans ((HA0.out.cell bl1).trans cl1), (hW.cell (p := ⟨B, 1, none⟩) (by show B < _; omega)).trans ((HA0.out.cell bl2).trans cl2), (hW.cell (p := ⟨b, off + k, none⟩) (by show b < _; omega)).trans ((HA0.out.cell bl3).trans cl3)⟩
  have HRC : Hid (∀ W, Below A.heap.size A W → Blk W (w.heap.size + 1) 24 #[.int .i64 0, .bool false, .slice none 0 0, .int .i64 0] ∧ W.cell? ⟨w.heap.size + 1, 0, none⟩ = some (.int .i64 0) ∧ W.cell? ⟨w.heap.size + 1, 1, none⟩ = some (.bool false) ∧ W.cell? ⟨w.heap.size + 1, 2, none⟩ = some (.slice none 0 0) ∧ W.cell? ⟨w.heap.size + 1, 3, none⟩ = some (.int .i64 0) ∧ W.frozen? ⟨w.heap.size + 1, 0, none⟩ = false ∧ W.frozen? ⟨w.heap.size + 1, 1, none⟩ = false ∧ W.frozen? ⟨w.heap.size + 1, 2, none⟩ = false ∧ W.frozen? ⟨w.heap.size + 1, 3, none⟩ = false) := hide fun W h => have q := HR0.out.later h; ⟨q, q.cell 0, q.cell 1, q.cell 2, q.cell 3, q.frozen 0, q.frozen 1, q.frozen 2, q.frozen 3⟩
  have HQC : Hid (∀ W, Below A.heap.size A W → Blk W (w.heap.size + 1 + 1) 29 #[.int .i64 0, .int .i64 0] ∧ W.cell? ⟨w.heap.size + 1 + 1, 0, none⟩ = some (.int .i64 0) ∧ W.cell? ⟨w.heap.size + 1 + 1, 1, none⟩ = some (.int .i64 0) ∧ W.frozen? ⟨w.heap.size + 1 + 1, 0, none⟩ = false ∧ W.frozen? ⟨w.heap.size + 1 + 1, 1, none⟩ = false) := hide fun W h => have q := HQ0.out.later h; ⟨q, q.cell 0, q.cell 1, q.frozen 0, q.frozen 1⟩
  have HMO : Hid (∀ W, Below A.heap.size A W → Below (w.heap.size + 1) A W) := hide fun W h => h.mono (by omega)
  go_region_held3 (fun W => W.cell? ⟨w.heap.size, 0, none⟩ = some (.int .i64 c.ep) ∧ W.cell? ⟨w.heap.size, 1, none⟩ = some (.bool c.cl) ∧ W.cell? ⟨w.heap.size, 2, none⟩ = some (.slice ao c.recs.length cap) ∧ W.cell? ⟨w.heap.size, 3, none⟩ = some (.int .i64 c.en) ∧ W.cell? ⟨X, 0, none⟩ = some (.int .i64 k) ∧ W.cell? ⟨Y, 0, none⟩ = some (.pointer (some ⟨B, 0, none⟩)) ∧ W.cell? ⟨B, 1, none⟩ = some (.slice (some ⟨b, off, none⟩) wn wc) ∧ W.cell? ⟨b, off + k, none⟩ = some (.string r)) (exact HKEEP.out _ (by go_grown)) (first
    | (go_at_call 9; refine HCH.out.mono ?_; rintro e w2 ⟨v2, rfl, ho2, hb2⟩; obtain ⟨ao2, cap2, hv2⟩ := owns_shape ho2; subst hv2; have hbA2 := HT1.out _ hb2; have hsA2 := hbA2.size; have hbD2 := HMO.out _ hbA2; obtain ⟨hR2, rc0, rc1, rc2, rc3, rz0, rz1, rz2, rz3⟩ := HRC.out _ hbA2; obtain ⟨hQ2, qc0, qc1, qz0, qz1⟩ := HQC.out _ hbA2; clear hb2))
  all_goals
    have HOR := owns_off ho2 hR2 (by decide)
    have HOQ := owns_off ho2 hQ2 (by decide)
    obtain ⟨hR9, hQ9, hO9⟩ := six_set (r0 := .int .i64 rep) (r1 := .bool rcl) (r2 := .slice ao2 rl.length cap2) (r3 := .int .i64 ren) (q0 := .int .i64 fx) (q1 := .int .i64 fy) (by omega) hR2 hQ2 ho2 HOR HOQ
    have hb9 := below_six (A := A) (R := w.heap.size + 1) (Q := w.heap.size + 1 + 1) (r0 := .int .i64 rep) (r1 := .bool rcl) (r2 := .slice ao2 rl.length cap2) (r3 := .int .i64 ren) (q0 := .int .i64 fx) (q1 := .int .i64 fy) (HA0.out.trans (hbA2.mono HA0.out.size)) (by omega) (by omega) (Nat.le_refl _)
    clear rc0 rc1 rc2 rc3 rz0 rz1 rz2 rz3 qc0 qc1 qz0 qz1 hR2 hQ2 ho2 HOR HOQ
    generalize ((((((w2.setCell ⟨w.heap.size + 1, 0, none⟩ (.int .i64 rep)).setCell ⟨w.heap.size + 1, 1, none⟩ (.bool rcl)).setCell ⟨w.heap.size + 1, 2, none⟩ (.slice ao2 rl.length cap2)).setCell ⟨w.heap.size + 1, 3, none⟩ (.int .i64 ren)).setCell ⟨w.heap.size + 1 + 1, 0, none⟩ (.int .i64 fx)).setCell ⟨w.heap.size + 1 + 1, 1, none⟩ (.int .i64 fy)) = wz at *
    have HR9 := hide hR9
    have HQ9 := hide hQ9
    have HO9 := hide (owns_base0 hO9 HA0.out.size)
    have HB9 := hide hb9
    clear hR9 hQ9 hO9 hb9 hbA2 hbD2
    go_wp2_with fail
    refine bodyPost_ret (v := .tuple #[.agg #[.int .i64 rep, .bool rcl, .slice ao2 rl.length cap2, .int .i64 ren], .agg #[.int .i64 fx, .int .i64 fy]]) (results2_cells Try.results58 rfl rfl (run_loadVar_blk HR9.out Try.underlying24 rfl Try.sizeCopy) (run_loadVar_blk HQ9.out Try.underlying29 rfl Try.sizeFaultS)) rfl ?_
    rw [HCLE.out, HCFE.out]
    exact ⟨_, rfl, HO9.out, HB9.out⟩

end Go.Proofs.Ytopnjklloleomaa

/-
  The walks over the vault's ask, with each function that is handed over. (Written by sv3.py.)
-/
namespace Go.Proofs.Ytopnjklloleomaa
open Go.RowKit
set_option linter.unusedVariables false

/-- The vault with another copy. -/
def Vt.setCopy (t : Vt) (k : Nat) (c : Cp) : Vt := { t with copies := t.copies.set k c }

/-- What a copy that was asked leaves. -/
def Vt.asked (t : Vt) (k : Nat) (c : Cp) (f : Int × Int) : Vt := if f.1 = 0 then t.setCopy k c else t

/-- Four places of a row of one's own: a structure. -/
theorem owns_set4 {α : Type} {E : En α 4} {w : World} {base : Nat} {e : TypeId} {g n cap k : Nat} {cs : List α} {c c' : α} {a b d f : Value} (h : w.ownsRow base e 4 (.slice (some ⟨g, 0, none⟩) n cap) n (E.vs cs)) (hk : cs[k]? = some c) (hv : E.v c' = [a, b, d, f]) :
    ((((w.setCell ⟨g, k * 4, none⟩ a).setCell ⟨g, k * 4 + 1, none⟩ b).setCell ⟨g, k * 4 + 2, none⟩ d).setCell ⟨g, k * 4 + 3, none⟩ f).ownsRow base e 4 (.slice (some ⟨g, 0, none⟩) n cap) n (E.vs (cs.set k c')) ∧
    w.grownBy ((((w.setCell ⟨g, k * 4, none⟩ a).setCell ⟨g, k * 4 + 1, none⟩ b).setCell ⟨g, k * 4 + 2, none⟩ d).setCell ⟨g, k * 4 + 3, none⟩ f) (some g) := by
  have h1 := owns_setCell (owns_setCell (owns_setCell (owns_setCell h (k * 4) a) (k * 4 + 1) b) (k * 4 + 2) d) (k * 4 + 3) f
  have e1 : ((((E.vs cs).set (k * 4) a).set (k * 4 + 1) b).set (k * 4 + 2) d).set (k * 4 + 3) f = E.vs (cs.set k c') := by
    obtain ⟨hl, rfl⟩ := List.getElem?_eq_some_iff.1 hk
    have el : E.vs cs = E.vs (cs.take k) ++ E.v cs[k] ++ E.vs (cs.drop (k + 1)) := by
      have := vs_set (E := E) cs k cs[k] hl
      rw [List.set_getElem_self] at this
      exact this
    have l1 : (E.vs (cs.take k)).length = k * 4 := by rw [vs_length, List.length_take, Nat.min_eq_left (by omega)]
    obtain ⟨p, q, r, s, hp⟩ : ∃ p q r s, E.v cs[k] = [p, q, r, s] := by
      have := E.len cs[k]
      match E.v cs[k], this with
      | [p, q, r, s], _ => exact ⟨p, q, r, s, rfl⟩
    rw [vs_set cs k c' hl, hv, el, hp]
    generalize E.vs (cs.take k) = X at *
    generalize E.vs (cs.drop (k + 1)) = Y at *
    rw [← l1]
    simp
  rw [e1] at h1
  refine ⟨h1, ?_⟩
  have g1 := grown_setCell w g (k * 4) a
  have g2 := grown_more g1 (grown_setCell _ g (k * 4 + 1) b) (.inr rfl)
  have g3 := grown_more g2 (grown_setCell _ g (k * 4 + 2) d) (.inr rfl)
  exact grown_more g3 (grown_setCell _ g (k * 4 + 3) f) (.inr rfl)

/-- A copy is written anew. -/
theorem CopM.set {w w' : World} {lab : Nat → Nat} {i g n cap k : Nat} {fs : List Qf} {cs : List Cp} {f' : Qf} {c' : Cp} {S : Nat → Prop}
    (hlab : lab g = i) (h2 : fs.length = cs.length) (h3 : ∀ (j : Nat) f c, fs[j]? = some f → cs[j]? = some c → f.ep = c.ep ∧ f.cl = c.cl ∧ f.en = c.en ∧ Rd0 0 txE w lab (.slice f.ao f.len f.cap) c.recs)
    (hrow : w'.ownsRow 0 24 4 (.slice (some ⟨g, 0, none⟩) n cap) n (qfE.vs (fs.set k f'))) (hn : n = fs.length) (hc : Chg 0 w w' lab lab S) (h0 : ¬ S 0)
    (hf : f'.ep = c'.ep ∧ f'.cl = c'.cl ∧ f'.en = c'.en ∧ Rd0 0 txE w' lab (.slice f'.ao f'.len f'.cap) c'.recs) : CopM w' lab i (.slice (some ⟨g, 0, none⟩) n cap) (cs.set k c') := by
  refine ⟨fs.set k f', ⟨?_, fun b hb => ?_⟩, by simp [h2], fun j f c hj hcj => ?_⟩
  · rw [List.length_set, ← hn]
    exact hrow
  · simp only [Value.ownBlock, Option.some.injEq] at hb
    subst hb
    exact hlab
  · rw [List.getElem?_set] at hj hcj
    by_cases hk : k = j
    · rw [if_pos hk] at hj hcj
      split at hj
      · split at hcj
        · cases hj; cases hcj; exact hf
        · cases hcj
      · cases hj
    · rw [if_neg hk] at hj hcj
      obtain ⟨a, b, d, e⟩ := h3 j f c hj hcj
      exact ⟨a, b, d, e.keep hc h0⟩

set_option maxRecDepth 100000 in
set_option maxHeartbeats 8000000 in
theorem askHear_any (Y : Nat) (B k : Nat) (s : Vs) (t : Vt) (c RC : Cp) (RF : Int × Int) (lab : Nat → Nat) (w : World) (hm : Vm w lab B s t) (hc : t.copies[k]? = some c) (hz : Fz RF)
    (hdo : ∀ w1 v, Below w.heap.size w w1 → RdG txE w1 v c.recs → Calls Try.prog 60 #[cpV c v, .pointer (some ⟨Y, 0, none⟩)] w1 fun e w' => ∃ v', e = .returned (.tuple #[cpV RC v', flt RF]) ∧ w'.ownsRow w1.heap.size 9 1 v' RC.recs.length (txE.vs RC.recs) ∧ Below w1.heap.size w1 w') :
    Calls Try.prog 57 #[.pointer (some ⟨B, 0, none⟩), .int .i64 k, .func (.func 60) #[] #[.pointer (some ⟨Y, 0, none⟩)]] w fun e w' => e = .returned (.bool (decide (RF.1 = 0))) ∧ Vm w' lab B s (t.asked k RC RF) ∧ Chg 0 w w' lab lab (fun i => i = 2) := by
  have HM := hide hm
  obtain ⟨fs, hrow, hfl, his⟩ := hm.cop
  have hkl := (List.getElem?_eq_some_iff.1 hc).1
  obtain ⟨g, cap, cur, hgv, hgb, hgg, hgc1, hgc2, _⟩ := owns_pos hrow.1 (by omega)
  have hlg := hrow.2 g (by rw [hgv]; simp [Value.ownBlock])
  obtain ⟨f, hf⟩ : ∃ f, fs[k]? = some f := ⟨_, List.getElem?_eq_getElem (by omega)⟩
  obtain ⟨b', off', e', hb2, hat⟩ := (show RdG qfE w (.slice (some ⟨g, 0, none⟩) fs.length cap) fs from hgv ▸ RdG.ofOwns hrow.1).here hf
  cases e'
  obtain ⟨e1, e2, e3, hrd⟩ := his k f c hf hc
  obtain ⟨fep, fcl, fao, flen, fcap, fen⟩ := f
  simp only at e1 e2 e3 hrd
  have hfe : flen = c.recs.length := hrd.1.len.1
  subst e1 e2 e3 hfe
  have c0 := hat 0 _ rfl
  have c1 := hat 1 _ rfl
  have c2 := hat 2 _ rfl
  have c3 := hat 3 _ rfl
  simp only [Nat.zero_add, Nat.add_zero] at c0 c1 c2 c3
  have v0 := hm.blk.cell 0
  have vl := hm.blk.lt
  simp only [Vs.a, List.getElem?_toArray, List.getElem?_cons_zero] at v0
  rw [hgv] at v0
  have HD := hide (hdo w _ (Below.refl _ _) hrd.1)
  have HF := hide hf
  have HC0 := hide c0
  have HC1 := hide c1
  have HC2 := hide c2
  have HC3 := hide c3
  have HROW := hide (show w.ownsRow 0 24 4 (.slice (some ⟨g, 0, none⟩) fs.length cap) fs.length (qfE.vs fs) from hgv ▸ hrow.1)
  have HIS := hide his
  have HFL := hide hfl
  have HGV := hide hgv
  have HLG := hide hlg
  have HZ := hide hz
  have hk1 : (0 : Int) ≤ (k : Int) := by omega
  have hk2 : (k : Int) < (fs.length : Int) := by omega
  have hk3 : k < fs.length := by omega
  have HAS : Hid (t.asked k RC RF = if RF.1 = 0 then t.setCopy k RC else t) := hide rfl
  obtain ⟨rep, rcl, rl, ren⟩ := RC
  obtain ⟨fx, fy⟩ := RF
  clear hm hrow his hfl hgv hlg hat hf hz hdo hgg hc hrd
  unfold cpV flt at HD
  go_enter Try.func57, Try.ntmps57
  go_wp2_with fail
  refine HD.out.mono ?_
  rintro e w1 ⟨v1, rfl, ho1, hb1⟩
  obtain ⟨ao1, cap1, rfl⟩ := owns_shape ho1
  have HO1 := hide ho1
  have HBA := hide (hb1.trans ((below_alloc2 w1 (.cells #[.int .i64 rep, .bool rcl, .slice ao1 rl.length cap1, .int .i64 ren] 24) (.cells #[.int .i64 fx, .int .i64 fy] 29)).mono hb1.size))
  have HX := hide (Blk.at0of2 w1 (.cells #[.int .i64 fx, .int .i64 fy] 29) 24 #[.int .i64 rep, .bool rcl, .slice ao1 rl.length cap1, .int .i64 ren])
  have HO2 := hide ((ho1.alloc (.cells #[.int .i64 rep, .bool rcl, .slice ao1 rl.length cap1, .int .i64 ren] 24)).alloc (.cells #[.int .i64 fx, .int .i64 fy] 29))
  have hs1 := hb1.size
  clear c0 c1 c2 c3 ho1 hb1 HD
  by_cases hx : fx ≠ 0
  · have HE := hide (HAS.out.trans (if_neg hx))
    have hd : decide (fx = 0) = false := decide_eq_false hx
    have hq : (fx == 0) = false := beq_eq_false_iff_ne.2 hx
    have hq2 : (fx != 0) = true := by simp [hx]
    have HD2 := hide hd
    clear hx hd v0 vl
    go_wp2_with fail
    go_ret
    exact ⟨by rw [HD2.out]; rfl, by rw [HE.out]; exact HM.out.below HBA.out, Chg.below _ HM.out.ok HBA.out⟩
  · obtain rfl : fx = 0 := Decidable.not_not.1 hx
    obtain rfl : fy = 0 := by have := HZ.out rfl; simpa using this
    have HE := hide (HAS.out.trans (if_pos rfl))
    clear hx
    go_wp2_with fail
    generalize (w1.alloc (.cells #[.int .i64 rep, .bool rcl, .slice ao1 rl.length cap1, .int .i64 ren] 24)).alloc (.cells #[.int .i64 0, .int .i64 0] 29) = A at HBA HX HO2 ⊢
    have w0 := cell_belowG v0 HBA.out
    have wl := Nat.lt_of_lt_of_le vl HBA.out.size
    have x0 := HX.out.cell 0
    have x1 := HX.out.cell 1
    have x2 := HX.out.cell 2
    have x3 := HX.out.cell 3
    have xl := HX.out.lt
    simp at x0 x1 x2 x3
    have HROW2 := hide (owns_below (w' := A) HROW.out HBA.out)
    have HFK := hide (show fs[k]? = some ⟨c.ep, c.cl, fao, c.recs.length, fcap, c.en⟩ from HF.out)
    obtain ⟨_, _, _, q0, q1, q2, q3⟩ : ∃ b off e, A.cell? ⟨g, k * 4, none⟩ = some (.int .i64 c.ep) ∧ A.cell? ⟨g, k * 4 + 1, none⟩ = some (.bool c.cl) ∧ A.cell? ⟨g, k * 4 + 2, none⟩ = some (.slice fao c.recs.length fcap) ∧ A.cell? ⟨g, k * 4 + 3, none⟩ = some (.int .i64 c.en) := ⟨0, 0, 0, cell_belowG HC0.out HBA.out, cell_belowG HC1.out HBA.out, cell_belowG HC2.out HBA.out, cell_belowG HC3.out HBA.out⟩
    obtain ⟨_, _, cur2, hgv2, _, hgg2, _⟩ := owns_pos HROW2.out (by omega)
    cases hgv2
    have z0 := frozen_of_row A g (k * 4) _ _ hgg2
    have z1 := frozen_of_row A g (k * 4 + 1) _ _ hgg2
    have z2 := frozen_of_row A g (k * 4 + 2) _ _ hgg2
    have z3 := frozen_of_row A g (k * 4 + 3) _ _ hgg2
    have gl : g < A.heap.size := World.block_lt_of_cell? A _ q0
    clear v0 vl hgg2
    go_region
    obtain ⟨ho9, hg9⟩ := owns_set4 (c' := (⟨rep, rcl, ao1, rl.length, cap1, ren⟩ : Qf)) HROW2.out HFK.out rfl
    generalize (((A.setCell ⟨g, k * 4, none⟩ (.int .i64 rep)).setCell ⟨g, k * 4 + 1, none⟩ (.bool rcl)).setCell ⟨g, k * 4 + 2, none⟩ (.slice ao1 rl.length cap1)).setCell ⟨g, k * 4 + 3, none⟩ (.int .i64 ren) = W9 at *
    have hc1 : Chg 0 w A lab lab (fun i => i = 2) := Chg.below _ HM.out.ok HBA.out
    have hc2 : Chg 0 A W9 lab lab (fun i => i = 2) := Chg.grown hc1.ok hg9 HLG.out
    have hc3 := hc1.trans hc2
    have HC3x := hide hc3
    have hnew : Rd0 0 txE A lab (.slice ao1 rl.length cap1) rl := Rd0.new HM.out.ok HO2.out (Nat.le_refl _)
    have HCP := hide (CopM.set (cs := t.copies) (c' := ⟨rep, rcl, rl, ren⟩) HLG.out HFL.out HIS.out ho9 rfl hc3 (by decide) ⟨rfl, rfl, rfl, hnew.keep hc2 (by decide)⟩)
    have HVM : Hid (Vm W9 lab B s (t.setCopy k ⟨rep, rcl, rl, ren⟩)) := hide ⟨HM.out.blk.keep hc3 (by rw [HM.out.lb]; decide), HM.out.lb, by rw [HGV.out]; exact HCP.out, HM.out.wro.keep hc3 (by decide), HM.out.tok.keep hc3 (by decide) (fun j => by omega), HM.out.hea.keep hc3 (by decide) (by decide) (fun j => ⟨by omega, by omega, by omega⟩), HM.out.lef.keep hc3 (by decide), hc3.ok⟩
    clear ho9 hg9 hc1 hc2 hc3 hnew q0 q1 q2 q3 z0 z1 z2 z3 x0 x1 x2 x3 w0 wl
    go_wp2_with fail
    go_ret
    exact ⟨rfl, by rw [HE.out]; exact HVM.out.below (Below.drew (Below.refl _ _)), HC3x.out.trans (Chg.below _ HC3x.out.ok (Below.drew (Below.refl _ _)))⟩

set_option maxRecDepth 100000 in
set_option maxHeartbeats 8000000 in
theorem askEnd_any (Y : Nat) (B k : Nat) (s : Vs) (t : Vt) (c RC : Cp) (RF : Int × Int) (lab : Nat → Nat) (w : World) (hm : Vm w lab B s t) (hc : t.copies[k]? = some c) (hz : Fz RF)
    (hdo : ∀ w1 v, Below w.heap.size w w1 → RdG txE w1 v c.recs → Calls Try.prog 61 #[cpV c v, .pointer (some ⟨Y, 0, none⟩)] w1 fun e w' => ∃ v', e = .returned (.tuple #[cpV RC v', flt RF]) ∧ w'.ownsRow w1.heap.size 9 1 v' RC.recs.length (txE.vs RC.recs) ∧ Below w1.heap.size w1 w') :
    Calls Try.prog 57 #[.pointer (some ⟨B, 0, none⟩), .int .i64 k, .func (.func 61) #[] #[.pointer (some ⟨Y, 0, none⟩)]] w fun e w' => e = .returned (.bool (decide (RF.1 = 0))) ∧ Vm w' lab B s (t.asked k RC RF) ∧ Chg 0 w w' lab lab (fun i => i = 2) := by
  have HM := hide hm
  obtain ⟨fs, hrow, hfl, his⟩ := hm.cop
  have hkl := (List.getElem?_eq_some_iff.1 hc).1
  obtain ⟨g, cap, cur, hgv, hgb, hgg, hgc1, hgc2, _⟩ := owns_pos hrow.1 (by omega)
  have hlg := hrow.2 g (by rw [hgv]; simp [Value.ownBlock])
  obtain ⟨f, hf⟩ : ∃ f, fs[k]? = some f := ⟨_, List.getElem?_eq_getElem (by omega)⟩
  obtain ⟨b', off', e', hb2, hat⟩ := (show RdG qfE w (.slice (some ⟨g, 0, none⟩) fs.length cap) fs from hgv ▸ RdG.ofOwns hrow.1).here hf
  cases e'
  obtain ⟨e1, e2, e3, hrd⟩ := his k f c hf hc
  obtain ⟨fep, fcl, fao, flen, fcap, fen⟩ := f
  simp only at e1 e2 e3 hrd
  have hfe : flen = c.recs.length := hrd.1.len.1
  subst e1 e2 e3 hfe
  have c0 := hat 0 _ rfl
  have c1 := hat 1 _ rfl
  have c2 := hat 2 _ rfl
  have c3 := hat 3 _ rfl
  simp only [Nat.zero_add, Nat.add_zero] at c0 c1 c2 c3
  have v0 := hm.blk.cell 0
  have vl := hm.blk.lt
  simp only [Vs.a, List.getElem?_toArray, List.getElem?_cons_zero] at v0
  rw [hgv] at v0
  have HD := hide (hdo w _ (Below.refl _ _) hrd.1)
  have HF := hide hf
  have HC0 := hide c0
  have HC1 := hide c1
  have HC2 := hide c2
  have HC3 := hide c3
  have HROW := hide (show w.ownsRow 0 24 4 (.slice (some ⟨g, 0, none⟩) fs.length cap) fs.length (qfE.vs fs) from hgv ▸ hrow.1)
  have HIS := hide his
  have HFL := hide hfl
  have HGV := hide hgv
  have HLG := hide hlg
  have HZ := hide hz
  have hk1 : (0 : Int) ≤ (k : Int) := by omega
  have hk2 : (k : Int) < (fs.length : Int) := by omega
  have hk3 : k < fs.length := by omega
  have HAS : Hid (t.asked k RC RF = if RF.1 = 0 then t.setCopy k RC else t) := hide rfl
  obtain ⟨rep, rcl, rl, ren⟩ := RC
  obtain ⟨fx, fy⟩ := RF
  clear hm hrow his hfl hgv hlg hat hf hz hdo hgg hc hrd
  unfold cpV flt at HD
  go_enter Try.func57, Try.ntmps57
  go_wp2_with fail
  refine HD.out.mono ?_
  rintro e w1 ⟨v1, rfl, ho1, hb1⟩
  obtain ⟨ao1, cap1, rfl⟩ := owns_shape ho1
  have HO1 := hide ho1
  have HBA := hide (hb1.trans ((below_alloc2 w1 (.cells #[.int .i64 rep, .bool rcl, .slice ao1 rl.length cap1, .int .i64 ren] 24) (.cells #[.int .i64 fx, .int .i64 fy] 29)).mono hb1.size))
  have HX := hide (Blk.at0of2 w1 (.cells #[.int .i64 fx, .int .i64 fy] 29) 24 #[.int .i64 rep, .bool rcl, .slice ao1 rl.length cap1, .int .i64 ren])
  have HO2 := hide ((ho1.alloc (.cells #[.int .i64 rep, .bool rcl, .slice ao1 rl.length cap1, .int .i64 ren] 24)).alloc (.cells #[.int .i64 fx, .int .i64 fy] 29))
  have hs1 := hb1.size
  clear c0 c1 c2 c3 ho1 hb1 HD
  by_cases hx : fx ≠ 0
  · have HE := hide (HAS.out.trans (if_neg hx))
    have hd : decide (fx = 0) = false := decide_eq_false hx
    have hq : (fx == 0) = false := beq_eq_false_iff_ne.2 hx
    have hq2 : (fx != 0) = true := by simp [hx]
    have HD2 := hide hd
    clear hx hd v0 vl
    go_wp2_with fail
    go_ret
    exact ⟨by rw [HD2.out]; rfl, by rw [HE.out]; exact HM.out.below HBA.out, Chg.below _ HM.out.ok HBA.out⟩
  · obtain rfl : fx = 0 := Decidable.not_not.1 hx
    obtain rfl : fy = 0 := by have := HZ.out rfl; simpa using this
    have HE := hide (HAS.out.trans (if_pos rfl))
    clear hx
    go_wp2_with fail
    generalize (w1.alloc (.cells #[.int .i64 rep, .bool rcl, .slice ao1 rl.length cap1, .int .i64 ren] 24)).alloc (.cells #[.int .i64 0, .int .i64 0] 29) = A at HBA HX HO2 ⊢
    have w0 := cell_belowG v0 HBA.out
    have wl := Nat.lt_of_lt_of_le vl HBA.out.size
    have x0 := HX.out.cell 0
    have x1 := HX.out.cell 1
    have x2 := HX.out.cell 2
    have x3 := HX.out.cell 3
    have xl := HX.out.lt
    simp at x0 x1 x2 x3
    have HROW2 := hide (owns_below (w' := A) HROW.out HBA.out)
    have HFK := hide (show fs[k]? = some ⟨c.ep, c.cl, fao, c.recs.length, fcap, c.en⟩ from HF.out)
    obtain ⟨_, _, _, q0, q1, q2, q3⟩ : ∃ b off e, A.cell? ⟨g, k * 4, none⟩ = some (.int .i64 c.ep) ∧ A.cell? ⟨g, k * 4 + 1, none⟩ = some (.bool c.cl) ∧ A.cell? ⟨g, k * 4 + 2, none⟩ = some (.slice fao c.recs.length fcap) ∧ A.cell? ⟨g, k * 4 + 3, none⟩ = some (.int .i64 c.en) := ⟨0, 0, 0, cell_belowG HC0.out HBA.out, cell_belowG HC1.out HBA.out, cell_belowG HC2.out HBA.out, cell_belowG HC3.out HBA.out⟩
    obtain ⟨_, _, cur2, hgv2, _, hgg2, _⟩ := owns_pos HROW2.out (by omega)
    cases hgv2
    have z0 := frozen_of_row A g (k * 4) _ _ hgg2
    have z1 := frozen_of_row A g (k * 4 + 1) _ _ hgg2
    have z2 := frozen_of_row A g (k * 4 + 2) _ _ hgg2
    have z3 := frozen_of_row A g (k * 4 + 3) _ _ hgg2
    have gl : g < A.heap.size := World.block_lt_of_cell? A _ q0
    clear v0 vl hgg2
    go_region
    obtain ⟨ho9, hg9⟩ := owns_set4 (c' := (⟨rep, rcl, ao1, rl.length, cap1, ren⟩ : Qf)) HROW2.out HFK.out rfl
    generalize (((A.setCell ⟨g, k * 4, none⟩ (.int .i64 rep)).setCell ⟨g, k * 4 + 1, none⟩ (.bool rcl)).setCell ⟨g, k * 4 + 2, none⟩ (.slice ao1 rl.length cap1)).setCell ⟨g, k * 4 + 3, none⟩ (.int .i64 ren) = W9 at *
    have hc1 : Chg 0 w A lab lab (fun i => i = 2) := Chg.below _ HM.out.ok HBA.out
    have hc2 : Chg 0 A W9 lab lab (fun i => i = 2) := Chg.grown hc1.ok hg9 HLG.out
    have hc3 := hc1.trans hc2
    have HC3x := hide hc3
    have hnew : Rd0 0 txE A lab (.slice ao1 rl.length cap1) rl := Rd0.new HM.out.ok HO2.out (Nat.le_refl _)
    have HCP := hide (CopM.set (cs := t.copies) (c' := ⟨rep, rcl, rl, ren⟩) HLG.out HFL.out HIS.out ho9 rfl hc3 (by decide) ⟨rfl, rfl, rfl, hnew.keep hc2 (by decide)⟩)
    have HVM : Hid (Vm W9 lab B s (t.setCopy k ⟨rep, rcl, rl, ren⟩)) := hide ⟨HM.out.blk.keep hc3 (by rw [HM.out.lb]; decide), HM.out.lb, by rw [HGV.out]; exact HCP.out, HM.out.wro.keep hc3 (by decide), HM.out.tok.keep hc3 (by decide) (fun j => by omega), HM.out.hea.keep hc3 (by decide) (by decide) (fun j => ⟨by omega, by omega, by omega⟩), HM.out.lef.keep hc3 (by decide), hc3.ok⟩
    clear ho9 hg9 hc1 hc2 hc3 hnew q0 q1 q2 q3 z0 z1 z2 z3 x0 x1 x2 x3 w0 wl
    go_wp2_with fail
    go_ret
    exact ⟨rfl, by rw [HE.out]; exact HVM.out.below (Below.drew (Below.refl _ _)), HC3x.out.trans (Chg.below _ HC3x.out.ok (Below.drew (Below.refl _ _)))⟩

set_option maxRecDepth 100000 in
set_option maxHeartbeats 8000000 in
theorem askBring_any (X Y : Nat) (B k : Nat) (s : Vs) (t : Vt) (c RC : Cp) (RF : Int × Int) (lab : Nat → Nat) (w : World) (hm : Vm w lab B s t) (hc : t.copies[k]? = some c) (hz : Fz RF)
    (hdo : ∀ w1 v, Below w.heap.size w w1 → RdG txE w1 v c.recs → Calls Try.prog 58 #[cpV c v, .pointer (some ⟨X, 0, none⟩), .pointer (some ⟨Y, 0, none⟩)] w1 fun e w' => ∃ v', e = .returned (.tuple #[cpV RC v', flt RF]) ∧ w'.ownsRow w1.heap.size 9 1 v' RC.recs.length (txE.vs RC.recs) ∧ Below w1.heap.size w1 w') :
    Calls Try.prog 57 #[.pointer (some ⟨B, 0, none⟩), .int .i64 k, .func (.func 58) #[] #[.pointer (some ⟨X, 0, none⟩), .pointer (some ⟨Y, 0, none⟩)]] w fun e w' => e = .returned (.bool (decide (RF.1 = 0))) ∧ Vm w' lab B s (t.asked k RC RF) ∧ Chg 0 w w' lab lab (fun i => i = 2) := by
  have HM := hide hm
  obtain ⟨fs, hrow, hfl, his⟩ := hm.cop
  have hkl := (List.getElem?_eq_some_iff.1 hc).1
  obtain ⟨g, cap, cur, hgv, hgb, hgg, hgc1, hgc2, _⟩ := owns_pos hrow.1 (by omega)
  have hlg := hrow.2 g (by rw [hgv]; simp [Value.ownBlock])
  obtain ⟨f, hf⟩ : ∃ f, fs[k]? = some f := ⟨_, List.getElem?_eq_getElem (by omega)⟩
  obtain ⟨b', off', e', hb2, hat⟩ := (show RdG qfE w (.slice (some ⟨g, 0, none⟩) fs.length cap) fs from hgv ▸ RdG.ofOwns hrow.1).here hf
  cases e'
  obtain ⟨e1, e2, e3, hrd⟩ := his k f c hf hc
  obtain ⟨fep, fcl, fao, flen, fcap, fen⟩ := f
  simp only at e1 e2 e3 hrd
  have hfe : flen = c.recs.length := hrd.1.len.1
  subst e1 e2 e3 hfe
  have c0 := hat 0 _ rfl
  have c1 := hat 1 _ rfl
  have c2 := hat 2 _ rfl
  have c3 := hat 3 _ rfl
  simp only [Nat.zero_add, Nat.add_zero] at c0 c1 c2 c3
  have v0 := hm.blk.cell 0
  have vl := hm.blk.lt
  simp only [Vs.a, List.getElem?_toArray, List.getElem?_cons_zero] at v0
  rw [hgv] at v0
  have HD := hide (hdo w _ (Below.refl _ _) hrd.1)
  have HF := hide hf
  have HC0 := hide c0
  have HC1 := hide c1
  have HC2 := hide c2
  have HC3 := hide c3
  have HROW := hide (show w.ownsRow 0 24 4 (.slice (some ⟨g, 0, none⟩) fs.length cap) fs.length (qfE.vs fs) from hgv ▸ hrow.1)
  have HIS := hide his
  have HFL := hide hfl
  have HGV := hide hgv
  have HLG := hide hlg
  have HZ := hide hz
  have hk1 : (0 : Int) ≤ (k : Int) := by omega
  have hk2 : (k : Int) < (fs.length : Int) := by omega
  have hk3 : k < fs.length := by omega
  have HAS : Hid (t.asked k RC RF = if RF.1 = 0 then t.setCopy k RC else t) := hide rfl
  obtain ⟨rep, rcl, rl, ren⟩ := RC
  obtain ⟨fx, fy⟩ := RF
  clear hm hrow his hfl hgv hlg hat hf hz hdo hgg hc hrd
  unfold cpV flt at HD
  go_enter Try.func57, Try.ntmps57
  go_wp2_with fail
  refine HD.out.mono ?_
  rintro e w1 ⟨v1, rfl, ho1, hb1⟩
  obtain ⟨ao1, cap1, rfl⟩ := owns_shape ho1
  have HO1 := hide ho1
  have HBA := hide (hb1.trans ((below_alloc2 w1 (.cells #[.int .i64 rep, .bool rcl, .slice ao1 rl.length cap1, .int .i64 ren] 24) (.cells #[.int .i64 fx, .int .i64 fy] 29)).mono hb1.size))
  have HX := hide (Blk.at0of2 w1 (.cells #[.int .i64 fx, .int .i64 fy] 29) 24 #[.int .i64 rep, .bool rcl, .slice ao1 rl.length cap1, .int .i64 ren])
  have HO2 := hide ((ho1.alloc (.cells #[.int .i64 rep, .bool rcl, .slice ao1 rl.length cap1, .int .i64 ren] 24)).alloc (.cells #[.int .i64 fx, .int .i64 fy] 29))
  have hs1 := hb1.size
  clear c0 c1 c2 c3 ho1 hb1 HD
  by_cases hx : fx ≠ 0
  · have HE := hide (HAS.out.trans (if_neg hx))
    have hd : decide (fx = 0) = false := decide_eq_false hx
    have hq : (fx == 0) = false := beq_eq_false_iff_ne.2 hx
    have hq2 : (fx != 0) = true := by simp [hx]
    have HD2 := hide hd
    clear hx hd v0 vl
    go_wp2_with fail
    go_ret
    exact ⟨by rw [HD2.out]; rfl, by rw [HE.out]; exact HM.out.below HBA.out, Chg.below _ HM.out.ok HBA.out⟩
  · obtain rfl : fx = 0 := Decidable.not_not.1 hx
    obtain rfl : fy = 0 := by have := HZ.out rfl; simpa using this
    have HE := hide (HAS.out.trans (if_pos rfl))
    clear hx
    go_wp2_with fail
    generalize (w1.alloc (.cells #[.int .i64 rep, .bool rcl, .slice ao1 rl.length cap1, .int .i64 ren] 24)).alloc (.cells #[.int .i64 0, .int .i64 0] 29) = A at HBA HX HO2 ⊢
    have w0 := cell_belowG v0 HBA.out
    have wl := Nat.lt_of_lt_of_le vl HBA.out.size
    have x0 := HX.out.cell 0
    have x1 := HX.out.cell 1
    have x2 := HX.out.cell 2
    have x3 := HX.out.cell 3
    have xl := HX.out.lt
    simp at x0 x1 x2 x3
    have HROW2 := hide (owns_below (w' := A) HROW.out HBA.out)
    have HFK := hide (show fs[k]? = some ⟨c.ep, c.cl, fao, c.recs.length, fcap, c.en⟩ from HF.out)
    obtain ⟨_, _, _, q0, q1, q2, q3⟩ : ∃ b off e, A.cell? ⟨g, k * 4, none⟩ = some (.int .i64 c.ep) ∧ A.cell? ⟨g, k * 4 + 1, none⟩ = some (.bool c.cl) ∧ A.cell? ⟨g, k * 4 + 2, none⟩ = some (.slice fao c.recs.length fcap) ∧ A.cell? ⟨g, k * 4 + 3, none⟩ = some (.int .i64 c.en) := ⟨0, 0, 0, cell_belowG HC0.out HBA.out, cell_belowG HC1.out HBA.out, cell_belowG HC2.out HBA.out, cell_belowG HC3.out HBA.out⟩
    obtain ⟨_, _, cur2, hgv2, _, hgg2, _⟩ := owns_pos HROW2.out (by omega)
    cases hgv2
    have z0 := frozen_of_row A g (k * 4) _ _ hgg2
    have z1 := frozen_of_row A g (k * 4 + 1) _ _ hgg2
    have z2 := frozen_of_row A g (k * 4 + 2) _ _ hgg2
    have z3 := frozen_of_row A g (k * 4 + 3) _ _ hgg2
    have gl : g < A.heap.size := World.block_lt_of_cell? A _ q0
    clear v0 vl hgg2
    go_region
    obtain ⟨ho9, hg9⟩ := owns_set4 (c' := (⟨rep, rcl, ao1, rl.length, cap1, ren⟩ : Qf)) HROW2.out HFK.out rfl
    generalize (((A.setCell ⟨g, k * 4, none⟩ (.int .i64 rep)).setCell ⟨g, k * 4 + 1, none⟩ (.bool rcl)).setCell ⟨g, k * 4 + 2, none⟩ (.slice ao1 rl.length cap1)).setCell ⟨g, k * 4 + 3, none⟩ (.int .i64 ren) = W9 at *
    have hc1 : Chg 0 w A lab lab (fun i => i = 2) := Chg.below _ HM.out.ok HBA.out
    have hc2 : Chg 0 A W9 lab lab (fun i => i = 2) := Chg.grown hc1.ok hg9 HLG.out
    have hc3 := hc1.trans hc2
    have HC3x := hide hc3
    have hnew : Rd0 0 txE A lab (.slice ao1 rl.length cap1) rl := Rd0.new HM.out.ok HO2.out (Nat.le_refl _)
    have HCP := hide (CopM.set (cs := t.copies) (c' := ⟨rep, rcl, rl, ren⟩) HLG.out HFL.out HIS.out ho9 rfl hc3 (by decide) ⟨rfl, rfl, rfl, hnew.keep hc2 (by decide)⟩)
    have HVM : Hid (Vm W9 lab B s (t.setCopy k ⟨rep, rcl, rl, ren⟩)) := hide ⟨HM.out.blk.keep hc3 (by rw [HM.out.lb]; decide), HM.out.lb, by rw [HGV.out]; exact HCP.out, HM.out.wro.keep hc3 (by decide), HM.out.tok.keep hc3 (by decide) (fun j => by omega), HM.out.hea.keep hc3 (by decide) (by decide) (fun j => ⟨by omega, by omega, by omega⟩), HM.out.lef.keep hc3 (by decide), hc3.ok⟩
    clear ho9 hg9 hc1 hc2 hc3 hnew q0 q1 q2 q3 z0 z1 z2 z3 x0 x1 x2 x3 w0 wl
    go_wp2_with fail
    go_ret
    exact ⟨rfl, by rw [HE.out]; exact HVM.out.below (Below.drew (Below.refl _ _)), HC3x.out.trans (Chg.below _ HC3x.out.ok (Below.drew (Below.refl _ _)))⟩

end Go.Proofs.Ytopnjklloleomaa

/-
  Recoveries and lists of numbers that are written anew; the walk over the vault's bring.
-/
namespace Go.Proofs.Ytopnjklloleomaa
open Go.RowKit
set_option linter.unusedVariables false

/-- A block and a row are written. -/
theorem Chg.kp2 {w w' : World} {lab : Nat → Nat} {B i : Nat} {v v' : Value} {S : Nat → Prop} (hl : LbOk 0 w lab) (hv : ∀ g, v.ownBlock = some g → lab g = i) (h : Kp2 w w' B v.ownBlock) (hB : S (lab B)) (hS : S i)
    (hp : v'.ownBlock = v.ownBlock ∨ ∃ b, v'.ownBlock = some b ∧ w.heap.size ≤ b) (hlt : ∀ g, v'.ownBlock = some g → g < w'.heap.size) : Chg 0 w w' lab (labTo lab v'.ownBlock i) S := by
  refine ⟨h.os, h.tape, h.output, h.size, fun k hk hn => h.block k hk (fun q => hn (by rw [q]; exact hB)) (fun q => hn (by rw [hv k q.symm]; exact hS)), fun k hk => ?_, fun g hg => ?_⟩
  · unfold labTo
    split
    · rename_i q
      rcases hp with hp | ⟨b, hp, hb⟩
      · rw [hp] at q; exact (hv k q).symm
      · rw [hp] at q; cases q; omega
    · rfl
  · unfold labTo
    split
    · rename_i q
      have := hlt g q
      omega
    · exact hl g (Nat.le_trans h.size hg)

/-- One list of numbers is another one. -/
theorem TkM.set {w w' : World} {lab lab' : Nat → Nat} {S : Nat → Prop} {v : Value} {j : Nat} {ss : List Sl} {ls : List (List Int)} {s' : Sl} {l' : List Int}
    (h2 : ss.length = ls.length) (h3 : ∀ (j : Nat) s l, ss[j]? = some s → ls[j]? = some l → Row w lab (8 + 4 * j) 3 1 s.v l.length (iE.vs l))
    (hrow : Row w' lab' 3 53 1 v ss.length (ssE.vs (ss.set j s'))) (hc : Chg 0 w w' lab lab' S) (hS : ∀ i, i ≠ j → ¬ S (8 + 4 * i)) (hn : Row w' lab' (8 + 4 * j) 3 1 s'.v l'.length (iE.vs l')) : TkM w' lab' v (ls.set j l') := by
  refine ⟨ss.set j s', by rw [List.length_set]; exact hrow, by simp [h2], fun i s l hs hl => ?_⟩
  rw [List.getElem?_set] at hs hl
  by_cases hk : j = i
  · rw [if_pos hk] at hs hl
    split at hs
    · split at hl
      · cases hs; cases hl; rw [← hk]; exact hn
      · cases hl
    · cases hs
  · rw [if_neg hk] at hs hl
    exact (h3 i s l hs hl).keep hc (hS i (fun q => hk q.symm))

/-- One recovery is another one. -/
theorem HlM.set {w w' : World} {lab lab' : Nat → Nat} {S : Nat → Prop} {v : Value} {j : Nat} {hs : List Hf} {hl : List Hl} {h' : Hf} {a' : Hl}
    (h2 : hs.length = hl.length) (h3 : ∀ (j : Nat) h a, hs[j]? = some h → hl[j]? = some a → HlIs w lab j h a)
    (hrow : Row w' lab' 4 55 6 v hs.length (hfE.vs (hs.set j h'))) (hc : Chg 0 w w' lab lab' S) (h0 : ¬ S 0) (hS : ∀ i, i ≠ j → ¬ S (9 + 4 * i) ∧ ¬ S (10 + 4 * i) ∧ ¬ S (11 + 4 * i)) (hn : HlIs w' lab' j h' a') : HlM w' lab' v (hl.set j a') := by
  refine ⟨hs.set j h', by rw [List.length_set]; exact hrow, by simp [h2], fun i h a hh ha => ?_⟩
  rw [List.getElem?_set] at hh ha
  by_cases hk : j = i
  · rw [if_pos hk] at hh ha
    split at hh
    · split at ha
      · cases hh; cases ha; rw [← hk]; exact hn
      · cases ha
    · cases hh
  · rw [if_neg hk] at hh ha
    have := hS i (fun q => hk q.symm)
    exact (h3 i h a hh ha).keep hc h0 this.1 this.2.1 this.2.2

/-- A block that is a row of one's own, one place of it written anew. -/
theorem row_of_blk {α : Type} {K : Nat} {E : En α K} {w w' : World} {e : TypeId} {g n cap j k : Nat} {cs : List α} {c c' : α} {xs : Array Value} {u : Value}
    (h : w.ownsRow 0 e K (.slice (some ⟨g, 0, none⟩) n cap) n (E.vs cs)) (hx : Blk w g e xs) (hx2 : Blk w' g e (xs.setIfInBounds (j * K + k) u)) (hj : cs[j]? = some c) (hk : k < K) (hu : E.v c' = (E.v c).set k u) :
    w'.ownsRow 0 e K (.slice (some ⟨g, 0, none⟩) n cap) n (E.vs (cs.set j c')) := by
  have h1 := owns_setField h hj hk hu
  have h2 := hx.set (j * K + k) u
  refine ⟨h1.1, ?_⟩
  rcases h1.2 with ⟨q, _⟩ | ⟨g', cap', cur, hv, hb, hg, r⟩
  · cases q
  · cases hv
    refine .inr ⟨g, cap, cur, rfl, hb, ?_, r⟩
    unfold Blk at h2 hx2
    rw [h2] at hg
    rw [hx2]
    exact hg

theorem blk_of_row {w : World} {e : TypeId} {K : Nat} {g n cap : Nat} {xs : List Value} (h : w.ownsRow 0 e K (.slice (some ⟨g, 0, none⟩) n cap) n xs) : ∃ cur, Blk w g e cur ∧ (∀ (i : Nat) u, xs[i]? = some u → cur[i]? = some u) := by
  rcases h.2 with ⟨q, _⟩ | ⟨g', cap', cur, hv, hb, hg, h1, h2, h3, h4⟩
  · cases q
  · cases hv
    refine ⟨cur, hg, fun i u hu => ?_⟩
    rw [← h4, List.getElem?_take] at hu
    split at hu
    · rw [← Array.getElem?_toList]; exact hu
    · cases hu

/-- What a record that was brought leaves. -/
def Vt.brought (t : Vt) (who n : Nat) (c : Cp) (r : ByteArray) (l : List Int) : Vt :=
  if (appF c 1 n r).1 = 0 then { t.setCopy who (appC c 1 n r) with took := t.took.set n (putL l who) } else t

theorem appF_z (c : Cp) (e_ at_ : Int) (r : ByteArray) : Fz (appF c e_ at_ r) := by
  unfold appF
  split
  · exact epF_z
  · exact apF_z

/-- A number is put into the list of those that took a record. -/
theorem putTook {w : World} {lab : Nat → Nat} {B n : Nat} {s : Vs} {t : Vt} {l : List Int} {who : Int} (hm : Vm w lab B s t) (hn : t.took[n]? = some l) (hl : l.length ≤ 1000000) :
    ∃ g cap, s.tv.v = .slice (some ⟨g, 0, none⟩) t.took.length cap ∧ Calls Try.prog 59 #[.pointer (some ⟨g, n, none⟩), .int .i64 who] w fun e w' => ∃ lab', e = .returned (.bool (!decide (who ∈ l))) ∧ Vm w' lab' B s { t with took := t.took.set n (putL l who) } ∧ Chg 0 w w' lab lab' (fun i => i = 3 ∨ i = 8 + 4 * n) := by
  obtain ⟨ss, hrow, hlen, hss⟩ := hm.tok
  have hnl := (List.getElem?_eq_some_iff.1 hn).1
  obtain ⟨s0, hs0⟩ : ∃ x, ss[n]? = some x := ⟨_, List.getElem?_eq_getElem (by omega)⟩
  obtain ⟨g, cap, cur0, hgv, _⟩ := owns_pos hrow.1 (by omega)
  rw [hgv] at hrow
  obtain ⟨cur, hblk, hcur⟩ := blk_of_row hrow.1
  have hlg : lab g = 3 := hrow.2 g (by simp [Value.ownBlock])
  have hr0 := hss n s0 l hs0 hn
  have hc0 : cur[n]? = some s0.v := hcur n _ (by
    have := vs_get (E := ssE) ss n (by omega) 0 (by decide)
    rw [Nat.mul_one, Nat.add_zero] at this
    rw [this, ← (List.getElem?_eq_some_iff.1 hs0).2]
    rfl)
  refine ⟨g, cap, by rw [hgv, hlen], ?_⟩
  refine (putOnce_any g n 53 cur s0.v 0 l who w hblk hc0 (by decide) hr0.1 hl (Nat.zero_le _)).mono ?_
  rintro e w' ⟨v', rfl, hB', ho', hkp, hat⟩
  obtain ⟨ao', cap', hv'⟩ := owns_shapeK ho'
  have hch : Chg 0 w w' lab (labTo lab v'.ownBlock (8 + 4 * n)) (fun i => i = 3 ∨ i = 8 + 4 * n) := Chg.kp2 hm.ok hr0.2 hkp (.inl hlg) (.inr rfl) hat (ownBlock_lt ho')
  have hrow' : w'.ownsRow 0 53 1 (.slice (some ⟨g, 0, none⟩) ss.length cap) ss.length (ssE.vs (ss.set n ⟨ao', (putL l who).length, cap'⟩)) :=
    row_of_blk (c := s0) (u := v') (k := 0) hrow.1 hblk (by rw [Nat.mul_one, Nat.add_zero]; exact hB') hs0 (by decide) (by rw [hv']; rfl)
  refine ⟨_, rfl, ⟨hm.blk.keep hch (by rw [hm.lb]; omega), (hch.labs B hm.blk.lt).trans hm.lb, hm.cop.keep hch (by omega) (by omega), hm.wro.keep hch (by omega), ?_, hm.hea.keep hch (by omega) (by omega) (fun j => ⟨by omega, by omega, by omega⟩), hm.lef.keep hch (by omega), hch.ok⟩, hch⟩
  rw [hgv]
  refine TkM.set hlen hss ⟨hrow', fun b hb => ?_⟩ hch (fun i hi => by omega) (s' := ⟨ao', (putL l who).length, cap'⟩) ?_
  · simp only [Value.ownBlock, Option.some.injEq] at hb
    subst hb
    exact (hch.labs _ hblk.lt).trans hlg
  · have := Row.grew (lab := lab) (i := 8 + 4 * n) ho'
    rw [hv'] at this ⊢
    exact this

/-- A number is put into a list of a recovery. -/
theorem putHeard {w : World} {lab : Nat → Nat} {B j : Nat} {s : Vs} {t : Vt} {a : Hl} {who : Int} (hm : Vm w lab B s t) (hj : t.heals[j]? = some a) (hl : a.heard.length ≤ 1000000) :
    ∃ g cap, s.hv.v = .slice (some ⟨g, 0, none⟩) t.heals.length cap ∧ Calls Try.prog 59 #[.pointer (some ⟨g, j * 6 + 1, none⟩), .int .i64 who] w fun e w' => ∃ lab', e = .returned (.bool (!decide (who ∈ a.heard))) ∧ Vm w' lab' B s { t with heals := t.heals.set j { a with heard := putL a.heard who } } ∧ Chg 0 w w' lab lab' (fun i => i = 4 ∨ i = 9 + 4 * j) := by
  obtain ⟨hs, hrow, hlen, hss⟩ := hm.hea
  have hnl := (List.getElem?_eq_some_iff.1 hj).1
  obtain ⟨h0, hs0⟩ : ∃ x, hs[j]? = some x := ⟨_, List.getElem?_eq_getElem (by omega)⟩
  obtain ⟨g, cap, cur0, hgv, _⟩ := owns_pos hrow.1 (by omega)
  rw [hgv] at hrow
  obtain ⟨cur, hblk, hcur⟩ := blk_of_row hrow.1
  have hlg : lab g = 4 := hrow.2 g (by simp [Value.ownBlock])
  have his := hss j h0 a hs0 hj
  obtain ⟨i1, i2, i3, i4, i5, i6⟩ := his
  have hc0 : cur[j * 6 + 1]? = some h0.hd.v := hcur _ _ (by
    have := vs_get (E := hfE) hs j (by omega) 1 (by decide)
    rw [this, ← (List.getElem?_eq_some_iff.1 hs0).2]
    rfl)
  refine ⟨g, cap, by rw [hgv, hlen], ?_⟩
  refine (putOnce_any g (j * 6 + 1) 55 cur h0.hd.v 0 a.heard who w hblk hc0 (by decide) i3.1 hl (Nat.zero_le _)).mono ?_
  rintro e w' ⟨v', rfl, hB', ho', hkp, hat⟩
  obtain ⟨ao', cap', hv'⟩ := owns_shapeK ho'
  have hch : Chg 0 w w' lab (labTo lab v'.ownBlock (9 + 4 * j)) (fun i => i = 4 ∨ i = 9 + 4 * j) := Chg.kp2 hm.ok i3.2 hkp (.inl hlg) (.inr rfl) hat (ownBlock_lt ho')
  have hrow' : w'.ownsRow 0 55 6 (.slice (some ⟨g, 0, none⟩) hs.length cap) hs.length (hfE.vs (hs.set j { h0 with hd := ⟨ao', (putL a.heard who).length, cap'⟩ })) :=
    row_of_blk (c := h0) (u := v') (k := 1) hrow.1 hblk hB' hs0 (by decide) (by rw [hv']; rfl)
  have hnew := Row.grew (lab := lab) (i := 9 + 4 * j) ho'
  refine ⟨_, rfl, ⟨hm.blk.keep hch (by rw [hm.lb]; omega), (hch.labs B hm.blk.lt).trans hm.lb, hm.cop.keep hch (by omega) (by omega), hm.wro.keep hch (by omega), hm.tok.keep hch (by omega) (fun j => by omega), ?_, hm.lef.keep hch (by omega), hch.ok⟩, hch⟩
  rw [hgv]
  rw [hv'] at hnew hch ⊢
  refine HlM.set hlen hss ⟨hrow', fun b hb => ?_⟩ hch (by omega) (fun i hi => ⟨by omega, by omega, by omega⟩) ?_
  · simp only [Value.ownBlock, Option.some.injEq] at hb
    subst hb
    exact (hch.labs _ hblk.lt).trans hlg
  · exact ⟨i1, i2, hnew, i4.keep hch (by omega) (by omega), i5.keep hch (by omega), i6.keep hch (by omega)⟩

/-- A number is put into a list of a recovery. -/
theorem putEnds {w : World} {lab : Nat → Nat} {B j : Nat} {s : Vs} {t : Vt} {a : Hl} {who : Int} (hm : Vm w lab B s t) (hj : t.heals[j]? = some a) (hl : a.ends.length ≤ 1000000) :
    ∃ g cap, s.hv.v = .slice (some ⟨g, 0, none⟩) t.heals.length cap ∧ Calls Try.prog 59 #[.pointer (some ⟨g, j * 6 + 5, none⟩), .int .i64 who] w fun e w' => ∃ lab', e = .returned (.bool (!decide (who ∈ a.ends))) ∧ Vm w' lab' B s { t with heals := t.heals.set j { a with ends := putL a.ends who } } ∧ Chg 0 w w' lab lab' (fun i => i = 4 ∨ i = 11 + 4 * j) := by
  obtain ⟨hs, hrow, hlen, hss⟩ := hm.hea
  have hnl := (List.getElem?_eq_some_iff.1 hj).1
  obtain ⟨h0, hs0⟩ : ∃ x, hs[j]? = some x := ⟨_, List.getElem?_eq_getElem (by omega)⟩
  obtain ⟨g, cap, cur0, hgv, _⟩ := owns_pos hrow.1 (by omega)
  rw [hgv] at hrow
  obtain ⟨cur, hblk, hcur⟩ := blk_of_row hrow.1
  have hlg : lab g = 4 := hrow.2 g (by simp [Value.ownBlock])
  have his := hss j h0 a hs0 hj
  obtain ⟨i1, i2, i3, i4, i5, i6⟩ := his
  have hc0 : cur[j * 6 + 5]? = some h0.en.v := hcur _ _ (by
    have := vs_get (E := hfE) hs j (by omega) 5 (by decide)
    rw [this, ← (List.getElem?_eq_some_iff.1 hs0).2]
    rfl)
  refine ⟨g, cap, by rw [hgv, hlen], ?_⟩
  refine (putOnce_any g (j * 6 + 5) 55 cur h0.en.v 0 a.ends who w hblk hc0 (by decide) i6.1 hl (Nat.zero_le _)).mono ?_
  rintro e w' ⟨v', rfl, hB', ho', hkp, hat⟩
  obtain ⟨ao', cap', hv'⟩ := owns_shapeK ho'
  have hch : Chg 0 w w' lab (labTo lab v'.ownBlock (11 + 4 * j)) (fun i => i = 4 ∨ i = 11 + 4 * j) := Chg.kp2 hm.ok i6.2 hkp (.inl hlg) (.inr rfl) hat (ownBlock_lt ho')
  have hrow' : w'.ownsRow 0 55 6 (.slice (some ⟨g, 0, none⟩) hs.length cap) hs.length (hfE.vs (hs.set j { h0 with en := ⟨ao', (putL a.ends who).length, cap'⟩ })) :=
    row_of_blk (c := h0) (u := v') (k := 5) hrow.1 hblk hB' hs0 (by decide) (by rw [hv']; rfl)
  have hnew := Row.grew (lab := lab) (i := 11 + 4 * j) ho'
  refine ⟨_, rfl, ⟨hm.blk.keep hch (by rw [hm.lb]; omega), (hch.labs B hm.blk.lt).trans hm.lb, hm.cop.keep hch (by omega) (by omega), hm.wro.keep hch (by omega), hm.tok.keep hch (by omega) (fun j => by omega), ?_, hm.lef.keep hch (by omega), hch.ok⟩, hch⟩
  rw [hgv]
  rw [hv'] at hnew hch ⊢
  refine HlM.set hlen hss ⟨hrow', fun b hb => ?_⟩ hch (by omega) (fun i hi => ⟨by omega, by omega, by omega⟩) ?_
  · simp only [Value.ownBlock, Option.some.injEq] at hb
    subst hb
    exact (hch.labs _ hblk.lt).trans hlg
  · exact ⟨i1, i2, i3.keep hch (by omega), i4.keep hch (by omega) (by omega), i5.keep hch (by omega), hnew⟩

end Go.Proofs.Ytopnjklloleomaa
