/-
  Cells, and lists of cells, as values and in memory. Nothing of a program stands here.
-/
import Derived.Test.YtlebbkbbmgmmjadBase2
namespace Go.Proofs.Ytlebbkbbmgmmjad
open Go.RowKit

theorem below_alloc' (w : World) (o : Obj) : Below w.heap.size w (w.alloc o) := (Below.refl _ _).alloc (Nat.le_refl _) o

/-- A cell of a table. -/
structure Cl where
  row : ByteArray
  col : ByteArray
  time : Int
  gone : Bool
  val : ByteArray

/-- A cell's five places in memory. -/
def cv (c : Cl) : List Value := [.string c.row, .string c.col, .int .i64 c.time, .bool c.gone, .string c.val]
/-- A cell as a value. -/
def cA (c : Cl) : Value := .agg #[.string c.row, .string c.col, .int .i64 c.time, .bool c.gone, .string c.val]
/-- A list's places in memory. -/
def cc (cs : List Cl) : List Value := cs.flatMap cv
/-- The cell without anything. -/
def zeroC : Cl := ⟨⟨#[]⟩, ⟨#[]⟩, 0, false, ⟨#[]⟩⟩

theorem cc_nil : cc [] = [] := rfl
theorem cc_cons (c : Cl) (cs : List Cl) : cc (c :: cs) = cv c ++ cc cs := rfl
theorem cc_append (a b : List Cl) : cc (a ++ b) = cc a ++ cc b := by simp [cc]
theorem cc_length : ∀ cs : List Cl, (cc cs).length = cs.length * 5
  | [] => rfl
  | c :: cs => by rw [cc_cons, List.length_append, cc_length cs]; simp [cv]; omega

theorem cc_one (cs : List Cl) : ∀ u ∈ cc cs, u.oneCell' = true := by
  intro u hu
  simp only [cc, List.mem_flatMap] at hu
  obtain ⟨c, _, hu⟩ := hu
  simp only [cv, List.mem_cons, List.not_mem_nil, or_false] at hu
  rcases hu with rfl | rfl | rfl | rfl | rfl <;> rfl

theorem cc_get : ∀ (cs : List Cl) (j : Nat) (h : j < cs.length) (k : Nat), k < 5 → (cc cs)[j * 5 + k]? = (cv cs[j])[k]?
  | [], j, h, _, _ => by simp at h
  | c :: cs, 0, h, k, hk => by
    rw [cc_cons, List.getElem?_append_left (by simp [cv]; omega)]
    simp
  | c :: cs, j + 1, h, k, hk => by
    rw [cc_cons, List.getElem?_append_right (by simp [cv]; omega)]
    have ih := cc_get cs j (by simpa using h) k hk
    have e : (j + 1) * 5 + k - (cv c).length = j * 5 + k := by simp [cv]; omega
    rw [e, ih]
    simp

theorem cc_drop : ∀ (cs : List Cl) (k : Nat), (cc cs).drop (k * 5) = cc (cs.drop k)
  | cs, 0 => by simp
  | [], k + 1 => by simp [cc]
  | c :: cs, k + 1 => by
    rw [cc_cons, List.drop_append, List.drop_of_length_le (by simp [cv]; omega)]
    simp only [List.drop_succ_cons, List.nil_append]
    rw [← cc_drop cs k]
    congr 1
    simp [cv]
    omega

theorem cc_take : ∀ (cs : List Cl) (k : Nat), (cc cs).take (k * 5) = cc (cs.take k)
  | cs, 0 => by simp [cc]
  | [], k + 1 => by simp [cc]
  | c :: cs, k + 1 => by
    rw [cc_cons, List.take_append, List.take_of_length_le (by simp [cv]; omega)]
    simp only [List.take_succ_cons, cc_cons]
    rw [← cc_take cs k]
    congr 2
    simp [cv]
    omega

/-- The slice v reads as the cells cs. -/
def RdC (w : World) (v : Value) (cs : List Cl) : Prop :=
  ∃ ao cap, v = .slice ao cs.length cap ∧ cs.length ≤ cap ∧ cap ≤ maxLen ∧ (ao = none → cap = 0) ∧ ∀ a, ao = some a → ∀ j u, (cc cs)[j]? = some u → w.cell? (a.add j) = some u

theorem RdC.nil (w : World) : RdC w (.slice none 0 0) [] := ⟨none, 0, rfl, Nat.le_refl _, Nat.zero_le _, fun _ => rfl, fun a h => by cases h⟩

theorem RdC.ofOwns {w : World} {base : Nat} {e : TypeId} {v : Value} {n : Nat} {cs : List Cl} (h : w.ownsRow base e 5 v n (cc cs)) : RdC w v cs := by
  have hl : cs.length = n := by have := h.1; rw [cc_length] at this; omega
  rcases h.2 with ⟨rfl, hn⟩ | ⟨g, cap, cur, rfl, hb, hg, hnc, hcm, hcs, htake⟩
  · have : cs = [] := List.eq_nil_of_length_eq_zero (by omega)
    subst this
    exact RdC.nil w
  · refine ⟨some ⟨g, 0, none⟩, cap, by rw [hl], (by omega), hcm, (fun h => by cases h), fun a ha j u hu => ?_⟩
    cases ha
    exact h.cells (by simp [Value.ownBlock]) j u hu

theorem RdC.below {w w' : World} {v : Value} {cs : List Cl} (h : RdC w v cs) (hb : Below w.heap.size w w') : RdC w' v cs := by
  obtain ⟨ao, cap, hv, h1, h2, h3, h4⟩ := h
  refine ⟨ao, cap, hv, h1, h2, h3, fun a ha j u hu => ?_⟩
  have hc := h4 a ha j u hu
  have hlt := World.block_lt_of_cell? w _ hc
  rw [hb.cell hlt]
  exact hc

theorem RdC.drew {w : World} {v : Value} {cs : List Cl} (h : RdC w v cs) : RdC w.drew v cs := h
theorem RdC.drewN {w : World} {v : Value} {cs : List Cl} (h : RdC w v cs) (n : Nat) : RdC (w.drewN n) v cs := h
theorem RdC.alloc {w : World} {v : Value} {cs : List Cl} (h : RdC w v cs) (o : Obj) : RdC (w.alloc o) v cs := h.below ((Below.refl _ _).alloc (Nat.le_refl _) o)

theorem RdC.shape {w : World} {v : Value} {cs : List Cl} (h : RdC w v cs) : ∃ ao cap, v = .slice ao cs.length cap ∧ cs.length ≤ cap ∧ cap ≤ maxLen := by
  obtain ⟨ao, cap, hv, h1, h2, _⟩ := h
  exact ⟨ao, cap, hv, h1, h2⟩

/-- Where the cells lie, five places each. -/
theorem RdC.open {w : World} {v : Value} {cs : List Cl} (h : RdC w v cs) :
    ∃ ao cap, v = .slice ao cs.length cap ∧ cs.length ≤ cap ∧ cap ≤ maxLen ∧ ∀ j, (hj : j < cs.length) → ∃ b off, ao = some ⟨b, off, none⟩ ∧ b < w.heap.size ∧ ∀ i, (hi : i < cs.length) → ∀ k, k < 5 → w.cell? ⟨b, off + i * 5 + k, none⟩ = (cv cs[i])[k]? := by
  obtain ⟨ao, cap, hv, h1, h2, h3, h4⟩ := h
  refine ⟨ao, cap, hv, h1, h2, fun j hj => ?_⟩
  cases ao with
  | none => have := h3 rfl; omega
  | some a =>
    have hl : 0 < (cc cs).length := by rw [cc_length]; omega
    have h0 := h4 a rfl 0 (cc cs)[0] (by simp)
    obtain ⟨b, o, rfl⟩ := add_spot h0
    refine ⟨b, o, rfl, World.block_lt_of_cell? w _ h0, fun i hi k hk => ?_⟩
    have hg := cc_get cs i hi k hk
    have hs : (cv cs[i])[k]? = some ((cv cs[i])[k]'(by simp [cv]; omega)) := List.getElem?_eq_getElem _
    have := h4 _ rfl (i * 5 + k) _ (hg.trans hs)
    rw [Addr.add_lit] at this
    rw [Nat.add_assoc, this, hs]

/-- The five places of one cell. -/
structure At (w : World) (b off : Nat) (c : Cl) : Prop where
  c0 : w.cell? ⟨b, off, none⟩ = some (.string c.row)
  c1 : w.cell? ⟨b, off + 1, none⟩ = some (.string c.col)
  c2 : w.cell? ⟨b, off + 2, none⟩ = some (.int .i64 c.time)
  c3 : w.cell? ⟨b, off + 3, none⟩ = some (.bool c.gone)
  c4 : w.cell? ⟨b, off + 4, none⟩ = some (.string c.val)

theorem At.lt {w : World} {b off : Nat} {c : Cl} (h : At w b off c) : b < w.heap.size := World.block_lt_of_cell? w _ h.c0

theorem At.below {w w' : World} {b off : Nat} {c : Cl} (h : At w b off c) (hb : Below w.heap.size w w') : At w' b off c := by
  have hl := h.lt
  exact ⟨(hb.cell hl).trans h.c0, (hb.cell hl).trans h.c1, (hb.cell hl).trans h.c2, (hb.cell hl).trans h.c3, (hb.cell hl).trans h.c4⟩

theorem RdC.at {w : World} {v : Value} {cs : List Cl} (h : RdC w v cs) :
    ∃ ao cap, v = .slice ao cs.length cap ∧ cs.length ≤ cap ∧ cap ≤ maxLen ∧ ∀ j, (hj : j < cs.length) → ∃ b off, ao = some ⟨b, off, none⟩ ∧ b < w.heap.size ∧ ∀ i, (hi : i < cs.length) → At w b (off + i * 5) cs[i] := by
  obtain ⟨ao, cap, hv, h1, h2, h3⟩ := h.open
  refine ⟨ao, cap, hv, h1, h2, fun j hj => ?_⟩
  obtain ⟨b, off, ha, hb, hc⟩ := h3 j hj
  exact ⟨b, off, ha, hb, fun i hi => ⟨hc i hi 0 (by omega), hc i hi 1 (by omega), hc i hi 2 (by omega), hc i hi 3 (by omega), hc i hi 4 (by omega)⟩⟩

theorem RdC.setNew {w : World} {v : Value} {cs : List Cl} {B : Nat} (h : RdC w v cs) (hn : New B v) {p : Addr} (hp : p.block < B) (u : Value) : RdC (w.setCell p u) v cs := by
  obtain ⟨ao, cap, hv, h1, h2, h3, h4⟩ := h
  refine ⟨ao, cap, hv, h1, h2, h3, fun a ha j x hx => ?_⟩
  have hc := h4 a ha j x hx
  have e : (a.add j).block = a.block := by unfold Addr.add; split <;> rfl
  have hb : B ≤ a.block := hn a _ _ (by rw [hv, ha])
  rw [← hc]
  exact World.cell?_of_block (heap_setCell_other w p _ u (by rw [e]; omega))

theorem RdC.new (w : World) (c : Cl) (e : TypeId) : RdC (w.alloc (.cells #[.string c.row, .string c.col, .int .i64 c.time, .bool c.gone, .string c.val] e)) (.slice (some ⟨w.heap.size, 0, none⟩) 1 1) [c] :=
  ⟨some ⟨w.heap.size, 0, none⟩, 1, rfl, Nat.le_refl _, by decide, (fun h => by cases h), fun a ha j v hv => by
    cases ha
    rw [cc_cons, cc_nil, List.append_nil] at hv
    rw [Addr.add_lit, Nat.zero_add, ← hv]
    have := cell_of_row (w.alloc (.cells #[.string c.row, .string c.col, .int .i64 c.time, .bool c.gone, .string c.val] e)) w.heap.size j _ e (0, 0) (heap_alloc_new w _)
    rw [this]
    simp [cv]⟩

/-- 'append(out, xs...)' of cells, out the call's own. -/
theorem wpList_append_rdC {P : Program} {w : World} {ops : Array Oper} {rest : List Oper} {o : Oper} {a : Act} {Q : Exit → Act → World → Prop} {s x : Operand} {t : TypeId} {base : Nat} {e : TypeId} {z : Value} {bytes : Nat}
    {v : Value} {n : Nat} {cs : List Cl} {vx : Value} {news : List Cl}
    (hown : w.ownsRow base e 5 v n (cc cs)) (hrd : RdC w vx news)
    (ht : P.underlying t = some (.slice e)) (hinf : (P.info? e).map (fun i => (i.zero, i.size, i.bytes)) = some (some z, 5, bytes)) (hzs : z.cells.size = 5)
    (hgd : o.guard = none) (ho : o.op = .call { callee := .builtin .append, args := #[s, x], argTypes := #[t, t] })
    (hs : a.eval s = v) (hx : a.eval x = vx)
    (h63 : n + news.length ≤ 1000000000) (hbytes : bytes ≤ 64) (hbase : base ≤ w.heap.size)
    (h : ∀ v' w', w'.ownsRow base e 5 v' (n + news.length) (cc (cs ++ news)) → Below base w w' → w.grownBy w' v.ownBlock → wpList P ops Q rest (a.put o.dst v') w') : wpList P ops Q (o :: rest) a w := by
  obtain ⟨i, hi, hz, hsize, hby⟩ := info_parts hinf
  have hlt := hown.lt
  have hbytes' : (n + news.length) * bytes ≤ 1000000000 * 64 := Nat.mul_le_mul h63 hbytes
  obtain ⟨ao, cap, hvx, h2, h3, h4, h5⟩ := hrd
  cases ao with
  | none =>
    have hc := h4 rfl
    have hnews : news = [] := List.eq_nil_of_length_eq_zero (by omega)
    subst hnews
    subst hc
    refine wpList_append_own_none hgd s x t ho base e i 5 ht hi v n (cc cs) hs hown (hx.trans hvx) ?_
    exact h v w (by simpa using hown) (Below.refl _ _) (World.grownBy.refl _ _)
  | some ad =>
    refine wpList_append_own w hgd s x t ho base e i z 5 bytes ht hi hz hsize hby hzs (by decide) v n (cc cs) hs hown ad news.length cap (cc news) (hx.trans hvx) (cc_length _) (h5 ad rfl) (cc_one _) (by simp [maxLen]; omega) (by omega) hbase ?_
    intro v' w' ho' hg' _
    rw [← cc_append] at ho'
    exact h v' w' ho' ((Below.refl _ _).grown hg' hbase (fun k hk => (hlt k hk).1)) hg'

/-- 'append(out, c)' of a cell that was laid in a block of its own just ahead. -/
theorem wpList_append_oneC {P : Program} {w : World} {c : Cl} {ops : Array Oper} {rest : List Oper} {o : Oper} {a : Act} {Q : Exit → Act → World → Prop} {s x : Operand} {t : TypeId} {base : Nat} {e : TypeId} {z : Value} {bytes : Nat}
    {v : Value} {n : Nat} {cs : List Cl}
    (hown : w.ownsRow base e 5 v n (cc cs))
    (ht : P.underlying t = some (.slice e)) (hinf : (P.info? e).map (fun i => (i.zero, i.size, i.bytes)) = some (some z, 5, bytes)) (hzs : z.cells.size = 5)
    (hgd : o.guard = none) (ho : o.op = .call { callee := .builtin .append, args := #[s, x], argTypes := #[t, t] })
    (hs : a.eval s = v) (hx : a.eval x = .slice (some ⟨w.heap.size, 0, none⟩) 1 1)
    (h63 : n ≤ 100000000) (hbytes : bytes ≤ 64) (hbase : base ≤ w.heap.size)
    (h : ∀ v' w', w'.ownsRow base e 5 v' (n + 1) (cc (cs ++ [c])) → Below base w w' → w.grownBy w' v.ownBlock → wpList P ops Q rest (a.put o.dst v') w') : wpList P ops Q (o :: rest) a (w.alloc (.cells #[.string c.row, .string c.col, .int .i64 c.time, .bool c.gone, .string c.val] e)) := by
  refine wpList_append_rdC (hown.alloc _) (RdC.new _ c _) ht hinf hzs hgd ho hs hx (by simp; omega) hbytes (by simp; omega) ?_
  intro v' w' h2 h3 h4
  refine h v' w' h2 (((Below.refl _ _).alloc hbase _).trans h3) ⟨h4.os, h4.tape, h4.output, ?_, fun k hk hne => ?_⟩
  · have := h4.size; simp at this; omega
  · rw [h4.block k (by simp; omega) hne, Below.heap_alloc _ _ _ hk]

theorem RdC.hereD {w : World} {ao : Option Addr} {n cap : Nat} {cs : List Cl} (h : RdC w (.slice ao n cap) cs) {i : Nat} {c : Cl} (hi : cs[i]? = some c) :
    ∃ b off, ao = some ⟨b, off, none⟩ ∧ b < w.heap.size ∧ At w b (off + i * 5) c := by
  obtain ⟨ao', cap', hv, _, _, hat⟩ := h.at
  simp only [Value.slice.injEq] at hv
  obtain ⟨rfl, _, _⟩ := hv
  obtain ⟨hl, e⟩ := List.getElem?_eq_some_iff.1 hi
  obtain ⟨b, off, ha, hb, hc⟩ := hat i hl
  exact ⟨b, off, ha, hb, e ▸ hc i hl⟩

end Go.Proofs.Ytlebbkbbmgmmjad
