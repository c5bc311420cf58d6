/-
  Texts joined: CellBase, FrameC, FrameS, FrameCp.
-/
import Derived.Test.YtopnjklloleomaaMSealDoes8
import Derived.Lib.SmallJoins
/-
  Cells, and lists of cells, as values and in memory. Nothing of a program stands here.
-/
namespace Go.Proofs.Ytopnjklloleomaa
open Go.RowKit

theorem below_alloc' (w : World) (o : Obj) : Below w.heap.size w (w.alloc o) := (Below.refl _ _).alloc (Nat.le_refl _) o

/-- A cell of a table. -/
structure Cl where
  row : ByteArray
  col : ByteArray
  time : Int
  gone : Bool
  val : ByteArray

/-- A cell's five places in memory. -/
def cv (c : Cl) : List Value := [.string c.row, .string c.col, .int .i64 c.time, .bool c.gone, .string c.val]
/-- A cell as a value. -/
def cA (c : Cl) : Value := .agg #[.string c.row, .string c.col, .int .i64 c.time, .bool c.gone, .string c.val]
/-- A list's places in memory. -/
def cc (cs : List Cl) : List Value := cs.flatMap cv
/-- The cell without anything. -/
def zeroC : Cl := ⟨⟨#[]⟩, ⟨#[]⟩, 0, false, ⟨#[]⟩⟩

theorem cc_nil : cc [] = [] := rfl
theorem cc_cons (c : Cl) (cs : List Cl) : cc (c :: cs) = cv c ++ cc cs := rfl
theorem cc_append (a b : List Cl) : cc (a ++ b) = cc a ++ cc b := by simp [cc]
theorem cc_length : ∀ cs : List Cl, (cc cs).length = cs.length * 5
  | [] => rfl
  | c :: cs => by rw [cc_cons, List.length_append, cc_length cs]; simp [cv]; omega

theorem cc_one (cs : List Cl) : ∀ u ∈ cc cs, u.oneCell' = true := by
  intro u hu
  simp only [cc, List.mem_flatMap] at hu
  obtain ⟨c, _, hu⟩ := hu
  simp only [cv, List.mem_cons, List.not_mem_nil, or_false] at hu
  rcases hu with rfl | rfl | rfl | rfl | rfl <;> rfl

theorem cc_get : ∀ (cs : List Cl) (j : Nat) (h : j < cs.length) (k : Nat), k < 5 → (cc cs)[j * 5 + k]? = (cv cs[j])[k]?
  | [], j, h, _, _ => by simp at h
  | c :: cs, 0, h, k, hk => by
    rw [cc_cons, List.getElem?_append_left (by simp [cv]; omega)]
    simp
  | c :: cs, j + 1, h, k, hk => by
    rw [cc_cons, List.getElem?_append_right (by simp [cv]; omega)]
    have ih := cc_get cs j (by simpa using h) k hk
    have e : (j + 1) * 5 + k - (cv c).length = j * 5 + k := by simp [cv]; omega
    rw [e, ih]
    simp

theorem cc_drop : ∀ (cs : List Cl) (k : Nat), (cc cs).drop (k * 5) = cc (cs.drop k)
  | cs, 0 => by simp
  | [], k + 1 => by simp [cc]
  | c :: cs, k + 1 => by
    rw [cc_cons, List.drop_append, List.drop_of_length_le (by simp [cv]; omega)]
    simp only [List.drop_succ_cons, List.nil_append]
    rw [← cc_drop cs k]
    congr 1
    simp [cv]
    omega

theorem cc_take : ∀ (cs : List Cl) (k : Nat), (cc cs).take (k * 5) = cc (cs.take k)
  | cs, 0 => by simp [cc]
  | [], k + 1 => by simp [cc]
  | c :: cs, k + 1 => by
    rw [cc_cons, List.take_append, List.take_of_length_le (by simp [cv]; omega)]
    simp only [List.take_succ_cons, cc_cons]
    rw [← cc_take cs k]
    congr 2
    simp [cv]
    omega

/-- The slice v reads as the cells cs. -/
def RdC (w : World) (v : Value) (cs : List Cl) : Prop :=
  ∃ ao cap, v = .slice ao cs.length cap ∧ cs.length ≤ cap ∧ cap ≤ maxLen ∧ (ao = none → cap = 0) ∧ ∀ a, ao = some a → ∀ j u, (cc cs)[j]? = some u → w.cell? (a.add j) = some u

theorem RdC.nil (w : World) : RdC w (.slice none 0 0) [] := ⟨none, 0, rfl, Nat.le_refl _, Nat.zero_le _, fun _ => rfl, fun a h => by cases h⟩

theorem RdC.ofOwns {w : World} {base : Nat} {e : TypeId} {v : Value} {n : Nat} {cs : List Cl} (h : w.ownsRow base e 5 v n (cc cs)) : RdC w v cs := by
  have hl : cs.length = n := by have := h.1; rw [cc_length] at this; omega
  rcases h.2 with ⟨rfl, hn⟩ | ⟨g, cap, cur, rfl, hb, hg, hnc, hcm, hcs, htake⟩
  · have : cs = [] := List.eq_nil_of_length_eq_zero (by omega)
    subst this
    exact RdC.nil w
  · refine ⟨some ⟨g, 0, none⟩, cap, by rw [hl], (by omega), hcm, (fun h => by cases h), fun a ha j u hu => ?_⟩
    cases ha
    exact h.cells (by simp [Value.ownBlock]) j u hu

theorem RdC.below {w w' : World} {v : Value} {cs : List Cl} (h : RdC w v cs) (hb : Below w.heap.size w w') : RdC w' v cs := by
  obtain ⟨ao, cap, hv, h1, h2, h3, h4⟩ := h
  refine ⟨ao, cap, hv, h1, h2, h3, fun a ha j u hu => ?_⟩
  have hc := h4 a ha j u hu
  have hlt := World.block_lt_of_cell? w _ hc
  rw [hb.cell hlt]
  exact hc

theorem RdC.drew {w : World} {v : Value} {cs : List Cl} (h : RdC w v cs) : RdC w.drew v cs := h
theorem RdC.drewN {w : World} {v : Value} {cs : List Cl} (h : RdC w v cs) (n : Nat) : RdC (w.drewN n) v cs := h
theorem RdC.alloc {w : World} {v : Value} {cs : List Cl} (h : RdC w v cs) (o : Obj) : RdC (w.alloc o) v cs := h.below ((Below.refl _ _).alloc (Nat.le_refl _) o)

theorem RdC.shape {w : World} {v : Value} {cs : List Cl} (h : RdC w v cs) : ∃ ao cap, v = .slice ao cs.length cap ∧ cs.length ≤ cap ∧ cap ≤ maxLen := by
  obtain ⟨ao, cap, hv, h1, h2, _⟩ := h
  exact ⟨ao, cap, hv, h1, h2⟩

/-- Where the cells lie, five places each. -/
theorem RdC.open {w : World} {v : Value} {cs : List Cl} (h : RdC w v cs) :
    ∃ ao cap, v = .slice ao cs.length cap ∧ cs.length ≤ cap ∧ cap ≤ maxLen ∧ ∀ j, (hj : j < cs.length) → ∃ b off, ao = some ⟨b, off, none⟩ ∧ b < w.heap.size ∧ ∀ i, (hi : i < cs.length) → ∀ k, k < 5 → w.cell? ⟨b, off + i * 5 + k, none⟩ = (cv cs[i])[k]? := by
  obtain ⟨ao, cap, hv, h1, h2, h3, h4⟩ := h
  refine ⟨ao, cap, hv, h1, h2, fun j hj => ?_⟩
  cases ao with
  | none => have := h3 rfl; omega
  | some a =>
    have hl : 0 < (cc cs).length := by rw [cc_length]; omega
    have h0 := h4 a rfl 0 (cc cs)[0] (by simp)
    obtain ⟨b, o, rfl⟩ := add_spot h0
    refine ⟨b, o, rfl, World.block_lt_of_cell? w _ h0, fun i hi k hk => ?_⟩
    have hg := cc_get cs i hi k hk
    have hs : (cv cs[i])[k]? = some ((cv cs[i])[k]'(by simp [cv]; omega)) := List.getElem?_eq_getElem _
    have := h4 _ rfl (i * 5 + k) _ (hg.trans hs)
    rw [Addr.add_lit] at this
    rw [Nat.add_assoc, this, hs]

/-- The five places of one cell. -/
structure At (w : World) (b off : Nat) (c : Cl) : Prop where
  c0 : w.cell? ⟨b, off, none⟩ = some (.string c.row)
  c1 : w.cell? ⟨b, off + 1, none⟩ = some (.string c.col)
  c2 : w.cell? ⟨b, off + 2, none⟩ = some (.int .i64 c.time)
  c3 : w.cell? ⟨b, off + 3, none⟩ = some (.bool c.gone)
  c4 : w.cell? ⟨b, off + 4, none⟩ = some (.string c.val)

theorem At.lt {w : World} {b off : Nat} {c : Cl} (h : At w b off c) : b < w.heap.size := World.block_lt_of_cell? w _ h.c0

theorem At.below {w w' : World} {b off : Nat} {c : Cl} (h : At w b off c) (hb : Below w.heap.size w w') : At w' b off c := by
  have hl := h.lt
  exact ⟨(hb.cell hl).trans h.c0, (hb.cell hl).trans h.c1, (hb.cell hl).trans h.c2, (hb.cell hl).trans h.c3, (hb.cell hl).trans h.c4⟩

theorem RdC.at {w : World} {v : Value} {cs : List Cl} (h : RdC w v cs) :
    ∃ ao cap, v = .slice ao cs.length cap ∧ cs.length ≤ cap ∧ cap ≤ maxLen ∧ ∀ j, (hj : j < cs.length) → ∃ b off, ao = some ⟨b, off, none⟩ ∧ b < w.heap.size ∧ ∀ i, (hi : i < cs.length) → At w b (off + i * 5) cs[i] := by
  obtain ⟨ao, cap, hv, h1, h2, h3⟩ := h.open
  refine ⟨ao, cap, hv, h1, h2, fun j hj => ?_⟩
  obtain ⟨b, off, ha, hb, hc⟩ := h3 j hj
  exact ⟨b, off, ha, hb, fun i hi => ⟨hc i hi 0 (by omega), hc i hi 1 (by omega), hc i hi 2 (by omega), hc i hi 3 (by omega), hc i hi 4 (by omega)⟩⟩

theorem RdC.setNew {w : World} {v : Value} {cs : List Cl} {B : Nat} (h : RdC w v cs) (hn : New B v) {p : Addr} (hp : p.block < B) (u : Value) : RdC (w.setCell p u) v cs := by
  obtain ⟨ao, cap, hv, h1, h2, h3, h4⟩ := h
  refine ⟨ao, cap, hv, h1, h2, h3, fun a ha j x hx => ?_⟩
  have hc := h4 a ha j x hx
  have e : (a.add j).block = a.block := by unfold Addr.add; split <;> rfl
  have hb : B ≤ a.block := hn a _ _ (by rw [hv, ha])
  rw [← hc]
  exact World.cell?_of_block (heap_setCell_other w p _ u (by rw [e]; omega))

theorem RdC.new (w : World) (c : Cl) (e : TypeId) : RdC (w.alloc (.cells #[.string c.row, .string c.col, .int .i64 c.time, .bool c.gone, .string c.val] e)) (.slice (some ⟨w.heap.size, 0, none⟩) 1 1) [c] :=
  ⟨some ⟨w.heap.size, 0, none⟩, 1, rfl, Nat.le_refl _, by decide, (fun h => by cases h), fun a ha j v hv => by
    cases ha
    rw [cc_cons, cc_nil, List.append_nil] at hv
    rw [Addr.add_lit, Nat.zero_add, ← hv]
    have := cell_of_row (w.alloc (.cells #[.string c.row, .string c.col, .int .i64 c.time, .bool c.gone, .string c.val] e)) w.heap.size j _ e (0, 0) (heap_alloc_new w _)
    rw [this]
    simp [cv]⟩

/-- 'append(out, xs...)' of cells, out the call's own. -/
theorem wpList_append_rdC {P : Program} {w : World} {ops : Array Oper} {rest : List Oper} {o : Oper} {a : Act} {Q : Exit → Act → World → Prop} {s x : Operand} {t : TypeId} {base : Nat} {e : TypeId} {z : Value} {bytes : Nat}
    {v : Value} {n : Nat} {cs : List Cl} {vx : Value} {news : List Cl}
    (hown : w.ownsRow base e 5 v n (cc cs)) (hrd : RdC w vx news)
    (ht : P.underlying t = some (.slice e)) (hinf : (P.info? e).map (fun i => (i.zero, i.size, i.bytes)) = some (some z, 5, bytes)) (hzs : z.cells.size = 5)
    (hgd : o.guard = none) (ho : o.op = .call { callee := .builtin .append, args := #[s, x], argTypes := #[t, t] })
    (hs : a.eval s = v) (hx : a.eval x = vx)
    (h63 : n + news.length ≤ 1000000000) (hbytes : bytes ≤ 64) (hbase : base ≤ w.heap.size)
    (h : ∀ v' w', w'.ownsRow base e 5 v' (n + news.length) (cc (cs ++ news)) → Below base w w' → w.grownBy w' v.ownBlock → wpList P ops Q rest (a.put o.dst v') w') : wpList P ops Q (o :: rest) a w := by
  obtain ⟨i, hi, hz, hsize, hby⟩ := info_parts hinf
  have hlt := hown.lt
  have hbytes' : (n + news.length) * bytes ≤ 1000000000 * 64 := Nat.mul_le_mul h63 hbytes
  obtain ⟨ao, cap, hvx, h2, h3, h4, h5⟩ := hrd
  cases ao with
  | none =>
    have hc := h4 rfl
    have hnews : news = [] := List.eq_nil_of_length_eq_zero (by omega)
    subst hnews
    subst hc
    refine wpList_append_own_none hgd s x t ho base e i 5 ht hi v n (cc cs) hs hown (hx.trans hvx) ?_
    exact h v w (by simpa using hown) (Below.refl _ _) (World.grownBy.refl _ _)
  | some ad =>
    refine wpList_append_own w hgd s x t ho base e i z 5 bytes ht hi hz hsize hby hzs (by decide) v n (cc cs) hs hown ad news.length cap (cc news) (hx.trans hvx) (cc_length _) (h5 ad rfl) (cc_one _) (by simp [maxLen]; omega) (by omega) hbase ?_
    intro v' w' ho' hg' _
    rw [← cc_append] at ho'
    exact h v' w' ho' ((Below.refl _ _).grown hg' hbase (fun k hk => (hlt k hk).1)) hg'

/-- 'append(out, c)' of a cell that was laid in a block of its own just ahead. -/
theorem wpList_append_oneC {P : Program} {w : World} {c : Cl} {ops : Array Oper} {rest : List Oper} {o : Oper} {a : Act} {Q : Exit → Act → World → Prop} {s x : Operand} {t : TypeId} {base : Nat} {e : TypeId} {z : Value} {bytes : Nat}
    {v : Value} {n : Nat} {cs : List Cl}
    (hown : w.ownsRow base e 5 v n (cc cs))
    (ht : P.underlying t = some (.slice e)) (hinf : (P.info? e).map (fun i => (i.zero, i.size, i.bytes)) = some (some z, 5, bytes)) (hzs : z.cells.size = 5)
    (hgd : o.guard = none) (ho : o.op = .call { callee := .builtin .append, args := #[s, x], argTypes := #[t, t] })
    (hs : a.eval s = v) (hx : a.eval x = .slice (some ⟨w.heap.size, 0, none⟩) 1 1)
    (h63 : n ≤ 100000000) (hbytes : bytes ≤ 64) (hbase : base ≤ w.heap.size)
    (h : ∀ v' w', w'.ownsRow base e 5 v' (n + 1) (cc (cs ++ [c])) → Below base w w' → w.grownBy w' v.ownBlock → wpList P ops Q rest (a.put o.dst v') w') : wpList P ops Q (o :: rest) a (w.alloc (.cells #[.string c.row, .string c.col, .int .i64 c.time, .bool c.gone, .string c.val] e)) := by
  refine wpList_append_rdC (hown.alloc _) (RdC.new _ c _) ht hinf hzs hgd ho hs hx (by simp; omega) hbytes (by simp; omega) ?_
  intro v' w' h2 h3 h4
  refine h v' w' h2 (((Below.refl _ _).alloc hbase _).trans h3) ⟨h4.os, h4.tape, h4.output, ?_, fun k hk hne => ?_⟩
  · have := h4.size; simp at this; omega
  · rw [h4.block k (by simp; omega) hne, Below.heap_alloc _ _ _ hk]

theorem RdC.hereD {w : World} {ao : Option Addr} {n cap : Nat} {cs : List Cl} (h : RdC w (.slice ao n cap) cs) {i : Nat} {c : Cl} (hi : cs[i]? = some c) :
    ∃ b off, ao = some ⟨b, off, none⟩ ∧ b < w.heap.size ∧ At w b (off + i * 5) c := by
  obtain ⟨ao', cap', hv, _, _, hat⟩ := h.at
  simp only [Value.slice.injEq] at hv
  obtain ⟨rfl, _, _⟩ := hv
  obtain ⟨hl, e⟩ := List.getElem?_eq_some_iff.1 hi
  obtain ⟨b, off, ha, hb, hc⟩ := hat i hl
  exact ⟨b, off, ha, hb, e ▸ hc i hl⟩

end Go.Proofs.Ytopnjklloleomaa

/-
  From lists of cells, and asks, as the row reads them to what the walks ask of them. Nothing of a program stands here.
-/
namespace Go.Proofs.Ytopnjklloleomaa
open Go.ChangeShapes Go.WideShapes Go.ChangeAt Go.RowKit Go.Joins Go.Deep

section
variable {H : Type} {enc : TypeId × Value → H} {P : Program} {W : World}

theorem choose_list {α : Type} {p : Nat → α → Prop} : ∀ (n : Nat), (∀ i, i < n → ∃ x, p i x) → ∃ l : List α, l.length = n ∧ ∀ i x, l[i]? = some x → p i x
  | 0, _ => ⟨[], rfl, fun i x h => by simp at h⟩
  | n + 1, h => by
    obtain ⟨l, hl, hp⟩ := choose_list n (fun i hi => h i (by omega))
    obtain ⟨x, hx⟩ := h n (by omega)
    refine ⟨l ++ [x], by simp [hl], fun i y hy => ?_⟩
    by_cases hi : i < n
    · rw [List.getElem?_append_left (by omega)] at hy
      exact hp i y hy
    · have hlt := (List.getElem?_eq_some_iff.1 hy).1
      simp at hlt
      have e : i = n := by omega
      subst e
      rw [List.getElem?_append_right (by omega), hl] at hy
      simp at hy
      subst hy
      exact hx

theorem cc_div {cs : List Cl} {j : Nat} {u : Value} (h : (cc cs)[j]? = some u) : ∃ i k c, j = i * 5 + k ∧ k < 5 ∧ cs[i]? = some c ∧ (cv c)[k]? = some u := by
  have hl := (List.getElem?_eq_some_iff.1 h).1
  rw [cc_length] at hl
  have hi : j / 5 < cs.length := by omega
  refine ⟨j / 5, j % 5, cs[j / 5], by omega, by omega, List.getElem?_eq_getElem hi, ?_⟩
  rw [← cc_get cs (j / 5) hi (j % 5) (by omega), ← h]
  congr 1
  omega

/-- A list of cells. -/
theorem open_cells {t e : TypeId} {f0 f1 f2 f3 f4 : Field} {v : Value} {fuel : Nat} {y : DataW H × List MemPlace} (ht : P.underlying t = some (.slice e)) (he : P.underlying e = some (.struct #[f0, f1, f2, f3, f4])) (hone : oneCellFields P #[f0, f1, f2, f3, f4] = true) (hC : P.cellsOf e = 5)
    (h0 : P.underlying f0.type = some .string) (h1 : P.underlying f1.type = some .string) (h2 : P.underlying f2.type = some (.int .i64)) (h3 : P.underlying f3.type = some .bool) (h4 : P.underlying f4.type = some .string)
    (h : DataW.trod enc P W 0 (fun _ => true) true fuel t [v] = some y) : ∃ cs : List Cl, RdC W v cs ∧ ∀ c ∈ cs, -9223372036854775808 ≤ c.time ∧ c.time ≤ 9223372036854775807 := by
  rcases open_slice ht h with ⟨hcs, _⟩ | ⟨a, len, cap, m, n, D, Pl, hcs, hb, hl, hm, hmm, hxx, hx⟩
  · simp only [List.cons.injEq, and_true] at hcs
    subst hcs
    exact ⟨[], RdC.nil _, by simp⟩
  · simp only [List.cons.injEq, and_true] at hcs
    subst hcs
    obtain ⟨o0, k0⟩ := hone_of hone 0 f0 rfl
    obtain ⟨o1, k1⟩ := hone_of hone 1 f1 rfl
    obtain ⟨o2, k2⟩ := hone_of hone 2 f2 rfl
    obtain ⟨o3, k3⟩ := hone_of hone 3 f3 rfl
    obtain ⟨o4, k4⟩ := hone_of hone 4 f4 rfl
    have hlm : len ≤ m := by rw [hmm]; split <;> omega
    have each : ∀ i, i < len → ∃ c : Cl, (∀ k u, (cv c)[k]? = some u → W.cell? (a.add (i * 5 + k)) = some u) ∧ -9223372036854775808 ≤ c.time ∧ c.time ≤ 9223372036854775807 := by
      intro i hi
      obtain ⟨cs', g1, g2⟩ := hx i (by omega)
      rw [hC] at g1
      obtain ⟨_, hlen, hcell⟩ := World.cells?_some g1
      obtain ⟨xs, k, hk, hxy, _, hxl, hf⟩ := DataW.trod_struct he g2
      match xs, hxl, cs', hlen with
      | [y0, y1, y2, y3, y4], _, [v0, v1, v2, v3, v4], _ =>
        have q0 := hf 0 f0 rfl
        have q1 := hf 1 f1 rfl
        have q2 := hf 2 f2 rfl
        have q3 := hf 3 f3 rfl
        have q4 := hf 4 f4 rfl
        simp [o0, o1, o2, o3, o4, k0, k1, k2, k3, k4] at q0 q1 q2 q3 q4
        obtain ⟨s0, e0, _, _⟩ := DataW.trod_string h0 q0
        obtain ⟨s1, e1, _, _⟩ := DataW.trod_string h1 q1
        obtain ⟨s2, e2, _, w2⟩ := DataW.trod_int h2 q2
        obtain ⟨s3, e3, _⟩ := DataW.trod_bool h3 q3
        obtain ⟨s4, e4, _, _⟩ := DataW.trod_string h4 q4
        simp only [List.cons.injEq, and_true] at e0 e1 e2 e3 e4
        subst e0 e1 e2 e3 e4
        refine ⟨⟨s0, s1, s2, s3, s4⟩, fun k u hu => ?_, bounds_i64 w2⟩
        have hk5 : k < 5 := by have := (List.getElem?_eq_some_iff.1 hu).1; simpa [cv] using this
        have := hcell k hk5
        rw [add_add] at this
        rw [this, ← hu]
        rfl
    obtain ⟨cs, hcl, hcp⟩ := choose_list len each
    refine ⟨cs, ⟨some a, cap, by rw [hcl], by omega, hm, (fun h => by cases h), fun b hb' j u hu => ?_⟩, fun c hc => ?_⟩
    · cases hb'
      obtain ⟨i, k, c, rfl, _, hi, hk⟩ := cc_div hu
      exact (hcp i c hi).1 k u hk
    · obtain ⟨i, hi, e⟩ := List.getElem_of_mem hc
      exact (hcp i c (by rw [List.getElem?_eq_getElem hi, e])).2

theorem open_cellsV {t e : TypeId} {f0 f1 f2 f3 f4 : Field} {a : Option Addr} {len cap : Nat} {d : DataW H} {ps : List MemPlace} (ht : P.underlying t = some (.slice e)) (he : P.underlying e = some (.struct #[f0, f1, f2, f3, f4])) (hone : oneCellFields P #[f0, f1, f2, f3, f4] = true) (hC : P.cellsOf e = 5)
    (h0 : P.underlying f0.type = some .string) (h1 : P.underlying f1.type = some .string) (h2 : P.underlying f2.type = some (.int .i64)) (h3 : P.underlying f3.type = some .bool) (h4 : P.underlying f4.type = some .string)
    (h : DataW.Trod enc P W 0 (fun _ => true) true t (.slice a len cap) d ps) : ∃ cs : List Cl, RdC W (.slice a len cap) cs ∧ ∀ c ∈ cs, -9223372036854775808 ≤ c.time ∧ c.time ≤ 9223372036854775807 := by
  obtain ⟨fuel, hf⟩ := h
  exact open_cells ht he hone hC h0 h1 h2 h3 h4 (y := (d, ps)) (by simpa [Value.cells] using hf)

/-- An ask: two texts and two numbers. -/
theorem open_ask {r : Reach} {b0 : Nat} {t : TypeId} {f0 f1 f2 f3 : Field} {v : Value} {d : DataW H} {p : List MemPlace} (hs : P.underlying t = some (.struct #[f0, f1, f2, f3])) (hone : oneCellFields P #[f0, f1, f2, f3] = true) (hC : P.cellsOf t = 4)
    (h0 : P.underlying f0.type = some .string) (h1 : P.underlying f1.type = some .string) (h2 : P.underlying f2.type = some (.int .i64)) (h3 : P.underlying f3.type = some (.int .i64))
    (hv : Value.okWide P W r b0 t v) (h : DataW.Trod enc P W 0 (fun _ => true) true t v d p) :
    ∃ (a b : ByteArray) (x y : Int), v = .agg #[.string a, .string b, .int .i64 x, .int .i64 y] ∧ (-9223372036854775808 ≤ x ∧ x ≤ 9223372036854775807) ∧ -9223372036854775808 ≤ y ∧ y ≤ 9223372036854775807 := by
  obtain ⟨c0, c1, c2, c3, y0, y1, y2, y3, m, rfl, rfl, rfl, hy0, hy1, hy2, hy3⟩ := open_agg4 hs hone hC hv h
  obtain ⟨s0, e0, _, _⟩ := DataW.trod_string h0 hy0
  obtain ⟨s1, e1, _, _⟩ := DataW.trod_string h1 hy1
  obtain ⟨s2, e2, _, w2⟩ := DataW.trod_int h2 hy2
  obtain ⟨s3, e3, _, w3⟩ := DataW.trod_int h3 hy3
  simp only [List.cons.injEq, and_true] at e0 e1 e2 e3
  subst e0 e1 e2 e3
  exact ⟨s0, s1, s2, s3, rfl, bounds_i64 w2, bounds_i64 w3⟩

end
end Go.Proofs.Ytopnjklloleomaa

/-
  Texts that come in: how long they can be.
-/
namespace Go.Proofs.Ytopnjklloleomaa
open Go.ChangeShapes Go.WideShapes Go.ChangeAt Go.RowKit

theorem okWide_stringB {P : Program} {w : World} {base : Nat} {t : TypeId} {v : Value} (ht : P.underlying t = some .string) (h : Value.okWide P w .any base t v) : ∃ s, v = .string s ∧ s.size ≤ 9223372036854775807 := by
  obtain ⟨s, rfl⟩ := okWide_string ht h
  refine ⟨s, rfl, ?_⟩
  simp [Value.okWide, Cell.okWide, Cell.ok, ht] at h
  have h2 : IntKind.i64.max = 9223372036854775807 := rfl
  omega

end Go.Proofs.Ytopnjklloleomaa

/-
  Copies and lists of texts as the row reads them. Nothing of a program stands here. (Written by frame.py's hand: rcp in NOTES.)
-/
namespace Go.Proofs.Ytopnjklloleomaa
open Go.ChangeShapes Go.WideShapes Go.ChangeAt Go.RowKit Go.Joins Go.Deep
set_option linter.unusedVariables false

section
variable {H : Type} {enc : TypeId × Value → H} {P : Program} {W : World}

theorem slice_valT {t e : TypeId} {v : Value} {n : Nat} {y : DataW H × List MemPlace} (ht : P.underlying t = some (.slice e)) (hf : DataW.trod enc P W 0 (fun _ => true) true n t [v] = some y) : ∃ a len cap, v = .slice a len cap := by
  obtain ⟨d, ps⟩ := y
  rcases open_slice ht hf with ⟨hcs, _⟩ | ⟨b, len', cap', m, n, D, Pl, hcs, _⟩
  · simp only [List.cons.injEq, and_true] at hcs
    exact ⟨_, _, _, hcs⟩
  · simp only [List.cons.injEq, and_true] at hcs
    exact ⟨_, _, _, hcs⟩

theorem open_txt1 {e : TypeId} (he : P.underlying e = some .string) (fuel : Nat) (cs : List Value) (y : DataW H × List MemPlace) (hl : cs.length = 1) (h : DataW.trod enc P W 0 (fun _ => true) true fuel e cs = some y) : ∃ c : ByteArray, cs = txE.v c ∧ True := by
  obtain ⟨s0, e0, _, _⟩ := DataW.trod_string he h
  exact ⟨s0, e0, trivial⟩

theorem open_txt {t e : TypeId} {a : Option Addr} {len cap : Nat} {d : DataW H} {ps : List MemPlace} (ht : P.underlying t = some (.slice e)) (he : P.underlying e = some .string) (hC : P.cellsOf e = 1)
    (h : DataW.Trod enc P W 0 (fun _ => true) true t (.slice a len cap) d ps) : ∃ l : List ByteArray, RdG txE W (.slice a len cap) l := by
  obtain ⟨l, hl, _⟩ := open_gl txE (fun _ => True) ht hC (open_txt1 he) h
  exact ⟨l, hl⟩

theorem open_txtV {t e : TypeId} {v : Value} {n : Nat} {y : DataW H × List MemPlace} (ht : P.underlying t = some (.slice e)) (he : P.underlying e = some .string) (hC : P.cellsOf e = 1)
    (hf : DataW.trod enc P W 0 (fun _ => true) true n t [v] = some y) : ∃ l : List ByteArray, RdG txE W v l := by
  obtain ⟨a, len, cap, rfl⟩ := slice_valT ht hf
  exact open_txt (d := y.1) (ps := y.2) ht he hC ⟨n, by simpa [Value.cells] using hf⟩

theorem open_agg4 {r : Reach} {b0 : Nat} {t : TypeId} {f0 f1 f2 f3 : Field} {v : Value} {d : DataW H} {p : List MemPlace} (hs : P.underlying t = some (.struct #[f0, f1, f2, f3])) (hone : oneCellFields P #[f0, f1, f2, f3] = true) (hC : P.cellsOf t = 4)
    (hv : Value.okWide P W r b0 t v) (h : DataW.Trod enc P W 0 (fun _ => true) true t v d p) :
    ∃ (c0 c1 c2 c3 : Value) (n : Nat), v = .agg #[c0, c1, c2, c3] ∧ (∃ y, DataW.trod enc P W 0 (fun _ => true) true n f0.type [c0] = some y) ∧ (∃ y, DataW.trod enc P W 0 (fun _ => true) true n f1.type [c1] = some y) ∧ (∃ y, DataW.trod enc P W 0 (fun _ => true) true n f2.type [c2] = some y) ∧ (∃ y, DataW.trod enc P W 0 (fun _ => true) true n f3.type [c3] = some y) := by
  obtain ⟨cs, rfl, hsz⟩ := okWide_struct hs hv
  obtain ⟨fuel, hf⟩ := h
  obtain ⟨xs, k, hk, hxy, _, hxl, hfld⟩ := DataW.trod_struct hs hf
  obtain ⟨cl⟩ := cs
  have hl : cl.length = 4 := by simpa using hsz.trans hC
  match xs, hxl, cl, hl with
  | [y0, y1, y2, y3], _, [c0, c1, c2, c3], _ =>
    obtain ⟨o0, k0⟩ := hone_of hone 0 f0 rfl
    obtain ⟨o1, k1⟩ := hone_of hone 1 f1 rfl
    obtain ⟨o2, k2⟩ := hone_of hone 2 f2 rfl
    obtain ⟨o3, k3⟩ := hone_of hone 3 f3 rfl
    have q0 := hfld 0 f0 rfl
    have q1 := hfld 1 f1 rfl
    have q2 := hfld 2 f2 rfl
    have q3 := hfld 3 f3 rfl
    simp [Value.cells, o0, k0, o1, k1, o2, k2, o3, k3] at q0 q1 q2 q3
    exact ⟨c0, c1, c2, c3, _, rfl, ⟨_, q0⟩, ⟨_, q1⟩, ⟨_, q2⟩, ⟨_, q3⟩⟩

theorem open_copy {r : Reach} {b0 : Nat} {t ts : TypeId} {f0 f1 f2 f3 : Field} {v : Value} {d : DataW H} {p : List MemPlace} (hs : P.underlying t = some (.struct #[f0, f1, f2, f3])) (hone : oneCellFields P #[f0, f1, f2, f3] = true) (hC : P.cellsOf t = 4)
    (h0 : P.underlying f0.type = some (.int .i64)) (h1 : P.underlying f1.type = some .bool) (h2 : P.underlying f2.type = some (.slice ts)) (h3 : P.underlying f3.type = some (.int .i64)) (he : P.underlying ts = some .string) (hC1 : P.cellsOf ts = 1)
    (hv : Value.okWide P W r b0 t v) (h : DataW.Trod enc P W 0 (fun _ => true) true t v d p) : ∃ (c : Cp) (u : Value), v = cpV c u ∧ RdG txE W u c.recs := by
  obtain ⟨c0, c1, c2, c3, n, rfl, ⟨y0, q0⟩, ⟨y1, q1⟩, ⟨y2, q2⟩, ⟨y3, q3⟩⟩ := open_agg4 hs hone hC hv h
  obtain ⟨s0, e0, _, w0⟩ := DataW.trod_int h0 q0
  obtain ⟨s1, e1, _⟩ := DataW.trod_bool h1 q1
  obtain ⟨l2, r2⟩ := open_txtV h2 he hC1 q2
  obtain ⟨s3, e3, _, w3⟩ := DataW.trod_int h3 q3
  simp only [List.cons.injEq, and_true] at e0 e1 e3
  subst e0 e1 e3
  exact ⟨⟨s0, s1, l2, s3⟩, c2, rfl, r2⟩

end

end Go.Proofs.Ytopnjklloleomaa
