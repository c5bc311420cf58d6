/-
  What an append leaves as it was: all blocks that are there but the row's own; and where the new row lies. Nothing of a program stands here.
-/
import Derived.Test.YtlebbkbbmgmmjadBase2
import Derived.Maps.AppendAt
namespace Go.Proofs.Ytlebbkbbmgmmjad
open Go.RowKit

/-- From w to w' the row v grew to v': of the blocks that were there v's own may be another one, no other is; v' lies there, or in a new block. -/
def Ext (w w' : World) (v v' : Value) : Prop := w.grownBy w' v.ownBlock ∧ (v'.ownBlock = v.ownBlock ∨ ∀ k, v'.ownBlock = some k → w.heap.size ≤ k)

theorem Ext.refl (w : World) (v : Value) : Ext w w v v := ⟨World.grownBy.refl _ _, .inl rfl⟩

theorem Ext.size {w w' : World} {v v' : Value} (h : Ext w w' v v') : w.heap.size ≤ w'.heap.size := h.1.size

theorem Ext.trans {w w1 w2 : World} {v v1 v2 : Value} (h : Ext w w1 v v1) (k : Ext w1 w2 v1 v2) : Ext w w2 v v2 := by
  obtain ⟨h1, h2⟩ := h
  obtain ⟨k1, k2⟩ := k
  refine ⟨⟨k1.os.trans h1.os, k1.tape.trans h1.tape, k1.output.trans h1.output, Nat.le_trans h1.size k1.size, fun i hi hne => ?_⟩, ?_⟩
  · refine (k1.block i (Nat.lt_of_lt_of_le hi h1.size) ?_).trans (h1.block i hi hne)
    rcases h2 with h2 | h2
    · rw [h2]; exact hne
    · intro e
      have := h2 i e.symm
      omega
  · rcases k2 with k2 | k2
    · rw [k2]; exact h2
    · exact .inr fun k hk => Nat.le_trans h1.size (k2 k hk)

theorem Ext.drewN (w : World) (v : Value) (n : Nat) : Ext w (w.drewN n) v v := ⟨⟨rfl, rfl, rfl, Nat.le_refl _, fun _ _ _ => rfl⟩, .inl rfl⟩

theorem Ext.alloc (w : World) (v : Value) (o : Obj) : Ext w (w.alloc o) v v := ⟨⟨rfl, rfl, rfl, by simp, fun k hk _ => Below.heap_alloc _ _ _ hk⟩, .inl rfl⟩

/-- What is below all that is there, as it was. -/
theorem Ext.ofBelow {w w' : World} (v : Value) (h : Below w.heap.size w w') : Ext w w' v v := ⟨⟨h.os, h.tape, h.output, h.size, fun k hk _ => h.block k hk⟩, .inl rfl⟩

theorem Ext.below {w w' : World} {v v' : Value} {base : Nat} (h : Ext w w' v v') (hb : base ≤ w.heap.size) (hv : ∀ k, v.ownBlock = some k → base ≤ k) : Below base w w' :=
  (Below.refl _ _).grown h.1 hb hv

/-- A block that is not the row's own. -/
theorem Ext.block {w w' : World} {v v' : Value} (h : Ext w w' v v') {k : Nat} (hk : k < w.heap.size) (hne : v.ownBlock ≠ some k) : w'.heap[k]? = w.heap[k]? := h.1.block k hk (fun e => hne e.symm)

theorem Ext.cell {w w' : World} {v v' : Value} (h : Ext w w' v v') {p : Addr} (hk : p.block < w.heap.size) (hne : v.ownBlock ≠ some p.block) : w'.cell? p = w.cell? p := World.cell?_of_block (h.block hk hne)

/-- What the new row's own block is not. -/
theorem Ext.apart {w w' : World} {v v' : Value} (h : Ext w w' v v') {k : Nat} (hk : k < w.heap.size) (hne : v.ownBlock ≠ some k) : v'.ownBlock ≠ some k := by
  rcases h.2 with h2 | h2
  · rw [h2]; exact hne
  · intro e
    have := h2 k e
    omega

/-- The slice v does not lie in the block of the row r. -/
def Off (r v : Value) : Prop := ∀ a l c, v = .slice (some a) l c → 0 < l → r.ownBlock ≠ some a.block

theorem Off.none (v : Value) : Off (.slice none 0 0) v := fun a l c _ _ => by simp [Value.ownBlock]

theorem Rd.ext {w w' : World} {r r' v : Value} {xs : List Value} (h : Rd w v xs) (he : Ext w w' r r') (ho : Off r v) : Rd w' v xs := by
  obtain ⟨ao, cap, hv, h1, h2, h3, h4⟩ := h
  refine ⟨ao, cap, hv, h1, h2, h3, fun a ha j u hu => ?_⟩
  have hc := h4 a ha j u hu
  have e : (a.add j).block = a.block := by unfold Addr.add; split <;> rfl
  rw [he.cell (World.block_lt_of_cell? w _ hc) ?_]
  · exact hc
  · rw [e]
    refine ho a xs.length cap (by rw [hv, ha]) ?_
    have := (List.getElem?_eq_some_iff.1 hu).1
    omega

theorem Off.ext {w w' : World} {r r' v : Value} {xs : List Value} (h : Rd w v xs) (he : Ext w w' r r') (ho : Off r v) : Off r' v := by
  obtain ⟨ao, cap, hv, h1, h2, h3, h4⟩ := h
  intro a l c hvv hl
  have hv2 := hv
  rw [hvv] at hv
  simp only [Value.slice.injEq] at hv
  obtain ⟨rfl, rfl, rfl⟩ := hv
  have hc := h4 a rfl 0 xs[0] (by simp)
  have e : (a.add 0).block = a.block := by unfold Addr.add; split <;> rfl
  have hlt := World.block_lt_of_cell? w _ hc
  rw [e] at hlt
  exact he.apart hlt (ho a _ _ hvv hl)

/-- 'append(out, xs...)', out the call's own, xs whatever reads as cells. -/
theorem wpList_append_rdE {P : Program} {w : World} {ops : Array Oper} {rest : List Oper} {o : Oper} {a : Act} {Q : Exit → Act → World → Prop} {s x : Operand} {t : TypeId} {base : Nat} {e : TypeId} {z : Value} {bytes : Nat}
    {v : Value} {n : Nat} {xs : List Value} {vx : Value} {news : List Value}
    (hown : w.ownsRow base e 1 v n xs) (hrd : Rd w vx news)
    (ht : P.underlying t = some (.slice e)) (hinf : (P.info? e).map (fun i => (i.zero, i.size, i.bytes)) = some (some z, 1, bytes)) (hzs : z.cells.size = 1)
    (hgd : o.guard = none) (ho : o.op = .call { callee := .builtin .append, args := #[s, x], argTypes := #[t, t] })
    (hs : a.eval s = v) (hx : a.eval x = vx) (h1 : ∀ u ∈ news, u.oneCell' = true)
    (h63 : n + news.length ≤ 2000000000000) (hbytes : bytes ≤ 64) (hbase : base ≤ w.heap.size)
    (h : ∀ v' w', w'.ownsRow base e 1 v' (n + news.length) (xs ++ news) → Below base w w' → Ext w w' v v' → wpList P ops Q rest (a.put o.dst v') w') : wpList P ops Q (o :: rest) a w := by
  obtain ⟨i, hi, hz, hsize, hby⟩ := info_parts hinf
  have hlt := hown.lt
  have hbytes' : (n + news.length) * bytes ≤ 2000000000000 * 64 := Nat.mul_le_mul h63 hbytes
  obtain ⟨ao, cap, hvx, h2, h3, h4, h5⟩ := hrd
  cases ao with
  | none =>
    have hc := h4 rfl
    have hnews : news = [] := List.eq_nil_of_length_eq_zero (by omega)
    subst hnews
    subst hc
    refine wpList_append_own_none hgd s x t ho base e i 1 ht hi v n xs hs hown (hx.trans hvx) ?_
    exact h v w (by simpa using hown) (Below.refl _ _) (Ext.refl _ _)
  | some ad =>
    refine wpList_append_own_at w hgd s x t ho base e i z 1 bytes ht hi hz hsize hby hzs (by decide) v n xs hs hown ad news.length cap news (hx.trans hvx) (by simp) (h5 ad rfl) h1 (by simp [maxLen]; omega) (by omega) hbase ?_
    intro v' w' ho' hg' _ hat
    exact h v' w' ho' ((Below.refl _ _).grown hg' hbase (fun k hk => (hlt k hk).1)) ⟨hg', hat.imp id fun e k hk => by rw [e] at hk; simp at hk; omega⟩

/-- 'append(out, u)', out the call's own: u was laid in a block of its own just ahead. -/
theorem wpList_append_oneE {P : Program} {w : World} {u : Value} {ops : Array Oper} {rest : List Oper} {o : Oper} {a : Act} {Q : Exit → Act → World → Prop} {s x : Operand} {t : TypeId} {base : Nat} {e : TypeId} {z : Value} {bytes : Nat}
    {v : Value} {n : Nat} {xs : List Value}
    (hown : w.ownsRow base e 1 v n xs)
    (ht : P.underlying t = some (.slice e)) (hinf : (P.info? e).map (fun i => (i.zero, i.size, i.bytes)) = some (some z, 1, bytes)) (hzs : z.cells.size = 1)
    (hgd : o.guard = none) (ho : o.op = .call { callee := .builtin .append, args := #[s, x], argTypes := #[t, t] })
    (hs : a.eval s = v) (hx : a.eval x = .slice (some ⟨w.heap.size, 0, none⟩) 1 1) (h1 : u.oneCell' = true)
    (h63 : n ≤ 1000000000000) (hbytes : bytes ≤ 64) (hbase : base ≤ w.heap.size)
    (h : ∀ v' w', w'.ownsRow base e 1 v' (n + 1) (xs ++ [u]) → Below base w w' → Ext w w' v v' → wpList P ops Q rest (a.put o.dst v') w') : wpList P ops Q (o :: rest) a (w.alloc (.cells #[u] e)) := by
  refine wpList_append_rdE (hown.alloc _) (Rd.new _ u _) ht hinf hzs hgd ho hs hx (by simpa using h1) (by simp; omega) hbytes (by simp; omega) ?_
  intro v' w' h2 h3 h4
  exact h v' w' h2 (((Below.refl _ _).alloc hbase _).trans h3) ((Ext.alloc _ _ _).trans h4)

/-- 'append(out, t...)', t a text: where the new row lies. -/
theorem append_str_at {P : Program} {w : World} {base : Nat} {t u ty e : TypeId} {i : TypeInfo} (ht : P.underlying t = some (.slice e)) (hu : P.underlying u = some .string) (hi : P.info? e = some i) (hz : i.zero = some (.int .u8 0))
    (hsize : i.size = 1) (hby : i.bytes = 1) {v : Value} {n : Nat} {xs : List Value} (hown : w.ownsRow base e 1 v n xs) (s : ByteArray)
    (h63 : n + s.size ≤ maxLen) (hbytes : n + s.size ≤ 140737488355328) {v' : Value} {w' : World} (hr : (Builtin.append_ #[t, u] ty #[v, .string s]).run P w = .ok v' w') :
    v'.ownBlock = v.ownBlock ∨ v'.ownBlock = some w.heap.size := by
  have hsmall : n + s.size ≤ 9223372036854775807 := by simp only [maxLen] at h63; omega
  have hxl : xs.length = n := by simpa using hown.1
  rcases hown.2 with ⟨rfl, rfl⟩ | ⟨g, cap, cur, rfl, hbg, hg, hnc, hcm, hcs, htake⟩
  · by_cases hm : s.size = 0
    · have hf := Lib.run_firstCells_string (P := P) w 1 s
      rw [hm] at hf
      have hn : Lib.strCells s = [] := List.eq_nil_of_length_eq_zero (by rw [Lib.strCells_length]; exact hm)
      simp [Builtin.append_, run_underlying ht, run_underlying hu, sizeOf, typeInfo, hi, hsize, Builtin.lenOf, hm, hf, hn] at hr
      left
      rw [← hr.1]
    · have hr2 := run_append_nil_string (P := P) w t u ty e i (.int .u8 0) ht hu hi hz s (by omega) (by omega) (by rw [hby]; omega)
      rw [hr2] at hr
      injection hr with h1 h2
      right
      rw [← h1]
      rfl
  · by_cases hroom : n + s.size ≤ cap
    · have hcs' : cur.size = cap := by simpa using hcs
      have hr2 := Lib.run_append_room_string (P := P) w t u ty e i ht hu hi hsize g n cap cur hg s hroom (by omega)
      rw [hr2] at hr
      injection hr with h1 h2
      left
      rw [← h1]
      rfl
    · have holds : ∀ j u, xs[j]? = some u → w.cell? ((⟨g, 0, none⟩ : Addr).add j) = some u := hown.cells (g := g) rfl
      have hr2 := Lib.run_append_grow_string (P := P) w t u ty e i (.int .u8 0) ht hu hi hz ⟨g, 0, none⟩ n cap xs (by rw [hsize]; simpa using hxl) holds s (by omega) (by omega) (by rw [hby]; exact growslice_fits (by omega) (by omega))
      rw [hr2] at hr
      injection hr with h1 h2
      right
      rw [← h1]
      rfl

/-- 'append(out, t...)', out the call's own, t a text. -/
theorem wpList_append_strE {P : Program} {w : World} {ops : Array Oper} {rest : List Oper} {o : Oper} {a : Act} {Q : Exit → Act → World → Prop} {sl x : Operand} {t u : TypeId} {base : Nat} {e : TypeId}
    {v : Value} {xs s : List UInt8}
    (hown : w.ownsRow base e 1 v xs.length (bc xs))
    (ht : P.underlying t = some (.slice e)) (hu : P.underlying u = some .string) (hinf : (P.info? e).map (fun i => (i.zero, i.size, i.bytes)) = some (some (.int .u8 0), 1, 1))
    (hgd : o.guard = none) (ho : o.op = .call { callee := .builtin .append, args := #[sl, x], argTypes := #[t, u] })
    (hs : a.eval sl = v) (hx : a.eval x = .string ⟨s.toArray⟩) (h63 : xs.length + s.length ≤ 1000000000000) (hbase : base ≤ w.heap.size)
    (h : ∀ v' w', w'.ownsRow base e 1 v' (xs ++ s).length (bc (xs ++ s)) → Below base w w' → Ext w w' v v' → wpList P ops Q rest (a.put o.dst v') w') : wpList P ops Q (o :: rest) a w := by
  obtain ⟨i, hi, hz, hsize, hby⟩ := info_parts hinf
  have hlt := hown.lt
  have hsz : (⟨s.toArray⟩ : ByteArray).size = s.length := by simp [ByteArray.size]
  refine wpList_plain hgd fun K hK => ?_
  obtain ⟨v', w', hr, h2, h3, _⟩ := Lib.run_append_own_string (P := P) w base t u o.type e i ht hu hi hz hsize hby v _ _ hown ⟨s.toArray⟩ (by rw [hsz]; simp [maxLen]; omega) (by rw [hsz]; omega) hbase
  have hat := append_str_at (P := P) ht hu hi hz hsize hby hown ⟨s.toArray⟩ (by rw [hsz]; simp [maxLen]; omega) (by rw [hsz]; omega) hr
  unfold Oper.wp execOp
  simp only [ho, resolve, invoke, builtin, Sem.run_bind, Sem.run_pure, Result.andThen_ok, List.map_toArray, List.map_cons, List.map_nil, hs, hx, hr]
  refine hK _ _ (h v' w' ?_ ((Below.refl _ _).grown h3 hbase (fun k hk => (hlt k hk).1)) ⟨h3, hat.imp id fun e k hk => by rw [e] at hk; simp at hk; omega⟩)
  rw [hsz] at h2
  rw [List.length_append, bc_append]
  exact h2

/-- A row of bytes is no row of slices: what is written to one leaves the other as it was. -/
theorem owns_other {w w' : World} {base base' : Nat} {u v : Value} {n m : Nat} {xs ys : List Value} {e e' : TypeId} (hee : e ≠ e') (hu : w.ownsRow base e 1 u n xs) (hv : w.ownsRow base' e' 1 v m ys) (hg : w.grownBy w' v.ownBlock) : w'.ownsRow base e 1 u n xs := by
  refine hu.kept hg ?_
  rcases hu.2 with ⟨rfl, _⟩ | ⟨g, cap, cur, rfl, _, hgu, _⟩
  · exact .inl rfl
  · right
    rcases hv.2 with ⟨rfl, _⟩ | ⟨g', cap', cur', rfl, _, hgv, _⟩
    · simp [Value.ownBlock]
    · simp only [Value.ownBlock, ne_eq, Option.some.injEq]
      intro e0
      subst e0
      rw [hgu] at hgv
      simp only [Option.some.injEq, Obj.cells.injEq] at hgv
      exact hee hgv.2.1

theorem owns_one {w : World} {base : Nat} {e : TypeId} {u : Value} {n : Nat} {xs : List Value} (h : w.ownsRow base e 1 u n xs) : u.oneCell' = true := by
  rcases h.2 with ⟨rfl, _⟩ | ⟨g, cap, cur, rfl, _⟩ <;> rfl

end Go.Proofs.Ytlebbkbbmgmmjad
