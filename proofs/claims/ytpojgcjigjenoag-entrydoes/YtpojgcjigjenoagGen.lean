/-
  Lists of flat structures of K places each, as values and in memory, whatever the structure is. Nothing of a program stands here.
-/
import Derived.Test.YtpojgcjigjenoagBase2
namespace Go.Proofs.Ytpojgcjigjenoag
open Go.RowKit

/-- How a structure of K places lies in memory. -/
structure En (α : Type) (K : Nat) where
  v : α → List Value
  len : ∀ a, (v a).length = K
  one : ∀ a, ∀ u ∈ v a, u.oneCell' = true
  pos : 0 < K

/-- A list's places in memory. -/
def En.vs {α : Type} {K : Nat} (E : En α K) (xs : List α) : List Value := xs.flatMap E.v

/-- A structure as a value. -/
def En.ag {α : Type} {K : Nat} (E : En α K) (x : α) : Value := .agg (E.v x).toArray

section
variable {α : Type} {K : Nat} {E : En α K}

theorem vs_nil : E.vs [] = [] := rfl
theorem vs_cons (c : α) (cs : List α) : E.vs (c :: cs) = E.v c ++ E.vs cs := rfl
theorem vs_append (a b : List α) : E.vs (a ++ b) = E.vs a ++ E.vs b := by simp [En.vs]
theorem vs_one1 (c : α) : E.vs [c] = E.v c := by simp [En.vs]

theorem vs_length : ∀ cs : List α, (E.vs cs).length = cs.length * K
  | [] => by simp [En.vs]
  | c :: cs => by rw [vs_cons, List.length_append, vs_length cs, E.len, List.length_cons, Nat.succ_mul]; omega

theorem vs_one (cs : List α) : ∀ u ∈ E.vs cs, u.oneCell' = true := by
  intro u hu
  simp only [En.vs, List.mem_flatMap] at hu
  obtain ⟨c, _, hu⟩ := hu
  exact E.one c u hu

theorem vs_get : ∀ (cs : List α) (j : Nat) (h : j < cs.length) (k : Nat), k < K → (E.vs cs)[j * K + k]? = (E.v cs[j])[k]?
  | [], j, h, _, _ => by simp at h
  | c :: cs, 0, h, k, hk => by
    rw [vs_cons, Nat.zero_mul, Nat.zero_add, List.getElem?_append_left (by rw [E.len]; omega)]
    simp
  | c :: cs, j + 1, h, k, hk => by
    have e : (j + 1) * K + k = K + (j * K + k) := by rw [Nat.succ_mul]; omega
    rw [vs_cons, List.getElem?_append_right (by rw [E.len, e]; omega)]
    have ih := vs_get cs j (by simpa using h) k hk
    rw [E.len, e, Nat.add_sub_cancel_left, ih]
    simp

theorem vs_drop : ∀ (cs : List α) (k : Nat), (E.vs cs).drop (k * K) = E.vs (cs.drop k)
  | cs, 0 => by simp
  | [], k + 1 => by simp [En.vs]
  | c :: cs, k + 1 => by
    have e : (k + 1) * K = K + k * K := by rw [Nat.succ_mul]; omega
    rw [vs_cons, e, List.drop_append, E.len, Nat.add_sub_cancel_left, List.drop_of_length_le (by rw [E.len]; omega), List.nil_append, List.drop_succ_cons]
    exact vs_drop cs k

theorem vs_take : ∀ (cs : List α) (k : Nat), (E.vs cs).take (k * K) = E.vs (cs.take k)
  | cs, 0 => by simp [En.vs]
  | [], k + 1 => by simp [En.vs]
  | c :: cs, k + 1 => by
    have e : (k + 1) * K = K + k * K := by rw [Nat.succ_mul]; omega
    rw [vs_cons, e, List.take_append, E.len, Nat.add_sub_cancel_left, List.take_of_length_le (by rw [E.len]; omega), List.take_succ_cons, vs_cons, vs_take cs k]

/-- The slice v reads as the structures xs. -/
def RdG (E : En α K) (w : World) (v : Value) (xs : List α) : Prop :=
  ∃ ao cap, v = .slice ao xs.length cap ∧ xs.length ≤ cap ∧ cap ≤ maxLen ∧ (ao = none → cap = 0) ∧ ∀ a, ao = some a → ∀ j u, (E.vs xs)[j]? = some u → w.cell? (a.add j) = some u

theorem RdG.nil (w : World) : RdG E w (.slice none 0 0) [] := ⟨none, 0, rfl, Nat.le_refl _, Nat.zero_le _, fun _ => rfl, fun a h => by cases h⟩

theorem RdG.ofOwns {w : World} {base : Nat} {e : TypeId} {v : Value} {n : Nat} {cs : List α} (h : w.ownsRow base e K v n (E.vs cs)) : RdG E w v cs := by
  have hl : cs.length = n := by
    have := h.1
    rw [vs_length] at this
    exact Nat.eq_of_mul_eq_mul_right E.pos this
  rcases h.2 with ⟨rfl, hn⟩ | ⟨g, cap, cur, rfl, hb, hg, hnc, hcm, hcs, htake⟩
  · have : cs = [] := List.eq_nil_of_length_eq_zero (by omega)
    subst this
    exact RdG.nil w
  · refine ⟨some ⟨g, 0, none⟩, cap, by rw [hl], (by omega), hcm, (fun h => by cases h), fun a ha j u hu => ?_⟩
    cases ha
    exact h.cells (by simp [Value.ownBlock]) j u hu

theorem RdG.below {w w' : World} {v : Value} {cs : List α} (h : RdG E w v cs) (hb : Below w.heap.size w w') : RdG E w' v cs := by
  obtain ⟨ao, cap, hv, h1, h2, h3, h4⟩ := h
  refine ⟨ao, cap, hv, h1, h2, h3, fun a ha j u hu => ?_⟩
  have hc := h4 a ha j u hu
  have hlt := World.block_lt_of_cell? w _ hc
  rw [hb.cell hlt]
  exact hc

theorem RdG.drew {w : World} {v : Value} {cs : List α} (h : RdG E w v cs) : RdG E w.drew v cs := h
theorem RdG.drewN {w : World} {v : Value} {cs : List α} (h : RdG E w v cs) (n : Nat) : RdG E (w.drewN n) v cs := h
theorem RdG.alloc {w : World} {v : Value} {cs : List α} (h : RdG E w v cs) (o : Obj) : RdG E (w.alloc o) v cs := h.below ((Below.refl _ _).alloc (Nat.le_refl _) o)

theorem RdG.shape {w : World} {v : Value} {cs : List α} (h : RdG E w v cs) : ∃ ao cap, v = .slice ao cs.length cap ∧ cs.length ≤ cap ∧ cap ≤ maxLen := by
  obtain ⟨ao, cap, hv, h1, h2, _⟩ := h
  exact ⟨ao, cap, hv, h1, h2⟩

/-- The places of one structure. -/
def AtG (E : En α K) (w : World) (b off : Nat) (c : α) : Prop := ∀ k u, (E.v c)[k]? = some u → w.cell? ⟨b, off + k, none⟩ = some u

theorem AtG.lt {w : World} {b off : Nat} {c : α} (h : AtG E w b off c) : b < w.heap.size := by
  have hl : 0 < (E.v c).length := by rw [E.len]; exact E.pos
  exact World.block_lt_of_cell? w _ (h 0 (E.v c)[0] (by simp))

theorem AtG.below {w w' : World} {b off : Nat} {c : α} (h : AtG E w b off c) (hb : Below w.heap.size w w') : AtG E w' b off c :=
  fun k u hu => (hb.cell h.lt).trans (h k u hu)

/-- Where one of a list lies. -/
theorem RdG.here {w : World} {ao : Option Addr} {n cap : Nat} {cs : List α} (h : RdG E w (.slice ao n cap) cs) {i : Nat} {c : α} (hi : cs[i]? = some c) :
    ∃ b off, ao = some ⟨b, off, none⟩ ∧ b < w.heap.size ∧ AtG E w b (off + i * K) c := by
  obtain ⟨ao', cap', hv, h1, h2, h3, h4⟩ := h
  simp only [Value.slice.injEq] at hv
  obtain ⟨rfl, rfl, rfl⟩ := hv
  obtain ⟨hl, e⟩ := List.getElem?_eq_some_iff.1 hi
  cases ao with
  | none => have := h3 rfl; omega
  | some a =>
    have hp : 0 < (E.vs cs).length := by rw [vs_length]; exact Nat.mul_pos (by omega) E.pos
    have h0 := h4 a rfl 0 (E.vs cs)[0] (by simp)
    obtain ⟨b, o, rfl⟩ := add_spot h0
    refine ⟨b, o, rfl, World.block_lt_of_cell? w _ h0, fun k u hu => ?_⟩
    have hk : k < K := by have := (List.getElem?_eq_some_iff.1 hu).1; rwa [E.len] at this
    have hg := vs_get (E := E) cs i hl k hk
    rw [e, hu] at hg
    have := h4 _ rfl (i * K + k) _ hg
    rw [Addr.add_lit] at this
    rw [Nat.add_assoc, this]

theorem RdG.len {w : World} {ao : Option Addr} {n cap : Nat} {xs : List α} (h : RdG E w (.slice ao n cap) xs) : n = xs.length ∧ n ≤ cap ∧ cap ≤ maxLen := by
  obtain ⟨ao', cap', hv, h1, h2, _⟩ := h
  simp only [Value.slice.injEq] at hv
  obtain ⟨_, rfl, rfl⟩ := hv
  exact ⟨rfl, h1, h2⟩

/-- A write into a block in which the slice does not lie. -/
theorem RdG.setOff {w : World} {v : Value} {cs : List α} (h : RdG E w v cs) {p : Addr} (hp : ∀ a l c, v = .slice (some a) l c → a.block ≠ p.block) (u : Value) : RdG E (w.setCell p u) v cs := by
  obtain ⟨ao, cap, hv, h1, h2, h3, h4⟩ := h
  refine ⟨ao, cap, hv, h1, h2, h3, fun a ha j x hx => ?_⟩
  have hc := h4 a ha j x hx
  have e : (a.add j).block = a.block := by unfold Addr.add; split <;> rfl
  have hb := hp a _ _ (by rw [hv, ha])
  rw [← hc]
  exact World.cell?_of_block (heap_setCell_other w p _ u (by rw [e]; exact hb))

theorem RdG.setNew {w : World} {v : Value} {cs : List α} {B : Nat} (h : RdG E w v cs) (hn : New B v) {p : Addr} (hp : p.block < B) (u : Value) : RdG E (w.setCell p u) v cs :=
  h.setOff (fun a l c hv => by have := hn a l c hv; omega) u

theorem RdG.setOld {w w0 : World} {v : Value} {cs : List α} (h0 : RdG E w0 v cs) (h : RdG E w v cs) {p : Addr} (hp : w0.heap.size ≤ p.block) (u : Value) : RdG E (w.setCell p u) v cs := by
  obtain ⟨ao0, cap0, hv0, _, _, _, h40⟩ := h0
  obtain ⟨ao, cap, hv, h1, h2, h3, h4⟩ := h
  rw [hv] at hv0
  simp only [Value.slice.injEq] at hv0
  obtain ⟨rfl, _, _⟩ := hv0
  refine ⟨ao, cap, hv, h1, h2, h3, fun a ha j x hx => ?_⟩
  have hc := h4 a ha j x hx
  have hlt := World.block_lt_of_cell? w0 _ (h40 a ha j x hx)
  rw [← hc]
  exact World.cell?_of_block (heap_setCell_other w p _ u (by omega))

/-- A block that was laid for some structures, as a slice over all of it. -/
theorem RdG.newL (w : World) (cs : List α) (e : TypeId) (vs : Array Value) (hvs : vs.toList = E.vs cs) (hl : cs.length ≤ 1000) : RdG E (w.alloc (.cells vs e)) (.slice (some ⟨w.heap.size, 0, none⟩) cs.length cs.length) cs :=
  ⟨some ⟨w.heap.size, 0, none⟩, cs.length, rfl, Nat.le_refl _, by unfold maxLen; omega, (fun h => by cases h), fun a ha j v hv => by
    cases ha
    rw [Addr.add_lit, Nat.zero_add, ← hv]
    have := cell_of_row (w.alloc (.cells vs e)) w.heap.size j _ e (0, 0) (heap_alloc_new w _)
    rw [this, ← hvs]
    simp⟩

/-- 'append(out, xs...)', out the call's own. -/
theorem wpList_append_rdG {P : Program} {w : World} {ops : Array Oper} {rest : List Oper} {o : Oper} {a : Act} {Q : Exit → Act → World → Prop} {s x : Operand} {t : TypeId} {base : Nat} {e : TypeId} {z : Value} {bytes : Nat}
    {v : Value} {n : Nat} {cs : List α} {vx : Value} {news : List α}
    (hown : w.ownsRow base e K v n (E.vs cs)) (hrd : RdG E w vx news)
    (ht : P.underlying t = some (.slice e)) (hinf : (P.info? e).map (fun i => (i.zero, i.size, i.bytes)) = some (some z, K, bytes)) (hzs : z.cells.size = K)
    (hgd : o.guard = none) (ho : o.op = .call { callee := .builtin .append, args := #[s, x], argTypes := #[t, t] })
    (hs : a.eval s = v) (hx : a.eval x = vx)
    (h63 : n + news.length ≤ 1000000000) (hbytes : bytes ≤ 128) (hbase : base ≤ w.heap.size)
    (h : ∀ v' w', w'.ownsRow base e K v' (n + news.length) (E.vs (cs ++ news)) → Below base w w' → w.grownBy w' v.ownBlock → wpList P ops Q rest (a.put o.dst v') w') : wpList P ops Q (o :: rest) a w := by
  obtain ⟨i, hi, hz, hsize, hby⟩ := info_parts hinf
  have hlt := hown.lt
  have hbytes' : (n + news.length) * bytes ≤ 1000000000 * 128 := Nat.mul_le_mul h63 hbytes
  obtain ⟨ao, cap, hvx, h2, h3, h4, h5⟩ := hrd
  cases ao with
  | none =>
    have hc := h4 rfl
    have hnews : news = [] := List.eq_nil_of_length_eq_zero (by omega)
    subst hnews
    subst hc
    refine wpList_append_own_none hgd s x t ho base e i K ht hi v n (E.vs cs) hs hown (hx.trans hvx) ?_
    exact h v w (by simpa using hown) (Below.refl _ _) (World.grownBy.refl _ _)
  | some ad =>
    refine wpList_append_own w hgd s x t ho base e i z K bytes ht hi hz hsize hby hzs E.pos v n (E.vs cs) hs hown ad news.length cap (E.vs news) (hx.trans hvx) (vs_length _) (h5 ad rfl) (vs_one _) (by simp [maxLen]; omega) (by omega) hbase ?_
    intro v' w' ho' hg' _
    rw [← vs_append] at ho'
    exact h v' w' ho' ((Below.refl _ _).grown hg' hbase (fun k hk => (hlt k hk).1)) hg'

/-- 'append(out, c)' of a structure that was laid in a block of its own just ahead. -/
theorem wpList_append_oneG {P : Program} {w : World} {c : α} {vs : Array Value} {ops : Array Oper} {rest : List Oper} {o : Oper} {a : Act} {Q : Exit → Act → World → Prop} {s x : Operand} {t : TypeId} {base : Nat} {e : TypeId} {z : Value} {bytes : Nat}
    {v : Value} {n : Nat} {cs : List α}
    (hown : w.ownsRow base e K v n (E.vs cs)) (hvs : vs.toList = E.v c)
    (ht : P.underlying t = some (.slice e)) (hinf : (P.info? e).map (fun i => (i.zero, i.size, i.bytes)) = some (some z, K, bytes)) (hzs : z.cells.size = K)
    (hgd : o.guard = none) (ho : o.op = .call { callee := .builtin .append, args := #[s, x], argTypes := #[t, t] })
    (hs : a.eval s = v) (hx : a.eval x = .slice (some ⟨w.heap.size, 0, none⟩) 1 1)
    (h63 : n ≤ 100000000) (hbytes : bytes ≤ 128) (hbase : base ≤ w.heap.size)
    (h : ∀ v' w', w'.ownsRow base e K v' (n + 1) (E.vs (cs ++ [c])) → Below base w w' → w.grownBy w' v.ownBlock → wpList P ops Q rest (a.put o.dst v') w') : wpList P ops Q (o :: rest) a (w.alloc (.cells vs e)) := by
  refine wpList_append_rdG (hown.alloc _) (RdG.newL w [c] e vs (by rw [hvs, vs_one1]) (by simp)) ht hinf hzs hgd ho hs hx (by simp; omega) hbytes (by simp; omega) ?_
  intro v' w' h2 h3 h4
  refine h v' w' h2 (((Below.refl _ _).alloc hbase _).trans h3) ⟨h4.os, h4.tape, h4.output, ?_, fun k hk hne => ?_⟩
  · have := h4.size; simp at this; omega
  · rw [h4.block k (by simp; omega) hne, Below.heap_alloc _ _ _ hk]

/-- 'v[lo:hi]'. -/
theorem RdG.sliced {w : World} {ao : Option Addr} {n cap lo hi : Nat} {xs : List α} (h : RdG E w (.slice ao n cap) xs) (h1 : lo ≤ hi) (h2 : hi ≤ n) : RdG E w (Go.sliced ao lo hi cap K) ((xs.drop lo).take (hi - lo)) := by
  obtain ⟨ao', cap', hv, h3, h4, h5, h6⟩ := h
  simp only [Value.slice.injEq] at hv
  obtain ⟨rfl, rfl, rfl⟩ := hv
  have hl : ((xs.drop lo).take (hi - lo)).length = hi - lo := by simp; omega
  refine ⟨_, cap - lo, by rw [hl]; rfl, by omega, by omega, ?_, ?_⟩
  · intro hn
    split at hn
    · omega
    · rw [Option.map_eq_none_iff] at hn
      have := h5 hn
      omega
  · intro a ha j u hu
    have hj : j < (hi - lo) * K := by
      have := (List.getElem?_eq_some_iff.1 hu).1
      rwa [vs_length, hl] at this
    rw [← vs_take, ← vs_drop, List.getElem?_take, if_pos hj, List.getElem?_drop] at hu
    split at ha
    · rename_i hz
      have hle := (List.getElem?_eq_some_iff.1 hu).1
      have hlo : lo = hi := by omega
      rw [hlo, Nat.sub_self, Nat.zero_mul] at hj
      omega
    · obtain ⟨a0, e0, rfl⟩ := Option.map_eq_some_iff.1 ha
      have hl2 := (List.getElem?_eq_some_iff.1 hu).1
      have h0 := h6 a0 e0 0 (E.vs xs)[0] (by simp)
      obtain ⟨b, o, rfl⟩ := add_spot h0
      have := h6 _ e0 (lo * K + j) u hu
      simp only [Addr.add_lit] at this ⊢
      rw [Nat.add_assoc]
      exact this

theorem RdG.from {w : World} {ao : Option Addr} {n cap lo : Nat} {xs : List α} (h : RdG E w (.slice ao n cap) xs) (h1 : lo ≤ n) : RdG E w (Go.sliced ao lo n cap K) (xs.drop lo) := by
  have hn : n = xs.length := h.len.1
  have := h.sliced h1 (Nat.le_refl _)
  rwa [List.take_of_length_le (by rw [List.length_drop, hn]; exact Nat.le_refl _)] at this

theorem RdG.upto {w : World} {ao : Option Addr} {n cap hi : Nat} {xs : List α} (h : RdG E w (.slice ao n cap) xs) (h1 : hi ≤ n) : RdG E w (Go.sliced ao 0 hi cap K) (xs.take hi) := by
  have := h.sliced (Nat.zero_le _) h1
  simpa using this

/-- 'v[lo:hi]', 'v[lo:]', 'v[:hi]' as operations. -/
theorem run_slice_lhK {P : Program} {t e : TypeId} {z : Value} {bytes : Nat} (ht : P.underlying t = some (.slice e)) (he : P.elem t = e) (hinf : (P.info? e).map (fun i => (i.zero, i.size, i.bytes)) = some (some z, K, bytes))
    (ao : Option Addr) (n cap lo hi : Nat) (l h : Int) (hl : l = lo) (hh : h = hi) (h1 : lo ≤ hi) (h2 : hi ≤ cap) (W : World) :
    (Instr.slice t (.slice ao n cap) (some (.int .i64 l)) (some (.int .i64 h)) none).run P W = .ok (Go.sliced ao lo hi cap K) W := by
  obtain ⟨i, hi0, _, hsize, _⟩ := info_parts hinf
  subst hl hh
  rw [run_slice_lh (P := P) W t ao n cap (by rw [he]; exact ht) .i64 .i64 lo hi (by omega) (by omega) (by omega)]
  simp [he, sizeOf, typeInfo, hi0, hsize, Result.andThen]

theorem run_slice_fromK {P : Program} {t e : TypeId} {z : Value} {bytes : Nat} (ht : P.underlying t = some (.slice e)) (he : P.elem t = e) (hinf : (P.info? e).map (fun i => (i.zero, i.size, i.bytes)) = some (some z, K, bytes))
    (ao : Option Addr) (n cap lo : Nat) (l : Int) (hl : l = lo) (h1 : lo ≤ n) (W : World) :
    (Instr.slice t (.slice ao n cap) (some (.int .i64 l)) none none).run P W = .ok (Go.sliced ao lo n cap K) W := by
  obtain ⟨i, hi0, _, hsize, _⟩ := info_parts hinf
  subst hl
  rw [run_slice_l (P := P) W t ao n cap (by rw [he]; exact ht) .i64 lo (by omega) (by omega)]
  simp [he, sizeOf, typeInfo, hi0, hsize, Result.andThen]

theorem run_slice_uptoK {P : Program} {t e : TypeId} {z : Value} {bytes : Nat} (ht : P.underlying t = some (.slice e)) (he : P.elem t = e) (hinf : (P.info? e).map (fun i => (i.zero, i.size, i.bytes)) = some (some z, K, bytes))
    (ao : Option Addr) (n cap hi : Nat) (h : Int) (hh : h = hi) (h1 : hi ≤ cap) (W : World) :
    (Instr.slice t (.slice ao n cap) none (some (.int .i64 h)) none).run P W = .ok (Go.sliced ao 0 hi cap K) W := by
  obtain ⟨i, hi0, _, hsize, _⟩ := info_parts hinf
  subst hh
  rw [run_slice_h (P := P) W t ao n cap (by rw [he]; exact ht) .i64 hi (by omega) (by omega)]
  simp [he, sizeOf, typeInfo, hi0, hsize, Result.andThen]

end

end Go.Proofs.Ytpojgcjigjenoag
