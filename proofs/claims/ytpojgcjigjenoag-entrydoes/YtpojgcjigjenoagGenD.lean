/-
  Rows of one's own: one structure is taken out of them in place, the place behind is cleared, one is written anew. Nothing of a program stands here.
-/
import Derived.Test.YtpojgcjigjenoagGenB
namespace Go.Proofs.Ytpojgcjigjenoag
open Go.RowKit

theorem zeroCells_oneG (z : Array Value) : (Builtin.zeroCells z 1).toList = z.toList := by
  unfold Builtin.zeroCells
  apply List.ext_getElem?
  intro i
  simp only [Nat.one_mul]
  by_cases h : i < z.size
  · simp [h, Nat.mod_eq_of_lt h]
  · simp [h]

/-- Where a row of one's own lies, if it has something. -/
theorem owns_pos {w : World} {base : Nat} {e : TypeId} {K : Nat} {v : Value} {n : Nat} {xs : List Value} (h : w.ownsRow base e K v n xs) (hn : 0 < n) :
    ∃ g cap cur, v = .slice (some ⟨g, 0, none⟩) n cap ∧ base ≤ g ∧ w.heap[g]? = some (.cells cur e (0, 0)) ∧ n ≤ cap ∧ cap ≤ maxLen ∧ cur.size = cap * K ∧ cur.toList.take (n * K) = xs := by
  rcases h.2 with ⟨_, h0⟩ | h
  · omega
  · exact h

/-- A row that is written anew. -/
theorem owns_setRow {w : World} {base : Nat} {e : TypeId} {K : Nat} {g n cap : Nat} {cur new : Array Value} {xs : List Value} (hb : base ≤ g) (hg : w.heap[g]? = some (.cells cur e (0, 0))) (hn : n ≤ cap) (hc : cap ≤ maxLen) (hs : new.size = cap * K) (ht : new.toList.take (n * K) = xs) (hl : xs.length = n * K) :
    (w.setRow g new).ownsRow base e K (.slice (some ⟨g, 0, none⟩) n cap) n xs ∧ w.grownBy (w.setRow g new) (some g) := by
  refine ⟨⟨hl, .inr ⟨g, cap, new, rfl, hb, setRow_heap w g cur new e (0, 0) hg, hn, hc, hs, ht⟩⟩, rfl, rfl, rfl, ?_, fun k hk hne => ?_⟩
  · simp [World.setRow]
  · have : k ≠ g := fun q => hne (by rw [q])
    simp only [World.setRow, Array.getElem?_modify]
    rw [if_neg (by omega)]

section
variable {α : Type} {K : Nat} {E : En α K}

/-- 'append(s[:i], s[i+1:]...)' within a row of one's own. -/
theorem run_append_within {P : Program} {w : World} {base : Nat} {t ty e : TypeId} {z : Value} {bytes g n cap i c : Nat} {cs : List α}
    (ht : P.underlying t = some (.slice e)) (hinf : (P.info? e).map (fun i => (i.zero, i.size, i.bytes)) = some (some z, K, bytes))
    (hown : w.ownsRow base e K (.slice (some ⟨g, 0, none⟩) n cap) n (E.vs cs)) (hi : i < n) {a : Addr} (ha : i + 1 < n → a = ⟨g, (i + 1) * K, none⟩) :
    ∃ w', (Builtin.append_ #[t, t] ty #[.slice (some ⟨g, 0, none⟩) i cap, .slice (some a) (n - (i + 1)) c]).run P w = .ok (.slice (some ⟨g, 0, none⟩) (n - 1) cap) w' ∧
      w'.ownsRow base e K (.slice (some ⟨g, 0, none⟩) (n - 1) cap) (n - 1) (E.vs (cs.eraseIdx i)) ∧ w.grownBy w' (some g) := by
  obtain ⟨I, hI, hz, hsize, hby⟩ := info_parts hinf
  obtain ⟨g', cap', cur, hv, hb, hg, hnc, hcm, hcs, htake⟩ := owns_pos hown (by omega)
  simp only [Value.slice.injEq, Option.some.injEq, Addr.mk.injEq] at hv
  obtain ⟨⟨rfl, -, -⟩, -, rfl⟩ := hv
  have hl : cs.length = n := by
    have := hown.1
    rw [vs_length] at this
    exact Nat.eq_of_mul_eq_mul_right E.pos this
  have hnl : (E.vs (cs.drop (i + 1))).length = (n - (i + 1)) * K := by rw [vs_length, List.length_drop, hl]
  have hcell : ∀ j u, (E.vs cs)[j]? = some u → w.cell? ⟨g, j, none⟩ = some u := by
    intro j u hu
    rw [cell_of_row _ _ _ _ _ _ hg, ← Array.getElem?_toList]
    have hj : j < n * K := by
      have := (List.getElem?_eq_some_iff.1 hu).1
      rwa [hown.1] at this
    rw [← htake, List.getElem?_take, if_pos hj] at hu
    exact hu
  have hmul : i * K + (n - (i + 1)) * K + K = n * K := by
    rw [← Nat.add_mul, ← Nat.succ_mul]
    congr 1
    omega
  have hmc : n * K ≤ cap * K := Nat.mul_le_mul_right _ hnc
  have hr := run_append_room (P := P) w t ty e I ht hI g i cap cur hg a (n - (i + 1)) c (E.vs (cs.drop (i + 1))) (by rw [hnl, hsize]) (fun j u hu => by
      by_cases hlast : i + 1 < n
      · rw [ha hlast, Addr.add_lit]
        refine hcell _ _ ?_
        rw [← vs_drop, List.getElem?_drop] at hu
        exact hu
      · have : n - (i + 1) = 0 := by omega
        rw [this, Nat.zero_mul] at hnl
        rw [List.eq_nil_of_length_eq_zero hnl] at hu
        simp at hu) (vs_one _) (by omega) (by rw [hsize, hnl, hcs]; omega)
  rw [hsize, hnl] at hr
  have e1 : i + (n - (i + 1)) = n - 1 := by omega
  rw [e1] at hr
  have hn1 : (n - 1) * K = i * K + (n - (i + 1)) * K := by rw [← e1, Nat.add_mul]
  have ht1 : cur.toList.take (i * K) = E.vs (cs.take i) := by
    rw [← vs_take, ← htake, List.take_take]
    congr 1
    have : i * K ≤ n * K := Nat.mul_le_mul_right _ (by omega)
    omega
  have hlt1 : (cur.toList.take (i * K)).length = i * K := by rw [ht1, vs_length, List.length_take, hl, Nat.min_eq_left (by omega)]
  have key := owns_setRow (K := K) (xs := E.vs (cs.eraseIdx i)) (n := n - 1) (new := (cur.toList.take (i * K) ++ E.vs (cs.drop (i + 1)) ++ cur.toList.drop (i * K + (n - (i + 1)) * K)).toArray) hb hg (by omega) hcm ?_ ?_ ?_
  · exact ⟨_, hr, key.1, key.2⟩
  · simp only [List.size_toArray, List.length_append, hlt1, hnl, List.length_drop, Array.length_toList, hcs]
    omega
  · rw [hn1]
    have : (cur.toList.take (i * K) ++ E.vs (cs.drop (i + 1))).length = i * K + (n - (i + 1)) * K := by rw [List.length_append, hlt1, hnl]
    rw [← this, List.take_left, ht1, ← vs_append, List.eraseIdx_eq_take_drop_succ]
  · rw [vs_length, List.length_eraseIdx, if_pos (by omega), hl]

/-- 'clear(s[n:n+1])' behind what is counted of a row of one's own. -/
theorem run_clear_behind {P : Program} {w : World} {base : Nat} {t ty e : TypeId} {z : Value} {g n cap c : Nat} {xs : List Value}
    (ht : P.underlying t = some (.slice e)) (hzs : z.cells.size = K) (hz1 : ∀ u ∈ z.cells.toList, u.oneCell' = true)
    (hown : w.ownsRow base e K (.slice (some ⟨g, 0, none⟩) n cap) n xs) (hroom : n < cap) (hg0 : ∀ W, (zeroValue e).run P W = .ok z W) :
    ∃ w', (Builtin.clear_ #[t] ty #[.slice (some ⟨g, n * K, none⟩) 1 c]).run P w = .ok (.tuple #[]) w' ∧ w'.ownsRow base e K (.slice (some ⟨g, 0, none⟩) n cap) n xs ∧ w.grownBy w' (some g) := by
  rcases hown.2 with ⟨h, _⟩ | ⟨g', cap', cur, hv, hb, hg, hnc, hcm, hcs, htake⟩
  · cases h
  simp only [Value.slice.injEq, Option.some.injEq, Addr.mk.injEq] at hv
  obtain ⟨⟨rfl, -, -⟩, -, rfl⟩ := hv
  have hzl : z.cells.toList.length = K := by simpa using hzs
  have hmc : n * K + K ≤ cap * K := by
    rw [← Nat.succ_mul]
    exact Nat.mul_le_mul_right _ hroom
  have hst := run_storeCells_at P g (n * K) e z.cells.toList 0 cur w hg (by rw [hzl, hcs]; omega) hz1
  simp only [Nat.add_zero] at hst
  have key := owns_setRow (K := K) (w := w) (xs := xs) (n := n) (new := (cur.toList.take (n * K) ++ z.cells.toList ++ cur.toList.drop (n * K + z.cells.toList.length)).toArray) hb hg hnc hcm ?_ ?_ hown.1
  · refine ⟨_, ?_, key.1, key.2⟩
    simp only [Builtin.clear_]
    simp [run_underlying ht, hg0, zeroCells_oneG, hst]
  · simp only [List.size_toArray, List.length_append, List.length_take, List.length_drop, hzl, Array.length_toList, hcs]
    omega
  · have : (cur.toList.take (n * K)).length = n * K := by rw [List.length_take, Array.length_toList, hcs]; omega
    rw [List.append_assoc]
    exact (List.take_left' this).trans htake

end

/-- A place of a row of one's own is written. -/
theorem owns_setCell {w : World} {base : Nat} {e : TypeId} {K : Nat} {g n cap : Nat} {xs : List Value} (h : w.ownsRow base e K (.slice (some ⟨g, 0, none⟩) n cap) n xs) (k : Nat) (u : Value) :
    (w.setCell ⟨g, k, none⟩ u).ownsRow base e K (.slice (some ⟨g, 0, none⟩) n cap) n (xs.set k u) := by
  rcases h.2 with ⟨h, _⟩ | ⟨g', cap', cur, hv, hb, hg, hnc, hcm, hcs, htake⟩
  · cases h
  simp only [Value.slice.injEq, Option.some.injEq, Addr.mk.injEq] at hv
  obtain ⟨⟨rfl, -, -⟩, -, rfl⟩ := hv
  refine ⟨by rw [List.length_set]; exact h.1, .inr ⟨g, cap, cur.setIfInBounds k u, rfl, hb, heap_setCell_same w g k _ _ _ hg, hnc, hcm, by simp [hcs], ?_⟩⟩
  rw [Array.toList_setIfInBounds, ← htake, List.take_set]

/-- A row of one's own, while another block is written. -/
theorem owns_setOther {w : World} {base : Nat} {e : TypeId} {K : Nat} {v : Value} {n : Nat} {xs : List Value} (h : w.ownsRow base e K v n xs) {p : Addr} (hp : v.ownBlock ≠ some p.block) (u : Value) :
    (w.setCell p u).ownsRow base e K v n xs := by
  refine ⟨h.1, ?_⟩
  rcases h.2 with hn | ⟨g, cap, cur, rfl, hb, hg, r⟩
  · exact .inl hn
  · refine .inr ⟨g, cap, cur, rfl, hb, ?_, r⟩
    rw [heap_setCell_other w p _ u (fun q => hp (by simp [Value.ownBlock, q]))]
    exact hg

/-- Rows of one's own that have other elements lie in other blocks. -/
theorem owns_ne {w : World} {b1 b2 : Nat} {e1 e2 : TypeId} {K1 K2 : Nat} {v1 v2 : Value} {n1 n2 : Nat} {xs1 xs2 : List Value} (h1 : w.ownsRow b1 e1 K1 v1 n1 xs1) (h2 : w.ownsRow b2 e2 K2 v2 n2 xs2) (he : e1 ≠ e2) : v1.ownBlock = none ∨ v1.ownBlock ≠ v2.ownBlock := by
  rcases h1.2 with ⟨rfl, _⟩ | ⟨g1, c1, cur1, rfl, _, hg1, _⟩
  · exact .inl rfl
  · right
    rcases h2.2 with ⟨rfl, _⟩ | ⟨g2, c2, cur2, rfl, _, hg2, _⟩
    · simp [Value.ownBlock]
    · intro q
      simp only [Value.ownBlock, Option.some.injEq] at q
      subst q
      rw [hg1] at hg2
      simp at hg2
      exact he hg2.2

/-- A row of one's own does not lie in a block of another type. -/
theorem owns_off {w : World} {b1 B : Nat} {e1 t : TypeId} {K1 : Nat} {v1 : Value} {n1 : Nat} {xs1 : List Value} {ys : Array Value} (h1 : w.ownsRow b1 e1 K1 v1 n1 xs1) (h2 : Blk w B t ys) (he : e1 ≠ t) : v1.ownBlock ≠ some B := by
  rcases h1.2 with ⟨rfl, _⟩ | ⟨g1, c1, cur1, rfl, _, hg1, _⟩
  · simp [Value.ownBlock]
  · intro q
    simp only [Value.ownBlock, Option.some.injEq] at q
    subst q
    unfold Blk at h2
    rw [hg1] at h2
    simp at h2
    exact he h2.2

/-- Blocks that were laid one behind the other. -/
theorem Blk.at1 (w : World) (o : Obj) (t : TypeId) (xs : Array Value) : Blk ((w.alloc o).alloc (.cells xs t)) (w.heap.size + 1) t xs := by
  have := Blk.new (w.alloc o) t xs
  simpa using this

theorem Blk.at2 (w : World) (o o2 : Obj) (t : TypeId) (xs : Array Value) : Blk (((w.alloc o).alloc o2).alloc (.cells xs t)) (w.heap.size + 2) t xs := by
  have := Blk.new ((w.alloc o).alloc o2) t xs
  simpa using this

theorem Blk.at0of2 (w : World) (o : Obj) (t : TypeId) (xs : Array Value) : Blk ((w.alloc (.cells xs t)).alloc o) w.heap.size t xs := (Blk.new w t xs).later (below_allocG _ _)

theorem Blk.at0of3 (w : World) (o o2 : Obj) (t : TypeId) (xs : Array Value) : Blk (((w.alloc (.cells xs t)).alloc o).alloc o2) w.heap.size t xs := (Blk.at0of2 w o t xs).later (below_allocG _ _)

theorem Blk.at1of3 (w : World) (o o2 : Obj) (t : TypeId) (xs : Array Value) : Blk (((w.alloc o).alloc (.cells xs t)).alloc o2) (w.heap.size + 1) t xs := (Blk.at1 w o t xs).later (below_allocG _ _)

theorem below_alloc2 (w : World) (o o2 : Obj) : Below w.heap.size w ((w.alloc o).alloc o2) := (below_allocG w o).trans ((below_allocG _ o2).mono (by simp))

theorem below_alloc3 (w : World) (o o2 o3 : Obj) : Below w.heap.size w (((w.alloc o).alloc o2).alloc o3) := (below_alloc2 w o o2).trans ((below_allocG _ o3).mono (by simp; omega))

theorem owns_len {α : Type} {K : Nat} {E : En α K} {w : World} {base : Nat} {e : TypeId} {v : Value} {n : Nat} {cs : List α} (h : w.ownsRow base e K v n (E.vs cs)) : cs.length = n := by
  have := h.1
  rw [vs_length] at this
  exact Nat.eq_of_mul_eq_mul_right E.pos this

end Go.Proofs.Ytpojgcjigjenoag
