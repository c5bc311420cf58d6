/-
  Texts joined: GenB, GenD, LeaseW1, SealMath, EntMath, GenV, GenW.
-/
import Derived.Test.YtbffmdhogehfnaaMRaftTakes1
import Derived.Laws.EntriesVeiled
import Derived.Deep.RegionHeld3
import Derived.Test.YtbffmdhogehfnaaRows
import Derived.Deep.WholeRow
import Derived.Deep.MidRow
/-
  Blocks of one's own; faults. Nothing of a program stands here.
-/
namespace Go.Proofs.Ytbffmdhogehfnaa
open Go.RowKit

theorem quiet_addG {P : Program} {f : FuncId} {args : Array Value} {w : World} {p n : Nat} {v : Value} (h : Calls P f args (w.drewN (p + n)) fun e w' => e = .returned v ∧ ∃ m, w' = (w.drewN (p + n)).drewN m) :
    Calls P f args (w.drewN (p + n)) fun e w'' => e = .returned v ∧ ∃ m, w'' = w.drewN (p + m) := h.mono fun _ _ ⟨he, m, hm⟩ => ⟨he, n + m, by rw [hm, World.drewN_drewN, Nat.add_assoc]⟩

/-- A block of one's own. -/
def Blk (w : World) (B : Nat) (t : TypeId) (xs : Array Value) : Prop := w.heap[B]? = some (.cells xs t (0, 0))

theorem Blk.cell {w : World} {B : Nat} {t : TypeId} {xs : Array Value} (h : Blk w B t xs) (k : Nat) : w.cell? ⟨B, k, none⟩ = xs[k]? := by
  rw [cell_of_row _ _ _ _ _ _ h]

theorem Blk.frozen {w : World} {B : Nat} {t : TypeId} {xs : Array Value} (h : Blk w B t xs) (k : Nat) : w.frozen? ⟨B, k, none⟩ = false := frozen_of_row _ _ _ _ _ h
theorem Blk.lt {w : World} {B : Nat} {t : TypeId} {xs : Array Value} (h : Blk w B t xs) : B < w.heap.size := (Array.getElem?_eq_some_iff.1 h).1
theorem Blk.below {w w' : World} {B C : Nat} {t : TypeId} {xs : Array Value} (h : Blk w B t xs) (hb : Below C w w') (hC : B < C) : Blk w' B t xs := by
  unfold Blk
  rw [hb.block _ hC]
  exact h

theorem Blk.later {w w' : World} {B : Nat} {t : TypeId} {xs : Array Value} (h : Blk w B t xs) (hb : Below w.heap.size w w') : Blk w' B t xs := h.below hb h.lt

theorem Blk.grown {w w' : World} {B : Nat} {o : Option Nat} {t : TypeId} {xs : Array Value} (h : Blk w B t xs) (hg : w.grownBy w' o) (hne : some B ≠ o) : Blk w' B t xs := by
  unfold Blk
  rw [hg.block _ h.lt hne]
  exact h

theorem Blk.new (w : World) (t : TypeId) (xs : Array Value) : Blk (w.alloc (.cells xs t)) w.heap.size t xs := heap_alloc_new _ _
theorem Blk.set {w : World} {B : Nat} {t : TypeId} {xs : Array Value} (h : Blk w B t xs) (k : Nat) (u : Value) : Blk (w.setCell ⟨B, k, none⟩ u) B t (xs.setIfInBounds k u) := by
  unfold Blk
  rw [heap_setCell_same w B k _ _ _ h]

theorem Blk.other {w : World} {B : Nat} {t : TypeId} {xs : Array Value} (h : Blk w B t xs) {p : Addr} (hp : B ≠ p.block) (u : Value) : Blk (w.setCell p u) B t xs := by
  unfold Blk
  rw [heap_setCell_other w p _ u hp]
  exact h

/-- A block that was laid for some values, as a slice over all of it. -/
theorem Rd.newL (w : World) (vs : Array Value) (e : TypeId) (hl : vs.size ≤ 1000) : Rd (w.alloc (.cells vs e)) (.slice (some ⟨w.heap.size, 0, none⟩) vs.size vs.size) vs.toList :=
  ⟨some ⟨w.heap.size, 0, none⟩, vs.size, by simp, by simp, by unfold maxLen; omega, (fun h => by cases h), fun a ha j v hv => by
    cases ha
    rw [Addr.add_lit, Nat.zero_add, ← hv]
    have := cell_of_row (w.alloc (.cells vs e)) w.heap.size j _ e (0, 0) (heap_alloc_new w _)
    rw [this]
    simp⟩

/-- A fault as a value. -/
def flt (f : Int × Int) : Value := .agg #[.int .i64 f.1, .int .i64 f.2]

theorem below_allocG (w : World) (o : Obj) : Below w.heap.size w (w.alloc o) := (Below.refl _ _).alloc (Nat.le_refl _) o

theorem cell_belowG {w w' : World} {p : Addr} {v : Value} (h : w.cell? p = some v) (hb : Below w.heap.size w w') : w'.cell? p = some v :=
  (hb.cell (World.block_lt_of_cell? w _ h)).trans h

end Go.Proofs.Ytbffmdhogehfnaa

/-
  Rows of one's own: one structure is taken out of them in place, the place behind is cleared, one is written anew. Nothing of a program stands here.
-/
namespace Go.Proofs.Ytbffmdhogehfnaa
open Go.RowKit

theorem zeroCells_oneG (z : Array Value) : (Builtin.zeroCells z 1).toList = z.toList := by
  unfold Builtin.zeroCells
  apply List.ext_getElem?
  intro i
  simp only [Nat.one_mul]
  by_cases h : i < z.size
  · simp [h, Nat.mod_eq_of_lt h]
  · simp [h]

/-- Where a row of one's own lies, if it has something. -/
theorem owns_pos {w : World} {base : Nat} {e : TypeId} {K : Nat} {v : Value} {n : Nat} {xs : List Value} (h : w.ownsRow base e K v n xs) (hn : 0 < n) :
    ∃ g cap cur, v = .slice (some ⟨g, 0, none⟩) n cap ∧ base ≤ g ∧ w.heap[g]? = some (.cells cur e (0, 0)) ∧ n ≤ cap ∧ cap ≤ maxLen ∧ cur.size = cap * K ∧ cur.toList.take (n * K) = xs := by
  rcases h.2 with ⟨_, h0⟩ | h
  · omega
  · exact h

/-- A row that is written anew. -/
theorem owns_setRow {w : World} {base : Nat} {e : TypeId} {K : Nat} {g n cap : Nat} {cur new : Array Value} {xs : List Value} (hb : base ≤ g) (hg : w.heap[g]? = some (.cells cur e (0, 0))) (hn : n ≤ cap) (hc : cap ≤ maxLen) (hs : new.size = cap * K) (ht : new.toList.take (n * K) = xs) (hl : xs.length = n * K) :
    (w.setRow g new).ownsRow base e K (.slice (some ⟨g, 0, none⟩) n cap) n xs ∧ w.grownBy (w.setRow g new) (some g) := by
  refine ⟨⟨hl, .inr ⟨g, cap, new, rfl, hb, setRow_heap w g cur new e (0, 0) hg, hn, hc, hs, ht⟩⟩, rfl, rfl, rfl, ?_, fun k hk hne => ?_⟩
  · simp [World.setRow]
  · have : k ≠ g := fun q => hne (by rw [q])
    simp only [World.setRow, Array.getElem?_modify]
    rw [if_neg (by omega)]

section
variable {α : Type} {K : Nat} {E : En α K}

/-- 'append(s[:i], s[i+1:]...)' within a row of one's own. -/
theorem run_append_within {P : Program} {w : World} {base : Nat} {t ty e : TypeId} {z : Value} {bytes g n cap i c : Nat} {cs : List α}
    (ht : P.underlying t = some (.slice e)) (hinf : (P.info? e).map (fun i => (i.zero, i.size, i.bytes)) = some (some z, K, bytes))
    (hown : w.ownsRow base e K (.slice (some ⟨g, 0, none⟩) n cap) n (E.vs cs)) (hi : i < n) {a : Addr} (ha : i + 1 < n → a = ⟨g, (i + 1) * K, none⟩) :
    ∃ w', (Builtin.append_ #[t, t] ty #[.slice (some ⟨g, 0, none⟩) i cap, .slice (some a) (n - (i + 1)) c]).run P w = .ok (.slice (some ⟨g, 0, none⟩) (n - 1) cap) w' ∧
      w'.ownsRow base e K (.slice (some ⟨g, 0, none⟩) (n - 1) cap) (n - 1) (E.vs (cs.eraseIdx i)) ∧ w.grownBy w' (some g) := by
  obtain ⟨I, hI, hz, hsize, hby⟩ := info_parts hinf
  obtain ⟨g', cap', cur, hv, hb, hg, hnc, hcm, hcs, htake⟩ := owns_pos hown (by omega)
  simp only [Value.slice.injEq, Option.some.injEq, Addr.mk.injEq] at hv
  obtain ⟨⟨rfl, -, -⟩, -, rfl⟩ := hv
  have hl : cs.length = n := by
    have := hown.1
    rw [vs_length] at this
    exact Nat.eq_of_mul_eq_mul_right E.pos this
  have hnl : (E.vs (cs.drop (i + 1))).length = (n - (i + 1)) * K := by rw [vs_length, List.length_drop, hl]
  have hcell : ∀ j u, (E.vs cs)[j]? = some u → w.cell? ⟨g, j, none⟩ = some u := by
    intro j u hu
    rw [cell_of_row _ _ _ _ _ _ hg, ← Array.getElem?_toList]
    have hj : j < n * K := by
      have := (List.getElem?_eq_some_iff.1 hu).1
      rwa [hown.1] at this
    rw [← htake, List.getElem?_take, if_pos hj] at hu
    exact hu
  have hmul : i * K + (n - (i + 1)) * K + K = n * K := by
    rw [← Nat.add_mul, ← Nat.succ_mul]
    congr 1
    omega
  have hmc : n * K ≤ cap * K := Nat.mul_le_mul_right _ hnc
  have hr := run_append_room (P := P) w t ty e I ht hI g i cap cur hg a (n - (i + 1)) c (E.vs (cs.drop (i + 1))) (by rw [hnl, hsize]) (fun j u hu => by
      by_cases hlast : i + 1 < n
      · rw [ha hlast, Addr.add_lit]
        refine hcell _ _ ?_
        rw [← vs_drop, List.getElem?_drop] at hu
        exact hu
      · have : n - (i + 1) = 0 := by omega
        rw [this, Nat.zero_mul] at hnl
        rw [List.eq_nil_of_length_eq_zero hnl] at hu
        simp at hu) (vs_one _) (by omega) (by rw [hsize, hnl, hcs]; omega)
  rw [hsize, hnl] at hr
  have e1 : i + (n - (i + 1)) = n - 1 := by omega
  rw [e1] at hr
  have hn1 : (n - 1) * K = i * K + (n - (i + 1)) * K := by rw [← e1, Nat.add_mul]
  have ht1 : cur.toList.take (i * K) = E.vs (cs.take i) := by
    rw [← vs_take, ← htake, List.take_take]
    congr 1
    have : i * K ≤ n * K := Nat.mul_le_mul_right _ (by omega)
    omega
  have hlt1 : (cur.toList.take (i * K)).length = i * K := by rw [ht1, vs_length, List.length_take, hl, Nat.min_eq_left (by omega)]
  have key := owns_setRow (K := K) (xs := E.vs (cs.eraseIdx i)) (n := n - 1) (new := (cur.toList.take (i * K) ++ E.vs (cs.drop (i + 1)) ++ cur.toList.drop (i * K + (n - (i + 1)) * K)).toArray) hb hg (by omega) hcm ?_ ?_ ?_
  · exact ⟨_, hr, key.1, key.2⟩
  · simp only [List.size_toArray, List.length_append, hlt1, hnl, List.length_drop, Array.length_toList, hcs]
    omega
  · rw [hn1]
    have : (cur.toList.take (i * K) ++ E.vs (cs.drop (i + 1))).length = i * K + (n - (i + 1)) * K := by rw [List.length_append, hlt1, hnl]
    rw [← this, List.take_left, ht1, ← vs_append, List.eraseIdx_eq_take_drop_succ]
  · rw [vs_length, List.length_eraseIdx, if_pos (by omega), hl]

/-- 'clear(s[n:n+1])' behind what is counted of a row of one's own. -/
theorem run_clear_behind {P : Program} {w : World} {base : Nat} {t ty e : TypeId} {z : Value} {g n cap c : Nat} {xs : List Value}
    (ht : P.underlying t = some (.slice e)) (hzs : z.cells.size = K) (hz1 : ∀ u ∈ z.cells.toList, u.oneCell' = true)
    (hown : w.ownsRow base e K (.slice (some ⟨g, 0, none⟩) n cap) n xs) (hroom : n < cap) (hg0 : ∀ W, (zeroValue e).run P W = .ok z W) :
    ∃ w', (Builtin.clear_ #[t] ty #[.slice (some ⟨g, n * K, none⟩) 1 c]).run P w = .ok (.tuple #[]) w' ∧ w'.ownsRow base e K (.slice (some ⟨g, 0, none⟩) n cap) n xs ∧ w.grownBy w' (some g) := by
  rcases hown.2 with ⟨h, _⟩ | ⟨g', cap', cur, hv, hb, hg, hnc, hcm, hcs, htake⟩
  · cases h
  simp only [Value.slice.injEq, Option.some.injEq, Addr.mk.injEq] at hv
  obtain ⟨⟨rfl, -, -⟩, -, rfl⟩ := hv
  have hzl : z.cells.toList.length = K := by simpa using hzs
  have hmc : n * K + K ≤ cap * K := by
    rw [← Nat.succ_mul]
    exact Nat.mul_le_mul_right _ hroom
  have hst := run_storeCells_at P g (n * K) e z.cells.toList 0 cur w hg (by rw [hzl, hcs]; omega) hz1
  simp only [Nat.add_zero] at hst
  have key := owns_setRow (K := K) (w := w) (xs := xs) (n := n) (new := (cur.toList.take (n * K) ++ z.cells.toList ++ cur.toList.drop (n * K + z.cells.toList.length)).toArray) hb hg hnc hcm ?_ ?_ hown.1
  · refine ⟨_, ?_, key.1, key.2⟩
    simp only [Builtin.clear_]
    simp [run_underlying ht, hg0, zeroCells_oneG, hst]
  · simp only [List.size_toArray, List.length_append, List.length_take, List.length_drop, hzl, Array.length_toList, hcs]
    omega
  · have : (cur.toList.take (n * K)).length = n * K := by rw [List.length_take, Array.length_toList, hcs]; omega
    rw [List.append_assoc]
    exact (List.take_left' this).trans htake

end

/-- A place of a row of one's own is written. -/
theorem owns_setCell {w : World} {base : Nat} {e : TypeId} {K : Nat} {g n cap : Nat} {xs : List Value} (h : w.ownsRow base e K (.slice (some ⟨g, 0, none⟩) n cap) n xs) (k : Nat) (u : Value) :
    (w.setCell ⟨g, k, none⟩ u).ownsRow base e K (.slice (some ⟨g, 0, none⟩) n cap) n (xs.set k u) := by
  rcases h.2 with ⟨h, _⟩ | ⟨g', cap', cur, hv, hb, hg, hnc, hcm, hcs, htake⟩
  · cases h
  simp only [Value.slice.injEq, Option.some.injEq, Addr.mk.injEq] at hv
  obtain ⟨⟨rfl, -, -⟩, -, rfl⟩ := hv
  refine ⟨by rw [List.length_set]; exact h.1, .inr ⟨g, cap, cur.setIfInBounds k u, rfl, hb, heap_setCell_same w g k _ _ _ hg, hnc, hcm, by simp [hcs], ?_⟩⟩
  rw [Array.toList_setIfInBounds, ← htake, List.take_set]

/-- A row of one's own, while another block is written. -/
theorem owns_setOther {w : World} {base : Nat} {e : TypeId} {K : Nat} {v : Value} {n : Nat} {xs : List Value} (h : w.ownsRow base e K v n xs) {p : Addr} (hp : v.ownBlock ≠ some p.block) (u : Value) :
    (w.setCell p u).ownsRow base e K v n xs := by
  refine ⟨h.1, ?_⟩
  rcases h.2 with hn | ⟨g, cap, cur, rfl, hb, hg, r⟩
  · exact .inl hn
  · refine .inr ⟨g, cap, cur, rfl, hb, ?_, r⟩
    rw [heap_setCell_other w p _ u (fun q => hp (by simp [Value.ownBlock, q]))]
    exact hg

/-- Rows of one's own that have other elements lie in other blocks. -/
theorem owns_ne {w : World} {b1 b2 : Nat} {e1 e2 : TypeId} {K1 K2 : Nat} {v1 v2 : Value} {n1 n2 : Nat} {xs1 xs2 : List Value} (h1 : w.ownsRow b1 e1 K1 v1 n1 xs1) (h2 : w.ownsRow b2 e2 K2 v2 n2 xs2) (he : e1 ≠ e2) : v1.ownBlock = none ∨ v1.ownBlock ≠ v2.ownBlock := by
  rcases h1.2 with ⟨rfl, _⟩ | ⟨g1, c1, cur1, rfl, _, hg1, _⟩
  · exact .inl rfl
  · right
    rcases h2.2 with ⟨rfl, _⟩ | ⟨g2, c2, cur2, rfl, _, hg2, _⟩
    · simp [Value.ownBlock]
    · intro q
      simp only [Value.ownBlock, Option.some.injEq] at q
      subst q
      rw [hg1] at hg2
      simp at hg2
      exact he hg2.2

/-- A row of one's own does not lie in a block of another type. -/
theorem owns_off {w : World} {b1 B : Nat} {e1 t : TypeId} {K1 : Nat} {v1 : Value} {n1 : Nat} {xs1 : List Value} {ys : Array Value} (h1 : w.ownsRow b1 e1 K1 v1 n1 xs1) (h2 : Blk w B t ys) (he : e1 ≠ t) : v1.ownBlock ≠ some B := by
  rcases h1.2 with ⟨rfl, _⟩ | ⟨g1, c1, cur1, rfl, _, hg1, _⟩
  · simp [Value.ownBlock]
  · intro q
    simp only [Value.ownBlock, Option.some.injEq] at q
    subst q
    unfold Blk at h2
    rw [hg1] at h2
    simp at h2
    exact he h2.2

/-- Blocks that were laid one behind the other. -/
theorem Blk.at1 (w : World) (o : Obj) (t : TypeId) (xs : Array Value) : Blk ((w.alloc o).alloc (.cells xs t)) (w.heap.size + 1) t xs := by
  have := Blk.new (w.alloc o) t xs
  simpa using this

theorem Blk.at2 (w : World) (o o2 : Obj) (t : TypeId) (xs : Array Value) : Blk (((w.alloc o).alloc o2).alloc (.cells xs t)) (w.heap.size + 2) t xs := by
  have := Blk.new ((w.alloc o).alloc o2) t xs
  simpa using this

theorem Blk.at0of2 (w : World) (o : Obj) (t : TypeId) (xs : Array Value) : Blk ((w.alloc (.cells xs t)).alloc o) w.heap.size t xs := (Blk.new w t xs).later (below_allocG _ _)

theorem Blk.at0of3 (w : World) (o o2 : Obj) (t : TypeId) (xs : Array Value) : Blk (((w.alloc (.cells xs t)).alloc o).alloc o2) w.heap.size t xs := (Blk.at0of2 w o t xs).later (below_allocG _ _)

theorem Blk.at1of3 (w : World) (o o2 : Obj) (t : TypeId) (xs : Array Value) : Blk (((w.alloc o).alloc (.cells xs t)).alloc o2) (w.heap.size + 1) t xs := (Blk.at1 w o t xs).later (below_allocG _ _)

theorem below_alloc2 (w : World) (o o2 : Obj) : Below w.heap.size w ((w.alloc o).alloc o2) := (below_allocG w o).trans ((below_allocG _ o2).mono (by simp))

theorem below_alloc3 (w : World) (o o2 o3 : Obj) : Below w.heap.size w (((w.alloc o).alloc o2).alloc o3) := (below_alloc2 w o o2).trans ((below_allocG _ o3).mono (by simp; omega))

theorem owns_len {α : Type} {K : Nat} {E : En α K} {w : World} {base : Nat} {e : TypeId} {v : Value} {n : Nat} {cs : List α} (h : w.ownsRow base e K v n (E.vs cs)) : cs.length = n := by
  have := h.1
  rw [vs_length] at this
  exact Nat.eq_of_mul_eq_mul_right E.pos this

end Go.Proofs.Ytbffmdhogehfnaa

/-
  The walks over package lease's small functions.
-/
namespace Go.Proofs.Ytbffmdhogehfnaa
open Go.RowKit
set_option linter.unusedVariables false

/-- A lease as a value. -/
def lsV (l : Ls) : Value := .agg #[.int .i64 l.hold, .int .i64 l.ep, .int .i64 l.til]

theorem numL_true {n : Int} (h0 : 0 ≤ n) (h1 : n ≤ 1000000000) : numL n = true := decide_eq_true ⟨h0, h1⟩
theorem numL_iff {n : Int} : numL n = true ↔ 0 ≤ n ∧ n ≤ 1000000000 := by unfold numL; exact decide_eq_true_iff

set_option maxRecDepth 100000 in
set_option maxHeartbeats 400000 in
theorem lIsNum_any (n : Int) (w : World) : Calls Try.prog 57 #[.int .i64 n] w fun e w' => e = .returned (.bool (numL n)) ∧ w' = w := by
  by_cases h1 : 0 ≤ n
  · have hd : decide (0 ≤ n) = true := by simpa using h1
    go_enter Try.func57, Try.ntmps57
    go_wp2_with fail
    go_ret
    exact ⟨by simp [numL, h1], rfl⟩
  · have hd : decide (0 ≤ n) = false := by simpa using h1
    go_enter Try.func57, Try.ntmps57
    go_wp2_with fail
    go_ret
    exact ⟨by simp [numL]; omega, rfl⟩

set_option maxRecDepth 100000 in
set_option maxHeartbeats 400000 in
theorem lNum_any (n : Int) (w : World) : Calls Try.prog 41 #[.int .i64 n] w fun e w' => e = .returned (.bool (numL n)) ∧ w' = w := by
  by_cases h1 : 0 ≤ n
  · have hd : decide (0 ≤ n) = true := by simpa using h1
    go_enter Try.func41, Try.ntmps41
    go_wp2_with fail
    go_ret
    exact ⟨by simp [numL, h1], rfl⟩
  · have hd : decide (0 ≤ n) = false := by simpa using h1
    go_enter Try.func41, Try.ntmps41
    go_wp2_with fail
    go_ret
    exact ⟨by simp [numL]; omega, rfl⟩

set_option maxRecDepth 100000 in
theorem lF_any (c a : Int) (w : World) : Calls Try.prog 40 #[.int .i64 c, .int .i64 a] w fun e w' => e = .returned (flt (c, a)) ∧ Below w.heap.size w w' := by
  go_enter Try.func40, Try.ntmps40
  go_wp2_with fail
  exact bodyPost_ret (v := flt (c, a)) (by simp [results, Try.results40, go_sem, flt]) rfl ⟨rfl, by go_grown⟩



/-- Is a lease held? -/
def heldB (l : Ls) (now : Int) : Bool := decide (l.hold ≠ 0 ∧ now < l.til)



end Go.Proofs.Ytbffmdhogehfnaa

/-
  Plain maths of package seal: copies, and what is done to them. Nothing of a program stands here.
-/
namespace Go.Proofs.Ytbffmdhogehfnaa
open Go.RowKit
set_option linter.unusedVariables false

/-- A copy. -/
structure Cp where
  ep : Int
  cl : Bool
  recs : List ByteArray
  en : Int

/-- The first record that is too long, from a number on; -1: none is. -/
def longI : List ByteArray → Nat → Int
  | [], _ => -1
  | r :: l, i => if 200 < r.size then i else longI l (i + 1)

theorem longI_yes {r : ByteArray} {l : List ByteArray} {i : Nat} (h : 200 < r.size) : longI (r :: l) i = i := by rw [longI, if_pos h]
theorem longI_no {r : ByteArray} {l : List ByteArray} {i : Nat} (h : ¬ 200 < r.size) : longI (r :: l) i = longI l (i + 1) := by rw [longI, if_neg h]

theorem longI_pos : ∀ (l : List ByteArray) (i : Nat), longI l i = -1 ∨ ((i : Int) ≤ longI l i ∧ longI l i < (i : Int) + l.length)
  | [], i => .inl rfl
  | r :: l, i => by
    by_cases h : 200 < r.size
    · rw [longI_yes h]
      right
      simp
      omega
    · rw [longI_no h]
      rcases longI_pos l (i + 1) with e | ⟨e1, e2⟩
      · exact .inl e
      · right
        simp
        omega

def longF (l : List ByteArray) : Int × Int := if 0 ≤ longI l 0 then (8, longI l 0) else (0, 0)

/-- What is wrong with a copy. -/
def chkC (c : Cp) : Int × Int :=
  if ¬ (numL c.ep = true ∧ numL c.en = true) then (3, -1)
  else if c.ep < c.en ∨ (0 < c.en ∧ c.cl = false) then (11, -1)
  else if 100 < c.recs.length then (2, -1)
  else longF c.recs

/-- A fault that tells nothing is the zero one. -/
def Fz (f : Int × Int) : Prop := f.1 = 0 → f = (0, 0)

theorem Fz.ne {f : Int × Int} (h : Fz f) (hn : f.1 ≠ 0 ∨ f.2 ≠ 0) : f.1 ≠ 0 := by
  intro q
  rw [h q] at hn
  simp at hn

theorem longF_z (l : List ByteArray) : Fz (longF l) := by
  unfold Fz longF
  split
  · intro h; simp at h
  · intro; rfl

theorem chkC_z (c : Cp) : Fz (chkC c) := by
  unfold chkC
  split
  · intro h; simp at h
  split
  · intro h; simp at h
  split
  · intro h; simp at h
  exact longF_z _

/-- What is wrong with a copy that is to be changed in an epoch. -/
def epF (c : Cp) (ep : Int) (g : Int × Int) : Int × Int :=
  if (chkC c).1 ≠ 0 then chkC c
  else if ep = 0 ∨ numL ep = false then (3, -1)
  else if g.1 ≠ 0 then g
  else if ep < c.ep then (12, -1)
  else (0, 0)

theorem epF_z {c : Cp} {ep : Int} {g : Int × Int} : Fz (epF c ep g) := by
  unfold epF
  split
  · exact chkC_z c
  split
  · intro h; simp at h
  split
  · intro h; contradiction
  split
  · intro h; simp at h
  · intro; rfl

/-- Why a record can't be put. -/
def apF (c : Cp) (at_ : Int) (r : ByteArray) : Int × Int :=
  if c.cl = true then (11, -2)
  else if 200 < r.size then (8, -2)
  else if at_ < 0 ∨ (c.recs.length : Int) < at_ then (3, -2)
  else if at_ < (c.recs.length : Int) ∧ c.recs[at_.toNat]? ≠ some r then (7, -2)
  else if at_ = 100 then (2, -2)
  else (0, 0)

theorem apF_z {c : Cp} {at_ : Int} {r : ByteArray} : Fz (apF c at_ r) := by
  unfold apF
  repeat' split
  all_goals first | (intro h; simp at h; done) | (intro; rfl)

def chosF (l : List ByteArray) : Int × Int := if 100 < l.length then (2, -2) else longF l

theorem chosF_z (l : List ByteArray) : Fz (chosF l) := by
  unfold chosF
  split
  · intro h; simp at h
  · exact longF_z l

def noCp : Cp := ⟨0, false, [], 0⟩

/-- What Append, Close and End tell: the fault; the copy. -/
def appF (c : Cp) (ep at_ : Int) (r : ByteArray) : Int × Int := if (epF c ep (0, 0)).1 ≠ 0 then epF c ep (0, 0) else apF c at_ r
def appC (c : Cp) (ep at_ : Int) (r : ByteArray) : Cp := if (appF c ep at_ r).1 = 0 then ⟨ep, c.cl, if at_ = (c.recs.length : Int) then c.recs ++ [r] else c.recs, c.en⟩ else noCp
def cloF (c : Cp) (ep : Int) : Int × Int := epF c ep (0, 0)
def cloC (c : Cp) (ep : Int) : Cp := if (cloF c ep).1 = 0 then ⟨ep, true, c.recs, c.en⟩ else noCp
def endF (c : Cp) (ep : Int) (l : List ByteArray) : Int × Int := epF c ep (chosF l)
def endC (c : Cp) (ep : Int) (l : List ByteArray) : Cp := if (endF c ep l).1 = 0 then ⟨ep, true, l, ep⟩ else noCp

end Go.Proofs.Ytbffmdhogehfnaa

/-
  Plain maths of package entry: logs, and what is put into them. Nothing of a program stands here.
-/
namespace Go.Proofs.Ytbffmdhogehfnaa
open Go.RowKit
set_option linter.unusedVariables false

/-- An entry. -/
structure Et where
  term : Int
  text : ByteArray

/-- What is wrong with an entry behind one of a Term. -/
def codeB (a : Int) (e : Et) : Int := if e.term = 0 ∨ numL e.term = false then 3 else if e.term < a then 11 else if 200 < e.text.size then 8 else 0

def chkGo : Int → Nat → List Et → Int × Int
  | _, _, [] => (0, 0)
  | a, i, e :: l => if codeB a e ≠ 0 then (codeB a e, (i : Int)) else chkGo e.term (i + 1) l

/-- What is wrong with a log. -/
def chkE (l : List Et) : Int × Int := if 100 < l.length then (2, -1) else chkGo 0 0 l

theorem chkGo_z : ∀ (l : List Et) (a : Int) (i : Nat), Fz (chkGo a i l)
  | [], _, _ => fun _ => rfl
  | e :: l, a, i => by
    unfold chkGo
    split
    · intro h; contradiction
    · exact chkGo_z l _ _

theorem chkE_z (l : List Et) : Fz (chkE l) := by
  unfold chkE
  split
  · intro h; simp at h
  · exact chkGo_z l 0 0

theorem chkE_at {l : List Et} : -1000 ≤ (chkE l).2 ∧ (chkE l).2 ≤ 1000 := by
  have key : ∀ (l : List Et) (a : Int) (i : Nat), (chkGo a i l).2 = 0 ∨ ((i : Int) ≤ (chkGo a i l).2 ∧ (chkGo a i l).2 < (i : Int) + l.length) := by
    intro l
    induction l with
    | nil => intro a i; left; rfl
    | cons e l ih =>
      intro a i
      unfold chkGo
      split
      · right; simp; omega
      · rcases ih e.term (i + 1) with h | ⟨h1, h2⟩
        · exact .inl h
        · right
          simp only [List.length_cons]
          omega
  unfold chkE
  split
  · constructor <;> decide
  · have := key l 0 0
    omega

/-- What is wrong with a place and a Term. -/
def plF (n t : Int) : Int × Int := if numL n = false then (3, -1) else if numL t = false then (3, -2) else (0, 0)

theorem plF_z (n t : Int) : Fz (plF n t) := by
  unfold plF
  split
  · intro h; simp at h
  split
  · intro h; simp at h
  · intro; rfl

def secF (f : Int × Int) : Int × Int := if f.1 ≠ 0 then (f.1, f.2 - 1000) else (0, 0)

def bothF (a b : List Et) : Int × Int := if (chkE a).1 ≠ 0 then chkE a else secF (chkE b)

theorem secF_z (f : Int × Int) : Fz (secF f) := by
  unfold secF
  split
  · intro h; contradiction
  · intro; rfl

theorem bothF_z (a b : List Et) : Fz (bothF a b) := by
  unfold bothF
  split
  · exact chkE_z a
  · exact secF_z _

theorem bothF_ok {a b : List Et} (h : (bothF a b).1 = 0) : (chkE a).1 = 0 ∧ (chkE b).1 = 0 := by
  unfold bothF at h
  by_cases h1 : (chkE a).1 ≠ 0
  · rw [if_pos h1] at h; contradiction
  · rw [if_neg h1] at h
    refine ⟨by simpa using h1, ?_⟩
    unfold secF at h
    by_cases h2 : (chkE b).1 ≠ 0
    · rw [if_pos h2] at h; contradiction
    · simpa using h2

theorem bothF_of {a b : List Et} (h1 : (chkE a).1 = 0) (h2 : (chkE b).1 = 0) : bothF a b = (0, 0) := by
  unfold bothF secF
  rw [if_neg (by simpa using h1), if_neg (by simpa using h2)]

def oldF (l : List Et) (n t : Int) : Int × Int := if (chkE l).1 ≠ 0 then chkE l else plF n t
def ptF (l : List Et) (n t : Int) (m : List Et) : Int × Int := if (bothF l m).1 ≠ 0 then bothF l m else plF n t

theorem oldF_z (l : List Et) (n t : Int) : Fz (oldF l n t) := by
  unfold oldF
  split
  · exact chkE_z l
  · exact plF_z _ _

theorem ptF_z (l : List Et) (n t : Int) (m : List Et) : Fz (ptF l n t m) := by
  unfold ptF
  split
  · exact bothF_z _ _
  · exact plF_z _ _

/-- The Term of the last entry. -/
def lastT (l : List Et) : Int := match l.getLast? with
  | some e => e.term
  | none => 0

theorem lastT_nil : lastT [] = 0 := rfl
theorem lastT_at {l : List Et} {k : Nat} {e : Et} (h : l[k]? = some e) (hk : k + 1 = l.length) : lastT l = e.term := by
  unfold lastT
  rw [List.getLast?_eq_getElem?, show l.length - 1 = k by omega, h]

/-- Is a log older? -/
def oldB (l : List Et) (n t : Int) : Bool := decide (lastT l < t ∨ (lastT l = t ∧ (l.length : Int) < n))

/-- Has a log an entry of a Term at a place? -/
def tmE : Option Et → Int → Bool
  | some e, t => decide (e.term = t)
  | none, _ => false

def hasE (l : List Et) : Nat → Int → Bool
  | 0, t => decide (t = 0)
  | k + 1, t => tmE l[k]? t

theorem hasE_zero {l : List Et} {t : Int} : hasE l 0 t = decide (t = 0) := rfl
theorem hasE_some {l : List Et} {k : Nat} {t : Int} {e : Et} (h : l[k]? = some e) : hasE l (k + 1) t = decide (e.term = t) := by rw [hasE, h]; rfl
theorem hasE_none {l : List Et} {k : Nat} {t : Int} (h : l.length ≤ k) : hasE l (k + 1) t = false := by rw [hasE, List.getElem?_eq_none h]; rfl

theorem hasE_le {l : List Et} {k : Nat} {t : Int} (h : hasE l k t = true) : k ≤ l.length := by
  cases k with
  | zero => omega
  | succ k =>
    by_cases hk : k < l.length
    · omega
    · rw [hasE_none (by omega)] at h; contradiction

/-- Entries put behind a place. -/
def putGo (l : List Et) : Nat → List Et → List Et
  | _, [] => l
  | k, e :: m => if hasE l (k + 1) e.term = true then putGo l (k + 1) m else l.take k ++ (e :: m)

def outF (l : List Et) : Int × Int := if (chkE l).1 = 0 ∨ (chkE l).1 = 2 then chkE l else (11, -1)
def outR (l : List Et) : Int × Int := if (chkE l).1 ≠ 0 then ((chkE l).1, -1) else (0, 0)

theorem outF_z (l : List Et) : Fz (outF l) := by
  unfold outF
  split
  · exact chkE_z l
  · intro h; simp at h

/-- Entries that are fine by themselves. -/
def FineE (e : Et) : Prop := ¬ (e.term = 0 ∨ numL e.term = false) ∧ ¬ 200 < e.text.size

theorem codeB_fine {a : Int} {e : Et} (h : FineE e) : codeB a e = 0 ∨ codeB a e = 11 := by
  unfold codeB
  rw [if_neg h.1]
  split
  · exact .inr rfl
  · rw [if_neg h.2]; exact .inl rfl

theorem fine_codeB {a : Int} {e : Et} (h : codeB a e = 0) : FineE e := by
  unfold codeB at h
  by_cases h1 : e.term = 0 ∨ numL e.term = false
  · rw [if_pos h1] at h; simp at h
  rw [if_neg h1] at h
  by_cases h2 : e.term < a
  · rw [if_pos h2] at h; simp at h
  rw [if_neg h2] at h
  by_cases h3 : 200 < e.text.size
  · rw [if_pos h3] at h; simp at h
  exact ⟨h1, h3⟩

theorem chkGo_fine : ∀ (l : List Et) (a : Int) (i : Nat), (chkGo a i l).1 = 0 → ∀ e ∈ l, FineE e
  | [], _, _, _ => by simp
  | x :: l, a, i, h => by
    unfold chkGo at h
    by_cases h1 : codeB a x ≠ 0
    · rw [if_pos h1] at h; contradiction
    · rw [if_neg h1] at h
      intro e he
      rcases List.mem_cons.1 he with rfl | he
      · exact fine_codeB (by simpa using h1)
      · exact chkGo_fine l _ _ h e he

theorem chkE_fine {l : List Et} (h : (chkE l).1 = 0) : (∀ e ∈ l, FineE e) ∧ l.length ≤ 100 := by
  unfold chkE at h
  by_cases h1 : 100 < l.length
  · rw [if_pos h1] at h; simp at h
  · rw [if_neg h1] at h
    exact ⟨chkGo_fine l _ _ h, by omega⟩

theorem chkGo_code : ∀ (l : List Et) (a : Int) (i : Nat), (∀ e ∈ l, FineE e) → (chkGo a i l).1 = 0 ∨ (chkGo a i l).1 = 11
  | [], _, _, _ => .inl rfl
  | x :: l, a, i, h => by
    unfold chkGo
    split
    · have := codeB_fine (a := a) (h x (by simp))
      rcases this with h1 | h1
      · contradiction
      · exact .inr h1
    · exact chkGo_code l _ _ (fun e he => h e (List.mem_cons_of_mem _ he))

theorem out_same {l : List Et} (h : ∀ e ∈ l, FineE e) : outR l = outF l := by
  unfold outR outF
  by_cases h1 : 100 < l.length
  · have e : chkE l = (2, -1) := by unfold chkE; rw [if_pos h1]
    rw [e]; rfl
  · have e : chkE l = chkGo 0 0 l := by unfold chkE; rw [if_neg h1]
    have hz := chkE_z l
    rcases chkGo_code l 0 0 h with h2 | h2
    · have h3 : chkE l = (0, 0) := hz (by rw [e]; exact h2)
      rw [h3]; rfl
    · rw [e, if_pos (by rw [h2]; decide), if_neg (by rw [h2]; decide), h2]

theorem putGo_mem : ∀ (m : List Et) (l : List Et) (k : Nat) (e : Et), e ∈ putGo l k m → e ∈ l ∨ e ∈ m
  | [], l, k, e, h => .inl h
  | x :: m, l, k, e, h => by
    unfold putGo at h
    split at h
    · rcases putGo_mem m l (k + 1) e h with h | h
      · exact .inl h
      · exact .inr (List.mem_cons_of_mem _ h)
    · rcases List.mem_append.1 h with h | h
      · exact .inl (List.mem_of_mem_take h)
      · exact .inr h

theorem putGo_fine {l m : List Et} {k : Nat} (hl : ∀ e ∈ l, FineE e) (hm : ∀ e ∈ m, FineE e) : ∀ e ∈ putGo l k m, FineE e := by
  intro e he
  rcases putGo_mem m l k e he with h | h
  · exact hl e h
  · exact hm e h

theorem putGo_len : ∀ (m : List Et) (l : List Et) (k : Nat), (putGo l k m).length ≤ l.length + m.length
  | [], l, k => by simp [putGo]
  | x :: m, l, k => by
    unfold putGo
    split
    · have := putGo_len m l (k + 1)
      simp; omega
    · simp; omega

/-- Are entries there already? -/
def thr (l : List Et) : Nat → List Et → Bool
  | _, [] => true
  | k, e :: m => hasE l (k + 1) e.term && thr l (k + 1) m

theorem putGo_there : ∀ (m : List Et) (l : List Et) (k : Nat), thr l k m = true → putGo l k m = l
  | [], l, k, _ => rfl
  | x :: m, l, k, h => by
    unfold thr at h
    rw [Bool.and_eq_true] at h
    unfold putGo
    rw [if_pos h.1]
    exact putGo_there m l (k + 1) h.2

theorem putGo_not : ∀ (m : List Et) (l : List Et) (k : Nat), k ≤ l.length → thr l k m = false → (putGo l k m).length = k + m.length
  | [], l, k, _, h => by simp [thr] at h
  | x :: m, l, k, hk, h => by
    unfold thr at h
    unfold putGo
    by_cases h1 : hasE l (k + 1) x.term = true
    · rw [if_pos h1]
      rw [h1, Bool.true_and] at h
      have := putGo_not m l (k + 1) (hasE_le h1) h
      simp; omega
    · rw [if_neg h1]
      simp; omega

theorem putGo_take : ∀ (m : List Et) (l : List Et) (k : Nat), k ≤ l.length → (putGo l k m).take k = l.take k
  | [], l, k, _ => rfl
  | x :: m, l, k, hk => by
    unfold putGo
    split
    · rename_i h
      have := putGo_take m l (k + 1) (hasE_le h)
      have h2 : ((putGo l (k + 1) m).take (k + 1)).take k = (l.take (k + 1)).take k := by rw [this]
      rw [List.take_take, List.take_take, Nat.min_eq_left (by omega)] at h2
      exact h2
    · rw [List.take_append_of_le_length (by simp; omega), List.take_take, Nat.min_self]

theorem take_get {l : List Et} {k i : Nat} (h : i < k) : (l.take k)[i]? = l[i]? := by
  rw [List.getElem?_take, if_pos h]

theorem hasE_take {l m : List Et} {k j : Nat} {t : Int} (h : l.take k = m.take k) (hj : j ≤ k) : hasE l j t = hasE m j t := by
  cases j with
  | zero => rfl
  | succ j =>
    have := congrArg (fun x : List Et => x[j]?) h
    simp only [List.getElem?_take, if_pos (show j < k by omega)] at this
    rw [hasE, hasE, this]

/-- What is put is there. -/
theorem thr_put : ∀ (m : List Et) (l : List Et) (k : Nat), k ≤ l.length → thr (putGo l k m) k m = true
  | [], l, k, _ => rfl
  | x :: m, l, k, hk => by
    unfold thr putGo
    by_cases h1 : hasE l (k + 1) x.term = true
    · rw [if_pos h1]
      have h2 := hasE_le h1
      rw [thr_put m l (k + 1) h2, Bool.and_true]
      rw [hasE_take (putGo_take m l (k + 1) h2) (Nat.le_refl _)]
      exact h1
    · rw [if_neg h1]
      have key : ∀ (m2 : List Et) (p : List Et), thr (p ++ m2) p.length m2 = true := by
        intro m2
        induction m2 with
        | nil => intro p; rfl
        | cons y m2 ih =>
          intro p
          unfold thr
          have h3 : (p ++ y :: m2)[p.length]? = some y := by simp
          rw [hasE_some h3]
          have := ih (p ++ [y])
          simp only [List.append_assoc, List.singleton_append, List.length_append, List.length_singleton] at this
          rw [this]
          simp
      have h4 := key (x :: m) (l.take k)
      rw [List.length_take, Nat.min_eq_left hk] at h4
      unfold thr at h4
      exact h4

/-- Put twice it is the same. -/
theorem putGo_twice {m l : List Et} {k : Nat} (h : k ≤ l.length) : putGo (putGo l k m) k m = putGo l k m := putGo_there _ _ _ (thr_put m l k h)

theorem thr_len : ∀ (m : List Et) (l : List Et) (k : Nat), k ≤ l.length → thr l k m = true → k + m.length ≤ l.length
  | [], l, k, hk, _ => by simpa using hk
  | x :: m, l, k, hk, h => by
    unfold thr at h
    rw [Bool.and_eq_true] at h
    have := thr_len m l (k + 1) (hasE_le h.1) h.2
    simp; omega

theorem thr_get : ∀ (m : List Et) (l : List Et) (k : Nat), thr l k m = true → ∀ (i : Nat) (e : Et), m[i]? = some e → ∃ x, l[k + i]? = some x ∧ x.term = e.term
  | [], l, k, _, i, e, h => by simp at h
  | y :: m, l, k, h, i, e, hi => by
    unfold thr at h
    rw [Bool.and_eq_true] at h
    cases i with
    | zero =>
      simp at hi
      subst hi
      have h1 := h.1
      have h2 := hasE_le h1
      obtain ⟨x, hx⟩ : ∃ x, l[k]? = some x := ⟨_, List.getElem?_eq_getElem (by omega)⟩
      rw [hasE_some hx] at h1
      exact ⟨x, hx, by simpa using h1⟩
    | succ i =>
      have := thr_get m l (k + 1) h.2 i e (by simpa using hi)
      rw [show k + 1 + i = k + (i + 1) by omega] at this
      exact this

theorem putGo_ge {m l : List Et} {k : Nat} (h : k ≤ l.length) : k + m.length ≤ (putGo l k m).length := by
  have hk : k ≤ (putGo l k m).length := by
    have := congrArg List.length (putGo_take m l k h)
    rw [List.length_take, List.length_take] at this
    omega
  exact thr_len m _ k hk (thr_put m l k h)

/-- Of the first so many. -/
theorem thr_snoc : ∀ (m : List Et) (l : List Et) (k i : Nat) (e : Et), m[i]? = some e → thr l k (m.take (i + 1)) = (thr l k (m.take i) && hasE l (k + i + 1) e.term)
  | [], l, k, i, e, h => by simp at h
  | y :: m, l, k, 0, e, h => by
    simp at h
    subst h
    simp [thr]
  | y :: m, l, k, i + 1, e, h => by
    have := thr_snoc m l (k + 1) i e (by simpa using h)
    simp only [List.take_succ_cons, thr]
    rw [this, ← Bool.and_assoc, show k + 1 + i + 1 = k + (i + 1) + 1 by omega]

/-- The greatest place at which two agree, of the first so many. -/
def agGo (a b : List Et) : Nat → Nat
  | 0 => 0
  | k + 1 => if (a[k]?.map (·.term)) = (b[k]?.map (·.term)) then k + 1 else agGo a b k

theorem agGo_yes {a b : List Et} {k : Nat} {x y : Et} (hx : a[k]? = some x) (hy : b[k]? = some y) (h : x.term = y.term) : agGo a b (k + 1) = k + 1 := by
  unfold agGo; rw [hx, hy]; simp [h]
theorem agGo_no {a b : List Et} {k : Nat} {x y : Et} (hx : a[k]? = some x) (hy : b[k]? = some y) (h : ¬ x.term = y.term) : agGo a b (k + 1) = agGo a b k := by
  rw [agGo, hx, hy, if_neg (by simpa using h)]

def agN (a b : List Et) : Nat := if (bothF a b).1 = 0 then agGo a b (min a.length b.length) else 0

theorem agGo_le (a b : List Et) : ∀ k, agGo a b k ≤ k
  | 0 => Nat.le_refl _
  | k + 1 => by unfold agGo; split; omega; have := agGo_le a b k; omega

/-- What Put tells: the log, whether it was put, the fault. -/
def putL (l : List Et) (n t : Int) (m : List Et) : List Et :=
  if (ptF l n t m).1 ≠ 0 then [] else if hasE l n.toNat t = false then l else if (outF (putGo l n.toNat m)).1 ≠ 0 then [] else putGo l n.toNat m

def putI (l : List Et) (n t : Int) (m : List Et) : Bool :=
  if (ptF l n t m).1 ≠ 0 then false else if hasE l n.toNat t = false then false else if (outF (putGo l n.toNat m)).1 ≠ 0 then false else true

def putX (l : List Et) (n t : Int) (m : List Et) : Int × Int :=
  if (ptF l n t m).1 ≠ 0 then ptF l n t m else if hasE l n.toNat t = false then (0, 0) else outF (putGo l n.toNat m)

theorem ptF_ok {l : List Et} {n t : Int} {m : List Et} (h : (ptF l n t m).1 = 0) : (chkE l).1 = 0 ∧ (chkE m).1 = 0 ∧ numL n = true ∧ numL t = true := by
  unfold ptF at h
  by_cases h1 : (bothF l m).1 ≠ 0
  · rw [if_pos h1] at h; contradiction
  · rw [if_neg h1] at h
    obtain ⟨h2, h3⟩ := bothF_ok (by simpa using h1)
    refine ⟨h2, h3, ?_⟩
    unfold plF at h
    cases h4 : numL n
    · rw [h4] at h; simp at h
    · cases h5 : numL t
      · rw [h4, h5] at h; simp at h
      · exact ⟨rfl, rfl⟩

theorem ptF_of {l : List Et} {n t : Int} {m : List Et} (h1 : (chkE l).1 = 0) (h2 : (chkE m).1 = 0) (h3 : numL n = true) (h4 : numL t = true) : ptF l n t m = (0, 0) := by
  unfold ptF plF
  rw [bothF_of h1 h2, h3, h4]; rfl

end Go.Proofs.Ytbffmdhogehfnaa

/-
  Whole variables, out of their blocks and into them; results that are read out of blocks. Nothing of a program stands here.
-/
namespace Go.Proofs.Ytbffmdhogehfnaa
open Go.RowKit

theorem run_loadVar_blk {P : Program} {w : World} {B : Nat} {t ty : TypeId} {xs : Array Value} {d : TypeDesc} (h : Blk w B t xs) (hu : P.underlying ty = some d) (hd : (match d with | .struct _ | .array _ _ => true | _ => false) = true) (hi : (P.info? ty).map (·.size) = some xs.size) :
    (loadVar ty ⟨B, 0, none⟩).run P w = .ok (.agg xs) w := run_loadVar_row w B t ty xs (0, 0) d h hu hd hi

theorem run_loadAt_blk {P : Program} {w : World} {B : Nat} {t ty : TypeId} {xs : Array Value} {d : TypeDesc} (h : Blk w B t xs) (hu : P.underlying ty = some d) (hd : (match d with | .struct _ | .array _ _ => true | _ => false) = true) (hi : (P.info? ty).map (·.size) = some xs.size) :
    (Instr.loadAt ty (.pointer (some ⟨B, 0, none⟩))).run P w = .ok (.agg xs) w := by
  simp only [Instr.loadAt, Instr.sureAddr, Sem.run_bind, Sem.run_pure, Result.andThen]
  exact run_loadVar_blk h hu hd hi

theorem run_storeAt_blk {P : Program} {w : World} {B : Nat} {t ty : TypeId} {old xs : Array Value} (h : Blk w B t old) (hi : (P.info? ty).map (·.size) = some xs.size) (ho : old.size = xs.size) (h1 : xs.all (·.oneCell') = true) :
    (Instr.storeAt ty (.pointer (some ⟨B, 0, none⟩)) (.agg xs)).run P w = .ok () (w.setRow B xs) := by
  simp only [Instr.storeAt, Instr.sureAddr, Sem.run_bind, Sem.run_pure, Result.andThen]
  exact run_storeVar_row w B t ty old xs h hi ho h1

theorem Blk.setRow {w : World} {B : Nat} {t : TypeId} {old : Array Value} (h : Blk w B t old) (xs : Array Value) : Blk (w.setRow B xs) B t xs := by
  unfold Blk at *
  simp [World.setRow, Array.getElem?_modify, h]

theorem grown_setRow (w : World) (B : Nat) (xs : Array Value) : w.grownBy (w.setRow B xs) (some B) := by
  refine ⟨rfl, rfl, rfl, by simp [World.setRow], fun k hk hne => ?_⟩
  have : ¬ B = k := fun q => hne (by rw [q])
  simp [World.setRow, Array.getElem?_modify, this]

/-- A whole variable out of its block. -/
theorem wpList_load_blk {P : Program} {ops : Array Oper} {rest : List Oper} {op : Oper} {a : Act} {w : World} {Q : Exit → Act → World → Prop} {ty : TypeId} {x : Operand} {B : Nat} {t : TypeId} {xs : Array Value} {d : TypeDesc}
    (hB : Blk w B t xs) (hu : P.underlying ty = some d) (hd : (match d with | .struct _ | .array _ _ => true | _ => false) = true) (hi : (P.info? ty).map (·.size) = some xs.size) (hgd : op.guard = none) (ho : op.op = .load ty x) (hx : a.eval x = .pointer (some ⟨B, 0, none⟩))
    (h : wpList P ops Q rest (a.put op.dst (.agg xs)) w) : wpList P ops Q (op :: rest) a w :=
  wpList_plain hgd fun _ hK => by
    unfold Oper.wp execOp
    simp only [ho, hx, run_loadAt_blk hB hu hd hi, Sem.run_bind, Sem.run_pure, Result.andThen_ok]
    exact hK _ _ h

/-- A whole variable into its block: the world behind is a letter. -/
theorem wpList_store_blk {P : Program} {ops : Array Oper} {rest : List Oper} {op : Oper} {a : Act} {w : World} {Q : Exit → Act → World → Prop} {ty : TypeId} {x y : Operand} {B : Nat} {t : TypeId} {old xs : Array Value}
    (hgd : op.guard = none) (ho : op.op = .store ty x y) (hx : a.eval x = .pointer (some ⟨B, 0, none⟩)) (hy : a.eval y = .agg xs) (hB : Blk w B t old) (hz : old.size = xs.size) (hi : (P.info? ty).map (·.size) = some xs.size) (h1 : xs.toList.all (·.oneCell') = true)
    (h : ∀ w', Blk w' B t xs → w.grownBy w' (some B) → wpList P ops Q rest (a.put op.dst undef) w') : wpList P ops Q (op :: rest) a w :=
  wpList_plain hgd fun _ hK => by
    unfold Oper.wp execOp
    simp only [ho, hx, hy, run_storeAt_blk hB hi hz (by rw [← Array.all_toList]; exact h1), Sem.run_bind, Sem.run_pure, Result.andThen_ok]
    exact hK _ _ (h _ (hB.setRow xs) (grown_setRow w B xs))

/-- The same as a step of a region that draws its order. -/
theorem step_store_blk {P : Program} {w : World} {ops : Array Oper} {o : Oper} {a : Act} {K : Act → World → Prop} {Q : Exit → Act → World → Prop} {EE : Prop} {x y : Operand} {B : Nat} {t ty : TypeId} {old xs : Array Value}
    (hgd : o.guard = none) (ho : o.op = .store ty x y) (hx : a.eval x = .pointer (some ⟨B, 0, none⟩)) (hy : a.eval y = .agg xs) (hB : Blk w B t old) (hz : old.size = xs.size) (hi : (P.info? ty).map (·.size) = some xs.size) (h1 : xs.toList.all (·.oneCell') = true)
    (h : ∀ w', Blk w' B t xs → w.grownBy w' (some B) → K (a.put o.dst undef) w') : if Region.wanted o (yielded ops a.tmps) = true then Oper.wp P o a w K Q else EE := by
  have hw : Region.wanted o (yielded ops a.tmps) = true := by simp [Region.wanted, hgd]
  rw [if_pos hw]
  unfold Oper.wp execOp
  simp only [ho, hx, hy, run_storeAt_blk hB hi hz (by rw [← Array.all_toList]; exact h1), Sem.run_bind, Sem.run_pure, Result.andThen_ok]
  exact h _ (hB.setRow xs) (grown_setRow w B xs)

theorem results1_cell {P : Program} {fn : Func} {i : Tmp} {t : TypeId} {tmps : Array Value} {B : Nat} {v : Value} {w : World} (h : fn.results = #[.cell i t]) (hp : tmps[i]?.getD undef = .pointer (some ⟨B, 0, none⟩)) (hl : (loadVar t ⟨B, 0, none⟩).run P w = .ok v w) :
    (results fn tmps).run P w = .ok v w := by
  simp [results, h, hp, asAddr, hl]

theorem results2_cells {P : Program} {fn : Func} {i j : Tmp} {t u : TypeId} {tmps : Array Value} {B C : Nat} {v1 v2 : Value} {w : World} (h : fn.results = #[.cell i t, .cell j u]) (hp : tmps[i]?.getD undef = .pointer (some ⟨B, 0, none⟩)) (hq : tmps[j]?.getD undef = .pointer (some ⟨C, 0, none⟩)) (hl : (loadVar t ⟨B, 0, none⟩).run P w = .ok v1 w) (hm : (loadVar u ⟨C, 0, none⟩).run P w = .ok v2 w) :
    (results fn tmps).run P w = .ok (.tuple #[v1, v2]) w := by
  simp [results, h, hp, hq, asAddr, hl, hm]

theorem results2_tc {P : Program} {fn : Func} {i j : Tmp} {u : TypeId} {tmps : Array Value} {C : Nat} {v1 v2 : Value} {w : World} (h : fn.results = #[.tmp i, .cell j u]) (hp : tmps[i]?.getD undef = v1) (hq : tmps[j]?.getD undef = .pointer (some ⟨C, 0, none⟩)) (hm : (loadVar u ⟨C, 0, none⟩).run P w = .ok v2 w) :
    (results fn tmps).run P w = .ok (.tuple #[v1, v2]) w := by
  simp [results, h, hp, hq, asAddr, hm]

end Go.Proofs.Ytbffmdhogehfnaa

/-
  Stores of one place, and of some places, into a block of one's own: the world behind is a letter. Nothing of a program stands here.
-/
namespace Go.Proofs.Ytbffmdhogehfnaa
open Go.RowKit

theorem grown_setCell (w : World) (B k : Nat) (u : Value) : w.grownBy (w.setCell ⟨B, k, none⟩ u) (some B) := by
  refine ⟨rfl, rfl, rfl, by simp, fun j hj hne => ?_⟩
  exact heap_setCell_other w ⟨B, k, none⟩ j u (fun q => hne (by simp at q; rw [q]))

theorem run_storeAt_slice {P : Program} {w : World} {B k : Nat} {t ty : TypeId} {xs : Array Value} {ao : Option Addr} {n c : Nat} (h : Blk w B t xs) (hk : k < xs.size) (hi : (P.info? ty).map (·.size) = some 1) :
    (Instr.storeAt ty (.pointer (some ⟨B, k, none⟩)) (.slice ao n c)).run P w = .ok () (w.setCell ⟨B, k, none⟩ (.slice ao n c)) := by
  have hc := h.cell k
  have hz := h.frozen k
  rw [Array.getElem?_eq_getElem hk] at hc
  cases hq : P.info? ty with
  | none => simp [hq] at hi
  | some i =>
    have hs : i.size = 1 := by simpa [hq] using hi
    simp [Instr.storeAt, Instr.sureAddr, storeVar, sizeOf, typeInfo, hq, hs, Value.cells, storeCells, go_sem, hc, hz, Addr.add]

theorem run_storeAt_int {P : Program} {w : World} {B k : Nat} {t ty : TypeId} {xs : Array Value} {q : IntKind} {n : Int} (h : Blk w B t xs) (hk : k < xs.size) (hi : (P.info? ty).map (·.size) = some 1) :
    (Instr.storeAt ty (.pointer (some ⟨B, k, none⟩)) (.int q n)).run P w = .ok () (w.setCell ⟨B, k, none⟩ (.int q n)) := by
  have hc := h.cell k
  have hz := h.frozen k
  rw [Array.getElem?_eq_getElem hk] at hc
  cases hq : P.info? ty with
  | none => simp [hq] at hi
  | some i =>
    have hs : i.size = 1 := by simpa [hq] using hi
    simp [Instr.storeAt, Instr.sureAddr, storeVar, sizeOf, typeInfo, hq, hs, Value.cells, storeCells, go_sem, hc, hz, Addr.add]

/-- A slice into a place of a block. -/
theorem wpList_store_slice {P : Program} {ops : Array Oper} {rest : List Oper} {op : Oper} {a : Act} {w : World} {Q : Exit → Act → World → Prop} {ty : TypeId} {x y : Operand} {B k : Nat} {t : TypeId} {xs : Array Value} {ao : Option Addr} {n c : Nat}
    (hgd : op.guard = none) (ho : op.op = .store ty x y) (hx : a.eval x = .pointer (some ⟨B, k, none⟩)) (hy : a.eval y = .slice ao n c) (hB : Blk w B t xs) (hk : Nat.blt k xs.size = true) (hi : (P.info? ty).map (·.size) = some 1)
    (h : ∀ w', Blk w' B t (xs.setIfInBounds k (.slice ao n c)) → w.grownBy w' (some B) → wpList P ops Q rest (a.put op.dst undef) w') : wpList P ops Q (op :: rest) a w :=
  wpList_plain hgd fun _ hK => by
    unfold Oper.wp execOp
    simp only [ho, hx, hy, run_storeAt_slice hB (by simpa using hk) hi, Sem.run_bind, Sem.run_pure, Result.andThen_ok]
    exact hK _ _ (h _ (hB.set k _) (grown_setCell w B k _))

/-- A number into a place of a block. -/
theorem wpList_store_int {P : Program} {ops : Array Oper} {rest : List Oper} {op : Oper} {a : Act} {w : World} {Q : Exit → Act → World → Prop} {ty : TypeId} {x y : Operand} {B k : Nat} {t : TypeId} {xs : Array Value} {q : IntKind} {n : Int}
    (hgd : op.guard = none) (ho : op.op = .store ty x y) (hx : a.eval x = .pointer (some ⟨B, k, none⟩)) (hy : a.eval y = .int q n) (hB : Blk w B t xs) (hk : Nat.blt k xs.size = true) (hi : (P.info? ty).map (·.size) = some 1)
    (h : ∀ w', Blk w' B t (xs.setIfInBounds k (.int q n)) → w.grownBy w' (some B) → wpList P ops Q rest (a.put op.dst undef) w') : wpList P ops Q (op :: rest) a w :=
  wpList_plain hgd fun _ hK => by
    unfold Oper.wp execOp
    simp only [ho, hx, hy, run_storeAt_int hB (by simpa using hk) hi, Sem.run_bind, Sem.run_pure, Result.andThen_ok]
    exact hK _ _ (h _ (hB.set k _) (grown_setCell w B k _))

theorem run_storeAt_bool {P : Program} {w : World} {B k : Nat} {t ty : TypeId} {xs : Array Value} {b : Bool} (h : Blk w B t xs) (hk : k < xs.size) (hi : (P.info? ty).map (·.size) = some 1) :
    (Instr.storeAt ty (.pointer (some ⟨B, k, none⟩)) (.bool b)).run P w = .ok () (w.setCell ⟨B, k, none⟩ (.bool b)) := by
  have hc := h.cell k
  have hz := h.frozen k
  rw [Array.getElem?_eq_getElem hk] at hc
  cases hq : P.info? ty with
  | none => simp [hq] at hi
  | some i =>
    have hs : i.size = 1 := by simpa [hq] using hi
    simp [Instr.storeAt, Instr.sureAddr, storeVar, sizeOf, typeInfo, hq, hs, Value.cells, storeCells, go_sem, hc, hz, Addr.add]

/-- A bool into a place of a block. -/
theorem wpList_store_bool {P : Program} {ops : Array Oper} {rest : List Oper} {op : Oper} {a : Act} {w : World} {Q : Exit → Act → World → Prop} {ty : TypeId} {x y : Operand} {B k : Nat} {t : TypeId} {xs : Array Value} {b : Bool}
    (hgd : op.guard = none) (ho : op.op = .store ty x y) (hx : a.eval x = .pointer (some ⟨B, k, none⟩)) (hy : a.eval y = .bool b) (hB : Blk w B t xs) (hk : Nat.blt k xs.size = true) (hi : (P.info? ty).map (·.size) = some 1)
    (h : ∀ w', Blk w' B t (xs.setIfInBounds k (.bool b)) → w.grownBy w' (some B) → wpList P ops Q rest (a.put op.dst undef) w') : wpList P ops Q (op :: rest) a w :=
  wpList_plain hgd fun _ hK => by
    unfold Oper.wp execOp
    simp only [ho, hx, hy, run_storeAt_bool hB (by simpa using hk) hi, Sem.run_bind, Sem.run_pure, Result.andThen_ok]
    exact hK _ _ (h _ (hB.set k _) (grown_setCell w B k _))

/-- A block is written behind what is laid new; then another new one. -/
theorem grown_via {w A w2 : World} {C : Nat} (hA : Below w.heap.size w A) (hg : A.grownBy w2 (some C)) : w.grownBy w2 (some C) :=
  ⟨hg.os.trans hA.os, hg.tape.trans hA.tape, hg.output.trans hA.output, Nat.le_trans hA.size hg.size, fun k hk hne => (hg.block k (Nat.lt_of_lt_of_le hk hA.size) hne).trans (hA.block k hk)⟩

theorem grown_more {w w2 w3 : World} {C R : Nat} (h : w.grownBy w2 (some C)) (hg : w2.grownBy w3 (some R)) (hR : w.heap.size ≤ R ∨ R = C) : w.grownBy w3 (some C) :=
  ⟨hg.os.trans h.os, hg.tape.trans h.tape, hg.output.trans h.output, Nat.le_trans h.size hg.size, fun k hk hne => (hg.block k (Nat.lt_of_lt_of_le hk h.size) (fun q => by cases q; rcases hR with hR | hR; omega; exact hne (by rw [hR]))).trans (h.block k hk hne)⟩

theorem grown_below {w w2 w3 : World} {C : Nat} (h : w.grownBy w2 (some C)) (hb : Below w2.heap.size w2 w3) : w.grownBy w3 (some C) :=
  ⟨hb.os.trans h.os, hb.tape.trans h.tape, hb.output.trans h.output, Nat.le_trans h.size hb.size, fun k hk hne => (hb.block k (Nat.lt_of_lt_of_le hk h.size)).trans (h.block k hk hne)⟩

/-- What a step leaves but some blocks, one behind the other. -/
theorem below_grownO {w w1 w' : World} {C : Nat} {o : Option Nat} (h : Below C w w1) (hg : w1.grownBy w' o) (ho : ∀ k, o = some k → C ≤ k) (hC : C ≤ w1.heap.size) : Below C w w' :=
  ⟨hg.os.trans h.os, hg.tape.trans h.tape, hg.output.trans h.output, Nat.le_trans h.size hg.size, fun k hk => (hg.block k (by omega) (fun q => by have := ho k q.symm; omega)).trans (h.block k hk)⟩

theorem owns_grownO {w w' : World} {base : Nat} {e : TypeId} {size : Nat} {v : Value} {n : Nat} {xs : List Value} {o : Option Nat} (h : w.ownsRow base e size v n xs) (hg : w.grownBy w' o) (hne : v.ownBlock = none ∨ v.ownBlock ≠ o) : w'.ownsRow base e size v n xs :=
  h.kept hg hne

end Go.Proofs.Ytbffmdhogehfnaa
