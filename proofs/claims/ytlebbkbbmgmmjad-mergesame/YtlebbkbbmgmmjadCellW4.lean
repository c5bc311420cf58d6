/-
  The walks over what is seen: package view's functions and those that they answer.
-/
import Derived.Test.YtlebbkbbmgmmjadCellW3
import Derived.Laws.EntriesVeiled
namespace Go.Proofs.Ytlebbkbbmgmmjad
open Go.RowKit

/-- A block of one's own. -/
def Bk (w : World) (B : Nat) (t : TypeId) (xs : Array Value) : Prop := w.heap[B]? = some (.cells xs t (0, 0))

theorem Bk.cell {w : World} {B : Nat} {t : TypeId} {xs : Array Value} (h : Bk w B t xs) (k : Nat) : w.cell? ⟨B, k, none⟩ = xs[k]? := by
  rw [cell_of_row _ _ _ _ _ _ h]

theorem Bk.frozen {w : World} {B : Nat} {t : TypeId} {xs : Array Value} (h : Bk w B t xs) (k : Nat) : w.frozen? ⟨B, k, none⟩ = false := frozen_of_row _ _ _ _ _ h
theorem Bk.lt {w : World} {B : Nat} {t : TypeId} {xs : Array Value} (h : Bk w B t xs) : B < w.heap.size := (Array.getElem?_eq_some_iff.1 h).1
theorem Bk.below {w w' : World} {B C : Nat} {t : TypeId} {xs : Array Value} (h : Bk w B t xs) (hb : Below C w w') (hC : B < C) : Bk w' B t xs := by
  unfold Bk
  rw [hb.block _ hC]
  exact h

theorem Bk.grown {w w' : World} {B : Nat} {o : Option Nat} {t : TypeId} {xs : Array Value} (h : Bk w B t xs) (hg : w.grownBy w' o) (hne : some B ≠ o) : Bk w' B t xs := by
  unfold Bk
  rw [hg.block _ h.lt hne]
  exact h

theorem Bk.new (w : World) (t : TypeId) (xs : Array Value) : Bk (w.alloc (.cells xs t)) w.heap.size t xs := heap_alloc_new _ _
theorem Bk.set {w : World} {B : Nat} {t : TypeId} {xs : Array Value} (h : Bk w B t xs) (k : Nat) (u : Value) : Bk (w.setCell ⟨B, k, none⟩ u) B t (xs.setIfInBounds k u) := by
  unfold Bk
  rw [heap_setCell_same w B k _ _ _ h]

/-- The block of a cell. -/
def ca (c : Cl) : Array Value := #[.string c.row, .string c.col, .int .i64 c.time, .bool c.gone, .string c.val]

theorem Bk.at {w : World} {B : Nat} {t : TypeId} {c : Cl} (h : Bk w B t (ca c)) : At w B 0 c :=
  ⟨h.cell 0, h.cell 1, h.cell 2, h.cell 3, h.cell 4⟩

theorem Bk.facts {w : World} {B : Nat} {t : TypeId} {c : Cl} (h : Bk w B t (ca c)) :
    w.cell? ⟨B, 0, none⟩ = some (.string c.row) ∧ w.cell? ⟨B, 1, none⟩ = some (.string c.col) ∧ w.cell? ⟨B, 2, none⟩ = some (.int .i64 c.time) ∧ w.cell? ⟨B, 3, none⟩ = some (.bool c.gone) ∧ w.cell? ⟨B, 4, none⟩ = some (.string c.val) :=
  ⟨h.cell 0, h.cell 1, h.cell 2, h.cell 3, h.cell 4⟩

theorem Bk.thaw {w : World} {B : Nat} {t : TypeId} {xs : Array Value} (h : Bk w B t xs) :
    w.frozen? ⟨B, 0, none⟩ = false ∧ w.frozen? ⟨B, 1, none⟩ = false ∧ w.frozen? ⟨B, 2, none⟩ = false ∧ w.frozen? ⟨B, 3, none⟩ = false ∧ w.frozen? ⟨B, 4, none⟩ = false :=
  ⟨h.frozen 0, h.frozen 1, h.frozen 2, h.frozen 3, h.frozen 4⟩

/-- A cell stored over another one. -/
theorem Bk.store {w : World} {B : Nat} {t : TypeId} {c d : Cl} (h : Bk w B t (ca d)) :
    Bk (((((w.setCell ⟨B, 0, none⟩ (.string c.row)).setCell ⟨B, 1, none⟩ (.string c.col)).setCell ⟨B, 2, none⟩ (.int .i64 c.time)).setCell ⟨B, 3, none⟩ (.bool c.gone)).setCell ⟨B, 4, none⟩ (.string c.val)) B t (ca c) :=
  ((((h.set 0 _).set 1 _).set 2 _).set 3 _).set 4 _

theorem gb_set {a w : World} {B : Nat} (h : a.grownBy w (some B)) (j : Nat) (u : Value) : a.grownBy (w.setCell ⟨B, j, none⟩ u) (some B) :=
  ⟨h.os, h.tape, h.output, by rw [World.setCell]; simp [h.size], fun k hk hn => (heap_setCell_other w _ k u (fun e => hn (by simp [e]))).trans (h.block k hk hn)⟩

theorem gb_alloc {a w : World} {o : Option Nat} (h : a.grownBy w o) (x : Obj) : a.grownBy (w.alloc x) o :=
  ⟨h.os, h.tape, h.output, by simp; have := h.size; omega, fun k hk hn => (heap_alloc_old w x (Nat.lt_of_lt_of_le hk h.size)).trans (h.block k hk hn)⟩

theorem gb_refl (w : World) (o : Option Nat) : w.grownBy w o := ⟨rfl, rfl, rfl, Nat.le_refl _, fun _ _ _ => rfl⟩

/-- Is c seen, behind one that hides? And which one hides then. -/
def hid (t : Int) (nw c : Cl) : Bool := decide (t < c.time) || (c.row.toList == nw.row.toList && c.col.toList == nw.col.toList)
def seenB (t : Int) (nw c : Cl) : Bool := !hid t nw c && !c.gone
def nextN (t : Int) (nw c : Cl) : Cl := if hid t nw c then nw else c

/-- The state of NewestAt's function: a time, and the one that hides. -/
structure NwSt (w : World) (T : Nat) (t : Int) (nw : Cl) : Prop where
  tB : Bk w T 3 #[.int .i64 t]
  nB : Bk w (T + 1) 91 (ca nw)

/-- NewestAt's function. -/
def nwF (T : Nat) : Value := .func (.func 113) #[] #[.pointer (some ⟨T, 0, none⟩), .pointer (some ⟨T + 1, 0, none⟩)]

theorem NwSt.below {w w' : World} {T C : Nat} {t : Int} {nw : Cl} (h : NwSt w T t nw) (hb : Below C w w') (hC : T + 1 < C) : NwSt w' T t nw :=
  ⟨h.tB.below hb (by omega), h.nB.below hb hC⟩

theorem NwSt.lt {w : World} {T : Nat} {t : Int} {nw : Cl} (h : NwSt w T t nw) : T + 1 < w.heap.size := h.nB.lt

theorem NwSt.grown {w w' : World} {T : Nat} {o : Option Nat} {t : Int} {nw : Cl} (h : NwSt w T t nw) (hg : w.grownBy w' o) (h1 : some T ≠ o) (h2 : some (T + 1) ≠ o) : NwSt w' T t nw :=
  ⟨h.tB.grown hg h1, h.nB.grown hg h2⟩

set_option maxRecDepth 100000 in
set_option maxHeartbeats 400000 in
theorem newestAt_any (t : Int) (w : World) :
    Calls Try.prog 89 #[.int .i64 t] w fun e w' => e = .returned (nwF w.heap.size) ∧ NwSt w' w.heap.size t zeroC ∧ Below w.heap.size w w' ∧ w'.heap.size = w.heap.size + 2 := by
  go_enter Try.func89, Try.ntmps89
  go_wp2_with fail
  go_ret
  refine ⟨rfl, ⟨?_, ?_⟩, by go_grown, by simp⟩
  · exact (Bk.new w 3 #[.int .i64 t]).below (below_alloc' _ _) (by simp)
  · have := Bk.new (w.alloc (.cells #[.int .i64 t] 3)) 91 (ca zeroC)
    rw [show (w.alloc (.cells #[.int .i64 t] 3)).heap.size = w.heap.size + 1 by simp] at this
    exact this

set_option maxRecDepth 100000 in
set_option maxHeartbeats 400000 in
theorem newestAt1_any (t : Int) (c nw : Cl) (T : Nat) (w : World) (hS : NwSt w T t nw) :
    Calls Try.prog 113 #[cA c, .pointer (some ⟨T, 0, none⟩), .pointer (some ⟨T + 1, 0, none⟩)] w fun e w' => e = .returned (.bool (!hid t nw c)) ∧ NwSt w' T t (nextN t nw c) ∧ w.grownBy w' (some (T + 1)) := by
  suffices h : Calls Try.prog 113 #[cA c, .pointer (some ⟨T, 0, none⟩), .pointer (some ⟨T + 1, 0, none⟩)] w fun e w' => e = .returned (.bool (!hid t nw c)) ∧ Bk w' (T + 1) 91 (ca (nextN t nw c)) ∧ w.grownBy w' (some (T + 1)) by
    refine h.mono ?_
    rintro e w' ⟨h1, h2, h3⟩
    exact ⟨h1, ⟨hS.tB.grown h3 (by simp), h2⟩, h3⟩
  unfold cA
  have hT := hS.tB.cell 0
  have hN := hS.nB
  clear hS
  simp at hT
  generalize hNN : T + 1 = N at *
  clear hNN
  obtain ⟨n0, n1, n2, n3, n4⟩ := hN.facts
  obtain ⟨t0, t1, t2, t3, t4⟩ := hN.thaw
  have hlt := hN.lt
  have hTlt := World.block_lt_of_cell? w _ hT
  simp only at hTlt
  have hN1 : Bk (w.alloc (.cells #[.string c.row, .string c.col, .int .i64 c.time, .bool c.gone, .string c.val] 91)) N 91 (ca nw) := hN.below (below_alloc' _ _) hlt
  have hG1 : w.grownBy (w.alloc (.cells #[.string c.row, .string c.col, .int .i64 c.time, .bool c.gone, .string c.val] 91)) (some N) := gb_alloc (gb_refl _ _) _
  have hS0 := hN.store (c := c)
  have hS : Bk ((((((w.setCell ⟨N, 0, none⟩ (.string c.row)).setCell ⟨N, 1, none⟩ (.string c.col)).setCell ⟨N, 2, none⟩ (.int .i64 c.time)).setCell ⟨N, 3, none⟩ (.bool c.gone)).setCell ⟨N, 4, none⟩ (.string c.val)).alloc (.cells #[.string c.row, .string c.col, .int .i64 c.time, .bool c.gone, .string c.val] 91)) N 91 (ca c) := hS0.below (below_alloc' _ _) hS0.lt
  have hG2 := gb_alloc (gb_set (gb_set (gb_set (gb_set (gb_set (gb_refl w (some N)) 0 (.string c.row)) 1 (.string c.col)) 2 (.int .i64 c.time)) 3 (.bool c.gone)) 4 (.string c.val)) (.cells #[.string c.row, .string c.col, .int .i64 c.time, .bool c.gone, .string c.val] 91)
  clear hS0
  have HN1 := hide hN1
  have HG1 := hide hG1
  have HS := hide hS
  have HG2 := hide hG2
  clear hN1 hG1 hS hG2 hN
  by_cases h1 : t < c.time
  · have HE : Hid (hid t nw c = true) := hide (by simp [hid, h1])
    have hd : decide (t < c.time) = true := by simpa using h1
    go_enter Try.func113, Try.ntmps113
    go_wp2_with fail
    go_ret
    exact ⟨by rw [HE.out]; rfl, by rw [nextN, HE.out, if_pos rfl]; exact HN1.out, HG1.out⟩
  · have hd : decide (t < c.time) = false := by simpa using h1
    have h4 : (c.row.toList == nw.row.toList) = true ∧ (c.col.toList == nw.col.toList) = true ∨ (c.row.toList == nw.row.toList) = true ∧ (c.col.toList == nw.col.toList) = false ∨ (c.row.toList == nw.row.toList) = false := by
      cases (c.row.toList == nw.row.toList) <;> cases (c.col.toList == nw.col.toList) <;> simp
    rcases h4 with ⟨h2, h3⟩ | ⟨h2, h3⟩ | h2
    · have HE : Hid (hid t nw c = true) := hide (by unfold hid; rw [hd, h2, h3]; rfl)
      go_enter Try.func113, Try.ntmps113
      go_wp2_with fail
      go_ret
      exact ⟨by rw [HE.out]; rfl, by rw [nextN, HE.out, if_pos rfl]; exact HN1.out, HG1.out⟩
    · have HE : Hid (hid t nw c = false) := hide (by unfold hid; rw [hd, h2, h3]; rfl)
      go_enter Try.func113, Try.ntmps113
      go_wp2_with fail
      go_ret
      exact ⟨by rw [HE.out]; rfl, by rw [nextN, HE.out, if_neg (by decide)]; exact HS.out, HG2.out⟩
    · have HE : Hid (hid t nw c = false) := hide (by unfold hid; rw [hd, h2]; rfl)
      go_enter Try.func113, Try.ntmps113
      go_wp2_with fail
      go_ret
      exact ⟨by rw [HE.out]; rfl, by rw [nextN, HE.out, if_neg (by decide)]; exact HS.out, HG2.out⟩

/-- The state of SeenAt's function. -/
structure SnSt (w : World) (T : Nat) (t : Int) (nw : Cl) : Prop where
  s : NwSt w T t nw
  iB : Bk w (T + 2) 88 #[nwF T]

/-- SeenAt's function. -/
def snF (T : Nat) : Value := .func (.func 116) #[] #[.pointer (some ⟨T + 2, 0, none⟩)]

theorem SnSt.below {w w' : World} {T C : Nat} {t : Int} {nw : Cl} (h : SnSt w T t nw) (hb : Below C w w') (hC : T + 2 < C) : SnSt w' T t nw :=
  ⟨h.s.below hb (by omega), h.iB.below hb hC⟩

theorem SnSt.lt {w : World} {T : Nat} {t : Int} {nw : Cl} (h : SnSt w T t nw) : T + 2 < w.heap.size := h.iB.lt

theorem SnSt.grown {w w' : World} {T : Nat} {o : Option Nat} {t : Int} {nw : Cl} (h : SnSt w T t nw) (hg : w.grownBy w' o) (h1 : some T ≠ o) (h2 : some (T + 1) ≠ o) (h3 : some (T + 2) ≠ o) : SnSt w' T t nw :=
  ⟨h.s.grown hg h1 h2, h.iB.grown hg h3⟩

theorem gb_trans {a b c : World} {o : Option Nat} (h : a.grownBy b o) (k : b.grownBy c o) : a.grownBy c o :=
  ⟨k.os.trans h.os, by have := h.tape; have := k.tape; simp_all, by have := h.output; have := k.output; simp_all, Nat.le_trans h.size k.size, fun j hj hn => (k.block j (Nat.lt_of_lt_of_le hj h.size) hn).trans (h.block j hj hn)⟩

set_option maxRecDepth 100000 in
set_option maxHeartbeats 400000 in
theorem seenAt_any (t : Int) (w : World) :
    Calls Try.prog 94 #[.int .i64 t] w fun e w' => e = .returned (snF w.heap.size) ∧ SnSt w' w.heap.size t zeroC ∧ Below w.heap.size w w' ∧ w'.heap.size = w.heap.size + 3 := by
  go_enter Try.func94, Try.ntmps94
  go_wp2_with fail
  refine (newestAt_any t _).mono ?_
  rintro e w1 ⟨rfl, hs1, hb1, hz1⟩
  have hI : Bk (w1.alloc (.cells #[nwF w.heap.size] 88)) (w.heap.size + 2) 88 #[nwF w.heap.size] := by
    have := Bk.new w1 88 #[nwF w.heap.size]
    rw [hz1] at this
    exact this
  have HS := hide (show SnSt (w1.alloc (.cells #[nwF w.heap.size] 88)) w.heap.size t zeroC from ⟨hs1.below (below_alloc' _ _) hs1.lt, hI⟩)
  have HB := hide (hb1.alloc (by omega) (.cells #[nwF w.heap.size] 88))
  have HZ := hide hz1
  clear hs1 hI hb1 hz1
  unfold nwF
  go_wp2_with fail
  go_ret
  exact ⟨by rw [HZ.out]; rfl, HS.out, HB.out, by have := HZ.out; simp; omega⟩

set_option maxRecDepth 100000 in
set_option maxHeartbeats 400000 in
theorem seenAt1_any (t : Int) (c nw : Cl) (T : Nat) (w : World) (hS : SnSt w T t nw) :
    Calls Try.prog 116 #[cA c, .pointer (some ⟨T + 2, 0, none⟩)] w fun e w' => e = .returned (.bool (seenB t nw c)) ∧ SnSt w' T t (nextN t nw c) ∧ w.grownBy w' (some (T + 1)) := by
  unfold cA
  have i0 := hS.iB.cell 0
  unfold nwF at i0
  simp at i0
  have hlt := hS.lt
  have hS1 := hS.below (below_alloc' w (.cells #[.string c.row, .string c.col, .int .i64 c.time, .bool c.gone, .string c.val] 91)) hlt
  have hC1 : Bk (w.alloc (.cells #[.string c.row, .string c.col, .int .i64 c.time, .bool c.gone, .string c.val] 91)) w.heap.size 91 (ca c) := Bk.new _ _ _
  have hG1 : w.grownBy (w.alloc (.cells #[.string c.row, .string c.col, .int .i64 c.time, .bool c.gone, .string c.val] 91)) (some (T + 1)) := gb_alloc (gb_refl _ _) _
  go_enter Try.func116, Try.ntmps116
  go_wp2_with fail
  refine (newestAt1_any t c nw T _ hS1.s).mono ?_
  rintro e w2 ⟨rfl, hs2, hg2⟩
  have hC2 := hC1.grown hg2 (by simp; omega)
  have HS2 := hide (show SnSt w2 T t (nextN t nw c) from ⟨hs2, hS1.iB.grown hg2 (by simp)⟩)
  have HG2 := hide (gb_trans hG1 hg2)
  obtain ⟨c0, c1, c2, c3, c4⟩ := hC2.facts
  clear hS hS1 hC1 hG1 hs2 hg2 hC2 i0
  cases hq : hid t nw c
  all_goals
    have HE := hide (show seenB t nw c = _ by unfold seenB; rw [hq])
    simp only [Bool.not_true, Bool.not_false]
    go_wp2_with fail
    go_ret
    exact ⟨by rw [HE.out]; rfl, HS2.out, HG2.out⟩

/-- Is a row asked for? -/
def askB (a b row : ByteArray) : Bool := !(Op.bytesLess row.toList a.toList) && (b.toList.isEmpty || Op.bytesLess row.toList b.toList)
/-- An ask as a value. -/
def aA (a b : ByteArray) (t m : Int) : Value := .agg #[.string a, .string b, .int .i64 t, .int .i64 m]

/-- The state of AskedFor's function. -/
structure AkSt (w : World) (A : Nat) (a b : ByteArray) (t m : Int) (nw : Cl) : Prop where
  s : SnSt w (A + 1) t nw
  aB : Bk w A 24 #[.string a, .string b, .int .i64 t, .int .i64 m]
  jB : Bk w (A + 4) 88 #[snF (A + 1)]

/-- AskedFor's function. -/
def akF (A : Nat) : Value := .func (.func 95) #[] #[.pointer (some ⟨A + 4, 0, none⟩), .pointer (some ⟨A, 0, none⟩)]

theorem AkSt.below {w w' : World} {A C : Nat} {a b : ByteArray} {t m : Int} {nw : Cl} (h : AkSt w A a b t m nw) (hb : Below C w w') (hC : A + 4 < C) : AkSt w' A a b t m nw :=
  ⟨h.s.below hb (by omega), h.aB.below hb (by omega), h.jB.below hb hC⟩

theorem AkSt.lt {w : World} {A : Nat} {a b : ByteArray} {t m : Int} {nw : Cl} (h : AkSt w A a b t m nw) : A + 4 < w.heap.size := h.jB.lt

theorem AkSt.grown {w w' : World} {A k : Nat} {a b : ByteArray} {t m : Int} {nw : Cl} (h : AkSt w A a b t m nw) (hg : w.grownBy w' (some k)) (h1 : k < A ∨ A + 4 < k) : AkSt w' A a b t m nw :=
  ⟨h.s.grown hg (by simp; omega) (by simp; omega) (by simp; omega), h.aB.grown hg (by simp; omega), h.jB.grown hg (by simp; omega)⟩

set_option maxRecDepth 100000 in
set_option maxHeartbeats 400000 in
theorem askedFor_any (a b : ByteArray) (t m : Int) (w : World) :
    Calls Try.prog 59 #[aA a b t m] w fun e w' => e = .returned (akF w.heap.size) ∧ AkSt w' w.heap.size a b t m zeroC ∧ Below w.heap.size w w' ∧ w'.heap.size = w.heap.size + 5 := by
  unfold aA
  go_enter Try.func59, Try.ntmps59
  go_wp2_with fail
  have hz0 : (w.alloc (.cells #[.string a, .string b, .int .i64 t, .int .i64 m] 24)).heap.size = w.heap.size + 1 := by simp
  have hA0 := Bk.new w 24 #[.string a, .string b, .int .i64 t, .int .i64 m]
  refine (seenAt_any t _).mono ?_
  rintro e w1 ⟨rfl, hs1, hb1, hz1⟩
  have hA1 := hA0.below hb1 (by simp)
  rw [hz0] at hs1 hb1 hz1 ⊢
  have hbw : Below w.heap.size w w1 := (below_alloc' _ _).trans (hb1.mono (by omega))
  have hJ : Bk (w1.alloc (.cells #[snF (w.heap.size + 1)] 88)) (w.heap.size + 4) 88 #[snF (w.heap.size + 1)] := by
    have := Bk.new w1 88 #[snF (w.heap.size + 1)]
    rw [hz1] at this
    exact this
  have HS := hide (show AkSt (w1.alloc (.cells #[snF (w.heap.size + 1)] 88)) w.heap.size a b t m zeroC from ⟨hs1.below (below_alloc' _ _) hs1.lt, hA1.below (below_alloc' _ _) hA1.lt, hJ⟩)
  have HB := hide (hbw.alloc (by omega) (.cells #[snF (w.heap.size + 1)] 88))
  have HZ := hide hz1
  clear hs1 hJ hb1 hbw hA0 hA1 hz1 hz0
  unfold snF
  go_wp2_with fail
  go_ret
  exact ⟨by rw [HZ.out]; rfl, HS.out, HB.out, by have := HZ.out; simp; omega⟩

set_option maxRecDepth 100000 in
theorem isBetween_any (r a b : ByteArray) (w : World) : Calls Try.prog 96 #[.string r, .string a, .string b] w fun e w' => e = .returned (.bool (askB a b r)) ∧ w' = w := by
  cases h1 : Op.bytesLess r.toList a.toList <;> cases h2 : b.toList.isEmpty <;> cases h3 : Op.bytesLess r.toList b.toList
  all_goals
    go_enter Try.func96, Try.ntmps96
    go_wp2_with fail
    go_ret
    exact ⟨by simp [askB, h1, h2, h3], rfl⟩

set_option maxRecDepth 100000 in
set_option maxHeartbeats 1000000 in
theorem askedFor1_any (a b : ByteArray) (t m : Int) (c nw : Cl) (A : Nat) (w : World) (hS : AkSt w A a b t m nw) :
    Calls Try.prog 95 #[cA c, .pointer (some ⟨A + 4, 0, none⟩), .pointer (some ⟨A, 0, none⟩)] w fun e w' => e = .returned (.bool (seenB t nw c && askB a b c.row)) ∧ AkSt w' A a b t m (nextN t nw c) ∧ w.grownBy w' (some (A + 2)) := by
  unfold cA
  have j0 := hS.jB.cell 0
  unfold snF at j0
  simp at j0
  have hlt := hS.lt
  have hS1 := hS.below (below_alloc' w (.cells #[.string c.row, .string c.col, .int .i64 c.time, .bool c.gone, .string c.val] 91)) hlt
  have hC1 : Bk (w.alloc (.cells #[.string c.row, .string c.col, .int .i64 c.time, .bool c.gone, .string c.val] 91)) w.heap.size 91 (ca c) := Bk.new _ _ _
  have hG1 : w.grownBy (w.alloc (.cells #[.string c.row, .string c.col, .int .i64 c.time, .bool c.gone, .string c.val] 91)) (some (A + 2)) := gb_alloc (gb_refl _ _) _
  go_enter Try.func95, Try.ntmps95
  go_wp2_with fail
  refine (seenAt1_any t c nw (A + 1) _ hS1.s).mono ?_
  rintro e w2 ⟨rfl, hs2, hg2⟩
  have hC2 := hC1.grown hg2 (by simp; omega)
  have hA2 := hS1.aB.grown hg2 (by simp; omega)
  have HS2 := hide (show AkSt w2 A a b t m (nextN t nw c) from ⟨hs2, hA2, hS1.jB.grown hg2 (by simp)⟩)
  have HG2 := hide (gb_trans hG1 hg2)
  obtain ⟨c0, c1, c2, c3, c4⟩ := hC2.facts
  have a0 := hA2.cell 0
  have a1 := hA2.cell 1
  simp at a0 a1
  clear hS hS1 hC1 hG1 hs2 hg2 hC2 j0 hA2
  cases hq : seenB t nw c
  · go_wp2_with fail
    go_ret
    exact ⟨by rw [hq]; rfl, HS2.out, HG2.out⟩
  · go_wp2_with (go_at_call 96; refine (isBetween_any _ _ _ _).mono ?_; rintro e w3 ⟨rfl, rfl⟩)
    go_ret
    exact ⟨by simp [hq], HS2.out, HG2.out⟩

/-- What is wrong with what is asked with. -/
def askFV (t m : Int) : Int × Int := if isNumB t = false then (3, -1) else if m < 0 ∨ 1000 < m then (3, -2) else (0, 0)

set_option maxRecDepth 100000 in
set_option maxHeartbeats 1000000 in
theorem vAskFault_any (a b : ByteArray) (t m : Int) (w : World) :
    Calls Try.prog 57 #[aA a b t m] w fun e w' => e = .returned (fltC (askFV t m)) ∧ Below w.heap.size w w' := by
  unfold aA
  cases hn : isNumB t
  · have HE := hide (show askFV t m = (3, -1) by unfold askFV; rw [if_pos hn])
    go_enter Try.func57, Try.ntmps57
    go_wp2_with (go_at_call 54; refine (isNum_any _ _).mono ?_; rintro e w' ⟨rfl, rfl⟩; rw [hn])
    exact bodyPost_ret (v := fltC (3, -1)) (by simp [results, Try.results57, go_sem, fltC]) rfl ⟨by rw [HE.out], by go_grown⟩
  · by_cases h1 : m < 0
    · have HE := hide (show askFV t m = (3, -2) by unfold askFV; rw [if_neg (by rw [hn]; decide), if_pos (.inl h1)])
      go_enter Try.func57, Try.ntmps57
      go_wp2_with (go_at_call 54; refine (isNum_any _ _).mono ?_; rintro e w' ⟨rfl, rfl⟩; rw [hn])
      exact bodyPost_ret (v := fltC (3, -2)) (by simp [results, Try.results57, go_sem, fltC]) rfl ⟨by rw [HE.out], by go_grown⟩
    · by_cases h2 : 1000 < m
      · have HE := hide (show askFV t m = (3, -2) by unfold askFV; rw [if_neg (by rw [hn]; decide), if_pos (.inr h2)])
        go_enter Try.func57, Try.ntmps57
        go_wp2_with (go_at_call 54; refine (isNum_any _ _).mono ?_; rintro e w' ⟨rfl, rfl⟩; rw [hn])
        exact bodyPost_ret (v := fltC (3, -2)) (by simp [results, Try.results57, go_sem, fltC]) rfl ⟨by rw [HE.out], by go_grown⟩
      · have HE := hide (show askFV t m = (0, 0) by unfold askFV; rw [if_neg (by rw [hn]; decide), if_neg (by omega)])
        go_enter Try.func57, Try.ntmps57
        go_wp2_with (go_at_call 54; refine (isNum_any _ _).mono ?_; rintro e w' ⟨rfl, rfl⟩; rw [hn])
        exact bodyPost_ret (v := fltC (0, 0)) (by simp [results, Try.results57, go_sem, fltC]) rfl ⟨by rw [HE.out], by go_grown⟩

end Go.Proofs.Ytlebbkbbmgmmjad
