/-
  The walks over what is seen: seenAt, its function, asksFor.
-/
import Derived.Test.YtoelolomojnidabCellW3
namespace Go.Proofs.Ytoelolomojnidab
open Go.RowKit

/-- A block of one's own. -/
def Bk (w : World) (B : Nat) (t : TypeId) (xs : Array Value) : Prop := w.heap[B]? = some (.cells xs t (0, 0))

theorem Bk.cell {w : World} {B : Nat} {t : TypeId} {xs : Array Value} (h : Bk w B t xs) (k : Nat) : w.cell? ⟨B, k, none⟩ = xs[k]? := by
  rw [cell_of_row _ _ _ _ _ _ h]

theorem Bk.frozen {w : World} {B : Nat} {t : TypeId} {xs : Array Value} (h : Bk w B t xs) (k : Nat) : w.frozen? ⟨B, k, none⟩ = false := frozen_of_row _ _ _ _ _ h
theorem Bk.lt {w : World} {B : Nat} {t : TypeId} {xs : Array Value} (h : Bk w B t xs) : B < w.heap.size := (Array.getElem?_eq_some_iff.1 h).1
theorem Bk.below {w w' : World} {B C : Nat} {t : TypeId} {xs : Array Value} (h : Bk w B t xs) (hb : Below C w w') (hC : B < C) : Bk w' B t xs := by
  unfold Bk
  rw [hb.block _ hC]
  exact h

theorem Bk.grown {w w' : World} {B : Nat} {o : Option Nat} {t : TypeId} {xs : Array Value} (h : Bk w B t xs) (hg : w.grownBy w' o) (hne : some B ≠ o) : Bk w' B t xs := by
  unfold Bk
  rw [hg.block _ h.lt hne]
  exact h

theorem Bk.new (w : World) (t : TypeId) (xs : Array Value) : Bk (w.alloc (.cells xs t)) w.heap.size t xs := heap_alloc_new _ _
theorem Bk.set {w : World} {B : Nat} {t : TypeId} {xs : Array Value} (h : Bk w B t xs) (k : Nat) (u : Value) : Bk (w.setCell ⟨B, k, none⟩ u) B t (xs.setIfInBounds k u) := by
  unfold Bk
  rw [heap_setCell_same w B k _ _ _ h]

/-- The block of a cell. -/
def ca (c : Cl) : Array Value := #[.string c.row, .string c.col, .int .i64 c.time, .bool c.gone, .string c.val]

theorem Bk.at {w : World} {B : Nat} {t : TypeId} {c : Cl} (h : Bk w B t (ca c)) : At w B 0 c :=
  ⟨h.cell 0, h.cell 1, h.cell 2, h.cell 3, h.cell 4⟩

theorem Bk.facts {w : World} {B : Nat} {t : TypeId} {c : Cl} (h : Bk w B t (ca c)) :
    w.cell? ⟨B, 0, none⟩ = some (.string c.row) ∧ w.cell? ⟨B, 1, none⟩ = some (.string c.col) ∧ w.cell? ⟨B, 2, none⟩ = some (.int .i64 c.time) ∧ w.cell? ⟨B, 3, none⟩ = some (.bool c.gone) ∧ w.cell? ⟨B, 4, none⟩ = some (.string c.val) :=
  ⟨h.cell 0, h.cell 1, h.cell 2, h.cell 3, h.cell 4⟩

theorem Bk.thaw {w : World} {B : Nat} {t : TypeId} {xs : Array Value} (h : Bk w B t xs) :
    w.frozen? ⟨B, 0, none⟩ = false ∧ w.frozen? ⟨B, 1, none⟩ = false ∧ w.frozen? ⟨B, 2, none⟩ = false ∧ w.frozen? ⟨B, 3, none⟩ = false ∧ w.frozen? ⟨B, 4, none⟩ = false :=
  ⟨h.frozen 0, h.frozen 1, h.frozen 2, h.frozen 3, h.frozen 4⟩

/-- A cell stored over another one. -/
theorem Bk.store {w : World} {B : Nat} {t : TypeId} {c d : Cl} (h : Bk w B t (ca d)) :
    Bk (((((w.setCell ⟨B, 0, none⟩ (.string c.row)).setCell ⟨B, 1, none⟩ (.string c.col)).setCell ⟨B, 2, none⟩ (.int .i64 c.time)).setCell ⟨B, 3, none⟩ (.bool c.gone)).setCell ⟨B, 4, none⟩ (.string c.val)) B t (ca c) :=
  ((((h.set 0 _).set 1 _).set 2 _).set 3 _).set 4 _

theorem gb_set {a w : World} {B : Nat} (h : a.grownBy w (some B)) (j : Nat) (u : Value) : a.grownBy (w.setCell ⟨B, j, none⟩ u) (some B) :=
  ⟨h.os, h.tape, h.output, by rw [World.setCell]; simp [h.size], fun k hk hn => (heap_setCell_other w _ k u (fun e => hn (by simp [e]))).trans (h.block k hk hn)⟩

theorem gb_alloc {a w : World} {o : Option Nat} (h : a.grownBy w o) (x : Obj) : a.grownBy (w.alloc x) o :=
  ⟨h.os, h.tape, h.output, by simp; have := h.size; omega, fun k hk hn => (heap_alloc_old w x (Nat.lt_of_lt_of_le hk h.size)).trans (h.block k hk hn)⟩

theorem gb_refl (w : World) (o : Option Nat) : w.grownBy w o := ⟨rfl, rfl, rfl, Nat.le_refl _, fun _ _ _ => rfl⟩

/-- Is c seen, behind one that hides? And which one hides then. -/
def hid (t : Int) (nw c : Cl) : Bool := decide (t < c.time) || (c.row.toList == nw.row.toList && c.col.toList == nw.col.toList)
def seenB (t : Int) (nw c : Cl) : Bool := !hid t nw c && !c.gone
def nextN (t : Int) (nw c : Cl) : Cl := if hid t nw c then nw else c

set_option maxRecDepth 100000 in
set_option maxHeartbeats 400000 in
theorem seenAt_any (t : Int) (w : World) :
    Calls Try.prog 59 #[.int .i64 t] w fun e w' => e = .returned (.func (.func 75) #[] #[.pointer (some ⟨w.heap.size, 0, none⟩), .pointer (some ⟨w.heap.size + 1, 0, none⟩)]) ∧ Bk w' w.heap.size 3 #[.int .i64 t] ∧ Bk w' (w.heap.size + 1) 52 (ca zeroC) ∧ Below w.heap.size w w' ∧ w'.heap.size = w.heap.size + 2 := by
  go_enter Try.func59, Try.ntmps59
  go_wp2_with fail
  go_ret
  refine ⟨rfl, ?_, ?_, by go_grown, by simp⟩
  · exact (Bk.new w 3 #[.int .i64 t]).below (below_alloc' _ _) (by simp)
  · have := Bk.new (w.alloc (.cells #[.int .i64 t] 3)) 52 (ca zeroC)
    rw [show (w.alloc (.cells #[.int .i64 t] 3)).heap.size = w.heap.size + 1 by simp] at this
    exact this

set_option maxRecDepth 100000 in
set_option maxHeartbeats 400000 in
theorem seenAt1_any (t : Int) (c nw : Cl) (T N : Nat) (w : World) (hT : w.cell? ⟨T, 0, none⟩ = some (.int .i64 t)) (hN : Bk w N 52 (ca nw)) :
    Calls Try.prog 75 #[cA c, .pointer (some ⟨T, 0, none⟩), .pointer (some ⟨N, 0, none⟩)] w fun e w' => e = .returned (.bool (seenB t nw c)) ∧ Bk w' N 52 (ca (nextN t nw c)) ∧ w.grownBy w' (some N) := by
  unfold cA
  obtain ⟨n0, n1, n2, n3, n4⟩ := hN.facts
  obtain ⟨t0, t1, t2, t3, t4⟩ := hN.thaw
  have hlt := hN.lt
  have hTlt := World.block_lt_of_cell? w _ hT
  simp only at hTlt
  have hN1 : Bk (w.alloc (.cells #[.string c.row, .string c.col, .int .i64 c.time, .bool c.gone, .string c.val] 52)) N 52 (ca nw) := hN.below (below_alloc' _ _) hlt
  have hG1 : w.grownBy (w.alloc (.cells #[.string c.row, .string c.col, .int .i64 c.time, .bool c.gone, .string c.val] 52)) (some N) := gb_alloc (gb_refl _ _) _
  have hS0 := hN.store (c := c)
  have hS : Bk ((((((w.setCell ⟨N, 0, none⟩ (.string c.row)).setCell ⟨N, 1, none⟩ (.string c.col)).setCell ⟨N, 2, none⟩ (.int .i64 c.time)).setCell ⟨N, 3, none⟩ (.bool c.gone)).setCell ⟨N, 4, none⟩ (.string c.val)).alloc (.cells #[.string c.row, .string c.col, .int .i64 c.time, .bool c.gone, .string c.val] 52)) N 52 (ca c) := hS0.below (below_alloc' _ _) hS0.lt
  have hG2 := gb_alloc (gb_set (gb_set (gb_set (gb_set (gb_set (gb_refl w (some N)) 0 (.string c.row)) 1 (.string c.col)) 2 (.int .i64 c.time)) 3 (.bool c.gone)) 4 (.string c.val)) (.cells #[.string c.row, .string c.col, .int .i64 c.time, .bool c.gone, .string c.val] 52)
  clear hS0
  have HN1 := hide hN1
  have HG1 := hide hG1
  have HS := hide hS
  have HG2 := hide hG2
  clear hN1 hG1 hS hG2 hN
  by_cases h1 : t < c.time
  · have HE : Hid (hid t nw c = true) := hide (by simp [hid, h1])
    have hd : decide (t < c.time) = true := by simpa using h1
    go_enter Try.func75, Try.ntmps75
    go_wp2_with fail
    go_ret
    exact ⟨by simp [seenB, HE.out], by rw [nextN, HE.out, if_pos rfl]; exact HN1.out, HG1.out⟩
  · have hd : decide (t < c.time) = false := by simpa using h1
    have h4 : (c.row.toList == nw.row.toList) = true ∧ (c.col.toList == nw.col.toList) = true ∨ (c.row.toList == nw.row.toList) = true ∧ (c.col.toList == nw.col.toList) = false ∨ (c.row.toList == nw.row.toList) = false := by
      cases (c.row.toList == nw.row.toList) <;> cases (c.col.toList == nw.col.toList) <;> simp
    rcases h4 with ⟨h2, h3⟩ | ⟨h2, h3⟩ | h2
    · have HE : Hid (hid t nw c = true) := hide (by unfold hid; rw [hd, h2, h3]; rfl)
      go_enter Try.func75, Try.ntmps75
      go_wp2_with fail
      go_ret
      exact ⟨by simp [seenB, HE.out], by rw [nextN, HE.out, if_pos rfl]; exact HN1.out, HG1.out⟩
    · have HE : Hid (hid t nw c = false) := hide (by unfold hid; rw [hd, h2, h3]; rfl)
      go_enter Try.func75, Try.ntmps75
      go_wp2_with fail
      go_ret
      exact ⟨by simp [seenB, HE.out], by rw [nextN, HE.out, if_neg (by decide)]; exact HS.out, HG2.out⟩
    · have HE : Hid (hid t nw c = false) := hide (by unfold hid; rw [hd, h2]; rfl)
      go_enter Try.func75, Try.ntmps75
      go_wp2_with fail
      go_ret
      exact ⟨by simp [seenB, HE.out], by rw [nextN, HE.out, if_neg (by decide)]; exact HS.out, HG2.out⟩

/-- Is a row asked for? -/
def askB (a b row : ByteArray) : Bool := !(Op.bytesLess row.toList a.toList) && (b.toList.isEmpty || Op.bytesLess row.toList b.toList)
/-- An ask as a value. -/
def aA (a b : ByteArray) (t m : Int) : Value := .agg #[.string a, .string b, .int .i64 t, .int .i64 m]

set_option maxRecDepth 100000 in
set_option maxHeartbeats 400000 in
theorem asksFor_any (a b row : ByteArray) (t m : Int) (w : World) :
    Calls Try.prog 60 #[aA a b t m, .string row] w fun e w' => e = .returned (.bool (askB a b row)) ∧ Below w.heap.size w w' := by
  unfold aA
  cases h1 : Op.bytesLess row.toList a.toList <;> cases h2 : b.toList.isEmpty <;> cases h3 : Op.bytesLess row.toList b.toList
  all_goals
    go_enter Try.func60, Try.ntmps60
    go_wp2_with fail
    go_ret
    exact ⟨by simp [askB, h1, h2, h3], by go_grown⟩

end Go.Proofs.Ytoelolomojnidab
