/-
  Texts joined: RaftR3b, GenH.
-/
import Derived.Test.YtddkjpojbflmjahMRaftStays10
import Derived.Deep.RegionHeld3
/-
  The walk over the document's NodeFault. (Written by rr3d.py.)
-/
namespace Go.Proofs.Ytddkjpojbflmjah
open Go.RowKit Go.Maps
set_option linter.unusedVariables false

theorem NodeFault_any (x : Nd) (lv vv nv hv : Value) (w : World) (hx : RdNd w x lv vv nv hv) :
    Calls Try.prog 21 #[ndV x lv vv nv hv] w fun e w' => e = .returned (flt (chkN x)) ∧ Below w.heap.size w w' := by
  by_cases h : (nmF x).1 = 0
  · have h2 : 0 ≤ x.role ∧ x.role ≤ 2 := by
      unfold nmF at h
      by_cases h4 : wiB x.n 1 7 = false ∨ wiB x.id 0 (x.n - 1) = false
      · rw [if_pos h4] at h; simp at h
      rw [if_neg h4] at h
      by_cases h5 : numL x.term = false ∨ wiB x.vote 0 x.n = false ∨ wiB x.role 0 2 = false ∨ wiB x.com 0 x.log.length = false
      · rw [if_pos h5] at h; simp at h
      simp only [not_or, Bool.not_eq_false, wiB_true] at h5
      exact h5.2.2.1
    rcases (show x.role = 0 ∨ x.role = 1 ∨ x.role = 2 by omega) with hr | hr | hr
    · exact NodeFault_r0 x lv vv nv hv w hx h hr
    · exact NodeFault_r1 x lv vv nv hv w hx h hr
    · exact NodeFault_r2 x lv vv nv hv w hx h hr
  · exact NodeFault_bad x lv vv nv hv w hx h

end Go.Proofs.Ytddkjpojbflmjah

/-
  Regions that draw their order, step by step: an operation is taken out of the region's list by its place; what is done is told by a list that is written out. Nothing of a program stands here.
-/
namespace Go.Proofs.Ytddkjpojbflmjah
open Go.RowKit Go.Maps

/-- Of n the first k are done. -/
def upB : Nat → Nat → List Bool
  | 0, _ => []
  | n + 1, 0 => false :: upB n 0
  | n + 1, k + 1 => true :: upB n k

section
variable {P : Program} {ops : Array Oper} {Q : Exit → Act → World → Prop} {md : Region.Mode} {S : World → Prop}

theorem at_of_drop {i : Nat} {oi : Oper} (hi : (ops.toList.drop i).head? = some oi) : ops[i]? = some oi := by
  rw [List.head?_drop] at hi
  simpa using hi

/-- Number i is taken first. -/
theorem wpAnyH_takeD {l l' : Array Bool} {i : Nat} {oi : Oper} {v : Value} {fuel : Nat} {a : Act} {w : World} (hi : (ops.toList.drop i).head? = some oi)
    (hs : Region.noSelect ops = true) (hf : Region.free md ops l i = true) (hr : (Region.ready md ops l).contains i = true) (hl : l.setIfInBounds i true = l')
    (hQ : ∀ c a w, Q (.panic c) (a.put oi.dst v) w → Q (.panic c) a w) (hw : Region.wanted oi (yielded ops a.tmps) = true) (hy : ∀ w, S w → (execOp a.eval oi).run P w = .ok (.value v) w) (hS : S w)
    (h : wpAnyH P md ops Q S fuel l' (a.put oi.dst v) w) : wpAnyH P md ops Q S (fuel + 1) l a w :=
  wpAnyH_take (at_of_drop hi) hs hf hr hQ (.inl ⟨hw, hy⟩) hS (by rw [hl]; exact h)

/-- Number i is not wanted. -/
theorem wpAnyH_skipD {l l' : Array Bool} {i : Nat} {oi : Oper} {fuel : Nat} {a : Act} {w : World} (hi : (ops.toList.drop i).head? = some oi)
    (hs : Region.noSelect ops = true) (hf : Region.free md ops l i = true) (hr : (Region.ready md ops l).contains i = true) (hl : l.setIfInBounds i true = l')
    (hQ : ∀ c a w, Q (.panic c) (a.put oi.dst undef) w → Q (.panic c) a w) (hw : Region.wanted oi (yielded ops a.tmps) = false) (hS : S w)
    (h : wpAnyH P md ops Q S fuel l' (a.put oi.dst undef) w) : wpAnyH P md ops Q S (fuel + 1) l a w :=
  wpAnyH_take (at_of_drop hi) hs hf hr hQ (.inr ⟨hw, rfl⟩) hS (by rw [hl]; exact h)

/-- Number i comes up, and nothing else can. -/
theorem wpAnyH_oneD {l l' : Array Bool} {fuel : Nat} {a : Act} {w : World} {i : Nat} {o : Oper} (hi : (ops.toList.drop i).head? = some o) (hr : Region.ready md ops l = [i]) (hl : l.setIfInBounds i true = l')
    (h : ∀ K' : Act → World → Prop, Shut (∀ a w, S w → (S w → wpAnyH P md ops Q S fuel l' a w) → K' a w) → if Region.wanted o (yielded ops a.tmps) = true then Oper.wp P o a w K' Q else K' (a.put o.dst undef) w) : wpAnyH P md ops Q S (fuel + 1) l a w :=
  wpAnyH_ready hr (by simp) (AllReadyH.cons (at_of_drop hi) (by rw [hl]; exact h) AllReadyH.nil)

/-- The beginning. -/
theorem wp_region_heldD {l : Array Bool} {n id : Nat} {a : Act} {w : World} (hm : P.follows .mixedOrders = true) (hn : ops.size = n) (hl : Array.replicate n false = l) (hs : Region.noSelect ops = true) (hS : S w.drew)
    (h : Hid (Region.noSelect ops = true) → S w.drew → wpAnyH P .any ops Q S n l a w.drew) : (Code.region id ops true).wp P Q a w :=
  wp_region_held_drew hm hS (fun k => by rw [hn, hl]; exact h (hide hs) k)

end
end Go.Proofs.Ytddkjpojbflmjah
