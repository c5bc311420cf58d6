/-
  Texts joined: GenN.
-/
import Derived.Test.YtnbifobdkjkjlaaMAssignKeeps3
/-
  Regions that draw their order: two operations can come up next. Nothing of a program stands here.
-/
namespace Go.Proofs.Ytnbifobdkjkjlaa
open Go.RowKit Go.Maps

section
variable {P : Program} {ops : Array Oper} {Q : Exit → Act → World → Prop} {md : Region.Mode} {S : World → Prop}

/-- Two can come up, and nothing else. -/
theorem wpAnyH_twoD {l li lj : Array Bool} {fuel : Nat} {a : Act} {w : World} {i j : Nat} {o p : Oper} (hi : (ops.toList.drop i).head? = some o) (hj : (ops.toList.drop j).head? = some p) (hr : Region.ready md ops l = [i, j]) (hli : l.setIfInBounds i true = li) (hlj : l.setIfInBounds j true = lj)
    (h1 : ∀ K' : Act → World → Prop, Shut (∀ a w, S w → (S w → wpAnyH P md ops Q S fuel li a w) → K' a w) → if Region.wanted o (yielded ops a.tmps) = true then Oper.wp P o a w K' Q else K' (a.put o.dst undef) w)
    (h2 : ∀ K' : Act → World → Prop, Shut (∀ a w, S w → (S w → wpAnyH P md ops Q S fuel lj a w) → K' a w) → if Region.wanted p (yielded ops a.tmps) = true then Oper.wp P p a w K' Q else K' (a.put p.dst undef) w) : wpAnyH P md ops Q S (fuel + 1) l a w :=
  wpAnyH_ready hr (by simp) (AllReadyH.cons (at_of_drop hi) (by rw [hli]; exact h1) (AllReadyH.cons (at_of_drop hj) (by rw [hlj]; exact h2) AllReadyH.nil))

/-- Three can come up, and nothing else. -/
theorem wpAnyH_threeD {l li lj lk : Array Bool} {fuel : Nat} {a : Act} {w : World} {i j k : Nat} {o p q : Oper} (hi : (ops.toList.drop i).head? = some o) (hj : (ops.toList.drop j).head? = some p) (hk : (ops.toList.drop k).head? = some q) (hr : Region.ready md ops l = [i, j, k]) (hli : l.setIfInBounds i true = li) (hlj : l.setIfInBounds j true = lj) (hlk : l.setIfInBounds k true = lk)
    (h1 : ∀ K' : Act → World → Prop, Shut (∀ a w, S w → (S w → wpAnyH P md ops Q S fuel li a w) → K' a w) → if Region.wanted o (yielded ops a.tmps) = true then Oper.wp P o a w K' Q else K' (a.put o.dst undef) w)
    (h2 : ∀ K' : Act → World → Prop, Shut (∀ a w, S w → (S w → wpAnyH P md ops Q S fuel lj a w) → K' a w) → if Region.wanted p (yielded ops a.tmps) = true then Oper.wp P p a w K' Q else K' (a.put p.dst undef) w)
    (h3 : ∀ K' : Act → World → Prop, Shut (∀ a w, S w → (S w → wpAnyH P md ops Q S fuel lk a w) → K' a w) → if Region.wanted q (yielded ops a.tmps) = true then Oper.wp P q a w K' Q else K' (a.put q.dst undef) w) : wpAnyH P md ops Q S (fuel + 1) l a w :=
  wpAnyH_ready hr (by simp) (AllReadyH.cons (at_of_drop hi) (by rw [hli]; exact h1) (AllReadyH.cons (at_of_drop hj) (by rw [hlj]; exact h2) (AllReadyH.cons (at_of_drop hk) (by rw [hlk]; exact h3) AllReadyH.nil)))

end
end Go.Proofs.Ytnbifobdkjkjlaa
