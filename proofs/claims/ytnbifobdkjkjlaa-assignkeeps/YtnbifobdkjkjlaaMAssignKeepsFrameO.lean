/-
  Texts joined: FrameO.
-/
import Derived.Test.YtnbifobdkjkjlaaMAssignKeepsFrameG
import Derived.Test.YtnbifobdkjkjlaaMAssignKeepsAsW18
/-
  Lists of flat structures as the row reads them.
-/
namespace Go.Proofs.Ytnbifobdkjkjlaa
open Go.ChangeShapes Go.WideShapes Go.ChangeAt Go.RowKit Go.Joins Go.Deep
set_option linter.unusedVariables false

section
variable {H : Type} {enc : TypeId × Value → H} {P : Program} {W : World}

theorem open_orders1 {e : TypeId} {f0 f1 f2 f3 f4 : Field} (he : P.underlying e = some (.struct #[f0, f1, f2, f3, f4])) (hone : oneCellFields P #[f0, f1, f2, f3, f4] = true)
    (h0 : P.underlying f0.type = some (.int .i64)) (h1 : P.underlying f1.type = some (.int .i64)) (h2 : P.underlying f2.type = some (.int .i64)) (h3 : P.underlying f3.type = some (.int .i64)) (h4 : P.underlying f4.type = some .string)
    (fuel : Nat) (cs : List Value) (y : DataW H × List MemPlace) (hl : cs.length = 5) (h : DataW.trod enc P W 0 (fun _ => true) true fuel e cs = some y) : ∃ c : Od, cs = odE.v c ∧ (True) := by
  obtain ⟨o0, k0⟩ := hone_of hone 0 f0 rfl
  obtain ⟨o1, k1⟩ := hone_of hone 1 f1 rfl
  obtain ⟨o2, k2⟩ := hone_of hone 2 f2 rfl
  obtain ⟨o3, k3⟩ := hone_of hone 3 f3 rfl
  obtain ⟨o4, k4⟩ := hone_of hone 4 f4 rfl
  obtain ⟨xs, k, hk, hxy, _, hxl, hf⟩ := DataW.trod_struct he h
  match xs, hxl, cs, hl with
  | [y0, y1, y2, y3, y4], _, [v0, v1, v2, v3, v4], _ =>
    have q0 := hf 0 f0 rfl
    have q1 := hf 1 f1 rfl
    have q2 := hf 2 f2 rfl
    have q3 := hf 3 f3 rfl
    have q4 := hf 4 f4 rfl
    simp [o0, o1, o2, o3, o4, k0, k1, k2, k3, k4] at q0 q1 q2 q3 q4
    obtain ⟨s0, e0, _, w0⟩ := DataW.trod_int h0 q0
    obtain ⟨s1, e1, _, w1⟩ := DataW.trod_int h1 q1
    obtain ⟨s2, e2, _, w2⟩ := DataW.trod_int h2 q2
    obtain ⟨s3, e3, _, w3⟩ := DataW.trod_int h3 q3
    obtain ⟨s4, e4, _, _⟩ := DataW.trod_string h4 q4
    simp only [List.cons.injEq, and_true] at e0 e1 e2 e3 e4
    subst e0 e1 e2 e3 e4
    exact ⟨⟨s0, s1, s2, s3, s4⟩, rfl, trivial⟩

theorem open_orders {t e : TypeId} {f0 f1 f2 f3 f4 : Field} {a : Option Addr} {len cap : Nat} {d : DataW H} {ps : List MemPlace} (ht : P.underlying t = some (.slice e)) (he : P.underlying e = some (.struct #[f0, f1, f2, f3, f4])) (hone : oneCellFields P #[f0, f1, f2, f3, f4] = true) (hC : P.cellsOf e = 5)
    (h0 : P.underlying f0.type = some (.int .i64)) (h1 : P.underlying f1.type = some (.int .i64)) (h2 : P.underlying f2.type = some (.int .i64)) (h3 : P.underlying f3.type = some (.int .i64)) (h4 : P.underlying f4.type = some .string)
    (h : DataW.Trod enc P W 0 (fun _ => true) true t (.slice a len cap) d ps) : ∃ l : List Od, RdG odE W (.slice a len cap) l ∧ ∀ c ∈ l, (True) :=
  open_gl odE _ ht hC (open_orders1 he hone h0 h1 h2 h3 h4) h

end
end Go.Proofs.Ytnbifobdkjkjlaa
