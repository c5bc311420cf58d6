/-
  Texts joined: FrameCp, FrameCps.
-/
import Derived.Test.YtopnjklloleomaaMSealChooses9
import Derived.Lib.SmallJoins
/-
  Copies and lists of texts as the row reads them. Nothing of a program stands here. (Written by frame.py's hand: rcp in NOTES.)
-/
namespace Go.Proofs.Ytopnjklloleomaa
open Go.ChangeShapes Go.WideShapes Go.ChangeAt Go.RowKit Go.Joins Go.Deep
set_option linter.unusedVariables false

section
variable {H : Type} {enc : TypeId × Value → H} {P : Program} {W : World}

theorem slice_valT {t e : TypeId} {v : Value} {n : Nat} {y : DataW H × List MemPlace} (ht : P.underlying t = some (.slice e)) (hf : DataW.trod enc P W 0 (fun _ => true) true n t [v] = some y) : ∃ a len cap, v = .slice a len cap := by
  obtain ⟨d, ps⟩ := y
  rcases open_slice ht hf with ⟨hcs, _⟩ | ⟨b, len', cap', m, n, D, Pl, hcs, _⟩
  · simp only [List.cons.injEq, and_true] at hcs
    exact ⟨_, _, _, hcs⟩
  · simp only [List.cons.injEq, and_true] at hcs
    exact ⟨_, _, _, hcs⟩

theorem open_txt1 {e : TypeId} (he : P.underlying e = some .string) (fuel : Nat) (cs : List Value) (y : DataW H × List MemPlace) (hl : cs.length = 1) (h : DataW.trod enc P W 0 (fun _ => true) true fuel e cs = some y) : ∃ c : ByteArray, cs = txE.v c ∧ True := by
  obtain ⟨s0, e0, _, _⟩ := DataW.trod_string he h
  exact ⟨s0, e0, trivial⟩

theorem open_txt {t e : TypeId} {a : Option Addr} {len cap : Nat} {d : DataW H} {ps : List MemPlace} (ht : P.underlying t = some (.slice e)) (he : P.underlying e = some .string) (hC : P.cellsOf e = 1)
    (h : DataW.Trod enc P W 0 (fun _ => true) true t (.slice a len cap) d ps) : ∃ l : List ByteArray, RdG txE W (.slice a len cap) l := by
  obtain ⟨l, hl, _⟩ := open_gl txE (fun _ => True) ht hC (open_txt1 he) h
  exact ⟨l, hl⟩

theorem open_txtV {t e : TypeId} {v : Value} {n : Nat} {y : DataW H × List MemPlace} (ht : P.underlying t = some (.slice e)) (he : P.underlying e = some .string) (hC : P.cellsOf e = 1)
    (hf : DataW.trod enc P W 0 (fun _ => true) true n t [v] = some y) : ∃ l : List ByteArray, RdG txE W v l := by
  obtain ⟨a, len, cap, rfl⟩ := slice_valT ht hf
  exact open_txt (d := y.1) (ps := y.2) ht he hC ⟨n, by simpa [Value.cells] using hf⟩

theorem open_agg4 {r : Reach} {b0 : Nat} {t : TypeId} {f0 f1 f2 f3 : Field} {v : Value} {d : DataW H} {p : List MemPlace} (hs : P.underlying t = some (.struct #[f0, f1, f2, f3])) (hone : oneCellFields P #[f0, f1, f2, f3] = true) (hC : P.cellsOf t = 4)
    (hv : Value.okWide P W r b0 t v) (h : DataW.Trod enc P W 0 (fun _ => true) true t v d p) :
    ∃ (c0 c1 c2 c3 : Value) (n : Nat), v = .agg #[c0, c1, c2, c3] ∧ (∃ y, DataW.trod enc P W 0 (fun _ => true) true n f0.type [c0] = some y) ∧ (∃ y, DataW.trod enc P W 0 (fun _ => true) true n f1.type [c1] = some y) ∧ (∃ y, DataW.trod enc P W 0 (fun _ => true) true n f2.type [c2] = some y) ∧ (∃ y, DataW.trod enc P W 0 (fun _ => true) true n f3.type [c3] = some y) := by
  obtain ⟨cs, rfl, hsz⟩ := okWide_struct hs hv
  obtain ⟨fuel, hf⟩ := h
  obtain ⟨xs, k, hk, hxy, _, hxl, hfld⟩ := DataW.trod_struct hs hf
  obtain ⟨cl⟩ := cs
  have hl : cl.length = 4 := by simpa using hsz.trans hC
  match xs, hxl, cl, hl with
  | [y0, y1, y2, y3], _, [c0, c1, c2, c3], _ =>
    obtain ⟨o0, k0⟩ := hone_of hone 0 f0 rfl
    obtain ⟨o1, k1⟩ := hone_of hone 1 f1 rfl
    obtain ⟨o2, k2⟩ := hone_of hone 2 f2 rfl
    obtain ⟨o3, k3⟩ := hone_of hone 3 f3 rfl
    have q0 := hfld 0 f0 rfl
    have q1 := hfld 1 f1 rfl
    have q2 := hfld 2 f2 rfl
    have q3 := hfld 3 f3 rfl
    simp [Value.cells, o0, k0, o1, k1, o2, k2, o3, k3] at q0 q1 q2 q3
    exact ⟨c0, c1, c2, c3, _, rfl, ⟨_, q0⟩, ⟨_, q1⟩, ⟨_, q2⟩, ⟨_, q3⟩⟩

theorem open_copy {r : Reach} {b0 : Nat} {t ts : TypeId} {f0 f1 f2 f3 : Field} {v : Value} {d : DataW H} {p : List MemPlace} (hs : P.underlying t = some (.struct #[f0, f1, f2, f3])) (hone : oneCellFields P #[f0, f1, f2, f3] = true) (hC : P.cellsOf t = 4)
    (h0 : P.underlying f0.type = some (.int .i64)) (h1 : P.underlying f1.type = some .bool) (h2 : P.underlying f2.type = some (.slice ts)) (h3 : P.underlying f3.type = some (.int .i64)) (he : P.underlying ts = some .string) (hC1 : P.cellsOf ts = 1)
    (hv : Value.okWide P W r b0 t v) (h : DataW.Trod enc P W 0 (fun _ => true) true t v d p) : ∃ (c : Cp) (u : Value), v = cpV c u ∧ RdG txE W u c.recs := by
  obtain ⟨c0, c1, c2, c3, n, rfl, ⟨y0, q0⟩, ⟨y1, q1⟩, ⟨y2, q2⟩, ⟨y3, q3⟩⟩ := open_agg4 hs hone hC hv h
  obtain ⟨s0, e0, _, w0⟩ := DataW.trod_int h0 q0
  obtain ⟨s1, e1, _⟩ := DataW.trod_bool h1 q1
  obtain ⟨l2, r2⟩ := open_txtV h2 he hC1 q2
  obtain ⟨s3, e3, _, w3⟩ := DataW.trod_int h3 q3
  simp only [List.cons.injEq, and_true] at e0 e1 e3
  subst e0 e1 e3
  exact ⟨⟨s0, s1, l2, s3⟩, c2, rfl, r2⟩

end

end Go.Proofs.Ytopnjklloleomaa

/-
  Lists of copies as the row reads them. Nothing of a program stands here.
-/
namespace Go.Proofs.Ytopnjklloleomaa
open Go.ChangeShapes Go.WideShapes Go.ChangeAt Go.RowKit Go.Joins Go.Deep
set_option linter.unusedVariables false

section
variable {H : Type} {enc : TypeId × Value → H} {P : Program} {W : World}

theorem open_copies1 {e ts : TypeId} {f0 f1 f2 f3 : Field} (hs : P.underlying e = some (.struct #[f0, f1, f2, f3])) (hone : oneCellFields P #[f0, f1, f2, f3] = true)
    (h0 : P.underlying f0.type = some (.int .i64)) (h1 : P.underlying f1.type = some .bool) (h2 : P.underlying f2.type = some (.slice ts)) (h3 : P.underlying f3.type = some (.int .i64)) (he : P.underlying ts = some .string) (hC1 : P.cellsOf ts = 1)
    (fuel : Nat) (cs : List Value) (y : DataW H × List MemPlace) (hl : cs.length = 4) (h : DataW.trod enc P W 0 (fun _ => true) true fuel e cs = some y) : ∃ f : Qf, cs = qfE.v f ∧ ∃ l : List ByteArray, RdG txE W (.slice f.ao f.len f.cap) l := by
  obtain ⟨o0, k0⟩ := hone_of hone 0 f0 rfl
  obtain ⟨o1, k1⟩ := hone_of hone 1 f1 rfl
  obtain ⟨o2, k2⟩ := hone_of hone 2 f2 rfl
  obtain ⟨o3, k3⟩ := hone_of hone 3 f3 rfl
  obtain ⟨xs, k, hk, hxy, _, hxl, hf⟩ := DataW.trod_struct hs h
  match xs, hxl, cs, hl with
  | [y0, y1, y2, y3], _, [c0, c1, c2, c3], _ =>
    have q0 := hf 0 f0 rfl
    have q1 := hf 1 f1 rfl
    have q2 := hf 2 f2 rfl
    have q3 := hf 3 f3 rfl
    simp [o0, k0, o1, k1, o2, k2, o3, k3] at q0 q1 q2 q3
    obtain ⟨s0, e0, _, w0⟩ := DataW.trod_int h0 q0
    obtain ⟨s1, e1, _⟩ := DataW.trod_bool h1 q1
    obtain ⟨l2, r2⟩ := open_txtV h2 he hC1 q2
    obtain ⟨a2, n2, p2, e2⟩ := slice_valT h2 q2
    obtain ⟨s3, e3, _, w3⟩ := DataW.trod_int h3 q3
    simp only [List.cons.injEq, and_true] at e0 e1 e3
    subst e0 e1 e2 e3
    exact ⟨⟨s0, s1, a2, n2, p2, s3⟩, rfl, l2, r2⟩

theorem copies_of : ∀ (fs : List Qf), (∀ f ∈ fs, ∃ l : List ByteArray, RdG txE W (.slice f.ao f.len f.cap) l) → ∃ cs : List Cp, fs.length = cs.length ∧ ∀ (i : Nat) f c, fs[i]? = some f → cs[i]? = some c → f.is W c
  | [], _ => ⟨[], rfl, fun i f c hf => by simp at hf⟩
  | f :: r, h => by
    obtain ⟨l, hl⟩ := h f (by simp)
    obtain ⟨cs, h1, h2⟩ := copies_of r (fun g hg => h g (by simp [hg]))
    refine ⟨⟨f.ep, f.cl, l, f.en⟩ :: cs, by simp [h1], fun i g c hg hc => ?_⟩
    cases i with
    | zero =>
      simp only [List.getElem?_cons_zero, Option.some.injEq] at hg hc
      subst hg hc
      exact ⟨rfl, rfl, rfl, hl⟩
    | succ j =>
      simp only [List.getElem?_cons_succ] at hg hc
      exact h2 j g c hg hc

theorem open_copies {t e ts : TypeId} {f0 f1 f2 f3 : Field} {a : Option Addr} {len cap : Nat} {d : DataW H} {ps : List MemPlace} (ht : P.underlying t = some (.slice e)) (hs : P.underlying e = some (.struct #[f0, f1, f2, f3])) (hone : oneCellFields P #[f0, f1, f2, f3] = true) (hC : P.cellsOf e = 4)
    (h0 : P.underlying f0.type = some (.int .i64)) (h1 : P.underlying f1.type = some .bool) (h2 : P.underlying f2.type = some (.slice ts)) (h3 : P.underlying f3.type = some (.int .i64)) (he : P.underlying ts = some .string) (hC1 : P.cellsOf ts = 1)
    (h : DataW.Trod enc P W 0 (fun _ => true) true t (.slice a len cap) d ps) : ∃ cs : List Cp, RdQ W (.slice a len cap) cs := by
  obtain ⟨fs, g1, g2⟩ := open_gl qfE (fun f => ∃ l : List ByteArray, RdG txE W (.slice f.ao f.len f.cap) l) ht hC (open_copies1 hs hone h0 h1 h2 h3 he hC1) h
  obtain ⟨cs, h5, h6⟩ := copies_of fs g2
  exact ⟨cs, fs, g1, h5, h6⟩

end
end Go.Proofs.Ytopnjklloleomaa
