/-
  From lists of cells, and asks, as the row reads them to what the walks ask of them. Nothing of a program stands here.
-/
import Derived.Test.YtlebbkbbmgmmjadFrame
import Derived.Test.YtlebbkbbmgmmjadCellBase
import Derived.Lib.SmallJoins
namespace Go.Proofs.Ytlebbkbbmgmmjad
open Go.ChangeShapes Go.WideShapes Go.ChangeAt Go.RowKit Go.Joins Go.Deep

section
variable {H : Type} {enc : TypeId × Value → H} {P : Program} {W : World}

theorem choose_list {α : Type} {p : Nat → α → Prop} : ∀ (n : Nat), (∀ i, i < n → ∃ x, p i x) → ∃ l : List α, l.length = n ∧ ∀ i x, l[i]? = some x → p i x
  | 0, _ => ⟨[], rfl, fun i x h => by simp at h⟩
  | n + 1, h => by
    obtain ⟨l, hl, hp⟩ := choose_list n (fun i hi => h i (by omega))
    obtain ⟨x, hx⟩ := h n (by omega)
    refine ⟨l ++ [x], by simp [hl], fun i y hy => ?_⟩
    by_cases hi : i < n
    · rw [List.getElem?_append_left (by omega)] at hy
      exact hp i y hy
    · have hlt := (List.getElem?_eq_some_iff.1 hy).1
      simp at hlt
      have e : i = n := by omega
      subst e
      rw [List.getElem?_append_right (by omega), hl] at hy
      simp at hy
      subst hy
      exact hx

theorem cc_div {cs : List Cl} {j : Nat} {u : Value} (h : (cc cs)[j]? = some u) : ∃ i k c, j = i * 5 + k ∧ k < 5 ∧ cs[i]? = some c ∧ (cv c)[k]? = some u := by
  have hl := (List.getElem?_eq_some_iff.1 h).1
  rw [cc_length] at hl
  have hi : j / 5 < cs.length := by omega
  refine ⟨j / 5, j % 5, cs[j / 5], by omega, by omega, List.getElem?_eq_getElem hi, ?_⟩
  rw [← cc_get cs (j / 5) hi (j % 5) (by omega), ← h]
  congr 1
  omega

/-- A list of cells. -/
theorem open_cells {t e : TypeId} {f0 f1 f2 f3 f4 : Field} {v : Value} {fuel : Nat} {y : DataW H × List MemPlace} (ht : P.underlying t = some (.slice e)) (he : P.underlying e = some (.struct #[f0, f1, f2, f3, f4])) (hone : oneCellFields P #[f0, f1, f2, f3, f4] = true) (hC : P.cellsOf e = 5)
    (h0 : P.underlying f0.type = some .string) (h1 : P.underlying f1.type = some .string) (h2 : P.underlying f2.type = some (.int .i64)) (h3 : P.underlying f3.type = some .bool) (h4 : P.underlying f4.type = some .string)
    (h : DataW.trod enc P W 0 (fun _ => true) true fuel t [v] = some y) : ∃ cs : List Cl, RdC W v cs ∧ ∀ c ∈ cs, -9223372036854775808 ≤ c.time ∧ c.time ≤ 9223372036854775807 := by
  rcases open_slice ht h with ⟨hcs, _⟩ | ⟨a, len, cap, m, n, D, Pl, hcs, hb, hl, hm, hmm, hxx, hx⟩
  · simp only [List.cons.injEq, and_true] at hcs
    subst hcs
    exact ⟨[], RdC.nil _, by simp⟩
  · simp only [List.cons.injEq, and_true] at hcs
    subst hcs
    obtain ⟨o0, k0⟩ := hone_of hone 0 f0 rfl
    obtain ⟨o1, k1⟩ := hone_of hone 1 f1 rfl
    obtain ⟨o2, k2⟩ := hone_of hone 2 f2 rfl
    obtain ⟨o3, k3⟩ := hone_of hone 3 f3 rfl
    obtain ⟨o4, k4⟩ := hone_of hone 4 f4 rfl
    have hlm : len ≤ m := by rw [hmm]; split <;> omega
    have each : ∀ i, i < len → ∃ c : Cl, (∀ k u, (cv c)[k]? = some u → W.cell? (a.add (i * 5 + k)) = some u) ∧ -9223372036854775808 ≤ c.time ∧ c.time ≤ 9223372036854775807 := by
      intro i hi
      obtain ⟨cs', g1, g2⟩ := hx i (by omega)
      rw [hC] at g1
      obtain ⟨_, hlen, hcell⟩ := World.cells?_some g1
      obtain ⟨xs, k, hk, hxy, _, hxl, hf⟩ := DataW.trod_struct he g2
      match xs, hxl, cs', hlen with
      | [y0, y1, y2, y3, y4], _, [v0, v1, v2, v3, v4], _ =>
        have q0 := hf 0 f0 rfl
        have q1 := hf 1 f1 rfl
        have q2 := hf 2 f2 rfl
        have q3 := hf 3 f3 rfl
        have q4 := hf 4 f4 rfl
        simp [o0, o1, o2, o3, o4, k0, k1, k2, k3, k4] at q0 q1 q2 q3 q4
        obtain ⟨s0, e0, _, _⟩ := DataW.trod_string h0 q0
        obtain ⟨s1, e1, _, _⟩ := DataW.trod_string h1 q1
        obtain ⟨s2, e2, _, w2⟩ := DataW.trod_int h2 q2
        obtain ⟨s3, e3, _⟩ := DataW.trod_bool h3 q3
        obtain ⟨s4, e4, _, _⟩ := DataW.trod_string h4 q4
        simp only [List.cons.injEq, and_true] at e0 e1 e2 e3 e4
        subst e0 e1 e2 e3 e4
        refine ⟨⟨s0, s1, s2, s3, s4⟩, fun k u hu => ?_, bounds_i64 w2⟩
        have hk5 : k < 5 := by have := (List.getElem?_eq_some_iff.1 hu).1; simpa [cv] using this
        have := hcell k hk5
        rw [add_add] at this
        rw [this, ← hu]
        rfl
    obtain ⟨cs, hcl, hcp⟩ := choose_list len each
    refine ⟨cs, ⟨some a, cap, by rw [hcl], by omega, hm, (fun h => by cases h), fun b hb' j u hu => ?_⟩, fun c hc => ?_⟩
    · cases hb'
      obtain ⟨i, k, c, rfl, _, hi, hk⟩ := cc_div hu
      exact (hcp i c hi).1 k u hk
    · obtain ⟨i, hi, e⟩ := List.getElem_of_mem hc
      exact (hcp i c (by rw [List.getElem?_eq_getElem hi, e])).2

theorem open_cellsV {t e : TypeId} {f0 f1 f2 f3 f4 : Field} {a : Option Addr} {len cap : Nat} {d : DataW H} {ps : List MemPlace} (ht : P.underlying t = some (.slice e)) (he : P.underlying e = some (.struct #[f0, f1, f2, f3, f4])) (hone : oneCellFields P #[f0, f1, f2, f3, f4] = true) (hC : P.cellsOf e = 5)
    (h0 : P.underlying f0.type = some .string) (h1 : P.underlying f1.type = some .string) (h2 : P.underlying f2.type = some (.int .i64)) (h3 : P.underlying f3.type = some .bool) (h4 : P.underlying f4.type = some .string)
    (h : DataW.Trod enc P W 0 (fun _ => true) true t (.slice a len cap) d ps) : ∃ cs : List Cl, RdC W (.slice a len cap) cs ∧ ∀ c ∈ cs, -9223372036854775808 ≤ c.time ∧ c.time ≤ 9223372036854775807 := by
  obtain ⟨fuel, hf⟩ := h
  exact open_cells ht he hone hC h0 h1 h2 h3 h4 (y := (d, ps)) (by simpa [Value.cells] using hf)

/-- An ask: two texts and two numbers. -/
theorem open_ask {r : Reach} {b0 : Nat} {t : TypeId} {f0 f1 f2 f3 : Field} {v : Value} {d : DataW H} {p : List MemPlace} (hs : P.underlying t = some (.struct #[f0, f1, f2, f3])) (hone : oneCellFields P #[f0, f1, f2, f3] = true) (hC : P.cellsOf t = 4)
    (h0 : P.underlying f0.type = some .string) (h1 : P.underlying f1.type = some .string) (h2 : P.underlying f2.type = some (.int .i64)) (h3 : P.underlying f3.type = some (.int .i64))
    (hv : Value.okWide P W r b0 t v) (h : DataW.Trod enc P W 0 (fun _ => true) true t v d p) :
    ∃ (a b : ByteArray) (x y : Int), v = .agg #[.string a, .string b, .int .i64 x, .int .i64 y] ∧ (-9223372036854775808 ≤ x ∧ x ≤ 9223372036854775807) ∧ -9223372036854775808 ≤ y ∧ y ≤ 9223372036854775807 := by
  obtain ⟨c0, c1, c2, c3, y0, y1, y2, y3, m, rfl, rfl, rfl, hy0, hy1, hy2, hy3⟩ := open_agg4 hs hone hC hv h
  obtain ⟨s0, e0, _, _⟩ := DataW.trod_string h0 hy0
  obtain ⟨s1, e1, _, _⟩ := DataW.trod_string h1 hy1
  obtain ⟨s2, e2, _, w2⟩ := DataW.trod_int h2 hy2
  obtain ⟨s3, e3, _, w3⟩ := DataW.trod_int h3 hy3
  simp only [List.cons.injEq, and_true] at e0 e1 e2 e3
  subst e0 e1 e2 e3
  exact ⟨s0, s1, s2, s3, rfl, bounds_i64 w2, bounds_i64 w3⟩

end
end Go.Proofs.Ytlebbkbbmgmmjad
