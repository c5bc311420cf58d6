/-
  From a list of lists of cells as the row reads it to what the walks ask of it. Nothing of a program stands here.
-/
import Derived.Test.YtlebbkbbmgmmjadFrameC
import Derived.Test.YtlebbkbbmgmmjadCellS3
namespace Go.Proofs.Ytlebbkbbmgmmjad
open Go.ChangeShapes Go.WideShapes Go.ChangeAt Go.RowKit Go.Joins Go.Deep

section
variable {H : Type} {enc : TypeId × Value → H} {P : Program} {W : World}

/-- A list of cells that is no longer than the form's reach. -/
theorem open_cellsW {t e : TypeId} {f0 f1 f2 f3 f4 : Field} {v : Value} {fuel : Nat} {d : DataW H} {ps : List MemPlace} (ht : P.underlying t = some (.slice e)) (he : P.underlying e = some (.struct #[f0, f1, f2, f3, f4])) (hone : oneCellFields P #[f0, f1, f2, f3, f4] = true) (hC : P.cellsOf e = 5) (hby : P.bytesOf e = 64)
    (h0 : P.underlying f0.type = some .string) (h1 : P.underlying f1.type = some .string) (h2 : P.underlying f2.type = some (.int .i64)) (h3 : P.underlying f3.type = some .bool) (h4 : P.underlying f4.type = some .string)
    (h : DataW.trod enc P W 0 (fun _ => true) true fuel t [v] = some (d, ps)) (hw : ∀ n ∈ d.weights P t, n ≤ reachBytes) : ∃ cs : List Cl, RdC W v cs ∧ cs.length ≤ 2199023255552 := by
  obtain ⟨cs, hcs, _⟩ := open_cells ht he hone hC h0 h1 h2 h3 h4 h
  refine ⟨cs, hcs, ?_⟩
  rcases open_slice ht h with ⟨hv, _⟩ | ⟨a, len, cap, m, n, D, Pl, hv, hb, hl, hm, hmm, hxx, hx⟩
  · simp only [List.cons.injEq, and_true] at hv
    subst hv
    obtain ⟨_, _, hv, _⟩ := hcs
    simp only [Value.slice.injEq] at hv
    omega
  · simp only [List.cons.injEq, and_true] at hv
    subst hv
    obtain ⟨_, _, hv, _⟩ := hcs
    simp only [Value.slice.injEq] at hv
    simp only [Prod.mk.injEq] at hxx
    obtain ⟨rfl, _⟩ := hxx
    have := hw ((len + (m - len)) * P.bytesOf e) (by simp [DataW.weights, ht])
    rw [hby] at this
    simp [reachBytes] at this
    omega

/-- A list of lists of cells. -/
theorem open_ll {t e b : TypeId} {f0 f1 f2 f3 f4 : Field} {a : Option Addr} {len cap : Nat} {d : DataW H} {ps : List MemPlace} (ht : P.underlying t = some (.slice e)) (he : P.underlying e = some (.slice b)) (hb : P.underlying b = some (.struct #[f0, f1, f2, f3, f4])) (hc : P.cellsOf e = 1) (hone : oneCellFields P #[f0, f1, f2, f3, f4] = true) (hC : P.cellsOf b = 5) (hby : P.bytesOf b = 64)
    (h0 : P.underlying f0.type = some .string) (h1 : P.underlying f1.type = some .string) (h2 : P.underlying f2.type = some (.int .i64)) (h3 : P.underlying f3.type = some .bool) (h4 : P.underlying f4.type = some .string)
    (h : DataW.Trod enc P W 0 (fun _ => true) true t (.slice a len cap) d ps) (hw : ∀ n ∈ d.weights P t, n ≤ reachBytes) : ∃ ls : List (List Cl), RdL W (.slice a len cap) ls ∧ ∀ l ∈ ls, l.length ≤ 2199023255552 := by
  obtain ⟨fuel, hf⟩ := h
  rcases Go.Deep.open_slice1 ht hc hf with ⟨hcs, _⟩ | ⟨x, l, c, m, n, V, D, Pl, hcs, _, hl, hm, hmm, hx, hall⟩
  · simp [Value.cells] at hcs
    obtain ⟨rfl, rfl, rfl⟩ := hcs
    exact ⟨[], ⟨[], Rd.nil _, rfl, by simp, fun i u l h => by simp at h⟩, by simp⟩
  · simp [Value.cells] at hcs
    obtain ⟨rfl, rfl, rfl⟩ := hcs
    simp at hmm
    subst hmm
    simp only [Prod.mk.injEq] at hx
    obtain ⟨rfl, _⟩ := hx
    have each : ∀ i, i < len → ∃ cs : List Cl, RdC W (V i) cs ∧ cs.length ≤ 2199023255552 := fun i hi =>
      open_cellsW he hb hone hC hby h0 h1 h2 h3 h4 (hall i (by omega)).2 (fun k hk => hw k (by
        simp only [DataW.weights, ht, List.mem_cons, List.mem_append]
        exact .inr (.inl (weightsAll_mem (d := D i) (List.mem_map.2 ⟨i, List.mem_range.2 hi, rfl⟩) hk))))
    obtain ⟨ls, hll, hp⟩ := choose_list len each
    refine ⟨ls, ⟨(List.range len).map V, rd_of_cells (by simp) hl hm fun i hi => ?_, by simp [hll], fun u hu => ?_, fun i u l hu hl' => ?_⟩, fun l hl' => ?_⟩
    · rw [(hall i (by omega)).1]
      simp [hi]
    · obtain ⟨i, hi, rfl⟩ := List.mem_map.1 hu
      obtain ⟨cs, hcs, _⟩ := each i (List.mem_range.1 hi)
      obtain ⟨_, _, hv, _⟩ := hcs
      rw [hv]
      rfl
    · have hi : i < len := by
        have := (List.getElem?_eq_some_iff.1 hu).1
        simpa using this
      simp [hi] at hu
      subst hu
      exact (hp i l hl').1
    · obtain ⟨i, hi, e⟩ := List.getElem_of_mem hl'
      exact (hp i l (by rw [List.getElem?_eq_getElem hi, e])).2

end
end Go.Proofs.Ytlebbkbbmgmmjad
