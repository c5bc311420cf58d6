/-
  From a list of bodies as the row reads it to what the walks ask of it.
-/
import Derived.Test.YtlebbkbbmgmmjabFrame
import Derived.Test.YtlebbkbbmgmmjabFrameW2
namespace Go.Proofs.Ytlebbkbbmgmmjab
open Go.ChangeShapes Go.WideShapes Go.ChangeAt Go.RowKit

section
variable {H : Type} {enc : TypeId × Value → H} {P : Program} {W : World}

theorem open_bcv {t e : TypeId} {v : Value} {fuel : Nat} {d : DataW H} {ps : List MemPlace} (ht : P.underlying t = some (.slice e)) (he : P.underlying e = some (.int .u8)) (hc : P.cellsOf e = 1) (hby : P.bytesOf e = 1)
    (hf : DataW.trod enc P W 0 (fun _ => true) true fuel t [v] = some (d, ps)) (hw : ∀ n ∈ d.weights P t, n ≤ reachBytes) : ∃ bs : List UInt8, Rd W v (bc bs) ∧ bs.length ≤ 140737488351232 := by
  rcases open_ints ht he hc hf with ⟨hcs, _⟩ | ⟨x, l, c, zs, hcs, _, hl, hm, hz, hx, hcell, hwz⟩
  · simp only [List.cons.injEq, and_true] at hcs
    subst hcs
    exact ⟨[], Rd.nil _, by simp⟩
  · simp only [List.cons.injEq, and_true] at hcs
    subst hcs
    obtain ⟨bs, hb⟩ := open_bc ht he hc hf
    refine ⟨bs, hb, ?_⟩
    have hbl : l = bs.length := by
      obtain ⟨_, _, hv, _⟩ := hb
      simp only [Value.slice.injEq, bc_length] at hv
      exact hv.2.1
    simp at hz
    simp only [Prod.mk.injEq] at hx
    obtain ⟨rfl, _⟩ := hx
    have := hw (((zs.take l).length + (zs.drop l).length) * P.bytesOf e) (by simp [DataW.weights, ht, lits])
    rw [hby] at this
    simp [reachBytes] at this
    omega

/-- A list of bodies; none is longer than the form's reach. -/
theorem open_bb {t e b : TypeId} {a : Option Addr} {len cap : Nat} {d : DataW H} {ps : List MemPlace} (ht : P.underlying t = some (.slice e)) (he : P.underlying e = some (.slice b)) (hb : P.underlying b = some (.int .u8)) (hc : P.cellsOf e = 1) (hcb : P.cellsOf b = 1) (hby : P.bytesOf b = 1)
    (h : DataW.Trod enc P W 0 (fun _ => true) true t (.slice a len cap) d ps) (hw : ∀ n ∈ d.weights P t, n ≤ reachBytes) : ∃ bb : List (List UInt8), RdB W (.slice a len cap) bb ∧ ∀ s ∈ bb, s.length ≤ 140737488351232 := by
  obtain ⟨fuel, hf⟩ := h
  rcases Go.Deep.open_slice1 ht hc hf with ⟨hcs, _⟩ | ⟨x, l, c, m, n, V, D, Pl, hcs, _, hl, hm, hmm, hx, hall⟩
  · simp [Value.cells] at hcs
    obtain ⟨rfl, rfl, rfl⟩ := hcs
    exact ⟨[], RdB.nil _, by simp⟩
  · simp [Value.cells] at hcs
    obtain ⟨rfl, rfl, rfl⟩ := hcs
    simp at hmm
    subst hmm
    simp only [Prod.mk.injEq] at hx
    obtain ⟨rfl, _⟩ := hx
    have each : ∀ i, i < len → ∃ bs : List UInt8, Rd W (V i) (bc bs) ∧ bs.length ≤ 140737488351232 := fun i hi =>
      open_bcv he hb hcb hby (hall i (by omega)).2 (fun k hk => hw k (by
        simp only [DataW.weights, ht, List.mem_cons, List.mem_append]
        exact .inr (.inl (weightsAll_mem (d := D i) (List.mem_map.2 ⟨i, List.mem_range.2 hi, rfl⟩) hk))))
    have hch : ∀ k, k ≤ len → ∃ bb : List (List UInt8), bb.length = k ∧ (∀ i (y : List UInt8), bb[i]? = some y → Rd W (V i) (bc y)) ∧ ∀ s ∈ bb, s.length ≤ 140737488351232 := by
      intro k
      induction k with
      | zero => exact fun _ => ⟨[], rfl, by simp, by simp⟩
      | succ k ih =>
        intro hk
        obtain ⟨bb, h1, h2, h3⟩ := ih (by omega)
        obtain ⟨bs, h4, h5⟩ := each k (by omega)
        refine ⟨bb ++ [bs], by simp [h1], fun i y hy => ?_, fun s hs => ?_⟩
        · by_cases hi : i < bb.length
          · rw [List.getElem?_append_left hi] at hy
            exact h2 i y hy
          · rw [List.getElem?_append_right (by omega)] at hy
            have : i = k := by
              have := (List.getElem?_eq_some_iff.1 hy).1
              simp at this
              omega
            subst this
            rw [h1] at hy
            simp at hy
            subst hy
            exact h4
        · rcases List.mem_append.1 hs with hs | hs
          · exact h3 s hs
          · simp at hs
            subst hs
            exact h5
    obtain ⟨bb, h1, h2, h3⟩ := hch len (Nat.le_refl _)
    refine ⟨bb, ⟨(List.range len).map V, rd_of_cells (by simp) hl hm fun i hi => ?_, by simp [h1], fun i u y hu hy => ?_⟩, h3⟩
    · rw [(hall i (by omega)).1]
      simp [hi]
    · have hi : i < len := by
        have := (List.getElem?_eq_some_iff.1 hu).1
        simpa using this
      simp [hi] at hu
      subst hu
      exact h2 i y hy

end
end Go.Proofs.Ytlebbkbbmgmmjab
