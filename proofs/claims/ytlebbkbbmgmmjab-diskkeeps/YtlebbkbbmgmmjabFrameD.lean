/-
  From numbers and disks as the row reads them to what the walks ask of them. Nothing of a program stands here.
-/
import Derived.Test.YtlebbkbbmgmmjabFrameB
import Derived.Lib.SmallJoins
namespace Go.Proofs.Ytlebbkbbmgmmjab
open Go.ChangeShapes Go.WideShapes Go.ChangeAt Go.RowKit Go.Joins Go.Deep

section
variable {H : Type} {enc : TypeId × Value → H} {P : Program} {W : World}

/-- A list of numbers, each within its kind. -/
theorem open_icw {t e : TypeId} {a : Option Addr} {len cap : Nat} {d : DataW H} {ps : List MemPlace} (ht : P.underlying t = some (.slice e)) (he : P.underlying e = some (.int .i64)) (hc : P.cellsOf e = 1)
    (h : DataW.Trod enc P W 0 (fun _ => true) true t (.slice a len cap) d ps) : ∃ zs : List Int, Rd W (.slice a len cap) (ic zs) ∧ ∀ z ∈ zs, -9223372036854775808 ≤ z ∧ z ≤ 9223372036854775807 := by
  obtain ⟨fuel, hf⟩ := h
  rcases open_ints ht he hc hf with ⟨hcs, _⟩ | ⟨x, l, c, zs, hcs, _, hl, hm, hz, _, hcell, hwz⟩
  · simp [Value.cells] at hcs
    obtain ⟨rfl, rfl, rfl⟩ := hcs
    exact ⟨[], Rd.nil _, by simp⟩
  · simp [Value.cells] at hcs
    obtain ⟨rfl, rfl, rfl⟩ := hcs
    simp at hz
    refine ⟨zs.take len, rd_of_cells (by rw [ic_length, List.length_take]; omega) hl hm fun i hi => ?_, fun z hz' => bounds_i64 (hwz z (List.mem_of_mem_take hz'))⟩
    rw [hcell i (by omega)]
    simp [ic, List.getD, hi, show i < zs.length by omega]

theorem open_bcx {t e : TypeId} {v : Value} {fuel : Nat} {y : DataW H × List MemPlace} (ht : P.underlying t = some (.slice e)) (he : P.underlying e = some (.int .u8)) (hc : P.cellsOf e = 1)
    (hf : DataW.trod enc P W 0 (fun _ => true) true fuel t [v] = some y) : ∃ bs : List UInt8, Rd W v (bc bs) := by
  obtain ⟨d, ps⟩ := y
  rcases open_ints ht he hc hf with ⟨hcs, _⟩ | ⟨x, l, c, zs, hcs, _, hl, hm, hz, hx, hcell, hwz⟩
  · simp only [List.cons.injEq, and_true] at hcs
    subst hcs
    exact ⟨[], Rd.nil _⟩
  · simp only [List.cons.injEq, and_true] at hcs
    subst hcs
    exact open_bc ht he hc hf

/-- A disk: bytes and a number. -/
theorem open_disk {r : Reach} {b0 : Nat} {t e : TypeId} {f0 f1 : Field} {v : Value} {d : DataW H} {p : List MemPlace} (hs : P.underlying t = some (.struct #[f0, f1])) (hone : oneCellFields P #[f0, f1] = true) (hC : P.cellsOf t = 2)
    (h0 : P.underlying f0.type = some (.slice e)) (he : P.underlying e = some (.int .u8)) (hc : P.cellsOf e = 1) (h1 : P.underlying f1.type = some (.int .i64))
    (hv : Value.okWide P W r b0 t v) (h : DataW.Trod enc P W 0 (fun _ => true) true t v d p) :
    ∃ (u : Value) (k : Int) (bs : List UInt8), v = .agg #[u, .int .i64 k] ∧ Rd W u (bc bs) ∧ -9223372036854775808 ≤ k ∧ k ≤ 9223372036854775807 := by
  obtain ⟨c0, c1, y0, y1, m, rfl, rfl, rfl, hy0, hy1⟩ := open_agg2 hs hone hC hv h
  obtain ⟨bs, hb⟩ := open_bcx h0 he hc hy0
  obtain ⟨k, e0, _, wk⟩ := DataW.trod_int h1 hy1
  simp only [List.cons.injEq, and_true] at e0
  subst e0
  exact ⟨c0, k, bs, rfl, hb, bounds_i64 wk⟩

end
end Go.Proofs.Ytlebbkbbmgmmjab
