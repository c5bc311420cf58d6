/-
  Texts joined: Frame.
-/
import Derived.Test.YtnbifobdkjkjlaaMAssignKeeps3
import Derived.ProofKit
import Derived.OpenShut
import Derived.ShutString
import Derived.ChangeOld
import Derived.Below
import Derived.SliceStrings
import Derived.SizedLaws
import Derived.Deep.Slices
/-
  From the arguments as the row reads them to what the walks ask of them. Nothing of a program stands here.
-/
namespace Go.Proofs.Ytnbifobdkjkjlaa
open Go.ChangeShapes Go.WideShapes Go.ChangeAt Go.RowKit

section
variable {H : Type} {enc : TypeId × Value → H} {P : Program} {W : World}

theorem rd_of_cells {w : World} {a : Addr} {len cap : Nat} {xs : List Value} (hl : xs.length = len) (h1 : len ≤ cap) (h2 : cap ≤ maxLen) (h : ∀ i, i < len → w.cell? (a.add i) = xs[i]?) : Rd w (.slice (some a) len cap) xs := by
  refine ⟨some a, cap, by rw [hl], by omega, h2, (fun h => by cases h), fun b hb j u hu => ?_⟩
  cases hb
  rw [h j (by have := (List.getElem?_eq_some_iff.1 hu).1; omega), hu]

theorem open_ic {t e : TypeId} {a : Option Addr} {len cap : Nat} {d : DataW H} {ps : List MemPlace} (ht : P.underlying t = some (.slice e)) (he : P.underlying e = some (.int .i64)) (hc : P.cellsOf e = 1)
    (h : DataW.Trod enc P W 0 (fun _ => true) true t (.slice a len cap) d ps) : ∃ zs : List Int, Rd W (.slice a len cap) (ic zs) := by
  obtain ⟨fuel, hf⟩ := h
  rcases open_ints ht he hc hf with ⟨hcs, _⟩ | ⟨x, l, c, zs, hcs, _, hl, hm, hz, _, hcell, hwz⟩
  · simp [Value.cells] at hcs
    obtain ⟨rfl, rfl, rfl⟩ := hcs
    exact ⟨[], Rd.nil _⟩
  · simp [Value.cells] at hcs
    obtain ⟨rfl, rfl, rfl⟩ := hcs
    simp at hz
    refine ⟨zs.take len, rd_of_cells (by rw [ic_length, List.length_take]; omega) hl hm fun i hi => ?_⟩
    rw [hcell i (by omega)]
    simp [ic, List.getD, hi, show i < zs.length by omega]

theorem open_bc {t e : TypeId} {a : Option Addr} {len cap fuel : Nat} {d : DataW H} {ps : List MemPlace} (ht : P.underlying t = some (.slice e)) (he : P.underlying e = some (.int .u8)) (hc : P.cellsOf e = 1)
    (hf : DataW.trod enc P W 0 (fun _ => true) true fuel t [.slice a len cap] = some (d, ps)) : ∃ bs : List UInt8, Rd W (.slice a len cap) (bc bs) := by
  rcases open_ints ht he hc hf with ⟨hcs, _⟩ | ⟨x, l, c, zs, hcs, _, hl, hm, hz, _, hcell, hwz⟩
  · simp at hcs
    obtain ⟨rfl, rfl, rfl⟩ := hcs
    exact ⟨[], Rd.nil _⟩
  · simp at hcs
    obtain ⟨rfl, rfl, rfl⟩ := hcs
    simp at hz
    refine ⟨(zs.take len).map fun n => UInt8.ofNat n.toNat, rd_of_cells (by rw [bc_length, List.length_map, List.length_take]; omega) hl hm fun i hi => ?_⟩
    rw [hcell i (by omega)]
    have hi' : i < zs.length := by omega
    have hb := bounds_u8 (hwz zs[i] (List.getElem_mem hi'))
    have e : ((UInt8.ofNat zs[i].toNat).toNat : Int) = zs[i] := by
      simp only [UInt8.toNat_ofNat']
      omega
    simp only [bc, List.getElem?_map, List.getElem?_take, if_pos hi, List.getElem?_eq_getElem hi', Option.map_some, List.getD, Option.getD_some, e]

theorem open_bc' {t e : TypeId} {a : Option Addr} {len cap : Nat} {d : DataW H} {ps : List MemPlace} (ht : P.underlying t = some (.slice e)) (he : P.underlying e = some (.int .u8)) (hc : P.cellsOf e = 1)
    (h : DataW.Trod enc P W 0 (fun _ => true) true t (.slice a len cap) d ps) : ∃ bs : List UInt8, Rd W (.slice a len cap) (bc bs) := by
  obtain ⟨fuel, hf⟩ := h
  exact open_bc ht he hc (by simpa [Value.cells] using hf)

theorem weightsAll_mem {e : TypeId} : ∀ {l : List (DataW H)} {d : DataW H} {n : Nat}, d ∈ l → n ∈ d.weights P e → n ∈ DataW.weightsAll P e l
  | x :: l, d, n, hd, hn => by
    simp only [DataW.weightsAll, List.mem_append]
    rcases List.mem_cons.1 hd with rfl | hd
    · exact .inl hn
    · exact .inr (weightsAll_mem hd hn)

/-- A list of texts; none is longer than the form's reach. -/
theorem open_sc {t e : TypeId} {a : Option Addr} {len cap : Nat} {d : DataW H} {ps : List MemPlace} (ht : P.underlying t = some (.slice e)) (he : P.underlying e = some .string) (hc : P.cellsOf e = 1)
    (h : DataW.Trod enc P W 0 (fun _ => true) true t (.slice a len cap) d ps) (hw : ∀ n ∈ d.weights P t, n ≤ reachBytes) : ∃ ss : List (List UInt8), Rd W (.slice a len cap) (sc ss) ∧ ∀ s ∈ ss, s.length ≤ 140737488351232 := by
  obtain ⟨fuel, hf⟩ := h
  rcases open_strings ht he hc hf with ⟨hcs, _⟩ | ⟨x, l, c, zs, hcs, _, hl, hm, hz, hx, hcell, hwz⟩
  · simp [Value.cells] at hcs
    obtain ⟨rfl, rfl, rfl⟩ := hcs
    exact ⟨[], Rd.nil _, by simp⟩
  · simp [Value.cells] at hcs
    obtain ⟨rfl, rfl, rfl⟩ := hcs
    simp at hz
    simp only [Prod.mk.injEq] at hx
    obtain ⟨rfl, _⟩ := hx
    refine ⟨(zs.take len).map fun s => s.data.toList, rd_of_cells (by rw [sc_length, List.length_map, List.length_take]; omega) hl hm fun i hi => ?_, fun s hs => ?_⟩
    · rw [hcell i (by omega)]
      have hi' : i < zs.length := by omega
      simp only [sc, List.getElem?_map, List.getElem?_take, if_pos hi, List.getElem?_eq_getElem hi', Option.map_some, List.getD, Option.getD_some, Array.toArray_toList]
    · obtain ⟨y, hy, rfl⟩ := List.mem_map.1 hs
      have := hw y.data.toList.length (by
        simp only [DataW.weights, ht, List.mem_cons, List.mem_append]
        refine .inr (.inl (weightsAll_mem (d := .lit (.string y.data.toList)) (List.mem_map.2 ⟨y, hy, rfl⟩) ?_))
        simp [DataW.weights])
      simpa [reachBytes] using this

end
end Go.Proofs.Ytnbifobdkjkjlaa
