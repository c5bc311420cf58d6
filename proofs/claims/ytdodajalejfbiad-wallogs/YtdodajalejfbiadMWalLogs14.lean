/-
  Texts joined: FrameL, FrameB, FrameD, FrameN.
-/
import Derived.Test.YtdodajalejfbiadMWalLogs13
import Derived.Lib.SmallJoins
/-
  From a list of lists of cells as the row reads it to what the walks ask of it. Nothing of a program stands here.
-/
namespace Go.Proofs.Ytdodajalejfbiad
open Go.ChangeShapes Go.WideShapes Go.ChangeAt Go.RowKit Go.Joins Go.Deep

section
variable {H : Type} {enc : TypeId × Value → H} {P : Program} {W : World}

/-- A list of cells that is no longer than the form's reach. -/
theorem open_cellsW {t e : TypeId} {f0 f1 f2 f3 f4 : Field} {v : Value} {fuel : Nat} {d : DataW H} {ps : List MemPlace} (ht : P.underlying t = some (.slice e)) (he : P.underlying e = some (.struct #[f0, f1, f2, f3, f4])) (hone : oneCellFields P #[f0, f1, f2, f3, f4] = true) (hC : P.cellsOf e = 5) (hby : P.bytesOf e = 64)
    (h0 : P.underlying f0.type = some .string) (h1 : P.underlying f1.type = some .string) (h2 : P.underlying f2.type = some (.int .i64)) (h3 : P.underlying f3.type = some .bool) (h4 : P.underlying f4.type = some .string)
    (h : DataW.trod enc P W 0 (fun _ => true) true fuel t [v] = some (d, ps)) (hw : ∀ n ∈ d.weights P t, n ≤ reachBytes) : ∃ cs : List Cl, RdC W v cs ∧ cs.length ≤ 2199023255552 := by
  obtain ⟨cs, hcs, _⟩ := open_cells ht he hone hC h0 h1 h2 h3 h4 h
  refine ⟨cs, hcs, ?_⟩
  rcases open_slice ht h with ⟨hv, _⟩ | ⟨a, len, cap, m, n, D, Pl, hv, hb, hl, hm, hmm, hxx, hx⟩
  · simp only [List.cons.injEq, and_true] at hv
    subst hv
    obtain ⟨_, _, hv, _⟩ := hcs
    simp only [Value.slice.injEq] at hv
    omega
  · simp only [List.cons.injEq, and_true] at hv
    subst hv
    obtain ⟨_, _, hv, _⟩ := hcs
    simp only [Value.slice.injEq] at hv
    simp only [Prod.mk.injEq] at hxx
    obtain ⟨rfl, _⟩ := hxx
    have := hw ((len + (m - len)) * P.bytesOf e) (by simp [DataW.weights, ht])
    rw [hby] at this
    simp [reachBytes] at this
    omega

/-- A list of lists of cells. -/
theorem open_ll {t e b : TypeId} {f0 f1 f2 f3 f4 : Field} {a : Option Addr} {len cap : Nat} {d : DataW H} {ps : List MemPlace} (ht : P.underlying t = some (.slice e)) (he : P.underlying e = some (.slice b)) (hb : P.underlying b = some (.struct #[f0, f1, f2, f3, f4])) (hc : P.cellsOf e = 1) (hone : oneCellFields P #[f0, f1, f2, f3, f4] = true) (hC : P.cellsOf b = 5) (hby : P.bytesOf b = 64)
    (h0 : P.underlying f0.type = some .string) (h1 : P.underlying f1.type = some .string) (h2 : P.underlying f2.type = some (.int .i64)) (h3 : P.underlying f3.type = some .bool) (h4 : P.underlying f4.type = some .string)
    (h : DataW.Trod enc P W 0 (fun _ => true) true t (.slice a len cap) d ps) (hw : ∀ n ∈ d.weights P t, n ≤ reachBytes) : ∃ ls : List (List Cl), RdL W (.slice a len cap) ls ∧ ∀ l ∈ ls, l.length ≤ 2199023255552 := by
  obtain ⟨fuel, hf⟩ := h
  rcases Go.Deep.open_slice1 ht hc hf with ⟨hcs, _⟩ | ⟨x, l, c, m, n, V, D, Pl, hcs, _, hl, hm, hmm, hx, hall⟩
  · simp [Value.cells] at hcs
    obtain ⟨rfl, rfl, rfl⟩ := hcs
    exact ⟨[], ⟨[], Rd.nil _, rfl, by simp, fun i u l h => by simp at h⟩, by simp⟩
  · simp [Value.cells] at hcs
    obtain ⟨rfl, rfl, rfl⟩ := hcs
    simp at hmm
    subst hmm
    simp only [Prod.mk.injEq] at hx
    obtain ⟨rfl, _⟩ := hx
    have each : ∀ i, i < len → ∃ cs : List Cl, RdC W (V i) cs ∧ cs.length ≤ 2199023255552 := fun i hi =>
      open_cellsW he hb hone hC hby h0 h1 h2 h3 h4 (hall i (by omega)).2 (fun k hk => hw k (by
        simp only [DataW.weights, ht, List.mem_cons, List.mem_append]
        exact .inr (.inl (weightsAll_mem (d := D i) (List.mem_map.2 ⟨i, List.mem_range.2 hi, rfl⟩) hk))))
    obtain ⟨ls, hll, hp⟩ := choose_list len each
    refine ⟨ls, ⟨(List.range len).map V, rd_of_cells (by simp) hl hm fun i hi => ?_, by simp [hll], fun u hu => ?_, fun i u l hu hl' => ?_⟩, fun l hl' => ?_⟩
    · rw [(hall i (by omega)).1]
      simp [hi]
    · obtain ⟨i, hi, rfl⟩ := List.mem_map.1 hu
      obtain ⟨cs, hcs, _⟩ := each i (List.mem_range.1 hi)
      obtain ⟨_, _, hv, _⟩ := hcs
      rw [hv]
      rfl
    · have hi : i < len := by
        have := (List.getElem?_eq_some_iff.1 hu).1
        simpa using this
      simp [hi] at hu
      subst hu
      exact (hp i l hl').1
    · obtain ⟨i, hi, e⟩ := List.getElem_of_mem hl'
      exact (hp i l (by rw [List.getElem?_eq_getElem hi, e])).2

end
end Go.Proofs.Ytdodajalejfbiad

/-
  From a list of bodies as the row reads it to what the walks ask of it.
-/
namespace Go.Proofs.Ytdodajalejfbiad
open Go.ChangeShapes Go.WideShapes Go.ChangeAt Go.RowKit

section
variable {H : Type} {enc : TypeId × Value → H} {P : Program} {W : World}

theorem open_bcv {t e : TypeId} {v : Value} {fuel : Nat} {d : DataW H} {ps : List MemPlace} (ht : P.underlying t = some (.slice e)) (he : P.underlying e = some (.int .u8)) (hc : P.cellsOf e = 1) (hby : P.bytesOf e = 1)
    (hf : DataW.trod enc P W 0 (fun _ => true) true fuel t [v] = some (d, ps)) (hw : ∀ n ∈ d.weights P t, n ≤ reachBytes) : ∃ bs : List UInt8, Rd W v (bc bs) ∧ bs.length ≤ 140737488351232 := by
  rcases open_ints ht he hc hf with ⟨hcs, _⟩ | ⟨x, l, c, zs, hcs, _, hl, hm, hz, hx, hcell, hwz⟩
  · simp only [List.cons.injEq, and_true] at hcs
    subst hcs
    exact ⟨[], Rd.nil _, by simp⟩
  · simp only [List.cons.injEq, and_true] at hcs
    subst hcs
    obtain ⟨bs, hb⟩ := open_bc ht he hc hf
    refine ⟨bs, hb, ?_⟩
    have hbl : l = bs.length := by
      obtain ⟨_, _, hv, _⟩ := hb
      simp only [Value.slice.injEq, bc_length] at hv
      exact hv.2.1
    simp at hz
    simp only [Prod.mk.injEq] at hx
    obtain ⟨rfl, _⟩ := hx
    have := hw (((zs.take l).length + (zs.drop l).length) * P.bytesOf e) (by simp [DataW.weights, ht, lits])
    rw [hby] at this
    simp [reachBytes] at this
    omega

/-- A list of bodies; none is longer than the form's reach. -/
theorem open_bb {t e b : TypeId} {a : Option Addr} {len cap : Nat} {d : DataW H} {ps : List MemPlace} (ht : P.underlying t = some (.slice e)) (he : P.underlying e = some (.slice b)) (hb : P.underlying b = some (.int .u8)) (hc : P.cellsOf e = 1) (hcb : P.cellsOf b = 1) (hby : P.bytesOf b = 1)
    (h : DataW.Trod enc P W 0 (fun _ => true) true t (.slice a len cap) d ps) (hw : ∀ n ∈ d.weights P t, n ≤ reachBytes) : ∃ bb : List (List UInt8), RdB W (.slice a len cap) bb ∧ ∀ s ∈ bb, s.length ≤ 140737488351232 := by
  obtain ⟨fuel, hf⟩ := h
  rcases Go.Deep.open_slice1 ht hc hf with ⟨hcs, _⟩ | ⟨x, l, c, m, n, V, D, Pl, hcs, _, hl, hm, hmm, hx, hall⟩
  · simp [Value.cells] at hcs
    obtain ⟨rfl, rfl, rfl⟩ := hcs
    exact ⟨[], RdB.nil _, by simp⟩
  · simp [Value.cells] at hcs
    obtain ⟨rfl, rfl, rfl⟩ := hcs
    simp at hmm
    subst hmm
    simp only [Prod.mk.injEq] at hx
    obtain ⟨rfl, _⟩ := hx
    have each : ∀ i, i < len → ∃ bs : List UInt8, Rd W (V i) (bc bs) ∧ bs.length ≤ 140737488351232 := fun i hi =>
      open_bcv he hb hcb hby (hall i (by omega)).2 (fun k hk => hw k (by
        simp only [DataW.weights, ht, List.mem_cons, List.mem_append]
        exact .inr (.inl (weightsAll_mem (d := D i) (List.mem_map.2 ⟨i, List.mem_range.2 hi, rfl⟩) hk))))
    have hch : ∀ k, k ≤ len → ∃ bb : List (List UInt8), bb.length = k ∧ (∀ i (y : List UInt8), bb[i]? = some y → Rd W (V i) (bc y)) ∧ ∀ s ∈ bb, s.length ≤ 140737488351232 := by
      intro k
      induction k with
      | zero => exact fun _ => ⟨[], rfl, by simp, by simp⟩
      | succ k ih =>
        intro hk
        obtain ⟨bb, h1, h2, h3⟩ := ih (by omega)
        obtain ⟨bs, h4, h5⟩ := each k (by omega)
        refine ⟨bb ++ [bs], by simp [h1], fun i y hy => ?_, fun s hs => ?_⟩
        · by_cases hi : i < bb.length
          · rw [List.getElem?_append_left hi] at hy
            exact h2 i y hy
          · rw [List.getElem?_append_right (by omega)] at hy
            have : i = k := by
              have := (List.getElem?_eq_some_iff.1 hy).1
              simp at this
              omega
            subst this
            rw [h1] at hy
            simp at hy
            subst hy
            exact h4
        · rcases List.mem_append.1 hs with hs | hs
          · exact h3 s hs
          · simp at hs
            subst hs
            exact h5
    obtain ⟨bb, h1, h2, h3⟩ := hch len (Nat.le_refl _)
    refine ⟨bb, ⟨(List.range len).map V, rd_of_cells (by simp) hl hm fun i hi => ?_, by simp [h1], fun i u y hu hy => ?_⟩, h3⟩
    · rw [(hall i (by omega)).1]
      simp [hi]
    · have hi : i < len := by
        have := (List.getElem?_eq_some_iff.1 hu).1
        simpa using this
      simp [hi] at hu
      subst hu
      exact h2 i y hy

end
end Go.Proofs.Ytdodajalejfbiad

/-
  From numbers and disks as the row reads them to what the walks ask of them. Nothing of a program stands here.
-/
namespace Go.Proofs.Ytdodajalejfbiad
open Go.ChangeShapes Go.WideShapes Go.ChangeAt Go.RowKit Go.Joins Go.Deep

section
variable {H : Type} {enc : TypeId × Value → H} {P : Program} {W : World}

/-- A list of numbers, each within its kind. -/
theorem open_icw {t e : TypeId} {a : Option Addr} {len cap : Nat} {d : DataW H} {ps : List MemPlace} (ht : P.underlying t = some (.slice e)) (he : P.underlying e = some (.int .i64)) (hc : P.cellsOf e = 1)
    (h : DataW.Trod enc P W 0 (fun _ => true) true t (.slice a len cap) d ps) : ∃ zs : List Int, Rd W (.slice a len cap) (ic zs) ∧ ∀ z ∈ zs, -9223372036854775808 ≤ z ∧ z ≤ 9223372036854775807 := by
  obtain ⟨fuel, hf⟩ := h
  rcases open_ints ht he hc hf with ⟨hcs, _⟩ | ⟨x, l, c, zs, hcs, _, hl, hm, hz, _, hcell, hwz⟩
  · simp [Value.cells] at hcs
    obtain ⟨rfl, rfl, rfl⟩ := hcs
    exact ⟨[], Rd.nil _, by simp⟩
  · simp [Value.cells] at hcs
    obtain ⟨rfl, rfl, rfl⟩ := hcs
    simp at hz
    refine ⟨zs.take len, rd_of_cells (by rw [ic_length, List.length_take]; omega) hl hm fun i hi => ?_, fun z hz' => bounds_i64 (hwz z (List.mem_of_mem_take hz'))⟩
    rw [hcell i (by omega)]
    simp [ic, List.getD, hi, show i < zs.length by omega]

theorem open_bcx {t e : TypeId} {v : Value} {fuel : Nat} {y : DataW H × List MemPlace} (ht : P.underlying t = some (.slice e)) (he : P.underlying e = some (.int .u8)) (hc : P.cellsOf e = 1)
    (hf : DataW.trod enc P W 0 (fun _ => true) true fuel t [v] = some y) : ∃ bs : List UInt8, Rd W v (bc bs) := by
  obtain ⟨d, ps⟩ := y
  rcases open_ints ht he hc hf with ⟨hcs, _⟩ | ⟨x, l, c, zs, hcs, _, hl, hm, hz, hx, hcell, hwz⟩
  · simp only [List.cons.injEq, and_true] at hcs
    subst hcs
    exact ⟨[], Rd.nil _⟩
  · simp only [List.cons.injEq, and_true] at hcs
    subst hcs
    exact open_bc ht he hc hf

/-- A disk: bytes and a number. -/
theorem open_disk {r : Reach} {b0 : Nat} {t e : TypeId} {f0 f1 : Field} {v : Value} {d : DataW H} {p : List MemPlace} (hs : P.underlying t = some (.struct #[f0, f1])) (hone : oneCellFields P #[f0, f1] = true) (hC : P.cellsOf t = 2)
    (h0 : P.underlying f0.type = some (.slice e)) (he : P.underlying e = some (.int .u8)) (hc : P.cellsOf e = 1) (h1 : P.underlying f1.type = some (.int .i64))
    (hv : Value.okWide P W r b0 t v) (h : DataW.Trod enc P W 0 (fun _ => true) true t v d p) :
    ∃ (u : Value) (k : Int) (bs : List UInt8), v = .agg #[u, .int .i64 k] ∧ Rd W u (bc bs) ∧ -9223372036854775808 ≤ k ∧ k ≤ 9223372036854775807 := by
  obtain ⟨c0, c1, y0, y1, m, rfl, rfl, rfl, hy0, hy1⟩ := open_agg2 hs hone hC hv h
  obtain ⟨bs, hb⟩ := open_bcx h0 he hc hy0
  obtain ⟨k, e0, _, wk⟩ := DataW.trod_int h1 hy1
  simp only [List.cons.injEq, and_true] at e0
  subst e0
  exact ⟨c0, k, bs, rfl, hb, bounds_i64 wk⟩

end
end Go.Proofs.Ytdodajalejfbiad

/-
  From notes, and lists of them, as the row reads them to what the walks ask of them. Nothing of a program stands here.
-/
namespace Go.Proofs.Ytdodajalejfbiad
open Go.ChangeShapes Go.WideShapes Go.ChangeAt Go.RowKit Go.Joins Go.Deep

section
variable {H : Type} {enc : TypeId × Value → H} {P : Program} {W : World}

/-- A note: a number and cells. -/
theorem open_note {r : Reach} {b0 : Nat} {t e : TypeId} {g0 g1 : Field} {f0 f1 f2 f3 f4 : Field} {v : Value} {d : DataW H} {p : List MemPlace} (hs : P.underlying t = some (.struct #[g0, g1])) (hone : oneCellFields P #[g0, g1] = true) (hC : P.cellsOf t = 2)
    (k0 : P.underlying g0.type = some (.int .i64)) (k1 : P.underlying g1.type = some (.slice e)) (he : P.underlying e = some (.struct #[f0, f1, f2, f3, f4])) (hone5 : oneCellFields P #[f0, f1, f2, f3, f4] = true) (hC5 : P.cellsOf e = 5)
    (h0 : P.underlying f0.type = some .string) (h1 : P.underlying f1.type = some .string) (h2 : P.underlying f2.type = some (.int .i64)) (h3 : P.underlying f3.type = some .bool) (h4 : P.underlying f4.type = some .string)
    (hv : Value.okWide P W r b0 t v) (h : DataW.Trod enc P W 0 (fun _ => true) true t v d p) :
    ∃ (s : Int) (u : Value) (cs : List Cl), v = .agg #[.int .i64 s, u] ∧ RdC W u cs ∧ -9223372036854775808 ≤ s ∧ s ≤ 9223372036854775807 := by
  obtain ⟨c0, c1, y0, y1, m, rfl, rfl, rfl, hy0, hy1⟩ := open_agg2 hs hone hC hv h
  obtain ⟨cs, hb, _⟩ := open_cells k1 he hone5 hC5 h0 h1 h2 h3 h4 hy1
  obtain ⟨k, e0, _, wk⟩ := DataW.trod_int k0 hy0
  simp only [List.cons.injEq, and_true] at e0
  subst e0
  exact ⟨k, c1, cs, rfl, hb, bounds_i64 wk⟩

theorem nn_div {ps : List (Int × Value)} {j : Nat} {u : Value} (h : (nn ps)[j]? = some u) : ∃ i p, ps[i]? = some p ∧ ((j = i * 2 ∧ u = .int .i64 p.1) ∨ (j = i * 2 + 1 ∧ u = p.2)) := by
  have hl := (List.getElem?_eq_some_iff.1 h).1
  rw [nn_length] at hl
  have hi : j / 2 < ps.length := by omega
  obtain ⟨g0, g1⟩ := nn_get ps (j / 2) hi
  refine ⟨j / 2, ps[j / 2], List.getElem?_eq_getElem hi, ?_⟩
  rcases Nat.mod_two_eq_zero_or_one j with hm | hm
  · left
    have e : j / 2 * 2 = j := by omega
    rw [e, h] at g0
    exact ⟨e.symm, Option.some.inj g0⟩
  · right
    have e : j / 2 * 2 + 1 = j := by omega
    rw [e, h] at g1
    exact ⟨e.symm, Option.some.inj g1⟩

/-- A list of notes. -/
theorem open_nl {t e c : TypeId} {g0 g1 f0 f1 f2 f3 f4 : Field} {a : Option Addr} {len cap : Nat} {d : DataW H} {pl : List MemPlace} (ht : P.underlying t = some (.slice e)) (he : P.underlying e = some (.struct #[g0, g1])) (hone : oneCellFields P #[g0, g1] = true) (hC : P.cellsOf e = 2)
    (k0 : P.underlying g0.type = some (.int .i64)) (k1 : P.underlying g1.type = some (.slice c)) (hc : P.underlying c = some (.struct #[f0, f1, f2, f3, f4])) (hone5 : oneCellFields P #[f0, f1, f2, f3, f4] = true) (hC5 : P.cellsOf c = 5) (hby : P.bytesOf c = 64)
    (h0 : P.underlying f0.type = some .string) (h1 : P.underlying f1.type = some .string) (h2 : P.underlying f2.type = some (.int .i64)) (h3 : P.underlying f3.type = some .bool) (h4 : P.underlying f4.type = some .string)
    (h : DataW.Trod enc P W 0 (fun _ => true) true t (.slice a len cap) d pl) (hw : ∀ n ∈ d.weights P t, n ≤ reachBytes) : ∃ ns : List Nt, RdN W (.slice a len cap) ns ∧ ∀ n ∈ ns, n.cells.length ≤ 2199023255552 := by
  obtain ⟨fuel, hf⟩ := h
  have hf' : DataW.trod enc P W 0 (fun _ => true) true fuel t [.slice a len cap] = some (d, pl) := by simpa [Value.cells] using hf
  rcases open_slice ht hf' with ⟨hcs, _⟩ | ⟨a', len', cap', m, n, D, Pl, hcs, hb, hl, hm, hmm, hxx, hx⟩
  · simp only [List.cons.injEq, and_true] at hcs
    rw [hcs]
    exact ⟨[], RdN.nil _, by simp⟩
  · simp only [List.cons.injEq, and_true] at hcs
    rw [hcs]
    simp only [Prod.mk.injEq] at hxx
    obtain ⟨rfl, _⟩ := hxx
    obtain ⟨o0, q0⟩ := hone_of hone 0 g0 rfl
    obtain ⟨o1, q1⟩ := hone_of hone 1 g1 rfl
    have hlm : len' ≤ m := by rw [hmm]; split <;> omega
    have each : ∀ i, i < len' → ∃ x : Int × Value × List Cl, W.cell? (a'.add (i * 2)) = some (.int .i64 x.1) ∧ W.cell? (a'.add (i * 2 + 1)) = some x.2.1 ∧ RdC W x.2.1 x.2.2 ∧ x.2.2.length ≤ 2199023255552 := by
      intro i hi
      obtain ⟨cs', r1, r2⟩ := hx i (by omega)
      rw [hC] at r1
      obtain ⟨_, hlen, hcell⟩ := World.cells?_some r1
      obtain ⟨xs, k, hk, hxy, _, hxl, hfld⟩ := DataW.trod_struct he r2
      match xs, hxl, cs', hlen with
      | [y0, y1], _, [v0, v1], _ =>
        have p0 := hfld 0 g0 rfl
        have p1 := hfld 1 g1 rfl
        simp [o0, o1, q0, q1] at p0 p1
        obtain ⟨s0, e0, _, _⟩ := DataW.trod_int k0 p0
        simp only [List.cons.injEq, and_true] at e0
        subst e0
        have hD : D i = .agg [y0.1, y1.1] := by
          simp only [Prod.mk.injEq] at hxy
          simpa using hxy.1
        obtain ⟨cs, hrc, hlc⟩ := open_cellsW (d := y1.1) (ps := y1.2) k1 hc hone5 hC5 hby h0 h1 h2 h3 h4 p1 (fun z hz => hw z (by
          simp only [DataW.weights, ht, List.mem_cons, List.mem_append]
          refine .inr (.inl (weightsAll_mem (d := D i) (List.mem_map.2 ⟨i, List.mem_range.2 hi, rfl⟩) ?_))
          rw [hD]
          simp only [DataW.weights, he, List.map_cons, List.map_nil, DataW.weightsEach, List.mem_append]
          exact .inr (.inl hz)))
        have c0 := hcell 0 (by omega)
        have c1 := hcell 1 (by omega)
        rw [add_add] at c0 c1
        exact ⟨(s0, v1, cs), by simpa using c0, by simpa using c1, hrc, hlc⟩
    obtain ⟨xs, hxl, hxp⟩ := choose_list len' each
    refine ⟨xs.map fun x => ⟨x.1, x.2.2⟩, ⟨xs.map fun x => (x.1, x.2.1), ⟨some a', cap', by rw [List.length_map, hxl], by rw [List.length_map, hxl]; exact hl, hm, (fun h => by cases h), ?_, ?_⟩, ?_⟩, ?_⟩
    · intro p hp
      obtain ⟨x, hx1, rfl⟩ := List.mem_map.1 hp
      obtain ⟨i, hi, e⟩ := List.getElem_of_mem hx1
      obtain ⟨_, _, hrc, _⟩ := hxp i x (by rw [List.getElem?_eq_getElem hi, e])
      obtain ⟨_, _, e2, _⟩ := hrc
      simp only
      rw [e2]
      rfl
    · intro b hb' j u hu
      cases hb'
      obtain ⟨i, p, hp, hj⟩ := nn_div hu
      rw [List.getElem?_map] at hp
      cases hxi : xs[i]? with
      | none => rw [hxi] at hp; cases hp
      | some x =>
        rw [hxi] at hp
        simp only [Option.map_some, Option.some.injEq] at hp
        subst hp
        obtain ⟨c0, c1, _, _⟩ := hxp i x hxi
        rcases hj with ⟨rfl, rfl⟩ | ⟨rfl, rfl⟩
        · exact c0
        · exact c1
    · refine ⟨by simp, fun i p n hp hn => ?_⟩
      rw [List.getElem?_map] at hp hn
      cases hxi : xs[i]? with
      | none => rw [hxi] at hp; cases hp
      | some x =>
        rw [hxi] at hp hn
        simp only [Option.map_some, Option.some.injEq] at hp hn
        subst hp hn
        exact ⟨rfl, (hxp i x hxi).2.2.1⟩
    · intro n hn
      obtain ⟨x, hx1, rfl⟩ := List.mem_map.1 hn
      obtain ⟨i, hi, e⟩ := List.getElem_of_mem hx1
      exact (hxp i x (by rw [List.getElem?_eq_getElem hi, e])).2.2.2

end
end Go.Proofs.Ytdodajalejfbiad
