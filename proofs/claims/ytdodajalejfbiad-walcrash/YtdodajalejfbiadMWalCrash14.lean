/-
  Texts joined: FrameD, FrameN, FrameBs.
-/
import Derived.Test.YtdodajalejfbiadMWalCrash13
import Derived.Lib.SmallJoins
/-
  From numbers and disks as the row reads them to what the walks ask of them. Nothing of a program stands here.
-/
namespace Go.Proofs.Ytdodajalejfbiad
open Go.ChangeShapes Go.WideShapes Go.ChangeAt Go.RowKit Go.Joins Go.Deep

section
variable {H : Type} {enc : TypeId × Value → H} {P : Program} {W : World}

/-- A list of numbers, each within its kind. -/
theorem open_icw {t e : TypeId} {a : Option Addr} {len cap : Nat} {d : DataW H} {ps : List MemPlace} (ht : P.underlying t = some (.slice e)) (he : P.underlying e = some (.int .i64)) (hc : P.cellsOf e = 1)
    (h : DataW.Trod enc P W 0 (fun _ => true) true t (.slice a len cap) d ps) : ∃ zs : List Int, Rd W (.slice a len cap) (ic zs) ∧ ∀ z ∈ zs, -9223372036854775808 ≤ z ∧ z ≤ 9223372036854775807 := by
  obtain ⟨fuel, hf⟩ := h
  rcases open_ints ht he hc hf with ⟨hcs, _⟩ | ⟨x, l, c, zs, hcs, _, hl, hm, hz, _, hcell, hwz⟩
  · simp [Value.cells] at hcs
    obtain ⟨rfl, rfl, rfl⟩ := hcs
    exact ⟨[], Rd.nil _, by simp⟩
  · simp [Value.cells] at hcs
    obtain ⟨rfl, rfl, rfl⟩ := hcs
    simp at hz
    refine ⟨zs.take len, rd_of_cells (by rw [ic_length, List.length_take]; omega) hl hm fun i hi => ?_, fun z hz' => bounds_i64 (hwz z (List.mem_of_mem_take hz'))⟩
    rw [hcell i (by omega)]
    simp [ic, List.getD, hi, show i < zs.length by omega]

theorem open_bcx {t e : TypeId} {v : Value} {fuel : Nat} {y : DataW H × List MemPlace} (ht : P.underlying t = some (.slice e)) (he : P.underlying e = some (.int .u8)) (hc : P.cellsOf e = 1)
    (hf : DataW.trod enc P W 0 (fun _ => true) true fuel t [v] = some y) : ∃ bs : List UInt8, Rd W v (bc bs) := by
  obtain ⟨d, ps⟩ := y
  rcases open_ints ht he hc hf with ⟨hcs, _⟩ | ⟨x, l, c, zs, hcs, _, hl, hm, hz, hx, hcell, hwz⟩
  · simp only [List.cons.injEq, and_true] at hcs
    subst hcs
    exact ⟨[], Rd.nil _⟩
  · simp only [List.cons.injEq, and_true] at hcs
    subst hcs
    exact open_bc ht he hc hf

/-- A disk: bytes and a number. -/
theorem open_disk {r : Reach} {b0 : Nat} {t e : TypeId} {f0 f1 : Field} {v : Value} {d : DataW H} {p : List MemPlace} (hs : P.underlying t = some (.struct #[f0, f1])) (hone : oneCellFields P #[f0, f1] = true) (hC : P.cellsOf t = 2)
    (h0 : P.underlying f0.type = some (.slice e)) (he : P.underlying e = some (.int .u8)) (hc : P.cellsOf e = 1) (h1 : P.underlying f1.type = some (.int .i64))
    (hv : Value.okWide P W r b0 t v) (h : DataW.Trod enc P W 0 (fun _ => true) true t v d p) :
    ∃ (u : Value) (k : Int) (bs : List UInt8), v = .agg #[u, .int .i64 k] ∧ Rd W u (bc bs) ∧ -9223372036854775808 ≤ k ∧ k ≤ 9223372036854775807 := by
  obtain ⟨c0, c1, y0, y1, m, rfl, rfl, rfl, hy0, hy1⟩ := open_agg2 hs hone hC hv h
  obtain ⟨bs, hb⟩ := open_bcx h0 he hc hy0
  obtain ⟨k, e0, _, wk⟩ := DataW.trod_int h1 hy1
  simp only [List.cons.injEq, and_true] at e0
  subst e0
  exact ⟨c0, k, bs, rfl, hb, bounds_i64 wk⟩

end
end Go.Proofs.Ytdodajalejfbiad

/-
  From notes, and lists of them, as the row reads them to what the walks ask of them. Nothing of a program stands here.
-/
namespace Go.Proofs.Ytdodajalejfbiad
open Go.ChangeShapes Go.WideShapes Go.ChangeAt Go.RowKit Go.Joins Go.Deep

section
variable {H : Type} {enc : TypeId × Value → H} {P : Program} {W : World}

/-- A note: a number and cells. -/
theorem open_note {r : Reach} {b0 : Nat} {t e : TypeId} {g0 g1 : Field} {f0 f1 f2 f3 f4 : Field} {v : Value} {d : DataW H} {p : List MemPlace} (hs : P.underlying t = some (.struct #[g0, g1])) (hone : oneCellFields P #[g0, g1] = true) (hC : P.cellsOf t = 2)
    (k0 : P.underlying g0.type = some (.int .i64)) (k1 : P.underlying g1.type = some (.slice e)) (he : P.underlying e = some (.struct #[f0, f1, f2, f3, f4])) (hone5 : oneCellFields P #[f0, f1, f2, f3, f4] = true) (hC5 : P.cellsOf e = 5)
    (h0 : P.underlying f0.type = some .string) (h1 : P.underlying f1.type = some .string) (h2 : P.underlying f2.type = some (.int .i64)) (h3 : P.underlying f3.type = some .bool) (h4 : P.underlying f4.type = some .string)
    (hv : Value.okWide P W r b0 t v) (h : DataW.Trod enc P W 0 (fun _ => true) true t v d p) :
    ∃ (s : Int) (u : Value) (cs : List Cl), v = .agg #[.int .i64 s, u] ∧ RdC W u cs ∧ -9223372036854775808 ≤ s ∧ s ≤ 9223372036854775807 := by
  obtain ⟨c0, c1, y0, y1, m, rfl, rfl, rfl, hy0, hy1⟩ := open_agg2 hs hone hC hv h
  obtain ⟨cs, hb, _⟩ := open_cells k1 he hone5 hC5 h0 h1 h2 h3 h4 hy1
  obtain ⟨k, e0, _, wk⟩ := DataW.trod_int k0 hy0
  simp only [List.cons.injEq, and_true] at e0
  subst e0
  exact ⟨k, c1, cs, rfl, hb, bounds_i64 wk⟩

theorem nn_div {ps : List (Int × Value)} {j : Nat} {u : Value} (h : (nn ps)[j]? = some u) : ∃ i p, ps[i]? = some p ∧ ((j = i * 2 ∧ u = .int .i64 p.1) ∨ (j = i * 2 + 1 ∧ u = p.2)) := by
  have hl := (List.getElem?_eq_some_iff.1 h).1
  rw [nn_length] at hl
  have hi : j / 2 < ps.length := by omega
  obtain ⟨g0, g1⟩ := nn_get ps (j / 2) hi
  refine ⟨j / 2, ps[j / 2], List.getElem?_eq_getElem hi, ?_⟩
  rcases Nat.mod_two_eq_zero_or_one j with hm | hm
  · left
    have e : j / 2 * 2 = j := by omega
    rw [e, h] at g0
    exact ⟨e.symm, Option.some.inj g0⟩
  · right
    have e : j / 2 * 2 + 1 = j := by omega
    rw [e, h] at g1
    exact ⟨e.symm, Option.some.inj g1⟩

/-- A list of notes. -/
theorem open_nl {t e c : TypeId} {g0 g1 f0 f1 f2 f3 f4 : Field} {a : Option Addr} {len cap : Nat} {d : DataW H} {pl : List MemPlace} (ht : P.underlying t = some (.slice e)) (he : P.underlying e = some (.struct #[g0, g1])) (hone : oneCellFields P #[g0, g1] = true) (hC : P.cellsOf e = 2)
    (k0 : P.underlying g0.type = some (.int .i64)) (k1 : P.underlying g1.type = some (.slice c)) (hc : P.underlying c = some (.struct #[f0, f1, f2, f3, f4])) (hone5 : oneCellFields P #[f0, f1, f2, f3, f4] = true) (hC5 : P.cellsOf c = 5) (hby : P.bytesOf c = 64)
    (h0 : P.underlying f0.type = some .string) (h1 : P.underlying f1.type = some .string) (h2 : P.underlying f2.type = some (.int .i64)) (h3 : P.underlying f3.type = some .bool) (h4 : P.underlying f4.type = some .string)
    (h : DataW.Trod enc P W 0 (fun _ => true) true t (.slice a len cap) d pl) (hw : ∀ n ∈ d.weights P t, n ≤ reachBytes) : ∃ ns : List Nt, RdN W (.slice a len cap) ns ∧ ∀ n ∈ ns, n.cells.length ≤ 2199023255552 := by
  obtain ⟨fuel, hf⟩ := h
  have hf' : DataW.trod enc P W 0 (fun _ => true) true fuel t [.slice a len cap] = some (d, pl) := by simpa [Value.cells] using hf
  rcases open_slice ht hf' with ⟨hcs, _⟩ | ⟨a', len', cap', m, n, D, Pl, hcs, hb, hl, hm, hmm, hxx, hx⟩
  · simp only [List.cons.injEq, and_true] at hcs
    rw [hcs]
    exact ⟨[], RdN.nil _, by simp⟩
  · simp only [List.cons.injEq, and_true] at hcs
    rw [hcs]
    simp only [Prod.mk.injEq] at hxx
    obtain ⟨rfl, _⟩ := hxx
    obtain ⟨o0, q0⟩ := hone_of hone 0 g0 rfl
    obtain ⟨o1, q1⟩ := hone_of hone 1 g1 rfl
    have hlm : len' ≤ m := by rw [hmm]; split <;> omega
    have each : ∀ i, i < len' → ∃ x : Int × Value × List Cl, W.cell? (a'.add (i * 2)) = some (.int .i64 x.1) ∧ W.cell? (a'.add (i * 2 + 1)) = some x.2.1 ∧ RdC W x.2.1 x.2.2 ∧ x.2.2.length ≤ 2199023255552 := by
      intro i hi
      obtain ⟨cs', r1, r2⟩ := hx i (by omega)
      rw [hC] at r1
      obtain ⟨_, hlen, hcell⟩ := World.cells?_some r1
      obtain ⟨xs, k, hk, hxy, _, hxl, hfld⟩ := DataW.trod_struct he r2
      match xs, hxl, cs', hlen with
      | [y0, y1], _, [v0, v1], _ =>
        have p0 := hfld 0 g0 rfl
        have p1 := hfld 1 g1 rfl
        simp [o0, o1, q0, q1] at p0 p1
        obtain ⟨s0, e0, _, _⟩ := DataW.trod_int k0 p0
        simp only [List.cons.injEq, and_true] at e0
        subst e0
        have hD : D i = .agg [y0.1, y1.1] := by
          simp only [Prod.mk.injEq] at hxy
          simpa using hxy.1
        obtain ⟨cs, hrc, hlc⟩ := open_cellsW (d := y1.1) (ps := y1.2) k1 hc hone5 hC5 hby h0 h1 h2 h3 h4 p1 (fun z hz => hw z (by
          simp only [DataW.weights, ht, List.mem_cons, List.mem_append]
          refine .inr (.inl (weightsAll_mem (d := D i) (List.mem_map.2 ⟨i, List.mem_range.2 hi, rfl⟩) ?_))
          rw [hD]
          simp only [DataW.weights, he, List.map_cons, List.map_nil, DataW.weightsEach, List.mem_append]
          exact .inr (.inl hz)))
        have c0 := hcell 0 (by omega)
        have c1 := hcell 1 (by omega)
        rw [add_add] at c0 c1
        exact ⟨(s0, v1, cs), by simpa using c0, by simpa using c1, hrc, hlc⟩
    obtain ⟨xs, hxl, hxp⟩ := choose_list len' each
    refine ⟨xs.map fun x => ⟨x.1, x.2.2⟩, ⟨xs.map fun x => (x.1, x.2.1), ⟨some a', cap', by rw [List.length_map, hxl], by rw [List.length_map, hxl]; exact hl, hm, (fun h => by cases h), ?_, ?_⟩, ?_⟩, ?_⟩
    · intro p hp
      obtain ⟨x, hx1, rfl⟩ := List.mem_map.1 hp
      obtain ⟨i, hi, e⟩ := List.getElem_of_mem hx1
      obtain ⟨_, _, hrc, _⟩ := hxp i x (by rw [List.getElem?_eq_getElem hi, e])
      obtain ⟨_, _, e2, _⟩ := hrc
      simp only
      rw [e2]
      rfl
    · intro b hb' j u hu
      cases hb'
      obtain ⟨i, p, hp, hj⟩ := nn_div hu
      rw [List.getElem?_map] at hp
      cases hxi : xs[i]? with
      | none => rw [hxi] at hp; cases hp
      | some x =>
        rw [hxi] at hp
        simp only [Option.map_some, Option.some.injEq] at hp
        subst hp
        obtain ⟨c0, c1, _, _⟩ := hxp i x hxi
        rcases hj with ⟨rfl, rfl⟩ | ⟨rfl, rfl⟩
        · exact c0
        · exact c1
    · refine ⟨by simp, fun i p n hp hn => ?_⟩
      rw [List.getElem?_map] at hp hn
      cases hxi : xs[i]? with
      | none => rw [hxi] at hp; cases hp
      | some x =>
        rw [hxi] at hp hn
        simp only [Option.map_some, Option.some.injEq] at hp hn
        subst hp hn
        exact ⟨rfl, (hxp i x hxi).2.2.1⟩
    · intro n hn
      obtain ⟨x, hx1, rfl⟩ := List.mem_map.1 hn
      obtain ⟨i, hi, e⟩ := List.getElem_of_mem hx1
      exact (hxp i x (by rw [List.getElem?_eq_getElem hi, e])).2.2.2

end
end Go.Proofs.Ytdodajalejfbiad

/-
  From a list of bools as the row reads it to what the walks ask of it. Nothing of a program stands here.
-/
namespace Go.Proofs.Ytdodajalejfbiad
open Go.ChangeShapes Go.WideShapes Go.ChangeAt Go.RowKit Go.Joins Go.Deep

section
variable {H : Type} {enc : TypeId × Value → H} {P : Program} {W : World}

/-- A list of bools. -/
theorem open_bs {t e : TypeId} {a : Option Addr} {len cap : Nat} {d : DataW H} {ps : List MemPlace} (ht : P.underlying t = some (.slice e)) (he : P.underlying e = some .bool) (hc : P.cellsOf e = 1)
    (h : DataW.Trod enc P W 0 (fun _ => true) true t (.slice a len cap) d ps) : ∃ ys : List Bool, Rd W (.slice a len cap) (ys.map Value.bool) := by
  obtain ⟨fuel, hf⟩ := h
  rcases Go.Deep.open_slice1 ht hc hf with ⟨hcs, _⟩ | ⟨x, l, c, m, n, V, D, Pl, hcs, _, hl, hm, hmm, hx, hall⟩
  · simp [Value.cells] at hcs
    obtain ⟨rfl, rfl, rfl⟩ := hcs
    exact ⟨[], Rd.nil _⟩
  · simp [Value.cells] at hcs
    obtain ⟨rfl, rfl, rfl⟩ := hcs
    simp at hmm
    subst hmm
    have each : ∀ i, i < len → ∃ y : Bool, V i = .bool y := fun i hi => by
      obtain ⟨y, hy, _⟩ := DataW.trod_bool he (hall i (by omega)).2
      exact ⟨y, by simpa using hy⟩
    obtain ⟨ys, hyl, hp⟩ := choose_list len each
    refine ⟨ys, rd_of_cells (by rw [List.length_map, hyl]) hl hm fun i hi => ?_⟩
    have hi' : i < ys.length := by omega
    rw [(hall i (by omega)).1, hp i ys[i] (List.getElem?_eq_getElem hi'), List.getElem?_map, List.getElem?_eq_getElem hi']
    rfl

end
end Go.Proofs.Ytdodajalejfbiad
