/-
  Texts joined: GenN, Frame, FrameG, FrameP, FrameKn.
-/
import Derived.Test.YtoeobhehjnkkkaaMLocateDoes3
import Derived.ProofKit
import Derived.OpenShut
import Derived.ShutString
import Derived.ChangeOld
import Derived.Below
import Derived.SliceStrings
import Derived.SizedLaws
import Derived.Deep.Slices
import Derived.Lib.SmallJoins
/-
  Regions that draw their order: two operations can come up next. Nothing of a program stands here.
-/
namespace Go.Proofs.Ytoeobhehjnkkkaa
open Go.RowKit Go.Maps

section
variable {P : Program} {ops : Array Oper} {Q : Exit → Act → World → Prop} {md : Region.Mode} {S : World → Prop}

/-- Two can come up, and nothing else. -/
theorem wpAnyH_twoD {l li lj : Array Bool} {fuel : Nat} {a : Act} {w : World} {i j : Nat} {o p : Oper} (hi : (ops.toList.drop i).head? = some o) (hj : (ops.toList.drop j).head? = some p) (hr : Region.ready md ops l = [i, j]) (hli : l.setIfInBounds i true = li) (hlj : l.setIfInBounds j true = lj)
    (h1 : ∀ K' : Act → World → Prop, Shut (∀ a w, S w → (S w → wpAnyH P md ops Q S fuel li a w) → K' a w) → if Region.wanted o (yielded ops a.tmps) = true then Oper.wp P o a w K' Q else K' (a.put o.dst undef) w)
    (h2 : ∀ K' : Act → World → Prop, Shut (∀ a w, S w → (S w → wpAnyH P md ops Q S fuel lj a w) → K' a w) → if Region.wanted p (yielded ops a.tmps) = true then Oper.wp P p a w K' Q else K' (a.put p.dst undef) w) : wpAnyH P md ops Q S (fuel + 1) l a w :=
  wpAnyH_ready hr (by simp) (AllReadyH.cons (at_of_drop hi) (by rw [hli]; exact h1) (AllReadyH.cons (at_of_drop hj) (by rw [hlj]; exact h2) AllReadyH.nil))

/-- Three can come up, and nothing else. -/
theorem wpAnyH_threeD {l li lj lk : Array Bool} {fuel : Nat} {a : Act} {w : World} {i j k : Nat} {o p q : Oper} (hi : (ops.toList.drop i).head? = some o) (hj : (ops.toList.drop j).head? = some p) (hk : (ops.toList.drop k).head? = some q) (hr : Region.ready md ops l = [i, j, k]) (hli : l.setIfInBounds i true = li) (hlj : l.setIfInBounds j true = lj) (hlk : l.setIfInBounds k true = lk)
    (h1 : ∀ K' : Act → World → Prop, Shut (∀ a w, S w → (S w → wpAnyH P md ops Q S fuel li a w) → K' a w) → if Region.wanted o (yielded ops a.tmps) = true then Oper.wp P o a w K' Q else K' (a.put o.dst undef) w)
    (h2 : ∀ K' : Act → World → Prop, Shut (∀ a w, S w → (S w → wpAnyH P md ops Q S fuel lj a w) → K' a w) → if Region.wanted p (yielded ops a.tmps) = true then Oper.wp P p a w K' Q else K' (a.put p.dst undef) w)
    (h3 : ∀ K' : Act → World → Prop, Shut (∀ a w, S w → (S w → wpAnyH P md ops Q S fuel lk a w) → K' a w) → if Region.wanted q (yielded ops a.tmps) = true then Oper.wp P q a w K' Q else K' (a.put q.dst undef) w) : wpAnyH P md ops Q S (fuel + 1) l a w :=
  wpAnyH_ready hr (by simp) (AllReadyH.cons (at_of_drop hi) (by rw [hli]; exact h1) (AllReadyH.cons (at_of_drop hj) (by rw [hlj]; exact h2) (AllReadyH.cons (at_of_drop hk) (by rw [hlk]; exact h3) AllReadyH.nil)))

end
end Go.Proofs.Ytoeobhehjnkkkaa

/-
  From the arguments as the row reads them to what the walks ask of them. Nothing of a program stands here.
-/
namespace Go.Proofs.Ytoeobhehjnkkkaa
open Go.ChangeShapes Go.WideShapes Go.ChangeAt Go.RowKit

section
variable {H : Type} {enc : TypeId × Value → H} {P : Program} {W : World}

theorem rd_of_cells {w : World} {a : Addr} {len cap : Nat} {xs : List Value} (hl : xs.length = len) (h1 : len ≤ cap) (h2 : cap ≤ maxLen) (h : ∀ i, i < len → w.cell? (a.add i) = xs[i]?) : Rd w (.slice (some a) len cap) xs := by
  refine ⟨some a, cap, by rw [hl], by omega, h2, (fun h => by cases h), fun b hb j u hu => ?_⟩
  cases hb
  rw [h j (by have := (List.getElem?_eq_some_iff.1 hu).1; omega), hu]

theorem open_ic {t e : TypeId} {a : Option Addr} {len cap : Nat} {d : DataW H} {ps : List MemPlace} (ht : P.underlying t = some (.slice e)) (he : P.underlying e = some (.int .i64)) (hc : P.cellsOf e = 1)
    (h : DataW.Trod enc P W 0 (fun _ => true) true t (.slice a len cap) d ps) : ∃ zs : List Int, Rd W (.slice a len cap) (ic zs) := by
  obtain ⟨fuel, hf⟩ := h
  rcases open_ints ht he hc hf with ⟨hcs, _⟩ | ⟨x, l, c, zs, hcs, _, hl, hm, hz, _, hcell, hwz⟩
  · simp [Value.cells] at hcs
    obtain ⟨rfl, rfl, rfl⟩ := hcs
    exact ⟨[], Rd.nil _⟩
  · simp [Value.cells] at hcs
    obtain ⟨rfl, rfl, rfl⟩ := hcs
    simp at hz
    refine ⟨zs.take len, rd_of_cells (by rw [ic_length, List.length_take]; omega) hl hm fun i hi => ?_⟩
    rw [hcell i (by omega)]
    simp [ic, List.getD, hi, show i < zs.length by omega]

theorem open_bc {t e : TypeId} {a : Option Addr} {len cap fuel : Nat} {d : DataW H} {ps : List MemPlace} (ht : P.underlying t = some (.slice e)) (he : P.underlying e = some (.int .u8)) (hc : P.cellsOf e = 1)
    (hf : DataW.trod enc P W 0 (fun _ => true) true fuel t [.slice a len cap] = some (d, ps)) : ∃ bs : List UInt8, Rd W (.slice a len cap) (bc bs) := by
  rcases open_ints ht he hc hf with ⟨hcs, _⟩ | ⟨x, l, c, zs, hcs, _, hl, hm, hz, _, hcell, hwz⟩
  · simp at hcs
    obtain ⟨rfl, rfl, rfl⟩ := hcs
    exact ⟨[], Rd.nil _⟩
  · simp at hcs
    obtain ⟨rfl, rfl, rfl⟩ := hcs
    simp at hz
    refine ⟨(zs.take len).map fun n => UInt8.ofNat n.toNat, rd_of_cells (by rw [bc_length, List.length_map, List.length_take]; omega) hl hm fun i hi => ?_⟩
    rw [hcell i (by omega)]
    have hi' : i < zs.length := by omega
    have hb := bounds_u8 (hwz zs[i] (List.getElem_mem hi'))
    have e : ((UInt8.ofNat zs[i].toNat).toNat : Int) = zs[i] := by
      simp only [UInt8.toNat_ofNat']
      omega
    simp only [bc, List.getElem?_map, List.getElem?_take, if_pos hi, List.getElem?_eq_getElem hi', Option.map_some, List.getD, Option.getD_some, e]

theorem open_bc' {t e : TypeId} {a : Option Addr} {len cap : Nat} {d : DataW H} {ps : List MemPlace} (ht : P.underlying t = some (.slice e)) (he : P.underlying e = some (.int .u8)) (hc : P.cellsOf e = 1)
    (h : DataW.Trod enc P W 0 (fun _ => true) true t (.slice a len cap) d ps) : ∃ bs : List UInt8, Rd W (.slice a len cap) (bc bs) := by
  obtain ⟨fuel, hf⟩ := h
  exact open_bc ht he hc (by simpa [Value.cells] using hf)

theorem weightsAll_mem {e : TypeId} : ∀ {l : List (DataW H)} {d : DataW H} {n : Nat}, d ∈ l → n ∈ d.weights P e → n ∈ DataW.weightsAll P e l
  | x :: l, d, n, hd, hn => by
    simp only [DataW.weightsAll, List.mem_append]
    rcases List.mem_cons.1 hd with rfl | hd
    · exact .inl hn
    · exact .inr (weightsAll_mem hd hn)

/-- A list of texts; none is longer than the form's reach. -/
theorem open_sc {t e : TypeId} {a : Option Addr} {len cap : Nat} {d : DataW H} {ps : List MemPlace} (ht : P.underlying t = some (.slice e)) (he : P.underlying e = some .string) (hc : P.cellsOf e = 1)
    (h : DataW.Trod enc P W 0 (fun _ => true) true t (.slice a len cap) d ps) (hw : ∀ n ∈ d.weights P t, n ≤ reachBytes) : ∃ ss : List (List UInt8), Rd W (.slice a len cap) (sc ss) ∧ ∀ s ∈ ss, s.length ≤ 140737488351232 := by
  obtain ⟨fuel, hf⟩ := h
  rcases open_strings ht he hc hf with ⟨hcs, _⟩ | ⟨x, l, c, zs, hcs, _, hl, hm, hz, hx, hcell, hwz⟩
  · simp [Value.cells] at hcs
    obtain ⟨rfl, rfl, rfl⟩ := hcs
    exact ⟨[], Rd.nil _, by simp⟩
  · simp [Value.cells] at hcs
    obtain ⟨rfl, rfl, rfl⟩ := hcs
    simp at hz
    simp only [Prod.mk.injEq] at hx
    obtain ⟨rfl, _⟩ := hx
    refine ⟨(zs.take len).map fun s => s.data.toList, rd_of_cells (by rw [sc_length, List.length_map, List.length_take]; omega) hl hm fun i hi => ?_, fun s hs => ?_⟩
    · rw [hcell i (by omega)]
      have hi' : i < zs.length := by omega
      simp only [sc, List.getElem?_map, List.getElem?_take, if_pos hi, List.getElem?_eq_getElem hi', Option.map_some, List.getD, Option.getD_some, Array.toArray_toList]
    · obtain ⟨y, hy, rfl⟩ := List.mem_map.1 hs
      have := hw y.data.toList.length (by
        simp only [DataW.weights, ht, List.mem_cons, List.mem_append]
        refine .inr (.inl (weightsAll_mem (d := .lit (.string y.data.toList)) (List.mem_map.2 ⟨y, hy, rfl⟩) ?_))
        simp [DataW.weights])
      simpa [reachBytes] using this

end
end Go.Proofs.Ytoeobhehjnkkkaa

/-
  From lists of flat structures as the row reads them to what the walks ask of them. Nothing of a program stands here.
-/
namespace Go.Proofs.Ytoeobhehjnkkkaa
open Go.ChangeShapes Go.WideShapes Go.ChangeAt Go.RowKit Go.Joins Go.Deep

section
variable {H : Type} {enc : TypeId × Value → H} {P : Program} {W : World}

theorem choose_listG {α : Type} {p : Nat → α → Prop} : ∀ (n : Nat), (∀ i, i < n → ∃ x, p i x) → ∃ l : List α, l.length = n ∧ ∀ i x, l[i]? = some x → p i x
  | 0, _ => ⟨[], rfl, fun i x h => by simp at h⟩
  | n + 1, h => by
    obtain ⟨l, hl, hp⟩ := choose_listG n (fun i hi => h i (by omega))
    obtain ⟨x, hx⟩ := h n (by omega)
    refine ⟨l ++ [x], by simp [hl], fun i y hy => ?_⟩
    by_cases hi : i < n
    · rw [List.getElem?_append_left (by omega)] at hy
      exact hp i y hy
    · have hlt := (List.getElem?_eq_some_iff.1 hy).1
      simp at hlt
      have e : i = n := by omega
      subst e
      rw [List.getElem?_append_right (by omega), hl] at hy
      simp at hy
      subst hy
      exact hx

theorem vs_div {α : Type} {K : Nat} {E : En α K} {cs : List α} {j : Nat} {u : Value} (h : (E.vs cs)[j]? = some u) : ∃ i k c, j = i * K + k ∧ k < K ∧ cs[i]? = some c ∧ (E.v c)[k]? = some u := by
  have hl := (List.getElem?_eq_some_iff.1 h).1
  rw [vs_length] at hl
  have hp := E.pos
  have hi : j / K < cs.length := Nat.div_lt_of_lt_mul (by rw [Nat.mul_comm]; exact hl)
  have hk : j % K < K := Nat.mod_lt _ hp
  have e : j = j / K * K + j % K := by rw [Nat.mul_comm]; exact (Nat.div_add_mod j K).symm
  refine ⟨j / K, j % K, cs[j / K], e, hk, List.getElem?_eq_getElem hi, ?_⟩
  rw [← vs_get (E := E) cs (j / K) hi (j % K) hk, ← e, h]

/-- A list of flat structures; 'hel': what one of them reads as. -/
theorem open_gl {α : Type} {K : Nat} (E : En α K) (ok : α → Prop) {t e : TypeId} {a : Option Addr} {len cap : Nat} {d : DataW H} {ps : List MemPlace} (ht : P.underlying t = some (.slice e)) (hC : P.cellsOf e = K)
    (hel : ∀ (fuel : Nat) (cs : List Value) (y : DataW H × List MemPlace), cs.length = K → DataW.trod enc P W 0 (fun _ => true) true fuel e cs = some y → ∃ c : α, cs = E.v c ∧ ok c)
    (h : DataW.Trod enc P W 0 (fun _ => true) true t (.slice a len cap) d ps) : ∃ xs : List α, RdG E W (.slice a len cap) xs ∧ ∀ x ∈ xs, ok x := by
  obtain ⟨fuel, hf⟩ := h
  have hf' : DataW.trod enc P W 0 (fun _ => true) true fuel t [.slice a len cap] = some (d, ps) := by simpa [Value.cells] using hf
  rcases open_slice ht hf' with ⟨hcs, _⟩ | ⟨b, len', cap', m, n, D, Pl, hcs, hb, hl, hm, hmm, hxx, hx⟩
  · simp only [List.cons.injEq, and_true] at hcs
    rw [hcs]
    exact ⟨[], RdG.nil _, by simp⟩
  · simp only [List.cons.injEq, and_true] at hcs
    rw [hcs]
    have hlm : len' ≤ m := by rw [hmm]; split <;> omega
    have each : ∀ i, i < len' → ∃ c : α, (∀ k u, (E.v c)[k]? = some u → W.cell? (b.add (i * K + k)) = some u) ∧ ok c := by
      intro i hi
      obtain ⟨cs', g1, g2⟩ := hx i (by omega)
      rw [hC] at g1
      obtain ⟨_, hlen, hcell⟩ := World.cells?_some g1
      obtain ⟨c, hc, hok⟩ := hel _ cs' _ (by simpa using hlen) g2
      refine ⟨c, fun k u hu => ?_, hok⟩
      have hk : k < K := by have := (List.getElem?_eq_some_iff.1 hu).1; rwa [E.len] at this
      have := hcell k hk
      rw [add_add] at this
      rw [this, hc, hu]
    obtain ⟨cs, hcl, hcp⟩ := choose_listG len' each
    refine ⟨cs, ⟨some b, cap', by rw [hcl], by omega, hm, (fun h => by cases h), fun b' hb' j u hu => ?_⟩, fun c hc => ?_⟩
    · cases hb'
      obtain ⟨i, k, c, rfl, _, hi, hk⟩ := vs_div hu
      exact (hcp i c hi).1 k u hk
    · obtain ⟨i, hi, e⟩ := List.getElem_of_mem hc
      exact (hcp i c (by rw [List.getElem?_eq_getElem hi, e])).2

end
end Go.Proofs.Ytoeobhehjnkkkaa

/-
  Lists of parts as the row reads them.
-/
namespace Go.Proofs.Ytoeobhehjnkkkaa
open Go.ChangeShapes Go.WideShapes Go.ChangeAt Go.RowKit Go.Joins Go.Deep

section
variable {H : Type} {enc : TypeId × Value → H} {P : Program} {W : World}

theorem open_part1 {e : TypeId} {f0 f1 f2 : Field} (he : P.underlying e = some (.struct #[f0, f1, f2])) (hone : oneCellFields P #[f0, f1, f2] = true)
    (h0 : P.underlying f0.type = some .string) (h1 : P.underlying f1.type = some .string) (h2 : P.underlying f2.type = some (.int .i64))
    (fuel : Nat) (cs : List Value) (y : DataW H × List MemPlace) (hl : cs.length = 3) (h : DataW.trod enc P W 0 (fun _ => true) true fuel e cs = some y) : ∃ c : Pt, cs = pE.v c ∧ (Lit.int .i64 c.id).wf = true := by
  obtain ⟨o0, k0⟩ := hone_of hone 0 f0 rfl
  obtain ⟨o1, k1⟩ := hone_of hone 1 f1 rfl
  obtain ⟨o2, k2⟩ := hone_of hone 2 f2 rfl
  obtain ⟨xs, k, hk, hxy, _, hxl, hf⟩ := DataW.trod_struct he h
  match xs, hxl, cs, hl with
  | [y0, y1, y2], _, [v0, v1, v2], _ =>
    have q0 := hf 0 f0 rfl
    have q1 := hf 1 f1 rfl
    have q2 := hf 2 f2 rfl
    simp [o0, o1, o2, k0, k1, k2] at q0 q1 q2
    obtain ⟨s0, e0, _, _⟩ := DataW.trod_string h0 q0
    obtain ⟨s1, e1, _, _⟩ := DataW.trod_string h1 q1
    obtain ⟨s2, e2, _, w2⟩ := DataW.trod_int h2 q2
    simp only [List.cons.injEq, and_true] at e0 e1 e2
    subst e0 e1 e2
    exact ⟨⟨s0, s1, s2⟩, rfl, w2⟩

/-- A list of parts. -/
theorem open_parts {t e : TypeId} {f0 f1 f2 : Field} {a : Option Addr} {len cap : Nat} {d : DataW H} {ps : List MemPlace} (ht : P.underlying t = some (.slice e)) (he : P.underlying e = some (.struct #[f0, f1, f2])) (hone : oneCellFields P #[f0, f1, f2] = true) (hC : P.cellsOf e = 3)
    (h0 : P.underlying f0.type = some .string) (h1 : P.underlying f1.type = some .string) (h2 : P.underlying f2.type = some (.int .i64))
    (h : DataW.Trod enc P W 0 (fun _ => true) true t (.slice a len cap) d ps) : ∃ l : List Pt, RdG pE W (.slice a len cap) l ∧ ∀ p ∈ l, (Lit.int .i64 p.id).wf = true :=
  open_gl pE _ ht hC (open_part1 he hone h0 h1 h2) h

end
end Go.Proofs.Ytoeobhehjnkkkaa

/-
  What is known, and lists of it, as the row reads them.
-/
namespace Go.Proofs.Ytoeobhehjnkkkaa
open Go.ChangeShapes Go.WideShapes Go.ChangeAt Go.RowKit Go.Joins Go.Deep
set_option linter.unusedVariables false

section
variable {H : Type} {enc : TypeId × Value → H} {P : Program} {W : World}

theorem open_known1 {e : TypeId} {f0 f1 f2 g0 g1 g2 : Field} (he : P.underlying e = some (.struct #[f0, f1, f2])) (ho : f0.offset = 0 ∧ f1.offset = 3 ∧ f2.offset = 4) (hc : P.cellsOf f0.type = 3 ∧ P.cellsOf f1.type = 1 ∧ P.cellsOf f2.type = 1)
    (he0 : P.underlying f0.type = some (.struct #[g0, g1, g2])) (hone0 : oneCellFields P #[g0, g1, g2] = true) (m0 : P.underlying g0.type = some .string) (m1 : P.underlying g1.type = some .string) (m2 : P.underlying g2.type = some (.int .i64))
    (h1 : P.underlying f1.type = some (.int .i64)) (h2 : P.underlying f2.type = some (.int .i64))
    (fuel : Nat) (cs : List Value) (y : DataW H × List MemPlace) (hl : cs.length = 5) (h : DataW.trod enc P W 0 (fun _ => true) true fuel e cs = some y) : ∃ c : Kn, cs = knE.v c ∧ True := by
  obtain ⟨xs, k, hk, hxy, _, hxl, hf⟩ := DataW.trod_struct he h
  match xs, hxl, cs, hl with
  | [y0, y1, y2], _, [v0, v1, v2, v3, v4], _ =>
    have q0 := hf 0 f0 rfl
    have q1 := hf 1 f1 rfl
    have q2 := hf 2 f2 rfl
    simp [ho.1, ho.2.1, ho.2.2, hc.1, hc.2.1, hc.2.2] at q0 q1 q2
    obtain ⟨p, hp, _⟩ := open_part1 he0 hone0 m0 m1 m2 _ _ _ rfl q0
    obtain ⟨s3, e3, _, w3⟩ := DataW.trod_int h1 q1
    obtain ⟨s4, e4, _, w4⟩ := DataW.trod_int h2 q2
    unfold pE at hp
    simp only [List.cons.injEq, and_true] at hp e3 e4
    obtain ⟨rfl, rfl, rfl⟩ := hp
    subst e3 e4
    exact ⟨⟨p, s3, s4⟩, rfl, trivial⟩

/-- A list of what is known. -/
theorem open_knowns {t e : TypeId} {f0 f1 f2 g0 g1 g2 : Field} {a : Option Addr} {len cap : Nat} {d : DataW H} {ps : List MemPlace} (ht : P.underlying t = some (.slice e)) (he : P.underlying e = some (.struct #[f0, f1, f2])) (ho : f0.offset = 0 ∧ f1.offset = 3 ∧ f2.offset = 4) (hc : P.cellsOf f0.type = 3 ∧ P.cellsOf f1.type = 1 ∧ P.cellsOf f2.type = 1) (hC : P.cellsOf e = 5)
    (he0 : P.underlying f0.type = some (.struct #[g0, g1, g2])) (hone0 : oneCellFields P #[g0, g1, g2] = true) (m0 : P.underlying g0.type = some .string) (m1 : P.underlying g1.type = some .string) (m2 : P.underlying g2.type = some (.int .i64))
    (h1 : P.underlying f1.type = some (.int .i64)) (h2 : P.underlying f2.type = some (.int .i64))
    (h : DataW.Trod enc P W 0 (fun _ => true) true t (.slice a len cap) d ps) : ∃ l : List Kn, RdG knE W (.slice a len cap) l ∧ ∀ c ∈ l, True :=
  open_gl knE _ ht hC (open_known1 he ho hc he0 hone0 m0 m1 m2 h1 h2) h

/-- One that is known. -/
theorem open_known {r : Reach} {b0 : Nat} {t : TypeId} {f0 f1 f2 g0 g1 g2 : Field} {v : Value} {d : DataW H} {p : List MemPlace} (hs : P.underlying t = some (.struct #[f0, f1, f2])) (ho : f0.offset = 0 ∧ f1.offset = 3 ∧ f2.offset = 4) (hc : P.cellsOf f0.type = 3 ∧ P.cellsOf f1.type = 1 ∧ P.cellsOf f2.type = 1) (hC : P.cellsOf t = 5)
    (he0 : P.underlying f0.type = some (.struct #[g0, g1, g2])) (hone0 : oneCellFields P #[g0, g1, g2] = true) (m0 : P.underlying g0.type = some .string) (m1 : P.underlying g1.type = some .string) (m2 : P.underlying g2.type = some (.int .i64))
    (h1 : P.underlying f1.type = some (.int .i64)) (h2 : P.underlying f2.type = some (.int .i64))
    (hv : Value.okWide P W r b0 t v) (h : DataW.Trod enc P W 0 (fun _ => true) true t v d p) : ∃ k : Kn, v = .agg #[.string k.p.fr, .string k.p.to_, .int .i64 k.p.id, .int .i64 k.ho, .int .i64 k.tu] := by
  obtain ⟨cs, rfl, hsz⟩ := okWide_struct hs hv
  obtain ⟨fuel, hf⟩ := h
  obtain ⟨cl⟩ := cs
  have hl : cl.length = 5 := by simpa using hsz.trans hC
  obtain ⟨k, hk, _⟩ := open_known1 hs ho hc he0 hone0 m0 m1 m2 h1 h2 fuel cl _ hl (by simpa [Value.cells] using hf)
  subst hk
  exact ⟨k, rfl⟩

end
end Go.Proofs.Ytoeobhehjnkkkaa
