/-
  Texts joined: Frame, FrameG, FrameE, FrameNd, FrameMl.
-/
import Derived.Test.YtbffmdhogehfnaaMRaftTakes12
import Derived.ProofKit
import Derived.OpenShut
import Derived.ShutString
import Derived.ChangeOld
import Derived.Below
import Derived.SliceStrings
import Derived.SizedLaws
import Derived.Deep.Slices
import Derived.Lib.SmallJoins
/-
  From the arguments as the row reads them to what the walks ask of them. Nothing of a program stands here.
-/
namespace Go.Proofs.Ytbffmdhogehfnaa
open Go.ChangeShapes Go.WideShapes Go.ChangeAt Go.RowKit

section
variable {H : Type} {enc : TypeId × Value → H} {P : Program} {W : World}

theorem rd_of_cells {w : World} {a : Addr} {len cap : Nat} {xs : List Value} (hl : xs.length = len) (h1 : len ≤ cap) (h2 : cap ≤ maxLen) (h : ∀ i, i < len → w.cell? (a.add i) = xs[i]?) : Rd w (.slice (some a) len cap) xs := by
  refine ⟨some a, cap, by rw [hl], by omega, h2, (fun h => by cases h), fun b hb j u hu => ?_⟩
  cases hb
  rw [h j (by have := (List.getElem?_eq_some_iff.1 hu).1; omega), hu]

theorem open_ic {t e : TypeId} {a : Option Addr} {len cap : Nat} {d : DataW H} {ps : List MemPlace} (ht : P.underlying t = some (.slice e)) (he : P.underlying e = some (.int .i64)) (hc : P.cellsOf e = 1)
    (h : DataW.Trod enc P W 0 (fun _ => true) true t (.slice a len cap) d ps) : ∃ zs : List Int, Rd W (.slice a len cap) (ic zs) := by
  obtain ⟨fuel, hf⟩ := h
  rcases open_ints ht he hc hf with ⟨hcs, _⟩ | ⟨x, l, c, zs, hcs, _, hl, hm, hz, _, hcell, hwz⟩
  · simp [Value.cells] at hcs
    obtain ⟨rfl, rfl, rfl⟩ := hcs
    exact ⟨[], Rd.nil _⟩
  · simp [Value.cells] at hcs
    obtain ⟨rfl, rfl, rfl⟩ := hcs
    simp at hz
    refine ⟨zs.take len, rd_of_cells (by rw [ic_length, List.length_take]; omega) hl hm fun i hi => ?_⟩
    rw [hcell i (by omega)]
    simp [ic, List.getD, hi, show i < zs.length by omega]

theorem open_bc {t e : TypeId} {a : Option Addr} {len cap fuel : Nat} {d : DataW H} {ps : List MemPlace} (ht : P.underlying t = some (.slice e)) (he : P.underlying e = some (.int .u8)) (hc : P.cellsOf e = 1)
    (hf : DataW.trod enc P W 0 (fun _ => true) true fuel t [.slice a len cap] = some (d, ps)) : ∃ bs : List UInt8, Rd W (.slice a len cap) (bc bs) := by
  rcases open_ints ht he hc hf with ⟨hcs, _⟩ | ⟨x, l, c, zs, hcs, _, hl, hm, hz, _, hcell, hwz⟩
  · simp at hcs
    obtain ⟨rfl, rfl, rfl⟩ := hcs
    exact ⟨[], Rd.nil _⟩
  · simp at hcs
    obtain ⟨rfl, rfl, rfl⟩ := hcs
    simp at hz
    refine ⟨(zs.take len).map fun n => UInt8.ofNat n.toNat, rd_of_cells (by rw [bc_length, List.length_map, List.length_take]; omega) hl hm fun i hi => ?_⟩
    rw [hcell i (by omega)]
    have hi' : i < zs.length := by omega
    have hb := bounds_u8 (hwz zs[i] (List.getElem_mem hi'))
    have e : ((UInt8.ofNat zs[i].toNat).toNat : Int) = zs[i] := by
      simp only [UInt8.toNat_ofNat']
      omega
    simp only [bc, List.getElem?_map, List.getElem?_take, if_pos hi, List.getElem?_eq_getElem hi', Option.map_some, List.getD, Option.getD_some, e]

theorem open_bc' {t e : TypeId} {a : Option Addr} {len cap : Nat} {d : DataW H} {ps : List MemPlace} (ht : P.underlying t = some (.slice e)) (he : P.underlying e = some (.int .u8)) (hc : P.cellsOf e = 1)
    (h : DataW.Trod enc P W 0 (fun _ => true) true t (.slice a len cap) d ps) : ∃ bs : List UInt8, Rd W (.slice a len cap) (bc bs) := by
  obtain ⟨fuel, hf⟩ := h
  exact open_bc ht he hc (by simpa [Value.cells] using hf)

theorem weightsAll_mem {e : TypeId} : ∀ {l : List (DataW H)} {d : DataW H} {n : Nat}, d ∈ l → n ∈ d.weights P e → n ∈ DataW.weightsAll P e l
  | x :: l, d, n, hd, hn => by
    simp only [DataW.weightsAll, List.mem_append]
    rcases List.mem_cons.1 hd with rfl | hd
    · exact .inl hn
    · exact .inr (weightsAll_mem hd hn)

/-- A list of texts; none is longer than the form's reach. -/
theorem open_sc {t e : TypeId} {a : Option Addr} {len cap : Nat} {d : DataW H} {ps : List MemPlace} (ht : P.underlying t = some (.slice e)) (he : P.underlying e = some .string) (hc : P.cellsOf e = 1)
    (h : DataW.Trod enc P W 0 (fun _ => true) true t (.slice a len cap) d ps) (hw : ∀ n ∈ d.weights P t, n ≤ reachBytes) : ∃ ss : List (List UInt8), Rd W (.slice a len cap) (sc ss) ∧ ∀ s ∈ ss, s.length ≤ 140737488351232 := by
  obtain ⟨fuel, hf⟩ := h
  rcases open_strings ht he hc hf with ⟨hcs, _⟩ | ⟨x, l, c, zs, hcs, _, hl, hm, hz, hx, hcell, hwz⟩
  · simp [Value.cells] at hcs
    obtain ⟨rfl, rfl, rfl⟩ := hcs
    exact ⟨[], Rd.nil _, by simp⟩
  · simp [Value.cells] at hcs
    obtain ⟨rfl, rfl, rfl⟩ := hcs
    simp at hz
    simp only [Prod.mk.injEq] at hx
    obtain ⟨rfl, _⟩ := hx
    refine ⟨(zs.take len).map fun s => s.data.toList, rd_of_cells (by rw [sc_length, List.length_map, List.length_take]; omega) hl hm fun i hi => ?_, fun s hs => ?_⟩
    · rw [hcell i (by omega)]
      have hi' : i < zs.length := by omega
      simp only [sc, List.getElem?_map, List.getElem?_take, if_pos hi, List.getElem?_eq_getElem hi', Option.map_some, List.getD, Option.getD_some, Array.toArray_toList]
    · obtain ⟨y, hy, rfl⟩ := List.mem_map.1 hs
      have := hw y.data.toList.length (by
        simp only [DataW.weights, ht, List.mem_cons, List.mem_append]
        refine .inr (.inl (weightsAll_mem (d := .lit (.string y.data.toList)) (List.mem_map.2 ⟨y, hy, rfl⟩) ?_))
        simp [DataW.weights])
      simpa [reachBytes] using this

end
end Go.Proofs.Ytbffmdhogehfnaa

/-
  From lists of flat structures as the row reads them to what the walks ask of them. Nothing of a program stands here.
-/
namespace Go.Proofs.Ytbffmdhogehfnaa
open Go.ChangeShapes Go.WideShapes Go.ChangeAt Go.RowKit Go.Joins Go.Deep

section
variable {H : Type} {enc : TypeId × Value → H} {P : Program} {W : World}

theorem choose_listG {α : Type} {p : Nat → α → Prop} : ∀ (n : Nat), (∀ i, i < n → ∃ x, p i x) → ∃ l : List α, l.length = n ∧ ∀ i x, l[i]? = some x → p i x
  | 0, _ => ⟨[], rfl, fun i x h => by simp at h⟩
  | n + 1, h => by
    obtain ⟨l, hl, hp⟩ := choose_listG n (fun i hi => h i (by omega))
    obtain ⟨x, hx⟩ := h n (by omega)
    refine ⟨l ++ [x], by simp [hl], fun i y hy => ?_⟩
    by_cases hi : i < n
    · rw [List.getElem?_append_left (by omega)] at hy
      exact hp i y hy
    · have hlt := (List.getElem?_eq_some_iff.1 hy).1
      simp at hlt
      have e : i = n := by omega
      subst e
      rw [List.getElem?_append_right (by omega), hl] at hy
      simp at hy
      subst hy
      exact hx

theorem vs_div {α : Type} {K : Nat} {E : En α K} {cs : List α} {j : Nat} {u : Value} (h : (E.vs cs)[j]? = some u) : ∃ i k c, j = i * K + k ∧ k < K ∧ cs[i]? = some c ∧ (E.v c)[k]? = some u := by
  have hl := (List.getElem?_eq_some_iff.1 h).1
  rw [vs_length] at hl
  have hp := E.pos
  have hi : j / K < cs.length := Nat.div_lt_of_lt_mul (by rw [Nat.mul_comm]; exact hl)
  have hk : j % K < K := Nat.mod_lt _ hp
  have e : j = j / K * K + j % K := by rw [Nat.mul_comm]; exact (Nat.div_add_mod j K).symm
  refine ⟨j / K, j % K, cs[j / K], e, hk, List.getElem?_eq_getElem hi, ?_⟩
  rw [← vs_get (E := E) cs (j / K) hi (j % K) hk, ← e, h]

/-- A list of flat structures; 'hel': what one of them reads as. -/
theorem open_gl {α : Type} {K : Nat} (E : En α K) (ok : α → Prop) {t e : TypeId} {a : Option Addr} {len cap : Nat} {d : DataW H} {ps : List MemPlace} (ht : P.underlying t = some (.slice e)) (hC : P.cellsOf e = K)
    (hel : ∀ (fuel : Nat) (cs : List Value) (y : DataW H × List MemPlace), cs.length = K → DataW.trod enc P W 0 (fun _ => true) true fuel e cs = some y → ∃ c : α, cs = E.v c ∧ ok c)
    (h : DataW.Trod enc P W 0 (fun _ => true) true t (.slice a len cap) d ps) : ∃ xs : List α, RdG E W (.slice a len cap) xs ∧ ∀ x ∈ xs, ok x := by
  obtain ⟨fuel, hf⟩ := h
  have hf' : DataW.trod enc P W 0 (fun _ => true) true fuel t [.slice a len cap] = some (d, ps) := by simpa [Value.cells] using hf
  rcases open_slice ht hf' with ⟨hcs, _⟩ | ⟨b, len', cap', m, n, D, Pl, hcs, hb, hl, hm, hmm, hxx, hx⟩
  · simp only [List.cons.injEq, and_true] at hcs
    rw [hcs]
    exact ⟨[], RdG.nil _, by simp⟩
  · simp only [List.cons.injEq, and_true] at hcs
    rw [hcs]
    have hlm : len' ≤ m := by rw [hmm]; split <;> omega
    have each : ∀ i, i < len' → ∃ c : α, (∀ k u, (E.v c)[k]? = some u → W.cell? (b.add (i * K + k)) = some u) ∧ ok c := by
      intro i hi
      obtain ⟨cs', g1, g2⟩ := hx i (by omega)
      rw [hC] at g1
      obtain ⟨_, hlen, hcell⟩ := World.cells?_some g1
      obtain ⟨c, hc, hok⟩ := hel _ cs' _ (by simpa using hlen) g2
      refine ⟨c, fun k u hu => ?_, hok⟩
      have hk : k < K := by have := (List.getElem?_eq_some_iff.1 hu).1; rwa [E.len] at this
      have := hcell k hk
      rw [add_add] at this
      rw [this, hc, hu]
    obtain ⟨cs, hcl, hcp⟩ := choose_listG len' each
    refine ⟨cs, ⟨some b, cap', by rw [hcl], by omega, hm, (fun h => by cases h), fun b' hb' j u hu => ?_⟩, fun c hc => ?_⟩
    · cases hb'
      obtain ⟨i, k, c, rfl, _, hi, hk⟩ := vs_div hu
      exact (hcp i c hi).1 k u hk
    · obtain ⟨i, hi, e⟩ := List.getElem_of_mem hc
      exact (hcp i c (by rw [List.getElem?_eq_getElem hi, e])).2

end
end Go.Proofs.Ytbffmdhogehfnaa

/-
  Lists of flat structures as the row reads them.
-/
namespace Go.Proofs.Ytbffmdhogehfnaa
open Go.ChangeShapes Go.WideShapes Go.ChangeAt Go.RowKit Go.Joins Go.Deep
set_option linter.unusedVariables false

section
variable {H : Type} {enc : TypeId × Value → H} {P : Program} {W : World}

theorem open_entries1 {e : TypeId} {f0 f1 : Field} (he : P.underlying e = some (.struct #[f0, f1])) (hone : oneCellFields P #[f0, f1] = true)
    (h0 : P.underlying f0.type = some (.int .i64)) (h1 : P.underlying f1.type = some .string)
    (fuel : Nat) (cs : List Value) (y : DataW H × List MemPlace) (hl : cs.length = 2) (h : DataW.trod enc P W 0 (fun _ => true) true fuel e cs = some y) : ∃ c : Et, cs = eE.v c ∧ (True) := by
  obtain ⟨o0, k0⟩ := hone_of hone 0 f0 rfl
  obtain ⟨o1, k1⟩ := hone_of hone 1 f1 rfl
  obtain ⟨xs, k, hk, hxy, _, hxl, hf⟩ := DataW.trod_struct he h
  match xs, hxl, cs, hl with
  | [y0, y1], _, [v0, v1], _ =>
    have q0 := hf 0 f0 rfl
    have q1 := hf 1 f1 rfl
    simp [o0, o1, k0, k1] at q0 q1
    obtain ⟨s0, e0, _, w0⟩ := DataW.trod_int h0 q0
    obtain ⟨s1, e1, _, _⟩ := DataW.trod_string h1 q1
    simp only [List.cons.injEq, and_true] at e0 e1
    subst e0 e1
    exact ⟨⟨s0, s1⟩, rfl, trivial⟩

theorem open_entries {t e : TypeId} {f0 f1 : Field} {a : Option Addr} {len cap : Nat} {d : DataW H} {ps : List MemPlace} (ht : P.underlying t = some (.slice e)) (he : P.underlying e = some (.struct #[f0, f1])) (hone : oneCellFields P #[f0, f1] = true) (hC : P.cellsOf e = 2)
    (h0 : P.underlying f0.type = some (.int .i64)) (h1 : P.underlying f1.type = some .string)
    (h : DataW.Trod enc P W 0 (fun _ => true) true t (.slice a len cap) d ps) : ∃ l : List Et, RdG eE W (.slice a len cap) l ∧ ∀ c ∈ l, (True) :=
  open_gl eE _ ht hC (open_entries1 he hone h0 h1) h

end
end Go.Proofs.Ytbffmdhogehfnaa

/-
  Nodes and mails as the row reads them. Nothing of a program stands here. (Written by rfr.py.)
-/
namespace Go.Proofs.Ytbffmdhogehfnaa
open Go.ChangeShapes Go.WideShapes Go.ChangeAt Go.RowKit Go.Joins Go.Deep
set_option linter.unusedVariables false

section
variable {H : Type} {enc : TypeId × Value → H} {P : Program} {W : World}

theorem slice_val {t e : TypeId} {v : Value} {n : Nat} {y : DataW H × List MemPlace} (ht : P.underlying t = some (.slice e)) (hf : DataW.trod enc P W 0 (fun _ => true) true n t [v] = some y) : ∃ a len cap, v = .slice a len cap := by
  obtain ⟨d, ps⟩ := y
  rcases open_slice ht hf with ⟨hcs, _⟩ | ⟨b, len', cap', m, n, D, Pl, hcs, _⟩
  · simp only [List.cons.injEq, and_true] at hcs
    exact ⟨_, _, _, hcs⟩
  · simp only [List.cons.injEq, and_true] at hcs
    exact ⟨_, _, _, hcs⟩

theorem open_entV {t e : TypeId} {g0 g1 : Field} {v : Value} {n : Nat} {y : DataW H × List MemPlace} (ht : P.underlying t = some (.slice e)) (he : P.underlying e = some (.struct #[g0, g1])) (hone : oneCellFields P #[g0, g1] = true) (hC : P.cellsOf e = 2) (m0 : P.underlying g0.type = some (.int .i64)) (m1 : P.underlying g1.type = some .string)
    (hf : DataW.trod enc P W 0 (fun _ => true) true n t [v] = some y) : ∃ l : List Et, RdG eE W v l := by
  obtain ⟨a, len, cap, rfl⟩ := slice_val ht hf
  obtain ⟨l, h, _⟩ := open_entries (d := y.1) (ps := y.2) ht he hone hC m0 m1 ⟨n, by simpa [Value.cells] using hf⟩
  exact ⟨l, h⟩

theorem open_ints1 {e : TypeId} (he : P.underlying e = some (.int .i64)) (fuel : Nat) (cs : List Value) (y : DataW H × List MemPlace) (hl : cs.length = 1) (h : DataW.trod enc P W 0 (fun _ => true) true fuel e cs = some y) : ∃ c : Int, cs = iE.v c ∧ WfI c := by
  obtain ⟨s0, e0, _, w0⟩ := DataW.trod_int he h
  exact ⟨s0, e0, w0⟩

theorem open_intV {t e : TypeId} {v : Value} {n : Nat} {y : DataW H × List MemPlace} (ht : P.underlying t = some (.slice e)) (he : P.underlying e = some (.int .i64)) (hC : P.cellsOf e = 1)
    (hf : DataW.trod enc P W 0 (fun _ => true) true n t [v] = some y) : ∃ l : List Int, RdG iE W v l ∧ ∀ z ∈ l, WfI z := by
  obtain ⟨a, len, cap, rfl⟩ := slice_val ht hf
  exact open_gl iE WfI (d := y.1) (ps := y.2) ht hC (open_ints1 he) ⟨n, by simpa [Value.cells] using hf⟩

theorem open_agg10 {r : Reach} {b0 : Nat} {t : TypeId} {f0 f1 f2 f3 f4 f5 f6 f7 f8 f9 : Field} {v : Value} {d : DataW H} {p : List MemPlace} (hs : P.underlying t = some (.struct #[f0, f1, f2, f3, f4, f5, f6, f7, f8, f9])) (hone : oneCellFields P #[f0, f1, f2, f3, f4, f5, f6, f7, f8, f9] = true) (hC : P.cellsOf t = 10)
    (hv : Value.okWide P W r b0 t v) (h : DataW.Trod enc P W 0 (fun _ => true) true t v d p) :
    ∃ (c0 c1 c2 c3 c4 c5 c6 c7 c8 c9 : Value) (n : Nat), v = .agg #[c0, c1, c2, c3, c4, c5, c6, c7, c8, c9] ∧ (∃ y, DataW.trod enc P W 0 (fun _ => true) true n f0.type [c0] = some y) ∧ (∃ y, DataW.trod enc P W 0 (fun _ => true) true n f1.type [c1] = some y) ∧ (∃ y, DataW.trod enc P W 0 (fun _ => true) true n f2.type [c2] = some y) ∧ (∃ y, DataW.trod enc P W 0 (fun _ => true) true n f3.type [c3] = some y) ∧ (∃ y, DataW.trod enc P W 0 (fun _ => true) true n f4.type [c4] = some y) ∧ (∃ y, DataW.trod enc P W 0 (fun _ => true) true n f5.type [c5] = some y) ∧ (∃ y, DataW.trod enc P W 0 (fun _ => true) true n f6.type [c6] = some y) ∧ (∃ y, DataW.trod enc P W 0 (fun _ => true) true n f7.type [c7] = some y) ∧ (∃ y, DataW.trod enc P W 0 (fun _ => true) true n f8.type [c8] = some y) ∧ (∃ y, DataW.trod enc P W 0 (fun _ => true) true n f9.type [c9] = some y) := by
  obtain ⟨cs, rfl, hsz⟩ := okWide_struct hs hv
  obtain ⟨fuel, hf⟩ := h
  obtain ⟨xs, k, hk, hxy, _, hxl, hfld⟩ := DataW.trod_struct hs hf
  obtain ⟨cl⟩ := cs
  have hl : cl.length = 10 := by simpa using hsz.trans hC
  match xs, hxl, cl, hl with
  | [y0, y1, y2, y3, y4, y5, y6, y7, y8, y9], _, [c0, c1, c2, c3, c4, c5, c6, c7, c8, c9], _ =>
    obtain ⟨o0, k0⟩ := hone_of hone 0 f0 rfl
    obtain ⟨o1, k1⟩ := hone_of hone 1 f1 rfl
    obtain ⟨o2, k2⟩ := hone_of hone 2 f2 rfl
    obtain ⟨o3, k3⟩ := hone_of hone 3 f3 rfl
    obtain ⟨o4, k4⟩ := hone_of hone 4 f4 rfl
    obtain ⟨o5, k5⟩ := hone_of hone 5 f5 rfl
    obtain ⟨o6, k6⟩ := hone_of hone 6 f6 rfl
    obtain ⟨o7, k7⟩ := hone_of hone 7 f7 rfl
    obtain ⟨o8, k8⟩ := hone_of hone 8 f8 rfl
    obtain ⟨o9, k9⟩ := hone_of hone 9 f9 rfl
    have q0 := hfld 0 f0 rfl
    have q1 := hfld 1 f1 rfl
    have q2 := hfld 2 f2 rfl
    have q3 := hfld 3 f3 rfl
    have q4 := hfld 4 f4 rfl
    have q5 := hfld 5 f5 rfl
    have q6 := hfld 6 f6 rfl
    have q7 := hfld 7 f7 rfl
    have q8 := hfld 8 f8 rfl
    have q9 := hfld 9 f9 rfl
    simp [Value.cells, o0, k0, o1, k1, o2, k2, o3, k3, o4, k4, o5, k5, o6, k6, o7, k7, o8, k8, o9, k9] at q0 q1 q2 q3 q4 q5 q6 q7 q8 q9
    exact ⟨c0, c1, c2, c3, c4, c5, c6, c7, c8, c9, _, rfl, ⟨_, q0⟩, ⟨_, q1⟩, ⟨_, q2⟩, ⟨_, q3⟩, ⟨_, q4⟩, ⟨_, q5⟩, ⟨_, q6⟩, ⟨_, q7⟩, ⟨_, q8⟩, ⟨_, q9⟩⟩

theorem open_agg9 {r : Reach} {b0 : Nat} {t : TypeId} {f0 f1 f2 f3 f4 f5 f6 f7 f8 : Field} {v : Value} {d : DataW H} {p : List MemPlace} (hs : P.underlying t = some (.struct #[f0, f1, f2, f3, f4, f5, f6, f7, f8])) (hone : oneCellFields P #[f0, f1, f2, f3, f4, f5, f6, f7, f8] = true) (hC : P.cellsOf t = 9)
    (hv : Value.okWide P W r b0 t v) (h : DataW.Trod enc P W 0 (fun _ => true) true t v d p) :
    ∃ (c0 c1 c2 c3 c4 c5 c6 c7 c8 : Value) (n : Nat), v = .agg #[c0, c1, c2, c3, c4, c5, c6, c7, c8] ∧ (∃ y, DataW.trod enc P W 0 (fun _ => true) true n f0.type [c0] = some y) ∧ (∃ y, DataW.trod enc P W 0 (fun _ => true) true n f1.type [c1] = some y) ∧ (∃ y, DataW.trod enc P W 0 (fun _ => true) true n f2.type [c2] = some y) ∧ (∃ y, DataW.trod enc P W 0 (fun _ => true) true n f3.type [c3] = some y) ∧ (∃ y, DataW.trod enc P W 0 (fun _ => true) true n f4.type [c4] = some y) ∧ (∃ y, DataW.trod enc P W 0 (fun _ => true) true n f5.type [c5] = some y) ∧ (∃ y, DataW.trod enc P W 0 (fun _ => true) true n f6.type [c6] = some y) ∧ (∃ y, DataW.trod enc P W 0 (fun _ => true) true n f7.type [c7] = some y) ∧ (∃ y, DataW.trod enc P W 0 (fun _ => true) true n f8.type [c8] = some y) := by
  obtain ⟨cs, rfl, hsz⟩ := okWide_struct hs hv
  obtain ⟨fuel, hf⟩ := h
  obtain ⟨xs, k, hk, hxy, _, hxl, hfld⟩ := DataW.trod_struct hs hf
  obtain ⟨cl⟩ := cs
  have hl : cl.length = 9 := by simpa using hsz.trans hC
  match xs, hxl, cl, hl with
  | [y0, y1, y2, y3, y4, y5, y6, y7, y8], _, [c0, c1, c2, c3, c4, c5, c6, c7, c8], _ =>
    obtain ⟨o0, k0⟩ := hone_of hone 0 f0 rfl
    obtain ⟨o1, k1⟩ := hone_of hone 1 f1 rfl
    obtain ⟨o2, k2⟩ := hone_of hone 2 f2 rfl
    obtain ⟨o3, k3⟩ := hone_of hone 3 f3 rfl
    obtain ⟨o4, k4⟩ := hone_of hone 4 f4 rfl
    obtain ⟨o5, k5⟩ := hone_of hone 5 f5 rfl
    obtain ⟨o6, k6⟩ := hone_of hone 6 f6 rfl
    obtain ⟨o7, k7⟩ := hone_of hone 7 f7 rfl
    obtain ⟨o8, k8⟩ := hone_of hone 8 f8 rfl
    have q0 := hfld 0 f0 rfl
    have q1 := hfld 1 f1 rfl
    have q2 := hfld 2 f2 rfl
    have q3 := hfld 3 f3 rfl
    have q4 := hfld 4 f4 rfl
    have q5 := hfld 5 f5 rfl
    have q6 := hfld 6 f6 rfl
    have q7 := hfld 7 f7 rfl
    have q8 := hfld 8 f8 rfl
    simp [Value.cells, o0, k0, o1, k1, o2, k2, o3, k3, o4, k4, o5, k5, o6, k6, o7, k7, o8, k8] at q0 q1 q2 q3 q4 q5 q6 q7 q8
    exact ⟨c0, c1, c2, c3, c4, c5, c6, c7, c8, _, rfl, ⟨_, q0⟩, ⟨_, q1⟩, ⟨_, q2⟩, ⟨_, q3⟩, ⟨_, q4⟩, ⟨_, q5⟩, ⟨_, q6⟩, ⟨_, q7⟩, ⟨_, q8⟩⟩

theorem open_node {r : Reach} {b0 : Nat} {t te ti : TypeId} {f0 f1 f2 f3 f4 f5 f6 f7 f8 f9 g0 g1 : Field} {v : Value} {d : DataW H} {p : List MemPlace} (hs : P.underlying t = some (.struct #[f0, f1, f2, f3, f4, f5, f6, f7, f8, f9])) (hone : oneCellFields P #[f0, f1, f2, f3, f4, f5, f6, f7, f8, f9] = true) (hC : P.cellsOf t = 10)
    (h0 : P.underlying f0.type = some (.int .i64)) (h1 : P.underlying f1.type = some (.int .i64)) (h2 : P.underlying f2.type = some (.int .i64)) (h3 : P.underlying f3.type = some (.int .i64)) (h4 : P.underlying f4.type = some (.slice te)) (h5 : P.underlying f5.type = some (.int .i64)) (h6 : P.underlying f6.type = some (.int .i64)) (h7 : P.underlying f7.type = some (.slice ti)) (h8 : P.underlying f8.type = some (.slice ti)) (h9 : P.underlying f9.type = some (.slice ti))
    (he : P.underlying te = some (.struct #[g0, g1])) (hone2 : oneCellFields P #[g0, g1] = true) (hC2 : P.cellsOf te = 2) (m0 : P.underlying g0.type = some (.int .i64)) (m1 : P.underlying g1.type = some .string)
    (hi : P.underlying ti = some (.int .i64)) (hC1 : P.cellsOf ti = 1)
    (hv : Value.okWide P W r b0 t v) (h : DataW.Trod enc P W 0 (fun _ => true) true t v d p) : ∃ (x : Nd) (lv vv nv hv : Value), v = ndV x lv vv nv hv ∧ RdNd W x lv vv nv hv ∧ ∀ z ∈ x.votes, WfI z := by
  obtain ⟨c0, c1, c2, c3, c4, c5, c6, c7, c8, c9, n, rfl, ⟨y0, q0⟩, ⟨y1, q1⟩, ⟨y2, q2⟩, ⟨y3, q3⟩, ⟨y4, q4⟩, ⟨y5, q5⟩, ⟨y6, q6⟩, ⟨y7, q7⟩, ⟨y8, q8⟩, ⟨y9, q9⟩⟩ := open_agg10 hs hone hC hv h
  obtain ⟨s0, e0, _, w0⟩ := DataW.trod_int h0 q0
  obtain ⟨s1, e1, _, w1⟩ := DataW.trod_int h1 q1
  obtain ⟨s2, e2, _, w2⟩ := DataW.trod_int h2 q2
  obtain ⟨s3, e3, _, w3⟩ := DataW.trod_int h3 q3
  obtain ⟨l4, r4⟩ := open_entV h4 he hone2 hC2 m0 m1 q4
  obtain ⟨s5, e5, _, w5⟩ := DataW.trod_int h5 q5
  obtain ⟨s6, e6, _, w6⟩ := DataW.trod_int h6 q6
  obtain ⟨l7, r7, z7⟩ := open_intV h7 hi hC1 q7
  obtain ⟨l8, r8, z8⟩ := open_intV h8 hi hC1 q8
  obtain ⟨l9, r9, z9⟩ := open_intV h9 hi hC1 q9
  simp only [List.cons.injEq, and_true] at e0 e1 e2 e3 e5 e6
  subst e0 e1 e2 e3 e5 e6
  exact ⟨⟨s0, s1, s2, s3, l4, s5, s6, l7, l8, l9⟩, c4, c7, c8, c9, rfl, ⟨r4, r7, r8, r9⟩, z7⟩

end
end Go.Proofs.Ytbffmdhogehfnaa

/-
  Mails, and lists of them, as the row reads them. Nothing of a program stands here. (Written by rfr.py.)
-/
namespace Go.Proofs.Ytbffmdhogehfnaa
open Go.ChangeShapes Go.WideShapes Go.ChangeAt Go.RowKit Go.Joins Go.Deep
set_option linter.unusedVariables false

section
variable {H : Type} {enc : TypeId × Value → H} {P : Program} {W : World}

theorem open_mail {r : Reach} {b0 : Nat} {t te : TypeId} {f0 f1 f2 f3 f4 f5 f6 f7 f8 g0 g1 : Field} {v : Value} {d : DataW H} {p : List MemPlace} (hs : P.underlying t = some (.struct #[f0, f1, f2, f3, f4, f5, f6, f7, f8])) (hone : oneCellFields P #[f0, f1, f2, f3, f4, f5, f6, f7, f8] = true) (hC : P.cellsOf t = 9)
    (h0 : P.underlying f0.type = some (.int .i64)) (h1 : P.underlying f1.type = some (.int .i64)) (h2 : P.underlying f2.type = some (.int .i64)) (h3 : P.underlying f3.type = some (.int .i64)) (h4 : P.underlying f4.type = some (.int .i64)) (h5 : P.underlying f5.type = some (.int .i64)) (h6 : P.underlying f6.type = some (.int .i64)) (h7 : P.underlying f7.type = some (.slice te)) (h8 : P.underlying f8.type = some .bool)
    (he : P.underlying te = some (.struct #[g0, g1])) (hone2 : oneCellFields P #[g0, g1] = true) (hC2 : P.cellsOf te = 2) (m0 : P.underlying g0.type = some (.int .i64)) (m1 : P.underlying g1.type = some .string)
    (hv : Value.okWide P W r b0 t v) (h : DataW.Trod enc P W 0 (fun _ => true) true t v d p) : ∃ (m : Ml) (ev : Value), v = mlV m ev ∧ RdG eE W ev m.ents := by
  obtain ⟨c0, c1, c2, c3, c4, c5, c6, c7, c8, n, rfl, ⟨y0, q0⟩, ⟨y1, q1⟩, ⟨y2, q2⟩, ⟨y3, q3⟩, ⟨y4, q4⟩, ⟨y5, q5⟩, ⟨y6, q6⟩, ⟨y7, q7⟩, ⟨y8, q8⟩⟩ := open_agg9 hs hone hC hv h
  obtain ⟨s0, e0, _, w0⟩ := DataW.trod_int h0 q0
  obtain ⟨s1, e1, _, w1⟩ := DataW.trod_int h1 q1
  obtain ⟨s2, e2, _, w2⟩ := DataW.trod_int h2 q2
  obtain ⟨s3, e3, _, w3⟩ := DataW.trod_int h3 q3
  obtain ⟨s4, e4, _, w4⟩ := DataW.trod_int h4 q4
  obtain ⟨s5, e5, _, w5⟩ := DataW.trod_int h5 q5
  obtain ⟨s6, e6, _, w6⟩ := DataW.trod_int h6 q6
  obtain ⟨l7, r7⟩ := open_entV h7 he hone2 hC2 m0 m1 q7
  obtain ⟨s8, e8, _⟩ := DataW.trod_bool h8 q8
  simp only [List.cons.injEq, and_true] at e0 e1 e2 e3 e4 e5 e6 e8
  subst e0 e1 e2 e3 e4 e5 e6 e8
  exact ⟨⟨s0, s1, s2, s3, s4, s5, s6, l7, s8⟩, c7, rfl, r7⟩

theorem open_mails1 {e te : TypeId} {f0 f1 f2 f3 f4 f5 f6 f7 f8 g0 g1 : Field} (hs : P.underlying e = some (.struct #[f0, f1, f2, f3, f4, f5, f6, f7, f8])) (hone : oneCellFields P #[f0, f1, f2, f3, f4, f5, f6, f7, f8] = true)
    (h0 : P.underlying f0.type = some (.int .i64)) (h1 : P.underlying f1.type = some (.int .i64)) (h2 : P.underlying f2.type = some (.int .i64)) (h3 : P.underlying f3.type = some (.int .i64)) (h4 : P.underlying f4.type = some (.int .i64)) (h5 : P.underlying f5.type = some (.int .i64)) (h6 : P.underlying f6.type = some (.int .i64)) (h7 : P.underlying f7.type = some (.slice te)) (h8 : P.underlying f8.type = some .bool)
    (he : P.underlying te = some (.struct #[g0, g1])) (hone2 : oneCellFields P #[g0, g1] = true) (hC2 : P.cellsOf te = 2) (m0 : P.underlying g0.type = some (.int .i64)) (m1 : P.underlying g1.type = some .string)
    (fuel : Nat) (cs : List Value) (y : DataW H × List MemPlace) (hl : cs.length = 9) (h : DataW.trod enc P W 0 (fun _ => true) true fuel e cs = some y) : ∃ c : Mf, cs = mfE.v c ∧ RdG eE W c.s.v c.m.ents := by
  obtain ⟨o0, k0⟩ := hone_of hone 0 f0 rfl
  obtain ⟨o1, k1⟩ := hone_of hone 1 f1 rfl
  obtain ⟨o2, k2⟩ := hone_of hone 2 f2 rfl
  obtain ⟨o3, k3⟩ := hone_of hone 3 f3 rfl
  obtain ⟨o4, k4⟩ := hone_of hone 4 f4 rfl
  obtain ⟨o5, k5⟩ := hone_of hone 5 f5 rfl
  obtain ⟨o6, k6⟩ := hone_of hone 6 f6 rfl
  obtain ⟨o7, k7⟩ := hone_of hone 7 f7 rfl
  obtain ⟨o8, k8⟩ := hone_of hone 8 f8 rfl
  obtain ⟨xs, k, hk, hxy, _, hxl, hf⟩ := DataW.trod_struct hs h
  match xs, hxl, cs, hl with
  | [y0, y1, y2, y3, y4, y5, y6, y7, y8], _, [c0, c1, c2, c3, c4, c5, c6, c7, c8], _ =>
    have q0 := hf 0 f0 rfl
    have q1 := hf 1 f1 rfl
    have q2 := hf 2 f2 rfl
    have q3 := hf 3 f3 rfl
    have q4 := hf 4 f4 rfl
    have q5 := hf 5 f5 rfl
    have q6 := hf 6 f6 rfl
    have q7 := hf 7 f7 rfl
    have q8 := hf 8 f8 rfl
    simp [o0, k0, o1, k1, o2, k2, o3, k3, o4, k4, o5, k5, o6, k6, o7, k7, o8, k8] at q0 q1 q2 q3 q4 q5 q6 q7 q8
    obtain ⟨s0, e0, _, w0⟩ := DataW.trod_int h0 q0
    obtain ⟨s1, e1, _, w1⟩ := DataW.trod_int h1 q1
    obtain ⟨s2, e2, _, w2⟩ := DataW.trod_int h2 q2
    obtain ⟨s3, e3, _, w3⟩ := DataW.trod_int h3 q3
    obtain ⟨s4, e4, _, w4⟩ := DataW.trod_int h4 q4
    obtain ⟨s5, e5, _, w5⟩ := DataW.trod_int h5 q5
    obtain ⟨s6, e6, _, w6⟩ := DataW.trod_int h6 q6
    obtain ⟨l7, r7⟩ := open_entV h7 he hone2 hC2 m0 m1 q7
    obtain ⟨a7, n7, p7, e7⟩ := slice_val h7 q7
    obtain ⟨s8, e8, _⟩ := DataW.trod_bool h8 q8
    simp only [List.cons.injEq, and_true] at e0 e1 e2 e3 e4 e5 e6 e8
    subst e0 e1 e2 e3 e4 e5 e6 e7 e8
    exact ⟨⟨⟨s0, s1, s2, s3, s4, s5, s6, l7, s8⟩, ⟨a7, n7, p7⟩⟩, rfl, r7⟩

theorem open_mails {t e te : TypeId} {f0 f1 f2 f3 f4 f5 f6 f7 f8 g0 g1 : Field} {a : Option Addr} {len cap : Nat} {d : DataW H} {ps : List MemPlace} (ht : P.underlying t = some (.slice e)) (hs : P.underlying e = some (.struct #[f0, f1, f2, f3, f4, f5, f6, f7, f8])) (hone : oneCellFields P #[f0, f1, f2, f3, f4, f5, f6, f7, f8] = true) (hC : P.cellsOf e = 9)
    (h0 : P.underlying f0.type = some (.int .i64)) (h1 : P.underlying f1.type = some (.int .i64)) (h2 : P.underlying f2.type = some (.int .i64)) (h3 : P.underlying f3.type = some (.int .i64)) (h4 : P.underlying f4.type = some (.int .i64)) (h5 : P.underlying f5.type = some (.int .i64)) (h6 : P.underlying f6.type = some (.int .i64)) (h7 : P.underlying f7.type = some (.slice te)) (h8 : P.underlying f8.type = some .bool)
    (he : P.underlying te = some (.struct #[g0, g1])) (hone2 : oneCellFields P #[g0, g1] = true) (hC2 : P.cellsOf te = 2) (m0 : P.underlying g0.type = some (.int .i64)) (m1 : P.underlying g1.type = some .string)
    (h : DataW.Trod enc P W 0 (fun _ => true) true t (.slice a len cap) d ps) : ∃ ms : List Ml, RdM W (.slice a len cap) ms := by
  obtain ⟨gs, g1, g2⟩ := open_gl mfE (fun c => RdG eE W c.s.v c.m.ents) ht hC (open_mails1 hs hone h0 h1 h2 h3 h4 h5 h6 h7 h8 he hone2 hC2 m0 m1) h
  exact ⟨gs.map (·.m), gs, g1, rfl, g2⟩

end
end Go.Proofs.Ytbffmdhogehfnaa
