/-
  The walk over cell.mergedTwo.
-/
import Derived.Test.YtlebbkbbmgmmjadCellS1
import Derived.Deep.RegionHeld3
namespace Go.Proofs.Ytlebbkbbmgmmjad
open Go.RowKit

/-- 'v[1:]' of cells as an operation. -/
theorem run_slice_fromC {P : Program} {t e : TypeId} {z : Value} {bytes : Nat} (ht : P.underlying t = some (.slice e)) (he : P.elem t = e) (hinf : (P.info? e).map (fun i => (i.zero, i.size, i.bytes)) = some (some z, 5, bytes))
    (ao : Option Addr) (n cap lo : Nat) (l : Int) (hl : l = lo) (h1 : lo ≤ n) (W : World) :
    (Instr.slice t (.slice ao n cap) (some (.int .i64 l)) none none).run P W = .ok (Go.sliced ao lo n cap 5) W := by
  obtain ⟨i, hi0, _, hsize, _⟩ := info_parts hinf
  subst hl
  rw [run_slice_l (P := P) W t ao n cap (by rw [he]; exact ht) .i64 lo (by omega) (by omega)]
  simp [he, sizeOf, typeInfo, hi0, hsize, Result.andThen]

/-- 'make([]T, 0, c)' of cells. -/
theorem wpList_makeC {P : Program} {w : World} {ops : Array Oper} {rest : List Oper} {o : Oper} {a : Act} {Q : Exit → Act → World → Prop} {l c : Operand} {t e : TypeId} {z : Value} {bytes : Nat} {C : Int} {n : Nat}
    (ht : P.underlying t = some (.slice e)) (hinf : (P.info? e).map (fun i => (i.zero, i.size, i.bytes)) = some (some z, 5, bytes))
    (hg : o.guard = none) (hop : o.op = Op.makeSlice t l c) (hl : a.eval l = .int .i64 0) (hc : a.eval c = .int .i64 C) (hC : C = (n : Int)) (hn : n ≤ 1000000) (hb : bytes ≤ 64)
    (h : ∀ w', w'.ownsRow w.heap.size e 5 (.slice (some ⟨w.heap.size, 0, none⟩) 0 n) 0 (cc []) → Below w.heap.size w w' → w.heap.size < w'.heap.size → wpList P ops Q rest (a.put o.dst (.slice (some ⟨w.heap.size, 0, none⟩) 0 n)) w') : wpList P ops Q (o :: rest) a w := by
  obtain ⟨i, hi, hz, hsize, hby⟩ := info_parts hinf
  refine wpList_make_own w hg l c t hop w.heap.size e i z 5 ht hi hz hsize .i64 .i64 C n hl hc hC (by rw [hby]; exact Nat.le_trans (Nat.mul_le_mul hb hn) (by decide)) (by unfold maxLen; omega) (Nat.le_refl _) ?_
  intro w' h1 h2
  have h3 := (h1.lt w.heap.size rfl).2
  exact h w' h1 ((Below.refl _ _).grown h2 (Nat.le_refl _) (fun k hk => by cases hk)) h3

/-- The tail of a list of cells: its value. -/
theorem tailC {w : World} {ao : Option Addr} {n cap : Nat} {c : Cl} {cs : List Cl} (h : RdC w (.slice ao n cap) (c :: cs)) :
    ∃ vo vc, (∀ W, (Instr.slice 30 (.slice ao n cap) (some (.int .i64 1)) none none).run Try.prog W = .ok (.slice vo cs.length vc) W) ∧ RdC w (.slice vo cs.length vc) cs := by
  have hn : n = cs.length + 1 := by
    obtain ⟨_, _, hv, _⟩ := h
    simp only [Value.slice.injEq] at hv
    simpa using hv.2.1
  have h1 := h.from (lo := 1) (by omega)
  have hs := run_slice_fromC (P := Try.prog) Try.underlying30 (by kernel_rfl) Try.info91 ao n cap 1 1 rfl (by omega)
  simp only [List.drop_succ_cons, List.drop_zero] at h1
  obtain ⟨vo, vc, hv, _, _⟩ := h1.shape
  rw [hv] at h1 hs
  exact ⟨vo, vc, hs, h1⟩

theorem RdC.head {w : World} {ao : Option Addr} {n cap : Nat} {c : Cl} {cs : List Cl} (h : RdC w (.slice ao n cap) (c :: cs)) : ∃ b off, ao = some ⟨b, off, none⟩ ∧ b < w.heap.size ∧ At w b off c := by
  obtain ⟨ao', cap', hv, _, _, hat⟩ := h.at
  simp only [Value.slice.injEq] at hv
  obtain ⟨rfl, _, _⟩ := hv
  obtain ⟨b, off, ha, hb, hc⟩ := hat 0 (by simp)
  have := hc 0 (by simp)
  rw [Nat.zero_mul, Nat.add_zero] at this
  exact ⟨b, off, ha, hb, this⟩

theorem RdC.slen2 {w : World} {ao : Option Addr} {n cap : Nat} {cs : List Cl} (h : RdC w (.slice ao n cap) cs) : n ≤ cap ∧ cap ≤ 9223372036854775807 := by
  obtain ⟨ao', cap', hv, h1, h2, _⟩ := h
  simp only [Value.slice.injEq] at hv
  obtain ⟨_, rfl, rfl⟩ := hv
  exact ⟨h1, by unfold maxLen at h2; omega⟩


end Go.Proofs.Ytlebbkbbmgmmjad
