/-
  The law WireTexts: its walk.
-/
import Derived.Test.YtlebbkbbmgmmjabRefT
import Derived.Deep.RegionLaw
namespace Go.Proofs.Ytlebbkbbmgmmjab
open Go.RowKit

def lsum : List (List UInt8) → Nat
  | [] => 0
  | s :: ss => s.length + lsum ss

theorem lsum_append : ∀ (a b : List (List UInt8)), lsum (a ++ b) = lsum a + lsum b
  | [], b => by simp [lsum]
  | s :: a, b => by simp [lsum, lsum_append a b, Nat.add_assoc]

theorem lsum_snoc (ss : List (List UInt8)) (k : Nat) (h : k < ss.length) : lsum (ss.take (k + 1)) = lsum (ss.take k) + ss[k].length := by
  rw [List.take_succ_eq_append_getElem h, lsum_append]
  simp [lsum]

theorem lsum_mem : ∀ {ss : List (List UInt8)} {s : List UInt8}, s ∈ ss → s.length ≤ lsum ss
  | t :: ss, s, h => by
    rcases List.mem_cons.1 h with rfl | h
    · simp only [lsum]; omega
    · have := lsum_mem h; simp only [lsum]; omega

theorem tflat_le : ∀ (ss : List (List UInt8)), (tflat ss).length ≤ lsum ss + 10 * ss.length
  | [] => by simp [tflat]
  | s :: ss => by
    have := tflat_le ss
    have h1 := encN_length s.length
    rw [tflat_cons]
    simp only [lsum, List.length_append, List.length_cons]
    omega

theorem tflat_snoc (ss : List (List UInt8)) (k : Nat) (h : k < ss.length) : tflat (ss.take (k + 1)) = tflat (ss.take k) ++ (encN ss[k].length ++ ss[k]) := by
  rw [List.take_succ_eq_append_getElem h]
  simp only [tflat, List.flatMap_append, List.flatMap_cons, List.flatMap_nil, List.append_nil]

theorem tflat_take (ss : List (List UInt8)) (k : Nat) : (tflat (ss.take k)).length ≤ (tflat ss).length := by
  have e : tflat ss = tflat (ss.take k) ++ tflat (ss.drop k) := by
    conv => lhs; rw [← List.take_append_drop k ss]
    simp only [tflat, List.flatMap_append]
  rw [e, List.length_append]
  omega

theorem textsR_big {ss : List (List UInt8)} (h : 1000 < ss.length) : textsR ss = ([], 2, 0) := by rw [textsR, if_pos h]
theorem textsR_much {ss : List (List UInt8)} (h : ¬ 1000 < ss.length) (h2 : 60000 < (tflat ss).length) : textsR ss = ([], 9, 0) := by
  rw [textsR, if_neg h, textsGo_much ss [] (by simp) (by simpa using h2)]

theorem textsR_ok {ss : List (List UInt8)} (h : ¬ 1000 < ss.length) (h2 : ¬ 60000 < (tflat ss).length) : textsR ss = (tflat ss, 0, 0) := by
  rw [textsR, if_neg h, textsGo_of ss [] (by simp; omega)]
  simp

theorem rdt_ref : ∀ (f : Nat) (bs : List UInt8) (acc : List (List UInt8)), bs.length ≤ f →
    rdTexts (f + 1) bs acc = if 0 ≤ (refTexts (f + 1) bs acc).2 then ([], 5, (refTexts (f + 1) bs acc).2) else if 1000 < (refTexts (f + 1) bs acc).1.length then ([], 2, 0) else ((refTexts (f + 1) bs acc).1, 0, 0)
  | f, [], acc, _ => by
    rw [refTexts_end]
    by_cases h : 1000 < acc.length
    · rw [rdTexts_many h]; simp [h]
    · rw [rdTexts_end (by omega)]; simp [h]
  | 0, b :: bs, acc, hf => by simp at hf
  | f + 1, b :: bs, acc, hf => by
    cases hn : textAt (b :: bs) with
    | none =>
      rw [rdTexts_bad (by simp) hn, refTexts_bad (by simp) hn]
      simp
    | some p =>
      obtain ⟨t, k⟩ := p
      have hl := textAt_back hn
      rw [rdTexts_step (by simp) hn, refTexts_step (by simp) hn]
      exact rdt_ref f _ _ (by rw [List.length_drop]; omega)

theorem readTexts_ref {bs : List UInt8} (h : ¬ 60000 < bs.length) :
    readTextsR bs = if 0 ≤ (refTexts (bs.length + 1) bs []).2 then ([], 5, (refTexts (bs.length + 1) bs []).2) else if 1000 < (refTexts (bs.length + 1) bs []).1.length then ([], 2, 0) else ((refTexts (bs.length + 1) bs []).1, 0, 0) := by
  rw [readTextsR, if_neg h]
  exact rdt_ref _ _ _ (Nat.le_refl _)

theorem readTexts_big {bs : List UInt8} (h : 60000 < bs.length) : readTextsR bs = ([], 8, 0) := by rw [readTextsR, if_pos h]

/-- A block of one cell. -/
def Ob (w : World) (B : Nat) (t : TypeId) (v : Value) : Prop := w.heap[B]? = some (.cells #[v] t (0, 0))
theorem Ob.facts {w : World} {B : Nat} {t : TypeId} {v : Value} (h : Ob w B t v) : w.cell? ⟨B, 0, none⟩ = some v ∧ w.frozen? ⟨B, 0, none⟩ = false ∧ B < w.heap.size := by
  refine ⟨?_, frozen_of_row _ _ _ _ _ h, (Array.getElem?_eq_some_iff.1 h).1⟩
  rw [cell_of_row _ _ _ _ _ _ h]; rfl

theorem Ob.below {w w' : World} {B : Nat} {t : TypeId} {v : Value} (h : Ob w B t v) (hb : Below w.heap.size w w') : Ob w' B t v := by
  unfold Ob
  rw [hb.block _ h.facts.2.2]
  exact h

theorem Ob.new (w : World) (t : TypeId) (v : Value) : Ob (w.alloc (.cells #[v] t)) w.heap.size t v := heap_alloc_new _ _
theorem Ob.set {w : World} {B : Nat} {t : TypeId} {v : Value} (h : Ob w B t v) (u : Value) : Ob (w.setCell ⟨B, 0, none⟩ u) B t u := by
  unfold Ob
  rw [heap_setCell_same _ B 0 _ _ u h]
  rfl


end Go.Proofs.Ytlebbkbbmgmmjab
