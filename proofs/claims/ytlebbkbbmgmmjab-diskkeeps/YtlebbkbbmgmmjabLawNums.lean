/-
  The law WireNums: its walk.
-/
import Derived.Test.YtlebbkbbmgmmjabLawNums1
namespace Go.Proofs.Ytlebbkbbmgmmjab
open Go.RowKit

/-- The fault alone. -/
def numsFlt : List Int → Nat → Int × Int
  | [], _ => (0, 0)
  | z :: zs, k => if z < 0 ∨ 1000000000 < z then (3, (k : Int)) else numsFlt zs (k + 1)

theorem numsFlt_go : ∀ (zs : List Int) (k : Nat) (acc : List UInt8), (numsGo zs k acc).2 = numsFlt zs k
  | [], _, _ => rfl
  | z :: zs, k, acc => by
    rw [numsGo, numsFlt]
    split
    · rfl
    · exact numsFlt_go zs (k + 1) _

theorem numsR_big {zs : List Int} (h : 1000 < zs.length) : numsR zs = ([], 2, 0) := by rw [numsR, if_pos h]
theorem numsR_small {zs : List Int} (h : ¬ 1000 < zs.length) : (numsR zs).2 = numsFlt zs 0 := by rw [numsR, if_neg h, numsFlt_go]
theorem numsR_ok {zs : List Int} (h : (numsR zs).2.1 = 0) : zs.length ≤ 1000 ∧ (∀ z ∈ zs, okNum z) ∧ numsR zs = (flat zs, 0, 0) := by
  by_cases hb : 1000 < zs.length
  · rw [numsR_big hb] at h; simp at h
  · unfold numsR at h ⊢
    rw [if_neg hb] at h ⊢
    have hok := numsGo_ok zs 0 [] h
    exact ⟨by omega, hok, by rw [numsGo_of zs 0 [] hok]; simp⟩

theorem numsGo_none : ∀ (zs : List Int) (k : Nat) (acc : List UInt8), (numsGo zs k acc).2.1 ≠ 0 → (numsGo zs k acc).1 = []
  | [], _, _, h => by simp [numsGo] at h
  | z :: zs, k, acc, h => by
    rw [numsGo] at h ⊢
    split at h
    · rename_i hb; rw [if_pos hb]
    · rename_i hb; rw [if_neg hb]; exact numsGo_none zs _ _ h

theorem numsR_none {zs : List Int} (h : (numsR zs).2.1 ≠ 0) : (numsR zs).1 = [] := by
  unfold numsR at h ⊢
  split at h
  · rename_i hb; rw [if_pos hb]
  · rename_i hb; rw [if_neg hb]; exact numsGo_none zs _ _ h

theorem rd_ref : ∀ (f : Nat) (bs : List UInt8) (acc : List Int), bs.length ≤ f →
    rdNums (f + 1) bs acc = if 0 ≤ (refNums (f + 1) bs acc).2 then ([], 5, (refNums (f + 1) bs acc).2) else if 1000 < (refNums (f + 1) bs acc).1.length then ([], 2, 0) else ((refNums (f + 1) bs acc).1, 0, 0)
  | f, [], acc, _ => by
    rw [refNums_end]
    by_cases h : 1000 < acc.length
    · rw [rdNums_many h]; simp [h]
    · rw [rdNums_end (by omega)]; simp [h]
  | 0, b :: bs, acc, hf => by simp at hf
  | f + 1, b :: bs, acc, hf => by
    cases hn : numAt (b :: bs) with
    | none =>
      rw [rdNums_bad (by simp) hn, refNums_bad (by simp) hn]
      simp
    | some p =>
      obtain ⟨n, k⟩ := p
      have hl := numAt_len hn
      rw [rdNums_step (by simp) hn, refNums_step (by simp) hn]
      exact rd_ref f _ _ (by rw [List.length_drop]; omega)

theorem readNums_ref {bs : List UInt8} (h : ¬ 60000 < bs.length) :
    readNumsR bs = if 0 ≤ (refNums (bs.length + 1) bs []).2 then ([], 5, (refNums (bs.length + 1) bs []).2) else if 1000 < (refNums (bs.length + 1) bs []).1.length then ([], 2, 0) else ((refNums (bs.length + 1) bs []).1, 0, 0) := by
  rw [readNumsR, if_neg h]
  exact rd_ref _ _ _ (Nat.le_refl _)

theorem readNums_big {bs : List UInt8} (h : 60000 < bs.length) : readNumsR bs = ([], 8, 0) := by rw [readNumsR, if_pos h]

theorem Rd.lt {w : World} {v : Value} {xs : List Value} (h : Rd w v xs) : ∀ a l c, v = .slice (some a) l c → 0 < xs.length → a.block < w.heap.size := by
  intro a l c e hp
  subst e
  exact h.block_lt hp

/-- A block of two numbers. -/
def Fb (w : World) (B : Nat) (c a : Int) : Prop := w.heap[B]? = some (.cells #[.int .i64 c, .int .i64 a] 29 (0, 0))
theorem Fb.facts {w : World} {B : Nat} {c a : Int} (h : Fb w B c a) : w.cell? ⟨B, 0, none⟩ = some (.int .i64 c) ∧ w.cell? ⟨B, 1, none⟩ = some (.int .i64 a) ∧ w.frozen? ⟨B, 0, none⟩ = false ∧ w.frozen? ⟨B, 1, none⟩ = false ∧ B < w.heap.size := by
  refine ⟨?_, ?_, frozen_of_row _ _ _ _ _ h, frozen_of_row _ _ _ _ _ h, (Array.getElem?_eq_some_iff.1 h).1⟩
  · rw [cell_of_row _ _ _ _ _ _ h]; rfl
  · rw [cell_of_row _ _ _ _ _ _ h]; rfl

theorem Fb.below {w w' : World} {B : Nat} {c a : Int} (h : Fb w B c a) (hb : Below w.heap.size w w') : Fb w' B c a := by
  unfold Fb
  rw [hb.block _ h.facts.2.2.2.2]
  exact h

theorem Fb.grown {w w' : World} {B R : Nat} {c a : Int} (h : Fb w B c a) (hg : w.grownBy w' (some R)) (hR : B ≠ R) : Fb w' B c a := by
  unfold Fb
  rw [hg.block _ h.facts.2.2.2.2 (by simpa using hR)]
  exact h

theorem Fb.new (w : World) (c a : Int) : Fb (w.alloc (.cells #[.int .i64 c, .int .i64 a] 29)) w.heap.size c a := heap_alloc_new _ _
theorem Fb.set {w : World} {B : Nat} {c a : Int} (h : Fb w B c a) (c' a' : Int) : Fb ((w.setCell ⟨B, 0, none⟩ (.int .i64 c')).setCell ⟨B, 1, none⟩ (.int .i64 a')) B c' a' := by
  unfold Fb
  rw [heap_setCell_same _ B 1 #[.int .i64 c', .int .i64 a] _ (.int .i64 a')]
  · rfl
  · rw [heap_setCell_same _ B 0 _ _ (.int .i64 c') h]
    rfl

theorem grown_set_alloc (w : World) (o : Obj) (B : Nat) (x y : Value) : w.grownBy (((w.setCell ⟨B, 0, none⟩ x).setCell ⟨B, 1, none⟩ y).alloc o) (some B) :=
  World.grownBy.trans (World.grownBy.trans (grown_set _ B 0 x) (grown_set _ B 1 y)) (World.grownBy_alloc _ o (some B))

theorem Fb.set_alloc {w : World} {B : Nat} {c a : Int} (h : Fb w B c a) (c' a' : Int) (o : Obj) : Fb (((w.setCell ⟨B, 0, none⟩ (.int .i64 c')).setCell ⟨B, 1, none⟩ (.int .i64 a')).alloc o) B c' a' :=
  (h.set c' a').below ((Below.refl _ _).alloc (Nat.le_refl _) o)

theorem numsFlt_end (zs : List Int) (k : Nat) (h : zs.length ≤ k) : numsFlt (zs.drop k) k = (0, 0) := by
  rw [List.drop_eq_nil_of_le h, numsFlt]

theorem numsFlt_bad (zs : List Int) (k : Nat) (h : k < zs.length) (h1 : zs[k] < 0 ∨ 1000000000 < zs[k]) : numsFlt (zs.drop k) k = (3, (k : Int)) := by
  rw [drop_cons zs k h, numsFlt, if_pos h1]

theorem numsFlt_step (zs : List Int) (k : Nat) (h : k < zs.length) (h1 : 0 ≤ zs[k]) (h2 : zs[k] ≤ 1000000000) : numsFlt (zs.drop k) k = numsFlt (zs.drop (k + 1)) (k + 1) := by
  rw [drop_cons zs k h, numsFlt, if_neg (by omega)]


end Go.Proofs.Ytlebbkbbmgmmjab
