/-
  Plain maths of parts: which parts have some of the rows from a row on, ahead of another one. Nothing of a program stands here.
-/
import Derived.Test.YtahgddbladfemafPartMath
namespace Go.Proofs.Ytahgddbladfemaf
open Go.RowKit
set_option linter.unusedVariables false

/-- The first that f says yes to, and how many, from a state on. -/
def mtR (f : Pt → Bool) : List Pt → Nat → Int × Int → Int × Int
  | [], _, s => s
  | p :: r, i, s => mtR f r (i + 1) (if f p = true then ((if s.2 = 0 then (i : Int) else s.1), s.2 + 1) else s)

theorem mtR_no {f : Pt → Bool} {p : Pt} {r : List Pt} {i : Nat} {s : Int × Int} (h : f p = false) : mtR f (p :: r) i s = mtR f r (i + 1) s := by rw [mtR, if_neg (by simp [h])]
theorem mtR_first {f : Pt → Bool} {p : Pt} {r : List Pt} {i : Nat} {a : Int} (h : f p = true) : mtR f (p :: r) i (a, 0) = mtR f r (i + 1) (i, 1) := by rw [mtR, if_pos h]; rfl
theorem mtR_more {f : Pt → Bool} {p : Pt} {r : List Pt} {i : Nat} {a m : Int} (h : f p = true) (hm : m ≠ 0) : mtR f (p :: r) i (a, m) = mtR f r (i + 1) (a, m + 1) := by rw [mtR, if_pos h]; simp [hm]

theorem mtR_rest {f : Pt → Bool} : ∀ {r : List Pt} {i : Nat} {a m : Int}, 0 < m → mtR f r i (a, m) = (a, m + (r.countP f : Nat))
  | [], i, a, m, h => by simp [mtR]
  | p :: r, i, a, m, h => by
    cases hf : f p
    · rw [mtR_no hf, mtR_rest h, List.countP_cons_of_neg (by simp [hf])]
    · rw [mtR_more hf (by omega), mtR_rest (by omega), List.countP_cons_of_pos (by simp [hf])]
      congr 1
      omega

theorem mtR_none {f : Pt → Bool} : ∀ {r : List Pt} {i : Nat} {s : Int × Int}, (∀ p ∈ r, f p = false) → mtR f r i s = s
  | [], i, s, h => rfl
  | p :: r, i, s, h => by rw [mtR_no (h p (by simp)), mtR_none fun q hq => h q (by simp [hq])]

/-- Is something asked for? -/
def askOk (a b : ByteArray) : Bool := b.toList.isEmpty || bLt a.toList b.toList

/-- Has a part some of the rows, as the law spells it? -/
def mtB (a b : ByteArray) (p : Pt) : Bool := askOk a b && ((p.to_.toList.isEmpty || bLt a.toList p.to_.toList) && (b.toList.isEmpty || bLt p.fr.toList b.toList))

/-- Behind a row, all parts end behind it; and those that begin ahead of the end have some. -/
theorem chn_behind {a b : ByteArray} : ∀ {l : List Pt} {e : List UInt8}, Chn e l → bLt a.toList e = true → askOk a b = true → ∀ p ∈ l, mtB a b p = inB p.fr a b
  | [], _, h, _, _ => h.elim
  | [p], e, h, hr, hk => by
    intro q hq
    have : q = p := by simpa using hq
    subst this
    unfold mtB inB
    rw [hk, h.2.1, bLt_asymm hr, h.2.2]
    rfl
  | p :: q :: l, e, h, hr, hk => by
    intro x hx
    have e1 := h.2.1
    have h2 : bLt a.toList p.to_.toList = true := bLt_trans hr (e1 ▸ h.2.2.1)
    rcases List.mem_cons.1 hx with rfl | hx
    · unfold mtB inB
      rw [hk, e1, bLt_asymm hr, h2]
      simp
    · exact chn_behind h.2.2.2 h2 hk x hx

theorem chn_meet {a b : ByteArray} (hk : askOk a b = true) : ∀ {l : List Pt} {e : List UInt8} (i : Nat), Chn e l → bLt a.toList e = false → ∃ k, k < l.length ∧ hvGo a l i = ((i + k : Nat) : Int) ∧ mtR (mtB a b) l i (0, 0) = (((i + k : Nat) : Int), 1 + (((l.drop (k + 1)).countP fun p => inB p.fr a b : Nat) : Int))
  | [], _, _, h, _ => h.elim
  | [p], e, i, h, hr => by
    have hy : inB a p.fr p.to_ = true := inB_true.2 ⟨by rw [h.2.1]; exact hr, .inl h.2.2⟩
    have hm : mtB a b p = true := by
      unfold mtB
      rw [hk, h.2.2, h.2.1]
      unfold askOk at hk
      cases hb : b.toList.isEmpty
      · rw [hb] at hk
        simp only [Bool.false_or] at hk
        rw [bLe_lt hr hk]
        rfl
      · rfl
    exact ⟨0, by simp, hvGo_yes hy, by rw [mtR_first hm]; simp [mtR]⟩
  | p :: q :: l, e, i, h, hr => by
    have hne : p.to_.toList.isEmpty = false := by
      have := h.2.2.1
      cases hp : p.to_.toList with
      | nil => rw [hp, bLt_nil_right] at this; cases this
      | cons _ _ => rfl
    cases hb : bLt a.toList p.to_.toList
    · have hn : inB a p.fr p.to_ = false := by
        unfold inB
        rw [hne, hb]; simp
      have hm : mtB a b p = false := by
        unfold mtB
        rw [hne, hb]; simp
      obtain ⟨k, h0, h1, h2⟩ := chn_meet hk (i + 1) h.2.2.2 hb
      refine ⟨k + 1, by simpa using h0, by rw [hvGo_no hn, h1]; congr 1; omega, ?_⟩
      rw [mtR_no hm, h2]
      simp only [List.drop_succ_cons]
      congr 1
      congr 1
      omega
    · have hy : inB a p.fr p.to_ = true := inB_true.2 ⟨by rw [h.2.1]; exact hr, .inr hb⟩
      have hm : mtB a b p = true := by
        unfold mtB
        rw [hk, hb]
        unfold askOk at hk
        cases hbe : b.toList.isEmpty
        · rw [hbe] at hk
          simp only [Bool.false_or] at hk
          have := bLe_lt hr hk
          rw [← h.2.1] at this
          rw [this]
          simp
        · simp
      refine ⟨0, by simp, hvGo_yes hy, ?_⟩
      rw [mtR_first hm, mtR_rest (by omega)]
      simp only [Nat.zero_add, List.drop_succ_cons, List.drop_zero, Nat.add_zero]
      congr 3
      exact List.countP_congr fun x hx => by rw [chn_behind h.2.2.2 hb hk x hx]

/-- What Meet tells of fine parts. -/
def meetR (l : List Pt) (a b : ByteArray) : Int × Int :=
  if askOk a b = true then (hvP a l, 1 + (((l.drop ((hvP a l).toNat + 1)).countP fun p => inB p.fr a b : Nat) : Int)) else (0, 0)

theorem meet_eq {l : List Pt} (h : FineP l) (a b : ByteArray) : mtR (mtB a b) l 0 (0, 0) = meetR l a b := by
  unfold meetR
  cases hk : askOk a b
  · rw [if_neg (by decide), mtR_none]
    intro p _
    unfold mtB
    rw [hk]; rfl
  · rw [if_pos rfl]
    obtain ⟨k, _, h1, h2⟩ := chn_meet hk 0 h.2.1 (bLt_nil _)
    rw [Nat.zero_add] at h1 h2
    rw [hvP, h1, Int.toNat_natCast]
    exact h2

end Go.Proofs.Ytahgddbladfemaf
