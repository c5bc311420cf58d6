/-
  Faults that are told one behind the other, as the laws spell them. Nothing of a program stands here.
-/
import Derived.Test.YtahgddbladfemaePartMath
namespace Go.Proofs.Ytahgddbladfemae
open Go.RowKit
set_option linter.unusedVariables false

/-- A fault that is told if a test says so, and nothing was told ahead. -/
def stepF (t : Bool) (n o : Int × Int) : Int × Int := if ((o.1 == 0) && t) = true then n else o

theorem stepF_yes {t : Bool} {n o : Int × Int} (h : o.1 = 0) (ht : t = true) : stepF t n o = n := by
  unfold stepF; rw [if_pos (by simp [h, ht])]
theorem stepF_no {t : Bool} {n o : Int × Int} (ht : t = false) : stepF t n o = o := by
  unfold stepF; rw [if_neg (by simp [ht])]
theorem stepF_told {t : Bool} {n o : Int × Int} (h : o.1 ≠ 0) : stepF t n o = o := by
  unfold stepF; rw [if_neg (by simp [h])]
theorem stepF_zero {t : Bool} {n o : Int × Int} (hn : n.1 ≠ 0) (h : (stepF t n o).1 = 0) : o.1 = 0 ∧ t = false ∧ stepF t n o = o := by
  unfold stepF at h ⊢
  by_cases hc : ((o.1 == 0) && t) = true
  · rw [if_pos hc] at h; exact absurd h hn
  · rw [if_neg hc] at h ⊢
    refine ⟨h, ?_, rfl⟩
    simpa [h] using hc

/-- The two tests of Split's part, by the text's order. -/
def outB (l : List Pt) (at_ : Int) : Bool := decide (at_ < 0) || decide ((l.length : Int) ≤ at_)
def outB2 (l : List Pt) (at_ : Int) : Bool := decide (at_ < 0) || decide ((l.length : Int) - 1 ≤ at_)
def formB (l : List Pt) (at_ : Int) (row : ByteArray) : Bool := (row.toList == (l.getD at_.toNat zeroPt).fr.toList) || !inB row (l.getD at_.toNat zeroPt).fr (l.getD at_.toNat zeroPt).to_
def twiceB (l : List Pt) (at_ left right : Int) : Bool := (decide (left = right) || hasID l at_.toNat 1 left) || hasID l at_.toNat 1 right

def sp1 (l : List Pt) (at_ : Int) : Int × Int := stepF (outB l at_) (3, -1) (chkP l)
def sp2 (l : List Pt) (at_ : Int) (row : ByteArray) : Int × Int := stepF (decide (40 < row.size)) (8, -2) (sp1 l at_)
def sp3 (l : List Pt) (at_ : Int) (row : ByteArray) : Int × Int := stepF (formB l at_ row) (5, -2) (sp2 l at_ row)
def sp4 (l : List Pt) (at_ : Int) (row : ByteArray) (left right : Int) : Int × Int := stepF (!numB left || !numB right) (3, -3) (sp3 l at_ row)
def sp5 (l : List Pt) (at_ : Int) (row : ByteArray) (left right : Int) : Int × Int := stepF (twiceB l at_ left right) (10, -3) (sp4 l at_ row left right)
def sp6 (l : List Pt) (at_ : Int) (row : ByteArray) (left right : Int) : Int × Int := stepF (decide (l.length = 200)) (2, -1) (sp5 l at_ row left right)

theorem sp1_zero {l : List Pt} {at_ : Int} (h : (sp1 l at_).1 = 0) : (chkP l).1 = 0 ∧ 0 ≤ at_ ∧ at_ < l.length := by
  obtain ⟨h1, h2, _⟩ := stepF_zero (by decide) h
  unfold outB at h2
  simp at h2
  exact ⟨h1, by omega, by omega⟩

theorem sp2_zero {l : List Pt} {at_ : Int} {row : ByteArray} (h : (sp2 l at_ row).1 = 0) : (sp1 l at_).1 = 0 := (stepF_zero (by decide) h).1
theorem sp3_zero {l : List Pt} {at_ : Int} {row : ByteArray} (h : (sp3 l at_ row).1 = 0) : (sp1 l at_).1 = 0 := sp2_zero (stepF_zero (by decide) h).1
theorem sp4_zero {l : List Pt} {at_ : Int} {row : ByteArray} {left right : Int} (h : (sp4 l at_ row left right).1 = 0) : (sp1 l at_).1 = 0 := sp3_zero (stepF_zero (by decide) h).1
theorem sp5_zero {l : List Pt} {at_ : Int} {row : ByteArray} {left right : Int} (h : (sp5 l at_ row left right).1 = 0) : (sp1 l at_).1 = 0 := sp4_zero (stepF_zero (by decide) h).1

theorem sp6_eq (l : List Pt) (at_ : Int) (row : ByteArray) (left right : Int) : sp6 l at_ row left right = splitF l at_ row left right := by
  unfold splitF sp6 sp5 sp4 sp3 sp2 sp1
  by_cases h0 : (chkP l).1 ≠ 0
  · rw [if_pos h0, stepF_told h0, stepF_told h0, stepF_told h0, stepF_told h0, stepF_told h0, stepF_told h0]
  · rw [if_neg h0]
    have h0' : (chkP l).1 = 0 := Decidable.not_not.1 h0
    have hc0 := chkP_ok (chkP_fine.1 h0')
    rw [hc0]
    by_cases h1 : at_ < 0 ∨ (l.length : Int) ≤ at_
    · rw [if_pos h1, stepF_yes (t := outB l at_) rfl (by unfold outB; simpa using h1)]
      rw [stepF_told (o := (3, -1)) (by decide), stepF_told (o := (3, -1)) (by decide), stepF_told (o := (3, -1)) (by decide), stepF_told (o := (3, -1)) (by decide), stepF_told (o := (3, -1)) (by decide)]
    · rw [if_neg h1, stepF_no (t := outB l at_) (by unfold outB; simpa using h1)]
      by_cases h2 : 40 < row.size
      · rw [if_pos h2, stepF_yes (t := decide (40 < row.size)) rfl (decide_eq_true h2)]
        rw [stepF_told (o := (8, -2)) (by decide), stepF_told (o := (8, -2)) (by decide), stepF_told (o := (8, -2)) (by decide), stepF_told (o := (8, -2)) (by decide)]
      · rw [if_neg h2, stepF_no (t := decide (40 < row.size)) (decide_eq_false h2)]
        by_cases h3 : row.toList = (l.getD at_.toNat zeroPt).fr.toList ∨ inB row (l.getD at_.toNat zeroPt).fr (l.getD at_.toNat zeroPt).to_ = false
        · rw [if_pos h3, stepF_yes (t := formB l at_ row) rfl (by unfold formB; simpa using h3)]
          rw [stepF_told (o := (5, -2)) (by decide), stepF_told (o := (5, -2)) (by decide), stepF_told (o := (5, -2)) (by decide)]
        · rw [if_neg h3, stepF_no (t := formB l at_ row) (by unfold formB; simpa using h3)]
          by_cases h4 : numB left = false ∨ numB right = false
          · rw [if_pos h4, stepF_yes (t := !numB left || !numB right) rfl (by simpa using h4)]
            rw [stepF_told (o := (3, -3)) (by decide), stepF_told (o := (3, -3)) (by decide)]
          · rw [if_neg h4, stepF_no (t := !numB left || !numB right) (by simpa using h4)]
            by_cases h5 : left = right ∨ hasID l at_.toNat 1 left = true ∨ hasID l at_.toNat 1 right = true
            · rw [if_pos h5, stepF_yes (t := twiceB l at_ left right) rfl (by unfold twiceB; simpa [or_assoc, and_assoc] using h5)]
              rw [stepF_told (o := (10, -3)) (by decide)]
            · rw [if_neg h5, stepF_no (t := twiceB l at_ left right) (by unfold twiceB; simpa [or_assoc, and_assoc] using h5)]
              by_cases h6 : l.length = 200
              · rw [if_pos h6, stepF_yes (t := decide (l.length = 200)) rfl (decide_eq_true h6)]
              · rw [if_neg h6, stepF_no (t := decide (l.length = 200)) (decide_eq_false h6)]

def jp1 (l : List Pt) (at_ : Int) : Int × Int := stepF (outB2 l at_) (3, -1) (chkP l)
def jp2 (l : List Pt) (at_ left : Int) : Int × Int := stepF (!numB left) (3, -3) (jp1 l at_)
def jp3 (l : List Pt) (at_ left : Int) : Int × Int := stepF (hasID l at_.toNat 2 left) (10, -3) (jp2 l at_ left)

theorem jp1_zero {l : List Pt} {at_ : Int} (h : (jp1 l at_).1 = 0) : (chkP l).1 = 0 ∧ 0 ≤ at_ ∧ at_ + 1 < l.length := by
  obtain ⟨h1, h2, _⟩ := stepF_zero (by decide) h
  unfold outB2 at h2
  simp at h2
  exact ⟨h1, by omega, by omega⟩

theorem jp2_zero {l : List Pt} {at_ left : Int} (h : (jp2 l at_ left).1 = 0) : (jp1 l at_).1 = 0 := (stepF_zero (by decide) h).1

theorem jp3_eq (l : List Pt) (at_ left : Int) : jp3 l at_ left = joinF l at_ left := by
  unfold joinF jp3 jp2 jp1
  by_cases h0 : (chkP l).1 ≠ 0
  · rw [if_pos h0, stepF_told h0, stepF_told h0, stepF_told h0]
  · rw [if_neg h0]
    have h0' : (chkP l).1 = 0 := Decidable.not_not.1 h0
    have hc0 := chkP_ok (chkP_fine.1 h0')
    rw [hc0]
    by_cases h1 : at_ < 0 ∨ (l.length : Int) - 1 ≤ at_
    · rw [if_pos h1, stepF_yes (t := outB2 l at_) rfl (by unfold outB2; simpa using h1)]
      rw [stepF_told (o := (3, -1)) (by decide), stepF_told (o := (3, -1)) (by decide)]
    · rw [if_neg h1, stepF_no (t := outB2 l at_) (by unfold outB2; simpa using h1)]
      by_cases h4 : numB left = false
      · rw [if_pos h4, stepF_yes (t := !numB left) rfl (by simpa using h4)]
        rw [stepF_told (o := (3, -3)) (by decide)]
      · rw [if_neg h4, stepF_no (t := !numB left) (by simpa using h4)]
        by_cases h5 : hasID l at_.toNat 2 left = true
        · rw [if_pos h5, stepF_yes rfl h5]
        · rw [if_neg h5, stepF_no (by simpa using h5)]

theorem splitF_zz {l : List Pt} {at_ : Int} {row : ByteArray} {left right : Int} (h : (splitF l at_ row left right).1 = 0) : splitF l at_ row left right = (0, 0) := by
  rw [← sp6_eq] at h ⊢
  obtain ⟨h5, _, e6⟩ := stepF_zero (by decide) h
  obtain ⟨h4, _, e5⟩ := stepF_zero (by decide) h5
  obtain ⟨h3, _, e4⟩ := stepF_zero (by decide) h4
  obtain ⟨h2, _, e3⟩ := stepF_zero (by decide) h3
  obtain ⟨h1, _, e2⟩ := stepF_zero (by decide) h2
  obtain ⟨h0, _, e1⟩ := stepF_zero (by decide) h1
  exact e6.trans (e5.trans (e4.trans (e3.trans (e2.trans (e1.trans (chkP_ok (chkP_fine.1 h0)))))))

theorem joinF_zz {l : List Pt} {at_ left : Int} (h : (joinF l at_ left).1 = 0) : joinF l at_ left = (0, 0) := by
  rw [← jp3_eq] at h ⊢
  obtain ⟨h2, _, e3⟩ := stepF_zero (by decide) h
  obtain ⟨h1, _, e2⟩ := stepF_zero (by decide) h2
  obtain ⟨h0, _, e1⟩ := stepF_zero (by decide) h1
  exact e3.trans (e2.trans (e1.trans (chkP_ok (chkP_fine.1 h0))))

end Go.Proofs.Ytahgddbladfemae
