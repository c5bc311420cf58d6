/-
  Plain maths of package seal: copies, and what is done to them. Nothing of a program stands here.
-/
import Derived.Test.YtpojgcjigjenoagLeaseMath
namespace Go.Proofs.Ytpojgcjigjenoag
open Go.RowKit
set_option linter.unusedVariables false

/-- A copy. -/
structure Cp where
  ep : Int
  cl : Bool
  recs : List ByteArray
  en : Int

/-- The first record that is too long, from a number on; -1: none is. -/
def longI : List ByteArray → Nat → Int
  | [], _ => -1
  | r :: l, i => if 200 < r.size then i else longI l (i + 1)

theorem longI_yes {r : ByteArray} {l : List ByteArray} {i : Nat} (h : 200 < r.size) : longI (r :: l) i = i := by rw [longI, if_pos h]
theorem longI_no {r : ByteArray} {l : List ByteArray} {i : Nat} (h : ¬ 200 < r.size) : longI (r :: l) i = longI l (i + 1) := by rw [longI, if_neg h]

theorem longI_pos : ∀ (l : List ByteArray) (i : Nat), longI l i = -1 ∨ ((i : Int) ≤ longI l i ∧ longI l i < (i : Int) + l.length)
  | [], i => .inl rfl
  | r :: l, i => by
    by_cases h : 200 < r.size
    · rw [longI_yes h]
      right
      simp
      omega
    · rw [longI_no h]
      rcases longI_pos l (i + 1) with e | ⟨e1, e2⟩
      · exact .inl e
      · right
        simp
        omega

def longF (l : List ByteArray) : Int × Int := if 0 ≤ longI l 0 then (8, longI l 0) else (0, 0)

/-- What is wrong with a copy. -/
def chkC (c : Cp) : Int × Int :=
  if ¬ (numL c.ep = true ∧ numL c.en = true) then (3, -1)
  else if c.ep < c.en ∨ (0 < c.en ∧ c.cl = false) then (11, -1)
  else if 100 < c.recs.length then (2, -1)
  else longF c.recs

/-- A fault that tells nothing is the zero one. -/
def Fz (f : Int × Int) : Prop := f.1 = 0 → f = (0, 0)

theorem Fz.ne {f : Int × Int} (h : Fz f) (hn : f.1 ≠ 0 ∨ f.2 ≠ 0) : f.1 ≠ 0 := by
  intro q
  rw [h q] at hn
  simp at hn

theorem longF_z (l : List ByteArray) : Fz (longF l) := by
  unfold Fz longF
  split
  · intro h; simp at h
  · intro; rfl

theorem chkC_z (c : Cp) : Fz (chkC c) := by
  unfold chkC
  split
  · intro h; simp at h
  split
  · intro h; simp at h
  split
  · intro h; simp at h
  exact longF_z _

/-- What is wrong with a copy that is to be changed in an epoch. -/
def epF (c : Cp) (ep : Int) (g : Int × Int) : Int × Int :=
  if (chkC c).1 ≠ 0 then chkC c
  else if ep = 0 ∨ numL ep = false then (3, -1)
  else if g.1 ≠ 0 then g
  else if ep < c.ep then (12, -1)
  else (0, 0)

theorem epF_z {c : Cp} {ep : Int} {g : Int × Int} : Fz (epF c ep g) := by
  unfold epF
  split
  · exact chkC_z c
  split
  · intro h; simp at h
  split
  · intro h; contradiction
  split
  · intro h; simp at h
  · intro; rfl

/-- Why a record can't be put. -/
def apF (c : Cp) (at_ : Int) (r : ByteArray) : Int × Int :=
  if c.cl = true then (11, -2)
  else if 200 < r.size then (8, -2)
  else if at_ < 0 ∨ (c.recs.length : Int) < at_ then (3, -2)
  else if at_ < (c.recs.length : Int) ∧ c.recs[at_.toNat]? ≠ some r then (7, -2)
  else if at_ = 100 then (2, -2)
  else (0, 0)

theorem apF_z {c : Cp} {at_ : Int} {r : ByteArray} : Fz (apF c at_ r) := by
  unfold apF
  repeat' split
  all_goals first | (intro h; simp at h; done) | (intro; rfl)

def chosF (l : List ByteArray) : Int × Int := if 100 < l.length then (2, -2) else longF l

theorem chosF_z (l : List ByteArray) : Fz (chosF l) := by
  unfold chosF
  split
  · intro h; simp at h
  · exact longF_z l

def noCp : Cp := ⟨0, false, [], 0⟩

/-- What Append, Close and End tell: the fault; the copy. -/
def appF (c : Cp) (ep at_ : Int) (r : ByteArray) : Int × Int := if (epF c ep (0, 0)).1 ≠ 0 then epF c ep (0, 0) else apF c at_ r
def appC (c : Cp) (ep at_ : Int) (r : ByteArray) : Cp := if (appF c ep at_ r).1 = 0 then ⟨ep, c.cl, if at_ = (c.recs.length : Int) then c.recs ++ [r] else c.recs, c.en⟩ else noCp
def cloF (c : Cp) (ep : Int) : Int × Int := epF c ep (0, 0)
def cloC (c : Cp) (ep : Int) : Cp := if (cloF c ep).1 = 0 then ⟨ep, true, c.recs, c.en⟩ else noCp
def endF (c : Cp) (ep : Int) (l : List ByteArray) : Int × Int := epF c ep (chosF l)
def endC (c : Cp) (ep : Int) (l : List ByteArray) : Cp := if (endF c ep l).1 = 0 then ⟨ep, true, l, ep⟩ else noCp

end Go.Proofs.Ytpojgcjigjenoag
