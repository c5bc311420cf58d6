/-
  Plain maths of leases: what is granted and renewed, courts and deeds, who trusts. Nothing of a program stands here.
-/
import Derived.Test.YtpojgcjigjenoagGen
namespace Go.Proofs.Ytpojgcjigjenoag
open Go.RowKit
set_option linter.unusedVariables false

structure Ls where
  hold : Int
  ep : Int
  til : Int
structure Tr where
  ep : Int
  til : Int
structure Ws where
  who : Int
  sent : Int
  ep : Int
structure Rp where
  who : Int
  ep : Int
  til : Int
structure Dd where
  kind : Int
  who : Int
  n : Int
structure Ct where
  now : Int
  lease : Ls
  clocks : List Int
  trusts : List Tr
  wishes : List Ws
  replies : List Rp

/-- From 0 to the greatest number. -/
def numL (n : Int) : Bool := decide (0 ≤ n ∧ n ≤ 1000000000)

def lchkF (l : Ls) : Int × Int := if numL l.hold = true ∧ numL l.ep = true ∧ numL l.til = true then (0, 0) else (3, 0)
def spanF (span : Int) : Int × Int := if 4 ≤ span ∧ span ≤ 1000000 then (0, 0) else (3, -3)
def wishF (l : Ls) (who now span : Int) : Int × Int :=
  if (lchkF l).1 ≠ 0 then lchkF l
  else if who < 1 ∨ 1000000000 < who then (3, -1)
  else if numL now = false then (3, -2)
  else spanF span

def grantF (l : Ls) (who now span : Int) : Int × Int :=
  if (wishF l who now span).1 ≠ 0 then wishF l who now span
  else if 0 < l.hold ∧ now < l.til then (11, 0)
  else if 1000000000 < l.ep + 1 ∨ 1000000000 < now + span then (9, 0)
  else (0, 0)
def zeroLs : Ls := ⟨0, 0, 0⟩
def grantL (l : Ls) (who now span : Int) : Ls := if (grantF l who now span).1 = 0 then ⟨who, l.ep + 1, now + span⟩ else zeroLs

def renewF (l : Ls) (who ep now span : Int) : Int × Int :=
  if (wishF l who now span).1 ≠ 0 then wishF l who now span
  else if l.hold ≠ who ∨ l.ep ≠ ep then (6, 0)
  else if l.til ≤ now then (12, 0)
  else if 1000000000 < now + span then (9, 0)
  else (0, 0)
def renewL (l : Ls) (who ep now span : Int) : Ls := if (renewF l who ep now span).1 = 0 then ⟨l.hold, l.ep, max l.til (now + span)⟩ else zeroLs

/-- How long may be trusted. -/
def trustD (span : Int) : Int := span - span / 4

/-- What the granter answers to a wish: the lease behind it, and whether a reply goes out. -/
def heardF (l : Ls) (w : Ws) (now span : Int) : Int × Int := if 0 < w.ep then renewF l (w.who + 1) w.ep now span else grantF l (w.who + 1) now span
def heardL (l : Ls) (w : Ws) (now span : Int) : Ls := if 0 < w.ep then renewL l (w.who + 1) w.ep now span else grantL l (w.who + 1) now span

theorem grantL_eq {l : Ls} {who now span : Int} (h : (grantF l who now span).1 = 0) : grantL l who now span = ⟨who, l.ep + 1, now + span⟩ ∧ ¬ (0 < l.hold ∧ now < l.til) ∧ 4 ≤ span := by
  refine ⟨by rw [grantL, if_pos h], ?_, ?_⟩
  · intro hh
    unfold grantF at h
    split at h
    · rename_i h0; exact h0 h
    · cases h
  · unfold grantF at h
    split at h
    · rename_i h0; exact absurd h h0
    · rename_i h0
      have h1 := Decidable.not_not.1 h0
      unfold wishF at h1
      split at h1
      · rename_i h2; exact absurd h1 h2
      · split at h1
        · cases h1
        · split at h1
          · cases h1
          · unfold spanF at h1
            split at h1
            · rename_i h5; exact h5.1
            · cases h1

theorem renewL_eq {l : Ls} {who ep now span : Int} (h : (renewF l who ep now span).1 = 0) : renewL l who ep now span = ⟨l.hold, l.ep, max l.til (now + span)⟩ ∧ l.hold = who ∧ l.ep = ep := by
  refine ⟨by rw [renewL, if_pos h], ?_⟩
  unfold renewF at h
  split at h
  · rename_i h0; exact absurd h h0
  · split at h
    · cases h
    · rename_i h1
      omega

/-! ### The court -/

def lget {α : Type} (l : List α) (i : Int) (d : α) : α := l.getD i.toNat d
def lset {α : Type} (l : List α) (i : Int) (x : α) : List α := l.set i.toNat x
def ldel {α : Type} (l : List α) (i : Int) : List α := l.eraseIdx i.toNat

/-- A deed in a court. -/
def doC (c : Ct) (span : Int) (d : Dd) : Ct :=
  if d.kind = 0 then { c with now := c.now + d.n }
  else if d.kind = 1 then { c with clocks := lset c.clocks d.who (lget c.clocks d.who 0 + d.n) }
  else if d.kind = 2 then { c with wishes := c.wishes ++ [⟨d.who, lget c.clocks d.who 0, if lget c.clocks d.who 0 < (lget c.trusts d.who ⟨0, 0⟩).til then (lget c.trusts d.who ⟨0, 0⟩).ep else 0⟩] }
  else if d.kind = 3 then
    let w := lget c.wishes d.n ⟨0, 0, 0⟩
    if (heardF c.lease w c.now span).1 = 0 then
      { c with wishes := ldel c.wishes d.n, lease := heardL c.lease w c.now span, replies := c.replies ++ [⟨w.who, (heardL c.lease w c.now span).ep, w.sent + trustD span⟩] }
    else { c with wishes := ldel c.wishes d.n }
  else if d.kind = 4 then
    let r := lget c.replies d.n ⟨0, 0, 0⟩
    let t := lget c.trusts r.who ⟨0, 0⟩
    if t.ep < r.ep ∨ (r.ep = t.ep ∧ t.til < r.til) then { c with replies := ldel c.replies d.n, trusts := lset c.trusts r.who ⟨r.ep, r.til⟩ }
    else { c with replies := ldel c.replies d.n }
  else if d.kind = 5 then { c with trusts := lset c.trusts d.who ⟨0, 0⟩ }
  else if d.kind = 6 then { c with wishes := c.wishes ++ [lget c.wishes d.n ⟨0, 0, 0⟩] }
  else if d.kind = 7 then { c with wishes := ldel c.wishes d.n }
  else { c with replies := ldel c.replies d.n }

/-- May a deed be done? -/
def mayC (c : Ct) (d : Dd) : Int :=
  if d.kind < 0 ∨ 8 < d.kind then 4
  else if (d.kind = 1 ∨ d.kind = 2 ∨ d.kind = 5) ∧ (d.who < 0 ∨ (c.clocks.length : Int) ≤ d.who) then 3
  else if d.kind < 2 ∧ (d.n < 0 ∨ 1000000 < d.n) then 3
  else if (d.kind = 3 ∨ d.kind = 6 ∨ d.kind = 7) ∧ (d.n < 0 ∨ (c.wishes.length : Int) ≤ d.n) then 3
  else if (d.kind = 4 ∨ d.kind = 8) ∧ (d.n < 0 ∨ (c.replies.length : Int) ≤ d.n) then 3
  else 0

def overC (c : Ct) : Bool := decide (900000000 < c.now) || decide (100 < c.wishes.length) || decide (100 < c.replies.length) || c.clocks.any (fun x => decide (900000000 < x))

def stepC (c : Ct) (span : Int) (d : Dd) : Int := if mayC c d ≠ 0 then mayC c d else if overC (doC c span d) = true then 9 else 0

/-- The courts behind the deeds, one behind the other: as far as they may be done. -/
def courtsC (span : Int) : Ct → List Dd → List Ct
  | c, [] => [c]
  | c, d :: r => c :: courtsC span (doC c span d) r

/-- A court ahead of all deeds. -/
def court0 (n : Nat) : Ct := ⟨0, zeroLs, List.replicate n 0, List.replicate n ⟨0, 0⟩, [], []⟩

end Go.Proofs.Ytpojgcjigjenoag
