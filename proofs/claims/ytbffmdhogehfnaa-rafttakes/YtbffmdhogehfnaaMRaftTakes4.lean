/-
  Texts joined: RaftMath, LeaseC1, GenX, GenL, GenM, RaftW1, RaftW2.
-/
import Derived.Test.YtbffmdhogehfnaaMRaftTakes3
import Derived.Deep.RegionLaw
import Derived.Maps.AppendAt
import Derived.Maps.OwnSet
import Derived.Maps.OwnOps
/-
  Plain maths of package raft: nodes, mails, and what is done to them. Nothing of a program stands here.
-/
namespace Go.Proofs.Ytbffmdhogehfnaa
open Go.RowKit
set_option linter.unusedVariables false

/-- A node. -/
structure Nd where
  n : Int
  id : Int
  term : Int
  vote : Int
  log : List Et
  role : Int
  com : Int
  votes : List Int
  next : List Int
  hav : List Int

/-- A mail. -/
structure Ml where
  kind : Int
  frm : Int
  to_ : Int
  term : Int
  a : Int
  b : Int
  c : Int
  ents : List Et
  ok : Bool

def wiB (n a b : Int) : Bool := decide (a ≤ n ∧ n ≤ b)
def mostB (k : Nat) (n : Int) : Bool := decide (n / 2 < (k : Int))

/-- What is wrong with a node's numbers, its log. -/
def nmF (x : Nd) : Int × Int :=
  if wiB x.n 1 7 = false ∨ wiB x.id 0 (x.n - 1) = false then (3, -1)
  else if numL x.term = false ∨ wiB x.vote 0 x.n = false ∨ wiB x.role 0 2 = false ∨ wiB x.com 0 x.log.length = false then (3, -2)
  else (0, 0)

def lgF (x : Nd) : Int × Int := if (chkE x.log).1 ≠ 0 then chkE x.log else if x.term < lastT x.log then (11, -3) else (0, 0)

/-- Unlike numbers of nodes. -/
def voGo (n : Int) : List Int → List Int → Bool
  | _, [] => true
  | s, v :: r => wiB v 0 (n - 1) && !decide (v ∈ s) && voGo n (s ++ [v]) r

def votesB (x : Nd) : Bool := if x.role = 1 then voGo x.n [] x.votes && (decide (x.id ∈ x.votes) && !mostB x.votes.length x.n) else decide (x.votes.length = 0)

def ofB (x : Nd) (l : List Int) (a b : Int) : Bool := if x.role = 2 then decide ((l.length : Int) = x.n) && !(l.any fun v => !wiB v a b) else decide (l.length = 0)
def knownB (x : Nd) : Bool := ofB x x.next 1 (x.log.length + 1) && ofB x x.hav 0 x.log.length

/-- What is wrong with a node. -/
def chkN (x : Nd) : Int × Int :=
  if (nmF x).1 ≠ 0 then nmF x
  else if (lgF x).1 ≠ 0 then lgF x
  else if votesB x = false ∨ knownB x = false then (5, -3)
  else (0, 0)

theorem nmF_z (x : Nd) : Fz (nmF x) := by
  unfold nmF
  split
  · intro h; simp at h
  split
  · intro h; simp at h
  · intro; rfl

theorem lgF_z (x : Nd) : Fz (lgF x) := by
  unfold lgF
  split
  · exact chkE_z _
  split
  · intro h; simp at h
  · intro; rfl

theorem chkN_z (x : Nd) : Fz (chkN x) := by
  unfold chkN
  split
  · exact nmF_z x
  split
  · exact lgF_z x
  split
  · intro h; simp at h
  · intro; rfl

/-- What holds of a node that may be. -/
structure FineN (x : Nd) : Prop where
  n1 : 1 ≤ x.n
  n7 : x.n ≤ 7
  id0 : 0 ≤ x.id
  idn : x.id < x.n
  t0 : 0 ≤ x.term
  t1 : x.term ≤ 1000000000
  v0 : 0 ≤ x.vote
  vn : x.vote ≤ x.n
  r0 : 0 ≤ x.role
  r2 : x.role ≤ 2
  c0 : 0 ≤ x.com
  cl : x.com ≤ x.log.length
  log : (chkE x.log).1 = 0
  lt : lastT x.log ≤ x.term
  vo : votesB x = true
  kn : knownB x = true

theorem wiB_true {n a b : Int} : wiB n a b = true ↔ a ≤ n ∧ n ≤ b := by unfold wiB; simp
theorem wiB_false {n a b : Int} : wiB n a b = false ↔ ¬ (a ≤ n ∧ n ≤ b) := by unfold wiB; simp

theorem numL_iffN {n : Int} : numL n = true ↔ 0 ≤ n ∧ n ≤ 1000000000 := by unfold numL; simp

theorem chkN_fine {x : Nd} (h : (chkN x).1 = 0) : FineN x := by
  unfold chkN at h
  by_cases h1 : (nmF x).1 ≠ 0
  · rw [if_pos h1] at h; exact absurd h h1
  rw [if_neg h1] at h
  by_cases h2 : (lgF x).1 ≠ 0
  · rw [if_pos h2] at h; exact absurd h h2
  rw [if_neg h2] at h
  by_cases h3 : votesB x = false ∨ knownB x = false
  · rw [if_pos h3] at h; simp at h
  have h1' := Decidable.not_not.1 h1
  unfold nmF at h1'
  by_cases h4 : wiB x.n 1 7 = false ∨ wiB x.id 0 (x.n - 1) = false
  · rw [if_pos h4] at h1'; simp at h1'
  rw [if_neg h4] at h1'
  by_cases h5 : numL x.term = false ∨ wiB x.vote 0 x.n = false ∨ wiB x.role 0 2 = false ∨ wiB x.com 0 x.log.length = false
  · rw [if_pos h5] at h1'; simp at h1'
  have h2' := Decidable.not_not.1 h2
  unfold lgF at h2'
  by_cases h6 : (chkE x.log).1 ≠ 0
  · rw [if_pos h6] at h2'; exact absurd h2' h6
  rw [if_neg h6] at h2'
  by_cases h7 : x.term < lastT x.log
  · rw [if_pos h7] at h2'; simp at h2'
  simp only [not_or, Bool.not_eq_false, wiB_true, numL_iffN] at h3 h4 h5
  obtain ⟨⟨a1, a2⟩, a3, a4⟩ := h4
  obtain ⟨⟨b1, b2⟩, ⟨b3, b4⟩, ⟨b5, b6⟩, b7, b8⟩ := h5
  exact ⟨a1, a2, a3, by omega, b1, b2, b3, b4, b5, b6, b7, b8, Decidable.not_not.1 h6, by omega, h3.1, h3.2⟩

theorem chkN_of {x : Nd} (h : FineN x) : chkN x = (0, 0) := by
  have h1 : nmF x = (0, 0) := by
    unfold nmF
    rw [if_neg, if_neg]
    · simp only [not_or, Bool.not_eq_false, wiB_true, numL_iffN]
      exact ⟨⟨h.t0, h.t1⟩, ⟨h.v0, h.vn⟩, ⟨h.r0, h.r2⟩, h.c0, h.cl⟩
    · simp only [not_or, Bool.not_eq_false, wiB_true]
      have := h.idn
      exact ⟨⟨h.n1, h.n7⟩, h.id0, by omega⟩
  have h2 : lgF x = (0, 0) := by
    unfold lgF
    rw [if_neg (by simp [h.log]), if_neg (by have := h.lt; omega)]
  unfold chkN
  rw [h1, if_neg (by simp), h2, if_neg (by simp), if_neg (by rw [h.vo, h.kn]; simp)]

theorem FineN.loglen {x : Nd} (h : FineN x) : x.log.length ≤ 100 := (chkE_fine h.log).2

/-- Why a node can't stand, lead, be proposed to. -/
def stdF (x : Nd) : Int × Int := if (chkN x).1 ≠ 0 then chkN x else if x.role = 2 then (11, 0) else if x.term = 1000000000 then (9, 0) else (0, 0)
def ledF (x : Nd) : Int × Int := if (chkN x).1 ≠ 0 then chkN x else if x.role ≠ 2 then (11, 0) else (0, 0)
def proF (x : Nd) (t : ByteArray) : Int × Int := if (ledF x).1 ≠ 0 then ledF x else if 200 < t.size then (8, 0) else if x.log.length = 100 then (2, 0) else (0, 0)

theorem stdF_z (x : Nd) : Fz (stdF x) := by
  unfold stdF
  split
  · exact chkN_z x
  split
  · intro h; simp at h
  split
  · intro h; simp at h
  · intro; rfl

theorem ledF_z (x : Nd) : Fz (ledF x) := by
  unfold ledF
  split
  · exact chkN_z x
  split
  · intro h; simp at h
  · intro; rfl

theorem proF_z (x : Nd) (t : ByteArray) : Fz (proF x t) := by
  unfold proF
  split
  · exact ledF_z x
  split
  · intro h; simp at h
  split
  · intro h; simp at h
  · intro; rfl

/-- The Term of a log's entry at a place, 0 at 0. -/
def trmE : Option Et → Int
  | some e => e.term
  | none => 0

def termP (l : List Et) : Nat → Int
  | 0 => 0
  | k + 1 => trmE l[k]?

theorem termP_last (l : List Et) : termP l l.length = lastT l := by
  cases h : l.length with
  | zero => rw [List.eq_nil_of_length_eq_zero h]; rfl
  | succ k =>
    obtain ⟨e, he⟩ : ∃ e, l[k]? = some e := ⟨_, List.getElem?_eq_getElem (by omega)⟩
    rw [lastT_at he h.symm, termP, he]
    rfl

/-- How many have a place. -/
def havN (l : List Int) (p : Int) : Nat := l.countP fun v => decide (p ≤ v)

/-- The greatest place up to k, above com, of its own term, that most have. -/
def coGo (x : Nd) : Nat → Int
  | 0 => x.com
  | k + 1 => if ((k + 1 : Nat) : Int) ≤ x.com then x.com else if termP x.log (k + 1) = x.term ∧ mostB (havN x.hav ((k + 1 : Nat) : Int)) x.n = true then ((k + 1 : Nat) : Int) else coGo x k

def Nd.count (x : Nd) : Nd := { x with com := coGo x x.log.length }
def Nd.follow (x : Nd) : Nd := { x with role := 0, votes := [], next := [], hav := [] }
def Nd.lead0 (x : Nd) : Nd := { x with role := 2, votes := [], next := List.replicate x.n.toNat ((x.log.length : Int) + 1), hav := (List.replicate x.n.toNat (0 : Int)).set x.id.toNat x.log.length }
def Nd.lead (x : Nd) : Nd := x.lead0.count
def putV (l : List Int) (x : Int) : List Int := if x ∈ l then l else l ++ [x]
def Nd.voted (x : Nd) (who : Int) : Nd := { x with votes := putV x.votes who }
def Nd.elect (x : Nd) (who : Int) : Nd := if mostB (putV x.votes who).length x.n = true then (x.voted who).lead else x.voted who
def Nd.stand0 (x : Nd) : Nd := { x with role := 1, votes := [], next := [], hav := [], term := x.term + 1, vote := x.id + 1 }
def Nd.stand (x : Nd) : Nd := x.stand0.elect x.id
def Nd.prop0 (x : Nd) (t : ByteArray) : Nd := { x with log := x.log ++ [⟨x.term, t⟩], hav := x.hav.set x.id.toNat ((x.log.length : Int) + 1), next := x.next.set x.id.toNat ((x.log.length : Int) + 1 + 1) }
def Nd.prop (x : Nd) (t : ByteArray) : Nd := (x.prop0 t).count
def Nd.rest (x : Nd) : Nd := { x.follow with com := 0 }
def Nd.hear (x : Nd) (t : Int) : Nd := if x.term < t then { x.follow with term := t, vote := 0 } else x

/-- A mail to each other one, in order. -/
def othGo (id : Int) (f : Nat → Ml) : Nat → List Ml
  | 0 => []
  | k + 1 => othGo id f k ++ if (k : Int) = id then [] else [f k]

def mailN (x : Nd) (kind : Int) (to_ : Nat) : Ml := ⟨kind, x.id, to_, x.term, 0, 0, 0, [], false⟩
def askM (x : Nd) (to_ : Nat) : Ml := { mailN x 1 to_ with a := x.log.length, b := lastT x.log }
def Nd.asks (x : Nd) : List Ml := othGo x.id (askM x) x.n.toNat
def nxA (x : Nd) (to_ : Nat) : Nat := ((x.next[to_]?).getD 1 - 1).toNat
def beatM (x : Nd) (to_ : Nat) : Ml := { mailN x 3 to_ with a := nxA x to_, b := termP x.log (nxA x to_), c := x.com, ents := (x.log.drop (nxA x to_)).take 5 }
def Nd.beats (x : Nd) : List Ml := othGo x.id (beatM x) x.n.toNat

/-- May a mail come to a node? -/
def sentB (x : Nd) (m : Ml) : Bool := wiB m.kind 1 4 && (decide (m.to_ = x.id) && (wiB m.frm 0 (x.n - 1) && !decide (m.frm = x.id)))
def numsB (m : Ml) : Bool := wiB m.term 1 1000000000 && (numL m.a && (numL m.b && numL m.c))
def brgB (m : Ml) : Bool := if m.ents.length = 0 then true else decide (m.kind = 3) && (decide (m.ents.length ≤ 5) && (decide ((chkE m.ents).1 = 0) && decide (lastT m.ents ≤ m.term)))
def takF (x : Nd) (m : Ml) : Int × Int := if (chkN x).1 ≠ 0 then chkN x else if sentB x m = false ∨ numsB m = false ∨ brgB m = false then (5, 0) else (0, 0)

theorem takF_z (x : Nd) (m : Ml) : Fz (takF x m) := by
  unfold takF
  split
  · exact chkN_z x
  split
  · intro h; simp at h
  · intro; rfl

def ansM (x : Nd) (m : Ml) (kind : Int) (ok : Bool) (a : Int) : List Ml := [⟨kind, x.id, m.frm, x.term, a, 0, 0, [], ok⟩]

/-- A log of n entries whose last Term is t is not older. -/
def notOldB (l : List Et) (n t : Int) : Bool := oldR' l n t || (decide (n = l.length) && decide (t = lastT l))
  where oldR' (l : List Et) (n t : Int) : Bool := if (oldF l n t).1 ≠ 0 then false else oldB l n t
def giveB (x : Nd) (m : Ml) : Bool := decide (m.term = x.term) && ((decide (x.vote = 0) || decide (x.vote = m.frm + 1)) && notOldB x.log m.a m.b)

/-- What a node is, and sends, behind a mail of each kind. -/
def t1N (x : Nd) (m : Ml) : Nd := if giveB x m = true then { x with vote := m.frm + 1 } else x
def t1M (x : Nd) (m : Ml) : List Ml := ansM x m 2 (giveB x m) 0
def t2N (x : Nd) (m : Ml) : Nd := if x.role ≠ 1 ∨ m.term ≠ x.term ∨ m.ok = false then x else x.elect m.frm
def t2M (x : Nd) (m : Ml) : List Ml := if x.role ≠ 1 ∨ m.term ≠ x.term ∨ m.ok = false then [] else if (x.elect m.frm).role = 2 then (x.elect m.frm).beats else []

instance instDecEt : DecidableEq Et := fun a b => decidable_of_iff (a.term = b.term ∧ a.text.data.toList = b.text.data.toList) (by
  obtain ⟨t, ⟨⟨x⟩⟩⟩ := a
  obtain ⟨u, ⟨⟨y⟩⟩⟩ := b
  simp)

/-- Would an entry up to Commit go? -/
def begB (l a : List Et) : Bool := decide (a.length ≤ l.length) && decide (l.take a.length = a)

inductive T3 where
  | old | leads | none | no | yes

def t3K (x : Nd) (m : Ml) : T3 :=
  if m.term < x.term then .old else if x.role = 2 then .leads
  else if (putX x.log m.a m.b m.ents).1 ≠ 0 then .none
  else if begB (putL x.log m.a m.b m.ents) (x.log.take x.com.toNat) = false then .none
  else if putI x.log m.a m.b m.ents = false then .no else .yes

def t3N (x : Nd) (m : Ml) : Nd := match t3K x m with
  | .old => x
  | .leads => x
  | .none => x.follow
  | .no => x.follow
  | .yes => { x.follow with log := putL x.log m.a m.b m.ents, com := max x.com (min m.c (m.a + m.ents.length)) }

def t3M (x : Nd) (m : Ml) : List Ml := match t3K x m with
  | .old => ansM x m 4 false 0
  | .leads => []
  | .none => []
  | .no => ansM x m 4 false (max 0 (min (m.a - 1) x.log.length))
  | .yes => ansM x m 4 true (m.a + m.ents.length)

def gI (l : List Int) (k : Int) : Int := (l[k.toNat]?).getD 0

def t4N (x : Nd) (m : Ml) : Nd :=
  if x.role ≠ 2 ∨ m.term ≠ x.term then x
  else if m.ok = false then { x with next := x.next.set m.frm.toNat (max (min (gI x.next m.frm - 1) (m.a + 1)) (gI x.hav m.frm + 1)) }
  else ({ x with hav := x.hav.set m.frm.toNat (max (gI x.hav m.frm) (min m.a x.log.length)), next := x.next.set m.frm.toNat (max (gI x.hav m.frm) (min m.a x.log.length) + 1) } : Nd).count

def Nd.take (x : Nd) (m : Ml) : Nd :=
  if m.kind = 1 then t1N (x.hear m.term) m else if m.kind = 2 then t2N (x.hear m.term) m else if m.kind = 3 then t3N (x.hear m.term) m else t4N (x.hear m.term) m
def Nd.sends (x : Nd) (m : Ml) : List Ml :=
  if m.kind = 1 then t1M (x.hear m.term) m else if m.kind = 2 then t2M (x.hear m.term) m else if m.kind = 3 then t3M (x.hear m.term) m else []

end Go.Proofs.Ytbffmdhogehfnaa

/-
  The walks over the court's small functions: goOn, has, isStep, take, putOnWay; slices.Delete of wishes and replies.
-/
namespace Go.Proofs.Ytbffmdhogehfnaa
open Go.RowKit
set_option linter.unusedVariables false

def iE : En Int 1 where
  v x := [.int .i64 x]
  len _ := rfl
  one p u hu := by
    simp only [List.mem_cons, List.not_mem_nil, or_false] at hu
    rcases hu with rfl
    rfl
  pos := by decide

def tE : En Tr 2 where
  v t := [.int .i64 t.ep, .int .i64 t.til]
  len _ := rfl
  one p u hu := by
    simp only [List.mem_cons, List.not_mem_nil, or_false] at hu
    rcases hu with rfl | rfl <;> rfl
  pos := by decide

def wsE : En Ws 3 where
  v t := [.int .i64 t.who, .int .i64 t.sent, .int .i64 t.ep]
  len _ := rfl
  one p u hu := by
    simp only [List.mem_cons, List.not_mem_nil, or_false] at hu
    rcases hu with rfl | rfl | rfl <;> rfl
  pos := by decide

def rpE : En Rp 3 where
  v t := [.int .i64 t.who, .int .i64 t.ep, .int .i64 t.til]
  len _ := rfl
  one p u hu := by
    simp only [List.mem_cons, List.not_mem_nil, or_false] at hu
    rcases hu with rfl | rfl | rfl <;> rfl
  pos := by decide

def ddE : En Dd 3 where
  v t := [.int .i64 t.kind, .int .i64 t.who, .int .i64 t.n]
  len _ := rfl
  one p u hu := by
    simp only [List.mem_cons, List.not_mem_nil, or_false] at hu
    rcases hu with rfl | rfl | rfl <;> rfl
  pos := by decide

/-- All but two blocks as it was. -/
structure Kp2 (w w' : World) (B : Nat) (o : Option Nat) : Prop where
  os : w'.os = w.os
  tape : w'.tape = w.tape
  output : w'.output = w.output
  size : w.heap.size ≤ w'.heap.size
  block : ∀ k, k < w.heap.size → k ≠ B → some k ≠ o → w'.heap[k]? = w.heap[k]?

theorem Kp2.below {w w' : World} {B : Nat} {o : Option Nat} (h : Kp2 w w' B o) {C : Nat} (hC : C ≤ w.heap.size) (hB : C ≤ B) (ho : ∀ k, o = some k → C ≤ k) : Below C w w' :=
  ⟨h.os, h.tape, h.output, h.size, fun k hk => h.block k (by omega) (by omega) (fun q => by have := ho k q.symm; omega)⟩

theorem Kp2.owns {w w' : World} {B : Nat} {o : Option Nat} (h : Kp2 w w' B o) {base : Nat} {e : TypeId} {K : Nat} {v : Value} {n : Nat} {xs : List Value} (hown : w.ownsRow base e K v n xs) (h1 : v.ownBlock ≠ some B) (h2 : v.ownBlock = none ∨ v.ownBlock ≠ o) : w'.ownsRow base e K v n xs := by
  refine ⟨hown.1, ?_⟩
  rcases hown.2 with hn | ⟨g, cap, cur, rfl, hb, hg, r⟩
  · exact .inl hn
  · refine .inr ⟨g, cap, cur, rfl, hb, ?_, r⟩
    rw [h.block g (Array.getElem?_eq_some_iff.1 hg).1 (fun q => h1 (by simp [Value.ownBlock, q])) (fun q => by
      rcases h2 with h2 | h2
      · simp [Value.ownBlock] at h2
      · exact h2 (by simp [Value.ownBlock, q]))]
    exact hg

theorem Kp2.blk {w w' : World} {B : Nat} {o : Option Nat} (h : Kp2 w w' B o) {C : Nat} {t : TypeId} {xs : Array Value} (hC : Blk w C t xs) (h1 : C ≠ B) (h2 : some C ≠ o) : Blk w' C t xs := by
  unfold Blk
  rw [h.block C hC.lt h1 h2]
  exact hC

theorem three_one : ∀ u ∈ (Value.agg #[.int .i64 0, .int .i64 0, .int .i64 0]).cells.toList, u.oneCell' = true := by
  intro u hu
  have hu' : u ∈ ([.int .i64 0, .int .i64 0, .int .i64 0] : List Value) := hu
  simp only [List.mem_cons, List.not_mem_nil, or_false] at hu'
  rcases hu' with rfl | rfl | rfl <;> rfl

theorem Kp2.of {w A w5 : World} {o : Option Nat} (hA : Below w.heap.size w A) (hg : A.grownBy w5 o) (B k : Nat) (v : Value) : Kp2 w (w5.setCell ⟨B, k, none⟩ v) B o := by
  have hs : (w5.setCell ⟨B, k, none⟩ v).heap.size = w5.heap.size := by simp
  refine ⟨hg.os.trans hA.os, hg.tape.trans hA.tape, hg.output.trans hA.output, ?_, fun j hj hB ho => ?_⟩
  · rw [hs]
    exact Nat.le_trans hA.size hg.size
  · rw [heap_setCell_other w5 ⟨B, k, none⟩ j v hB, hg.block j (Nat.lt_of_lt_of_le hj hA.size) ho, hA.block j hj]

theorem Kp2.past {w w' : World} {B : Nat} {o : Option Nat} (h : Kp2 w w' B o) {p : Addr} (hp : w.heap.size ≤ p.block) (u : Value) : Kp2 w (w'.setCell p u) B o := by
  have hs : (w'.setCell p u).heap.size = w'.heap.size := by simp
  refine ⟨h.os, h.tape, h.output, ?_, fun j hj hB ho => ?_⟩
  · rw [hs]; exact h.size
  · rw [heap_setCell_other w' p j u (by omega)]
    exact h.block j hj hB ho

theorem owns_shapeK {w : World} {base : Nat} {e : TypeId} {K : Nat} {v : Value} {n : Nat} {xs : List Value} (h : w.ownsRow base e K v n xs) : ∃ ao cap, v = .slice ao n cap := by
  rcases h.2 with ⟨rfl, hn⟩ | ⟨g, cap, cur, rfl, _⟩
  · exact ⟨none, 0, by rw [hn]⟩
  · exact ⟨_, _, rfl⟩

/-- An append's step inside a region: one is taken out of a row of one's own. -/
theorem step_within {α : Type} {K : Nat} {E : En α K} {P : Program} {w : World} {ops : Array Oper} {o : Oper} {a : Act} {KK : Act → World → Prop} {Q : Exit → Act → World → Prop} {EE : Prop} {s x : Operand} {base : Nat} {t e : TypeId} {z : Value} {bytes g n cap i c : Nat} {cs : List α} {ad : Addr}
    (hown : w.ownsRow base e K (.slice (some ⟨g, 0, none⟩) n cap) n (E.vs cs)) (ht : P.underlying t = some (.slice e)) (hinf : (P.info? e).map (fun i => (i.zero, i.size, i.bytes)) = some (some z, K, bytes)) (hi : i < n) (ha : i + 1 < n → ad = ⟨g, (i + 1) * K, none⟩)
    (hgd : o.guard = none) (ho : o.op = .call { callee := .builtin .append, args := #[s, x], argTypes := #[t, t] })
    (hs : a.eval s = .slice (some ⟨g, 0, none⟩) i cap) (hx : a.eval x = .slice (some ad) (n - (i + 1)) c)
    (h : ∀ w', w'.ownsRow base e K (.slice (some ⟨g, 0, none⟩) (n - 1) cap) (n - 1) (E.vs (cs.eraseIdx i)) → w.grownBy w' (some g) → KK (a.put o.dst (.slice (some ⟨g, 0, none⟩) (n - 1) cap)) w') :
    if Region.wanted o (yielded ops a.tmps) = true then Oper.wp P o a w KK Q else EE := by
  have hw : Region.wanted o (yielded ops a.tmps) = true := by simp [Region.wanted, hgd]
  rw [if_pos hw]
  obtain ⟨w', hr, h2, h3⟩ := run_append_within (ty := o.type) (c := c) ht hinf hown hi ha
  unfold Oper.wp execOp
  simp only [ho, resolve, invoke, builtin, Sem.run_bind, Sem.run_pure, Result.andThen_ok, List.map_toArray, List.map_cons, List.map_nil, hs, hx, hr]
  exact h w' h2 h3

def goOnC (x n : Int) : Int := if 900000000 < x + n then 9 else 0
def goOnW (w : World) (b off : Nat) (x n : Int) : World := if 900000000 < x + n then w else w.setCell ⟨b, off, none⟩ (.int .i64 (x + n))


/-- Is there an i-th one? -/
def hasN (l : Nat) (n : Int) : Bool := decide (0 ≤ n ∧ n < l)




def stepN (n : Int) : Bool := decide (0 ≤ n ∧ n ≤ 1000000)














end Go.Proofs.Ytbffmdhogehfnaa

/-
  One structure of a row of one's own is written anew: the world behind is a letter. Nothing of a program stands here.
-/
namespace Go.Proofs.Ytbffmdhogehfnaa
open Go.RowKit

section
variable {α : Type} {K : Nat} {E : En α K}

theorem vs_set (cs : List α) (k : Nat) (c : α) (hk : k < cs.length) : E.vs (cs.set k c) = E.vs (cs.take k) ++ E.v c ++ E.vs (cs.drop (k + 1)) := by
  rw [List.set_eq_take_append_cons_drop, if_pos hk, vs_append, vs_cons, List.append_assoc]

/-- The row behind the write. -/
theorem owns_storeAt {P : Program} {w : World} {base : Nat} {e ty : TypeId} {g n cap k : Nat} {cs : List α} {c : α} {xs : Array Value}
    (hown : w.ownsRow base e K (.slice (some ⟨g, 0, none⟩) n cap) n (E.vs cs)) (hk : k < n) (hxs : xs.toList = E.v c) (hi : (P.info? ty).map (·.size) = some K) :
    ∃ w', (Instr.storeAt ty (.pointer (some ⟨g, k * K, none⟩)) (.agg xs)).run P w = .ok () w' ∧ w'.ownsRow base e K (.slice (some ⟨g, 0, none⟩) n cap) n (E.vs (cs.set k c)) ∧ w.grownBy w' (some g) := by
  obtain ⟨g', cap', cur, hv, hb, hg, hnc, hcm, hcs, htake⟩ := owns_pos hown (by omega)
  simp only [Value.slice.injEq, Option.some.injEq, Addr.mk.injEq] at hv
  obtain ⟨⟨rfl, -, -⟩, -, rfl⟩ := hv
  have hl : cs.length = n := owns_len hown
  have hkk : k * K + K ≤ n * K := by rw [← Nat.succ_mul]; exact Nat.mul_le_mul_right _ hk
  have hmc : n * K ≤ cap * K := Nat.mul_le_mul_right _ hnc
  have hvl : (E.v c).length = K := E.len c
  have hst := run_storeCells_at P g (k * K) e (E.v c) 0 cur w hg (by rw [hvl, hcs]; omega) (E.one c)
  simp only [Nat.add_zero, hvl] at hst
  have h1 : cur.toList.take (k * K) = E.vs (cs.take k) := by
    rw [← vs_take, ← htake, List.take_take, Nat.min_eq_left (by omega)]
  have h1l : (cur.toList.take (k * K)).length = k * K := by rw [List.length_take, Array.length_toList, hcs]; omega
  have key := owns_setRow (K := K) (w := w) (xs := E.vs (cs.set k c)) (n := n) (new := (cur.toList.take (k * K) ++ E.v c ++ cur.toList.drop (k * K + K)).toArray) hb hg hnc hcm ?_ ?_ ?_
  · refine ⟨_, ?_, key.1, key.2⟩
    cases hq : P.info? ty with
    | none => simp [hq] at hi
    | some i =>
      have hs : i.size = K := by simpa [hq] using hi
      have hz : xs.size = K := by rw [← Array.length_toList, hxs, hvl]
      simp [Instr.storeAt, Instr.sureAddr, storeVar, sizeOf, typeInfo, hq, hs, Value.cells, hz, hxs, hst]
  · simp only [List.size_toArray, List.length_append, h1l, hvl, List.length_drop, Array.length_toList, hcs]
    omega
  · have h2 : (cur.toList.take (k * K) ++ E.v c).length = k * K + K := by rw [List.length_append, h1l, hvl]
    simp only
    rw [List.take_append, h2, List.take_of_length_le (by rw [h2]; omega), h1, vs_set cs k c (by omega)]
    congr 1
    rw [← vs_drop, ← htake, List.drop_take, Nat.succ_mul]
  · rw [vs_length, List.length_set, hl]

/-- A structure into its place of a row of one's own. -/
theorem wpList_store_own {P : Program} {ops : Array Oper} {rest : List Oper} {op : Oper} {a : Act} {w : World} {Q : Exit → Act → World → Prop} {ty : TypeId} {x y : Operand} {base : Nat} {e : TypeId} {g n cap k off : Nat} {cs : List α} {c : α} {xs : Array Value}
    (hown : w.ownsRow base e K (.slice (some ⟨g, 0, none⟩) n cap) n (E.vs cs)) (hk : k < n) (hxs : xs.toList = E.v c) (hoff : off = k * K)
    (hgd : op.guard = none) (ho : op.op = .store ty x y) (hx : a.eval x = .pointer (some ⟨g, off, none⟩)) (hy : a.eval y = .agg xs) (hi : (P.info? ty).map (·.size) = some K)
    (h : ∀ w', w'.ownsRow base e K (.slice (some ⟨g, 0, none⟩) n cap) n (E.vs (cs.set k c)) → w.grownBy w' (some g) → wpList P ops Q rest (a.put op.dst undef) w') : wpList P ops Q (op :: rest) a w :=
  wpList_plain hgd fun _ hK => by
    subst hoff
    obtain ⟨w', hr, h1, h2⟩ := owns_storeAt (ty := ty) (P := P) hown hk hxs hi
    unfold Oper.wp execOp
    simp only [ho, hx, hy, hr, Sem.run_bind, Sem.run_pure, Result.andThen_ok]
    exact hK _ _ (h _ h1 h2)

end

end Go.Proofs.Ytbffmdhogehfnaa

/-
  Rows of one's own, told apart by labels of their blocks. Nothing of a program stands here.
-/
namespace Go.Proofs.Ytbffmdhogehfnaa
open Go.RowKit
set_option linter.unusedVariables false

section
variable {L : Type} {z : L}

/-- Blocks that are not laid yet have the label z. -/
def LbOk (z : L) (w : World) (lab : Nat → L) : Prop := ∀ g, w.heap.size ≤ g → lab g = z

/-- A row of one's own with a label. -/
def Row (w : World) (lab : Nat → L) (i : L) (e : TypeId) (K : Nat) (v : Value) (n : Nat) (xs : List Value) : Prop :=
  w.ownsRow 0 e K v n xs ∧ ∀ g, v.ownBlock = some g → lab g = i

/-- Structures that are read, in a block of the label z. -/
def Rd0 {α : Type} {K : Nat} (z : L) (E : En α K) (w : World) (lab : Nat → L) (v : Value) (xs : List α) : Prop :=
  RdG E w v xs ∧ ∀ a n c, v = .slice (some a) n c → xs ≠ [] → lab a.block = z

/-- From one world to another: blocks whose label is not in S stay as they are, and all labels do. -/
structure Chg (z : L) (w w' : World) (lab lab' : Nat → L) (S : L → Prop) : Prop where
  os : w'.os = w.os
  tape : w'.tape = w.tape
  output : w'.output = w.output
  size : w.heap.size ≤ w'.heap.size
  block : ∀ k, k < w.heap.size → ¬ S (lab k) → w'.heap[k]? = w.heap[k]?
  labs : ∀ k, k < w.heap.size → lab' k = lab k
  ok : LbOk z w' lab'

theorem LbOk.mono {w w' : World} {lab : Nat → L} (h : LbOk z w lab) (hs : w.heap.size ≤ w'.heap.size) : LbOk z w' lab := fun g hg => h g (Nat.le_trans hs hg)

theorem Chg.refl (w : World) (lab : Nat → L) (S : L → Prop) (h : LbOk z w lab) : Chg z w w lab lab S :=
  ⟨rfl, rfl, rfl, Nat.le_refl _, fun _ _ _ => rfl, fun _ _ => rfl, h⟩

theorem Chg.trans {w w1 w2 : World} {lab lab1 lab2 : Nat → L} {S : L → Prop} (h : Chg z w w1 lab lab1 S) (h2 : Chg z w1 w2 lab1 lab2 S) : Chg z w w2 lab lab2 S :=
  ⟨h2.os.trans h.os, h2.tape.trans h.tape, h2.output.trans h.output, Nat.le_trans h.size h2.size,
   fun k hk hn => (h2.block k (Nat.lt_of_lt_of_le hk h.size) (by rw [h.labs k hk]; exact hn)).trans (h.block k hk hn),
   fun k hk => (h2.labs k (Nat.lt_of_lt_of_le hk h.size)).trans (h.labs k hk), h2.ok⟩

theorem Chg.mono {w w1 : World} {lab lab1 : Nat → L} {S T : L → Prop} (h : Chg z w w1 lab lab1 S) (hS : ∀ i, S i → T i) : Chg z w w1 lab lab1 T :=
  ⟨h.os, h.tape, h.output, h.size, fun k hk hn => h.block k hk (fun q => hn (hS _ q)), h.labs, h.ok⟩

/-- New memory alone. -/
theorem Chg.below {w w' : World} {lab : Nat → L} (S : L → Prop) (hl : LbOk z w lab) (h : Below w.heap.size w w') : Chg z w w' lab lab S :=
  ⟨h.os, h.tape, h.output, h.size, fun k hk _ => h.block k hk, fun _ _ => rfl, hl.mono h.size⟩

/-- A block of a label is written. -/
theorem Chg.grown {w w' : World} {lab : Nat → L} {g : Nat} {S : L → Prop} (hl : LbOk z w lab) (h : w.grownBy w' (some g)) (hS : S (lab g)) : Chg z w w' lab lab S :=
  ⟨h.os, h.tape, h.output, h.size, fun k hk hn => h.block k hk (fun q => by cases q; exact hn hS), fun _ _ => rfl, hl.mono h.size⟩

/-- The labels behind an append. -/
def labTo [DecidableEq L] (lab : Nat → L) (o : Option Nat) (i : L) : Nat → L := fun k => if o = some k then i else lab k

/-- A row grows. -/
theorem Chg.row [DecidableEq L] {w w' : World} {lab : Nat → L} {v v' : Value} {i : L} {S : L → Prop} (hl : LbOk z w lab) (hv : ∀ g, v.ownBlock = some g → lab g = i) (h : w.grownBy w' v.ownBlock) (hS : S i)
    (hp : v'.ownBlock = v.ownBlock ∨ ∃ b, v'.ownBlock = some b ∧ w.heap.size ≤ b) (hlt : ∀ g, v'.ownBlock = some g → g < w'.heap.size) : Chg z w w' lab (labTo lab v'.ownBlock i) S := by
  refine ⟨h.os, h.tape, h.output, h.size, fun k hk hn => h.block k hk (fun q => hn (by rw [hv k q.symm]; exact hS)), fun k hk => ?_, fun g hg => ?_⟩
  · unfold labTo
    split
    · rename_i q
      rcases hp with hp | ⟨b, hp, hb⟩
      · rw [hp] at q; exact (hv k q).symm
      · rw [hp] at q; cases q; omega
    · rfl
  · unfold labTo
    split
    · rename_i q
      have := hlt g q
      omega
    · exact hl g (Nat.le_trans h.size hg)

theorem ownBlock_lt {w : World} {base : Nat} {e : TypeId} {K : Nat} {v : Value} {n : Nat} {xs : List Value} (h : w.ownsRow base e K v n xs) : ∀ g, v.ownBlock = some g → g < w.heap.size := fun g hg => (h.lt g hg).2

theorem Row.keep {w w' : World} {lab lab' : Nat → L} {S : L → Prop} {i : L} {e : TypeId} {K : Nat} {v : Value} {n : Nat} {xs : List Value} (h : Row w lab i e K v n xs) (hc : Chg z w w' lab lab' S) (hS : ¬ S i) : Row w' lab' i e K v n xs := by
  obtain ⟨h1, h2⟩ := h
  refine ⟨⟨h1.1, ?_⟩, fun g hg => ?_⟩
  · rcases h1.2 with hn | ⟨g, cap, cur, rfl, hb, hg, r⟩
    · exact .inl hn
    · have hlt : g < w.heap.size := (Array.getElem?_eq_some_iff.1 hg).1
      refine .inr ⟨g, cap, cur, rfl, hb, ?_, r⟩
      rw [hc.block g hlt (by rw [h2 g (by simp [Value.ownBlock])]; exact hS)]
      exact hg
  · rw [hc.labs g (ownBlock_lt h1 g hg)]
    exact h2 g hg

theorem Rd0.keep {α : Type} {K : Nat} {E : En α K} {w w' : World} {lab lab' : Nat → L} {S : L → Prop} {v : Value} {xs : List α} (h : Rd0 z E w lab v xs) (hc : Chg z w w' lab lab' S) (hS : ¬ S z) : Rd0 z E w' lab' v xs := by
  obtain ⟨h1, h2⟩ := h
  obtain ⟨ao, cap, rfl, k1, k2, k3, k4⟩ := h1
  have hblk : ∀ (a : Addr), ao = some a → xs ≠ [] → a.block < w.heap.size := by
    intro a ha hne
    have hp : 0 < (E.vs xs).length := by
      rw [vs_length]
      exact Nat.mul_pos (List.length_pos_iff.2 hne) E.pos
    have h0 := k4 a ha 0 (E.vs xs)[0] (by simp)
    have e : (a.add 0).block = a.block := by unfold Addr.add; split <;> rfl
    rw [← e]
    exact World.block_lt_of_cell? w _ h0
  refine ⟨⟨ao, cap, rfl, k1, k2, k3, fun a ha j u hu => ?_⟩, fun a n c hv hne => ?_⟩
  · have hne : xs ≠ [] := by
      rintro rfl
      simp [En.vs] at hu
    have hc0 := k4 a ha j u hu
    have e : (a.add j).block = a.block := by unfold Addr.add; split <;> rfl
    rw [← hc0]
    refine World.cell?_of_block ?_
    rw [e]
    exact hc.block _ (hblk a ha hne) (by rw [h2 a _ _ (by rw [ha]) hne]; exact hS)
  · simp only [Value.slice.injEq] at hv
    rw [hc.labs _ (hblk a hv.1 hne)]
    exact h2 a _ _ (by rw [hv.1]) hne

/-- What is new has the label z. -/
theorem Rd0.new {α : Type} {K : Nat} {E : En α K} {w w' : World} {lab : Nat → L} {base : Nat} {e : TypeId} {v : Value} {n : Nat} {xs : List α} (hl : LbOk z w lab) (h : w'.ownsRow base e K v n (E.vs xs)) (hb : w.heap.size ≤ base) : Rd0 z E w' lab v xs := by
  refine ⟨RdG.ofOwns h, fun a m c hv _ => ?_⟩
  rcases h.2 with ⟨h1, _⟩ | ⟨g, cap, cur, h1, hg, _⟩
  · rw [h1] at hv; cases hv
  · rw [h1] at hv
    cases hv
    exact hl _ (by show w.heap.size ≤ g; omega)

theorem Blk.keep {w w' : World} {lab lab' : Nat → L} {S : L → Prop} {B : Nat} {t : TypeId} {xs : Array Value} (h : Blk w B t xs) (hc : Chg z w w' lab lab' S) (hS : ¬ S (lab B)) : Blk w' B t xs := by
  unfold Blk
  rw [hc.block B h.lt hS]
  exact h

/-- A row that grew. -/
theorem Row.grew [DecidableEq L] {w' : World} {lab : Nat → L} {i : L} {e : TypeId} {K : Nat} {v' : Value} {n : Nat} {xs : List Value} (h : w'.ownsRow 0 e K v' n xs) : Row w' (labTo lab v'.ownBlock i) i e K v' n xs :=
  ⟨h, fun g hg => by unfold labTo; rw [if_pos hg]⟩

/-- A row, while nothing of its label is written. -/
theorem Row.same {w w' : World} {lab : Nat → L} {i : L} {e : TypeId} {K : Nat} {v : Value} {n : Nat} {xs ys : List Value} (h : Row w lab i e K v n xs) (h2 : w'.ownsRow 0 e K v n ys) : Row w' lab i e K v n ys := ⟨h2, h.2⟩

/-- Two rows of two labels lie in two blocks. -/
theorem Row.ne {w : World} {lab : Nat → L} {i j : L} {e e2 : TypeId} {K K2 : Nat} {v v2 : Value} {n n2 : Nat} {xs ys : List Value} (h : Row w lab i e K v n xs) (h2 : Row w lab j e2 K2 v2 n2 ys) (hij : i ≠ j) : v.ownBlock = none ∨ v.ownBlock ≠ v2.ownBlock := by
  cases hv : v.ownBlock with
  | none => exact .inl rfl
  | some g =>
    right
    intro q
    exact hij ((h.2 g hv).symm.trans (h2.2 g q.symm))

theorem Below.ofChg {w w' : World} {lab lab' : Nat → L} {S : L → Prop} {C : Nat} (hc : Chg z w w' lab lab' S) (hl : ∀ k, k < C → ¬ S (lab k)) (hC : C ≤ w.heap.size) : Below C w w' :=
  ⟨hc.os, hc.tape, hc.output, hc.size, fun k hk => hc.block k (by omega) (hl k hk)⟩

end

end Go.Proofs.Ytbffmdhogehfnaa

/-
  Appends, with the place where the row lies then; stores into places of rows. Nothing of a program stands here.
-/
namespace Go.Proofs.Ytbffmdhogehfnaa
open Go.RowKit Go.Maps
set_option linter.unusedVariables false

/-- Where a row lies behind an append. -/
def OnAt (w : World) (v v' : Value) : Prop := v'.ownBlock = v.ownBlock ∨ ∃ b, v'.ownBlock = some b ∧ w.heap.size ≤ b

theorem run_append_rdAt {α : Type} {K : Nat} {E : En α K} {P : Program} {w : World} {t ty : TypeId} {base : Nat} {e : TypeId} {z : Value} {bytes : Nat} {v : Value} {n : Nat} {cs : List α} {vx : Value} {news : List α}
    (hown : w.ownsRow base e K v n (E.vs cs)) (hrd : RdG E w vx news)
    (ht : P.underlying t = some (.slice e)) (hinf : (P.info? e).map (fun i => (i.zero, i.size, i.bytes)) = some (some z, K, bytes)) (hzs : z.cells.size = K)
    (h63 : n + news.length ≤ 1000000000) (hbytes : bytes ≤ 128) (hbase : base ≤ w.heap.size) :
    ∃ v' w', (Builtin.append_ #[t, t] ty #[v, vx]).run P w = .ok v' w' ∧ w'.ownsRow base e K v' (n + news.length) (E.vs (cs ++ news)) ∧ w.grownBy w' v.ownBlock ∧ OnAt w v v' := by
  obtain ⟨i, hi, hz, hsize, hby⟩ := info_parts hinf
  have hbytes' : (n + news.length) * bytes ≤ 1000000000 * 128 := Nat.mul_le_mul h63 hbytes
  obtain ⟨ao, cap, hvx, h2, h3, h4, h5⟩ := hrd
  subst hvx
  cases ao with
  | none =>
    have hc := h4 rfl
    have hnews : news = [] := List.eq_nil_of_length_eq_zero (by omega)
    subst hnews
    subst hc
    exact ⟨v, w, run_append_owned_none w base t ty e i K ht hi v n _ hown, by simpa using hown, World.grownBy.refl _ _, .inl rfl⟩
  | some ad =>
    obtain ⟨v', w', hr, ho', hg', _, hloc⟩ := run_append_own_at (P := P) (w := w) base t ty e i z K bytes ht hi hz hsize hby hzs E.pos v n (E.vs cs) hown ad news.length cap (E.vs news) (vs_length _) (h5 ad rfl) (vs_one _) (by simp [maxLen]; omega) (by omega) hbase
    rw [← vs_append] at ho'
    exact ⟨v', w', hr, ho', hg', hloc.elim .inl (fun q => .inr ⟨_, q, Nat.le_refl _⟩)⟩

/-- The same as a step of a region that draws its order. -/
theorem step_append_rdAt {α : Type} {K : Nat} {E : En α K} {P : Program} {w : World} {ops : Array Oper} {o : Oper} {a : Act} {KK : Act → World → Prop} {Q : Exit → Act → World → Prop} {EE : Prop} {s x : Operand} {t : TypeId} {base : Nat} {e : TypeId} {z : Value} {bytes : Nat} {v : Value} {n : Nat} {cs : List α} {vx : Value} {news : List α}
    (hown : w.ownsRow base e K v n (E.vs cs)) (hrd : RdG E w vx news)
    (ht : P.underlying t = some (.slice e)) (hinf : (P.info? e).map (fun i => (i.zero, i.size, i.bytes)) = some (some z, K, bytes)) (hzs : z.cells.size = K)
    (hgd : o.guard = none) (ho : o.op = .call { callee := .builtin .append, args := #[s, x], argTypes := #[t, t] })
    (hs : a.eval s = v) (hx : a.eval x = vx) (h63 : n + news.length ≤ 1000000000) (hbytes : bytes ≤ 128) (hbase : base ≤ w.heap.size)
    (h : ∀ v' w', w'.ownsRow base e K v' (n + news.length) (E.vs (cs ++ news)) → w.grownBy w' v.ownBlock → OnAt w v v' → KK (a.put o.dst v') w') :
    if Region.wanted o (yielded ops a.tmps) = true then Oper.wp P o a w KK Q else EE := by
  have hw : Region.wanted o (yielded ops a.tmps) = true := by simp [Region.wanted, hgd]
  rw [if_pos hw]
  obtain ⟨v', w', hr, h2, h3, h4⟩ := run_append_rdAt (ty := o.type) hown hrd ht hinf hzs h63 hbytes hbase
  unfold Oper.wp execOp
  simp only [ho, resolve, invoke, builtin, Sem.run_bind, Sem.run_pure, Result.andThen_ok, List.map_toArray, List.map_cons, List.map_nil, hs, hx, hr]
  exact h v' w' h2 h3 h4

/-- And in a plain region. -/
theorem wpList_append_rdAt {α : Type} {K : Nat} {E : En α K} {P : Program} {w : World} {ops : Array Oper} {rest : List Oper} {o : Oper} {a : Act} {Q : Exit → Act → World → Prop} {s x : Operand} {t : TypeId} {base : Nat} {e : TypeId} {z : Value} {bytes : Nat} {v : Value} {n : Nat} {cs : List α} {vx : Value} {news : List α}
    (hown : w.ownsRow base e K v n (E.vs cs)) (hrd : RdG E w vx news)
    (ht : P.underlying t = some (.slice e)) (hinf : (P.info? e).map (fun i => (i.zero, i.size, i.bytes)) = some (some z, K, bytes)) (hzs : z.cells.size = K)
    (hgd : o.guard = none) (ho : o.op = .call { callee := .builtin .append, args := #[s, x], argTypes := #[t, t] })
    (hs : a.eval s = v) (hx : a.eval x = vx) (h63 : n + news.length ≤ 1000000000) (hbytes : bytes ≤ 128) (hbase : base ≤ w.heap.size)
    (h : ∀ v' w', w'.ownsRow base e K v' (n + news.length) (E.vs (cs ++ news)) → w.grownBy w' v.ownBlock → OnAt w v v' → wpList P ops Q rest (a.put o.dst v') w') : wpList P ops Q (o :: rest) a w :=
  wpList_plain hgd fun _ hK => by
    obtain ⟨v', w', hr, h2, h3, h4⟩ := run_append_rdAt (ty := o.type) hown hrd ht hinf hzs h63 hbytes hbase
    unfold Oper.wp execOp
    simp only [ho, resolve, invoke, builtin, Sem.run_bind, Sem.run_pure, Result.andThen_ok, List.map_toArray, List.map_cons, List.map_nil, hs, hx, hr]
    exact hK _ _ (h v' w' h2 h3 h4)

/-- A structure into its place of a row of one's own, in a region that draws its order. -/
theorem step_store_own {α : Type} {K : Nat} {E : En α K} {P : Program} {w : World} {ops : Array Oper} {o : Oper} {a : Act} {KK : Act → World → Prop} {Q : Exit → Act → World → Prop} {EE : Prop} {ty : TypeId} {x y : Operand} {base : Nat} {e : TypeId} {g n cap k off : Nat} {cs : List α} {c : α} {xs : Array Value}
    (hown : w.ownsRow base e K (.slice (some ⟨g, 0, none⟩) n cap) n (E.vs cs)) (hk : k < n) (hxs : xs.toList = E.v c) (hoff : off = k * K)
    (hgd : o.guard = none) (ho : o.op = .store ty x y) (hx : a.eval x = .pointer (some ⟨g, off, none⟩)) (hy : a.eval y = .agg xs) (hi : (P.info? ty).map (·.size) = some K)
    (h : ∀ w', w'.ownsRow base e K (.slice (some ⟨g, 0, none⟩) n cap) n (E.vs (cs.set k c)) → w.grownBy w' (some g) → KK (a.put o.dst undef) w') :
    if Region.wanted o (yielded ops a.tmps) = true then Oper.wp P o a w KK Q else EE := by
  have hw : Region.wanted o (yielded ops a.tmps) = true := by simp [Region.wanted, hgd]
  rw [if_pos hw]
  subst hoff
  obtain ⟨w', hr, h1, h2⟩ := owns_storeAt (ty := ty) (P := P) hown hk hxs hi
  unfold Oper.wp execOp
  simp only [ho, hx, hy, hr, Sem.run_bind, Sem.run_pure, Result.andThen_ok]
  exact h w' h1 h2

/-- One place of a structure of a row of one's own is written: the structure is another one. -/
theorem owns_setField {α : Type} {K : Nat} {E : En α K} {w : World} {base : Nat} {e : TypeId} {g n cap j k : Nat} {cs : List α} {c c' : α} {u : Value} (h : w.ownsRow base e K (.slice (some ⟨g, 0, none⟩) n cap) n (E.vs cs)) (hj : cs[j]? = some c) (hk : k < K) (hu : E.v c' = (E.v c).set k u) :
    (w.setCell ⟨g, j * K + k, none⟩ u).ownsRow base e K (.slice (some ⟨g, 0, none⟩) n cap) n (E.vs (cs.set j c')) := by
  have h1 := owns_setCell h (j * K + k) u
  have e1 : (E.vs cs).set (j * K + k) u = E.vs (cs.set j c') := by
    obtain ⟨hl, rfl⟩ := List.getElem?_eq_some_iff.1 hj
    apply List.ext_getElem?
    intro i
    rw [vs_set cs j c' hl, hu]
    have el : E.vs cs = E.vs (cs.take j) ++ E.v cs[j] ++ E.vs (cs.drop (j + 1)) := by
      have := vs_set (E := E) cs j cs[j] hl
      rw [List.set_getElem_self] at this
      exact this
    rw [el]
    have l1 : (E.vs (cs.take j)).length = j * K := by rw [vs_length, List.length_take, Nat.min_eq_left (by omega)]
    have l2 : (E.v cs[j]).length = K := E.len _
    rw [List.set_append, if_pos (by rw [List.length_append, l1, l2]; omega), List.set_append, if_neg (by rw [l1]; omega), l1, Nat.add_sub_cancel_left]
  rw [← e1]
  exact h1

end Go.Proofs.Ytbffmdhogehfnaa

/-
  The walks over package raft's small functions. (Written by rw1.py.)
-/
namespace Go.Proofs.Ytbffmdhogehfnaa
open Go.RowKit
set_option linter.unusedVariables false

theorem Try.sizeNode : (Try.prog.info? 25).map (·.size) = some 10 := by kernel_rfl

theorem Try.sizeFaultR : (Try.prog.info? 30).map (·.size) = some 2 := by kernel_rfl

/-- A node as a value. -/
def ndA (x : Nd) (lv vv nv hv : Value) : Array Value := #[.int .i64 x.n, .int .i64 x.id, .int .i64 x.term, .int .i64 x.vote, lv, .int .i64 x.role, .int .i64 x.com, vv, nv, hv]

def ndV (x : Nd) (lv vv nv hv : Value) : Value := .agg (ndA x lv vv nv hv)

/-- A node's lists, as they are read. -/
structure RdNd (w : World) (x : Nd) (lv vv nv hv : Value) : Prop where
  log : RdG eE w lv x.log
  votes : RdG iE w vv x.votes
  next : RdG iE w nv x.next
  hav : RdG iE w hv x.hav

theorem RdNd.below {w w' : World} {x : Nd} {lv vv nv hv : Value} (h : RdNd w x lv vv nv hv) (hb : Below w.heap.size w w') : RdNd w' x lv vv nv hv :=
  ⟨h.log.below hb, h.votes.below hb, h.next.below hb, h.hav.below hb⟩

theorem RdG.hereI {w : World} {ao : Option Addr} {n cap : Nat} {zs : List Int} (h : RdG iE w (.slice ao n cap) zs) {i : Nat} {x : Int} (hi : zs[i]? = some x) :
    ∃ b off, ao = some ⟨b, off, none⟩ ∧ b < w.heap.size ∧ w.cell? ⟨b, off + i, none⟩ = some (.int .i64 x) := by
  obtain ⟨b, off, e, hb, hat⟩ := h.here hi
  have := hat 0 _ rfl
  rw [Nat.mul_one, Nat.add_zero] at this
  exact ⟨b, off, e, hb, this⟩

theorem drop_consN {α : Type} {l : List α} {i : Nat} {x : α} (h : l[i]? = some x) : l.drop i = x :: l.drop (i + 1) := by
  obtain ⟨hl, rfl⟩ := List.getElem?_eq_some_iff.1 h
  exact List.drop_eq_getElem_cons hl

set_option maxRecDepth 100000 in
theorem isWithin_any (n a b : Int) (w : World) : Calls Try.prog 55 #[.int .i64 n, .int .i64 a, .int .i64 b] w fun e w' => e = .returned (.bool (wiB n a b)) ∧ w' = w := by
  have HE : Hid (wiB n a b = decide (a ≤ n ∧ n ≤ b)) := hide rfl
  by_cases h1 : a ≤ n
  · have hd : decide (a ≤ n) = true := by simpa using h1
    go_enter Try.func55, Try.ntmps55
    go_wp2_with fail
    go_ret
    exact ⟨by rw [HE.out]; simp [h1], rfl⟩
  · have hd : decide (a ≤ n) = false := by simpa using h1
    go_enter Try.func55, Try.ntmps55
    go_wp2_with fail
    go_ret
    exact ⟨by rw [HE.out]; simp; omega, rfl⟩

set_option maxRecDepth 100000 in
theorem isNode_any (v n : Int) (w : World) (hn : 0 ≤ n) (hm : n ≤ 1000) : Calls Try.prog 56 #[.int .i64 v, .int .i64 n] w fun e w' => e = .returned (.bool (wiB v 0 (n - 1))) ∧ w' = w := by
  have h1 : IntKind.i64.wrap (n - 1) = n - 1 := by rw [IntKind.wrap_i64]; omega
  go_enter Try.func56, Try.ntmps56
  go_wp2_with (go_at_call 55; refine (isWithin_any v 0 (n - 1) _).mono ?_; rintro e w1 ⟨rfl, rfl⟩)
  go_ret
  exact ⟨rfl, rfl⟩

set_option maxRecDepth 100000 in
theorem areMost_any (k : Nat) (n : Int) (w : World) (hn : 0 ≤ n) (hm : n ≤ 1000) : Calls Try.prog 60 #[.int .i64 k, .int .i64 n] w fun e w' => e = .returned (.bool (mostB k n)) ∧ w' = w := by
  have HE : Hid (mostB k n = decide (n / 2 < (k : Int))) := hide rfl
  have h0 : n.tdiv 2 = n / 2 := Int.tdiv_eq_ediv_of_nonneg hn
  generalize hp : n / 2 = p at *
  have h1 : IntKind.i64.wrap p = p := by rw [IntKind.wrap_i64]; omega
  go_enter Try.func60, Try.ntmps60
  go_wp2_with fail
  go_ret
  exact ⟨by rw [HE.out]; rfl, rfl⟩

set_option maxRecDepth 100000 in
set_option maxHeartbeats 1000000 in
theorem termAt_any (v : Value) (l : List Et) (k : Nat) (A : Int) (w : World) (hv : RdG eE w v l) (hA : A = k) (hk : k ≤ l.length) :
    Calls Try.prog 69 #[v, .int .i64 A] w fun e w' => e = .returned (.int .i64 (termP l k)) ∧ w' = w := by
  obtain ⟨ao, cap, rfl, hc1, hc2⟩ := hv.shape
  unfold maxLen at hc2
  subst hA
  cases k with
  | zero =>
    clear hv
    show Calls Try.prog 69 #[.slice ao l.length cap, .int .i64 0] w _
    go_enter Try.func69, Try.ntmps69
    go_wp2_with fail
    go_ret
    exact ⟨rfl, rfl⟩
  | succ k =>
    have h1 : IntKind.i64.wrap (((k + 1 : Nat) : Int) - 1) = (k : Int) := by rw [IntKind.wrap_i64]; omega
    obtain ⟨A, hA⟩ : ∃ A : Int, A = ((k + 1 : Nat) : Int) := ⟨_, rfl⟩
    rw [← hA] at h1 ⊢
    have h0 : (A == 0) = false := by simp; omega
    obtain ⟨x, hx⟩ : ∃ x, l[k]? = some x := ⟨_, List.getElem?_eq_getElem (by omega)⟩
    have HE := hide (show termP l (k + 1) = x.term by rw [termP, hx]; rfl)
    obtain ⟨b, off, rfl, hb, hat⟩ := hv.here hx
    obtain ⟨q0, q1⟩ := hat.ent
    have h2 : (0 : Int) ≤ (k : Int) := by omega
    have h3 : (k : Int) < (l.length : Int) := by omega
    clear hv hat hx hA
    go_enter Try.func69, Try.ntmps69
    go_wp2_with fail
    go_ret
    exact ⟨by rw [HE.out]; rfl, rfl⟩

set_option maxRecDepth 100000 in
theorem rLast_any (v : Value) (l : List Et) (w : World) (hv : RdG eE w v l) :
    Calls Try.prog 59 #[v] w fun e w' => e = .returned (.int .i64 (lastT l)) ∧ w' = w := by
  have HT := hide (termAt_any v l l.length l.length w hv rfl (Nat.le_refl _))
  rw [termP_last] at HT
  obtain ⟨ao, cap, rfl, hc1, hc2⟩ := hv.shape
  clear hv
  go_enter Try.func59, Try.ntmps59
  go_wp2_with (go_at_call 69; refine HT.out.mono ?_; rintro e w1 ⟨rfl, rfl⟩)
  go_ret
  exact ⟨rfl, rfl⟩

set_option maxRecDepth 100000 in
set_option maxHeartbeats 4000000 in
theorem rNumbers_any (x : Nd) (lv vv nv hv : Value) (w : World) (hx : RdNd w x lv vv nv hv) :
    Calls Try.prog 26 #[ndV x lv vv nv hv] w fun e w' => e = .returned (flt (nmF x)) ∧ Below w.heap.size w w' := by
  obtain ⟨n, id, te, vo, lo, ro, co, vs, ns, hs⟩ := x
  obtain ⟨h1, h2, h3, h4⟩ := hx
  simp only at h1 h2 h3 h4
  obtain ⟨ao, cap, rfl, hc1, hc2⟩ := h1.shape
  obtain ⟨bo, cap2, rfl, _, _⟩ := h2.shape
  obtain ⟨no, cap3, rfl, _, _⟩ := h3.shape
  obtain ⟨ho, cap4, rfl, _, _⟩ := h4.shape
  clear h1 h2 h3 h4
  unfold ndV ndA
  have HF : Hid (nmF ⟨n, id, te, vo, lo, ro, co, vs, ns, hs⟩ = if wiB n 1 7 = false ∨ wiB id 0 (n - 1) = false then (3, -1) else if numL te = false ∨ wiB vo 0 n = false ∨ wiB ro 0 2 = false ∨ wiB co 0 lo.length = false then (3, -2) else (0, 0)) := hide rfl
  cases b1 : wiB n 1 7
  · have HE := hide (HF.out.trans (if_pos (by simp [b1])))
    have A1 := hide b1
    clear b1
    go_enter Try.func26, Try.ntmps26
    go_wp2_with (first
      | (go_at_call_of 55 (Value.int IntKind.i64 n); refine (isWithin_any n 1 7 _).mono ?_; rw [A1.out]; rintro e w1 ⟨rfl, rfl⟩))
    exact bodyPost_ret (v := flt (3, -1)) (by simp [results, Try.results26, go_sem, flt]) rfl ⟨by rw [HE.out], by go_grown⟩
  have A1 := hide b1
  have hn0 : 0 ≤ n := by have := wiB_true.1 b1; omega
  have hn7 : n ≤ 1000 := by have := wiB_true.1 b1; omega
  cases b2 : wiB id 0 (n - 1)
  · have HE := hide (HF.out.trans (if_pos (by simp [b2])))
    have A2 := hide b2
    clear b2
    go_enter Try.func26, Try.ntmps26
    go_wp2_with (first
      | (go_at_call_of 55 (Value.int IntKind.i64 n); refine (isWithin_any n 1 7 _).mono ?_; rw [A1.out]; rintro e w1 ⟨rfl, rfl⟩)
      | (go_at_call_of 56 (Value.int IntKind.i64 id); refine (isNode_any id n _ hn0 hn7).mono ?_; rw [A2.out]; rintro e w1 ⟨rfl, rfl⟩))
    exact bodyPost_ret (v := flt (3, -1)) (by simp [results, Try.results26, go_sem, flt]) rfl ⟨by rw [HE.out], by go_grown⟩
  have A2 := hide b2
  have HG := hide (HF.out.trans (if_neg (by rw [b1, b2]; simp)))
  clear b1 b2 HF
  cases b3 : numL te
  · have HE := hide (HG.out.trans (if_pos (by simp [b3])))
    have A3 := hide b3
    clear b3
    go_enter Try.func26, Try.ntmps26
    go_wp2_with (first
      | (go_at_call_of 55 (Value.int IntKind.i64 n); refine (isWithin_any n 1 7 _).mono ?_; rw [A1.out]; rintro e w1 ⟨rfl, rfl⟩)
      | (go_at_call_of 56 (Value.int IntKind.i64 id); refine (isNode_any id n _ hn0 hn7).mono ?_; rw [A2.out]; rintro e w1 ⟨rfl, rfl⟩)
      | (go_at_call_of 57 (Value.int IntKind.i64 te); refine (lIsNum_any te _).mono ?_; rw [A3.out]; rintro e w1 ⟨rfl, rfl⟩))
    exact bodyPost_ret (v := flt (3, -2)) (by simp [results, Try.results26, go_sem, flt]) rfl ⟨by rw [HE.out], by go_grown⟩
  have A3 := hide b3
  cases b4 : wiB vo 0 n
  · have HE := hide (HG.out.trans (if_pos (by simp [b4])))
    have A4 := hide b4
    clear b4
    go_enter Try.func26, Try.ntmps26
    go_wp2_with (first
      | (go_at_call_of 55 (Value.int IntKind.i64 vo); refine (isWithin_any vo 0 n _).mono ?_; rw [A4.out]; rintro e w1 ⟨rfl, rfl⟩)
      | (go_at_call_of 55 (Value.int IntKind.i64 n); refine (isWithin_any n 1 7 _).mono ?_; rw [A1.out]; rintro e w1 ⟨rfl, rfl⟩)
      | (go_at_call_of 56 (Value.int IntKind.i64 id); refine (isNode_any id n _ hn0 hn7).mono ?_; rw [A2.out]; rintro e w1 ⟨rfl, rfl⟩)
      | (go_at_call_of 57 (Value.int IntKind.i64 te); refine (lIsNum_any te _).mono ?_; rw [A3.out]; rintro e w1 ⟨rfl, rfl⟩))
    exact bodyPost_ret (v := flt (3, -2)) (by simp [results, Try.results26, go_sem, flt]) rfl ⟨by rw [HE.out], by go_grown⟩
  have A4 := hide b4
  cases b5 : wiB ro 0 2
  · have HE := hide (HG.out.trans (if_pos (by simp [b5])))
    have A5 := hide b5
    clear b5
    go_enter Try.func26, Try.ntmps26
    go_wp2_with (first
      | (go_at_call_of 55 (Value.int IntKind.i64 vo); refine (isWithin_any vo 0 n _).mono ?_; rw [A4.out]; rintro e w1 ⟨rfl, rfl⟩)
      | (go_at_call_of 55 (Value.int IntKind.i64 n); refine (isWithin_any n 1 7 _).mono ?_; rw [A1.out]; rintro e w1 ⟨rfl, rfl⟩)
      | (go_at_call_of 56 (Value.int IntKind.i64 id); refine (isNode_any id n _ hn0 hn7).mono ?_; rw [A2.out]; rintro e w1 ⟨rfl, rfl⟩)
      | (go_at_call_of 57 (Value.int IntKind.i64 te); refine (lIsNum_any te _).mono ?_; rw [A3.out]; rintro e w1 ⟨rfl, rfl⟩)
      | (go_at_call_of 55 (Value.int IntKind.i64 ro); refine (isWithin_any ro 0 2 _).mono ?_; rw [A5.out]; rintro e w1 ⟨rfl, rfl⟩))
    exact bodyPost_ret (v := flt (3, -2)) (by simp [results, Try.results26, go_sem, flt]) rfl ⟨by rw [HE.out], by go_grown⟩
  have A5 := hide b5
  cases b6 : wiB co 0 lo.length
  · have HE := hide (HG.out.trans (if_pos (by simp [b6])))
    have A6 := hide b6
    clear b6
    go_enter Try.func26, Try.ntmps26
    go_wp2_with (first
      | (go_at_call_of 55 (Value.int IntKind.i64 vo); refine (isWithin_any vo 0 n _).mono ?_; rw [A4.out]; rintro e w1 ⟨rfl, rfl⟩)
      | (go_at_call_of 55 (Value.int IntKind.i64 n); refine (isWithin_any n 1 7 _).mono ?_; rw [A1.out]; rintro e w1 ⟨rfl, rfl⟩)
      | (go_at_call_of 56 (Value.int IntKind.i64 id); refine (isNode_any id n _ hn0 hn7).mono ?_; rw [A2.out]; rintro e w1 ⟨rfl, rfl⟩)
      | (go_at_call_of 57 (Value.int IntKind.i64 te); refine (lIsNum_any te _).mono ?_; rw [A3.out]; rintro e w1 ⟨rfl, rfl⟩)
      | (go_at_call_of 55 (Value.int IntKind.i64 ro); refine (isWithin_any ro 0 2 _).mono ?_; rw [A5.out]; rintro e w1 ⟨rfl, rfl⟩)
      | (go_at_call_of 55 (Value.int IntKind.i64 co); refine (isWithin_any co 0 lo.length _).mono ?_; rw [A6.out]; rintro e w1 ⟨rfl, rfl⟩))
    exact bodyPost_ret (v := flt (3, -2)) (by simp [results, Try.results26, go_sem, flt]) rfl ⟨by rw [HE.out], by go_grown⟩
  have A6 := hide b6
  have HE := hide (HG.out.trans (if_neg (by rw [b3, b4, b5, b6]; simp)))
  clear b3 b4 b5 b6
  go_enter Try.func26, Try.ntmps26
  go_wp2_with (first
      | (go_at_call_of 55 (Value.int IntKind.i64 vo); refine (isWithin_any vo 0 n _).mono ?_; rw [A4.out]; rintro e w1 ⟨rfl, rfl⟩)
      | (go_at_call_of 55 (Value.int IntKind.i64 n); refine (isWithin_any n 1 7 _).mono ?_; rw [A1.out]; rintro e w1 ⟨rfl, rfl⟩)
      | (go_at_call_of 56 (Value.int IntKind.i64 id); refine (isNode_any id n _ hn0 hn7).mono ?_; rw [A2.out]; rintro e w1 ⟨rfl, rfl⟩)
      | (go_at_call_of 57 (Value.int IntKind.i64 te); refine (lIsNum_any te _).mono ?_; rw [A3.out]; rintro e w1 ⟨rfl, rfl⟩)
      | (go_at_call_of 55 (Value.int IntKind.i64 ro); refine (isWithin_any ro 0 2 _).mono ?_; rw [A5.out]; rintro e w1 ⟨rfl, rfl⟩)
      | (go_at_call_of 55 (Value.int IntKind.i64 co); refine (isWithin_any co 0 lo.length _).mono ?_; rw [A6.out]; rintro e w1 ⟨rfl, rfl⟩))
  exact bodyPost_ret (v := flt (0, 0)) (by simp [results, Try.results26, go_sem, flt]) rfl ⟨by rw [HE.out], by go_grown⟩

set_option maxRecDepth 100000 in
set_option maxHeartbeats 4000000 in
theorem rLog_any (x : Nd) (lv vv nv hv : Value) (w : World) (hx : RdNd w x lv vv nv hv) :
    Calls Try.prog 27 #[ndV x lv vv nv hv] w fun e w' => e = .returned (flt (lgF x)) ∧ Below w.heap.size w w' := by
  obtain ⟨n, id, te, vo, lo, ro, co, vs, ns, hs⟩ := x
  obtain ⟨h1, h2, h3, h4⟩ := hx
  simp only at h1 h2 h3 h4
  obtain ⟨ao, cap, rfl, hc1, hc2⟩ := h1.shape
  obtain ⟨bo, cap2, rfl, _, _⟩ := h2.shape
  obtain ⟨no, cap3, rfl, _, _⟩ := h3.shape
  obtain ⟨ho, cap4, rfl, _, _⟩ := h4.shape
  have hA := below_alloc2 w (.cells #[.int .i64 n, .int .i64 id, .int .i64 te, .int .i64 vo, .slice ao lo.length cap, .int .i64 ro, .int .i64 co, .slice bo vs.length cap2, .slice no ns.length cap3, .slice ho hs.length cap4] 25) (.cells #[.int .i64 0, .int .i64 0] 30)
  have HI := hide (ECheck_any _ lo _ (h1.below hA))
  have HL := hide (fun W (hW : Below w.heap.size w W) => rLast_any _ lo W (h1.below hW))
  have HB := hide (Blk.at0of2 w (.cells #[.int .i64 0, .int .i64 0] 30) 25 #[.int .i64 n, .int .i64 id, .int .i64 te, .int .i64 vo, .slice ao lo.length cap, .int .i64 ro, .int .i64 co, .slice bo vs.length cap2, .slice no ns.length cap3, .slice ho hs.length cap4])
  have HR0 := hide (Blk.at1 w (.cells #[.int .i64 n, .int .i64 id, .int .i64 te, .int .i64 vo, .slice ao lo.length cap, .int .i64 ro, .int .i64 co, .slice bo vs.length cap2, .slice no ns.length cap3, .slice ho hs.length cap4] 25) 30 #[.int .i64 0, .int .i64 0])
  have HA := hide hA
  clear h2 h3 h4 h1 hA
  unfold ndV ndA
  have HF : Hid (lgF ⟨n, id, te, vo, lo, ro, co, vs, ns, hs⟩ = if (chkE lo).1 ≠ 0 then chkE lo else if te < lastT lo then (11, -3) else (0, 0)) := hide rfl
  have HZ := hide (chkE_z lo)
  generalize hK : chkE lo = K at *
  obtain ⟨p, q⟩ := K
  generalize hT : lastT lo = T at *
  clear hK hT
  go_enter Try.func27, Try.ntmps27
  go_wp2_with fail
  refine HI.out.mono ?_
  rintro e w1 ⟨rfl, hb1⟩
  have hB1 := HB.out.later hb1
  have hR1 := HR0.out.later hb1
  have hA1 := HA.out.trans (hb1.mono HA.out.size)
  have hN := below_allocG w1 (.cells #[.int .i64 p, .int .i64 q] 30)
  have hB2 := hB1.later hN
  have HR2 := hide (hR1.later hN)
  have HA2 := hide (hA1.trans (hN.mono hA1.size))
  have c4 := hB2.cell 4
  have c2 := hB2.cell 2
  have cl := hB2.lt
  simp at c4 c2 cl
  clear hB1 hR1 hA1 hN hB2 hb1 HI
  unfold flt
  by_cases hp : p ≠ 0
  · have HE := hide (HF.out.trans (if_pos hp))
    have hq : (p == 0) = false := beq_eq_false_iff_ne.2 hp
    have hq2 : (p != 0) = true := by simp [hp]
    clear hp
    go_wp2_with (refine wpList_store_blk rfl rfl rfl rfl HR2.out rfl Try.sizeFaultR rfl ?_; intro w8 hR8 hg8; have HR8 := hide hR8; have HG8 := hide hg8; clear hR8 hg8)
    refine bodyPost_ret (v := .agg #[.int .i64 p, .int .i64 q]) (results1_cell Try.results27 rfl (run_loadVar_blk HR8.out Try.underlying30 rfl Try.sizeFaultR)) rfl ?_
    exact ⟨by rw [HE.out] <;> rfl, below_grownO HA2.out HG8.out (fun k hk => by cases hk; omega) HA2.out.size⟩
  have HFa := hide (HF.out.trans (if_neg hp))
  obtain rfl : p = 0 := Decidable.not_not.1 hp
  obtain rfl : q = 0 := by have := HZ.out rfl; simpa using this
  clear hp HF
  have HQ := hide (fun m => HL.out ((w1.alloc (.cells #[.int .i64 0, .int .i64 0] 30)).drewN m) (below_drewN HA2.out m))
  by_cases ht : te < T
  all_goals
    have HE := hide (HFa.out.trans (by first | exact if_pos ht | exact if_neg ht))
    go_wp2_with fail
    go_quiet (first | (go_at_call 59; exact Calls.quiet_of_same (HQ.out _)))
    go_wp2_with (refine wpList_store_blk rfl rfl rfl rfl HR2.out rfl Try.sizeFaultR rfl ?_; intro w8 hR8 hg8; have HR8 := hide hR8; have HG8 := hide hg8; clear hR8 hg8)
    refine bodyPost_ret (results1_cell Try.results27 rfl (run_loadVar_blk HR8.out Try.underlying30 rfl Try.sizeFaultR)) rfl ?_
    exact ⟨by rw [HE.out] <;> rfl, below_grownO (below_drewN HA2.out _) HG8.out (fun k hk => by cases hk; omega) HA2.out.size⟩

end Go.Proofs.Ytbffmdhogehfnaa

/-
  The walks over package raft's areOfEach, areKnown, areVotes. (Written by rw2.py.)
-/
namespace Go.Proofs.Ytbffmdhogehfnaa
open Go.RowKit Go.Maps
set_option linter.unusedVariables false

set_option maxRecDepth 100000 in
theorem isOut_any (B C : Nat) (v a b : Int) (w : World) (h1 : w.cell? ⟨B, 0, none⟩ = some (.int .i64 a)) (h2 : w.cell? ⟨C, 0, none⟩ = some (.int .i64 b)) :
    Calls Try.prog 81 #[.int .i64 v, .pointer (some ⟨B, 0, none⟩), .pointer (some ⟨C, 0, none⟩)] w fun e w' => e = .returned (.bool (!wiB v a b)) ∧ w' = w := by
  have l1 : B < w.heap.size := World.block_lt_of_cell? w _ h1
  have l2 : C < w.heap.size := World.block_lt_of_cell? w _ h2
  go_enter Try.func81, Try.ntmps81
  go_wp2_with (go_at_call 55; refine (isWithin_any v a b _).mono ?_; rintro e w1 ⟨rfl, rfl⟩)
  go_ret
  exact ⟨rfl, rfl⟩

/-- A whole variable out of its block, behind a guard that holds. -/
theorem wpList_load_blkW {P : Program} {ops : Array Oper} {rest : List Oper} {op : Oper} {a : Act} {w : World} {Q : Exit → Act → World → Prop} {ty : TypeId} {x : Operand} {B : Nat} {t : TypeId} {xs : Array Value} {d : TypeDesc}
    (hB : Blk w B t xs) (hu : P.underlying ty = some d) (hd : (match d with | .struct _ | .array _ _ => true | _ => false) = true) (hi : (P.info? ty).map (·.size) = some xs.size) (hw : Region.wanted op (yielded ops a.tmps) = true) (ho : op.op = .load ty x) (hx : a.eval x = .pointer (some ⟨B, 0, none⟩))
    (h : wpList P ops Q rest (a.put op.dst (.agg xs)) w) : wpList P ops Q (op :: rest) a w := by
  refine wpList_step fun K hK => ?_
  rw [if_pos hw]
  unfold Oper.wp execOp
  simp only [ho, hx, run_loadAt_blk hB hu hd hi, Sem.run_bind, Sem.run_pure, Result.andThen_ok]
  exact hK _ _ h

theorem beq0 (k : Nat) : ((k : Int) == 0) = decide (k = 0) := by
  cases k with
  | zero => rfl
  | succ k => rw [decide_eq_false (by omega)]; exact beq_eq_false_iff_ne.2 (by omega)

def outGo (a b : Int) : List Int → Nat → Int
  | [], _ => -1
  | x :: r, i => if wiB x a b = false then (i : Int) else outGo a b r (i + 1)

theorem outGo_any {a b : Int} : ∀ {r : List Int} {i : Nat}, decide (0 ≤ outGo a b r i) = r.any fun v => !wiB v a b
  | [], _ => rfl
  | x :: r, i => by
    unfold outGo
    cases h : wiB x a b
    · rw [if_pos rfl, List.any_cons, h]
      simp
    · rw [if_neg (by simp), outGo_any, List.any_cons, h]
      simp

set_option maxRecDepth 100000 in
set_option maxHeartbeats 1000000 in
theorem IndexOut_any (v : Value) (l : List Int) (B C : Nat) (a b : Int) (w : World) (hv : RdG iE w v l) (h1 : w.cell? ⟨B, 0, none⟩ = some (.int .i64 a)) (h2 : w.cell? ⟨C, 0, none⟩ = some (.int .i64 b)) :
    Calls Try.prog 91 #[v, .func (.func 81) #[] #[.pointer (some ⟨B, 0, none⟩), .pointer (some ⟨C, 0, none⟩)]] w fun e w' => e = .returned (.int .i64 (outGo a b l 0)) ∧ w' = w := by
  have HV := hide hv
  obtain ⟨ao, cap, rfl, hc1, hc2⟩ := hv.shape
  have HC := hide (fun v => isOut_any B C v a b w h1 h2)
  unfold maxLen at hc2
  clear hv h1 h2
  go_enter Try.func91, Try.ntmps91
  go_wp2_with fail
  go_loopw [8] (fun iv wr => ∃ j : Nat, j ≤ l.length ∧ iv = .int .i64 j ∧ outGo a b (l.drop j) j = outGo a b l 0 ∧ w = wr)
    (fun iv _ => l.length - (intOf iv).toNat)
  case atStart => exact ⟨0, by omega, rfl, rfl, rfl⟩
  case round =>
    obtain ⟨j, hj, rfl, hgo, rfl⟩ := hrel
    have HG := hide hgo
    clear hgo
    by_cases hlt : j < l.length
    · obtain ⟨x, hx⟩ : ∃ c, l[j]? = some c := ⟨_, List.getElem?_eq_getElem hlt⟩
      rw [drop_consN hx, outGo] at HG
      obtain ⟨bb, off, rfl, hbb, q⟩ := HV.out.hereI hx
      have hk1 : (0 : Int) ≤ (j : Int) := by omega
      have hk2 : (j : Int) < (l.length : Int) := by omega
      clear hx
      cases hq : wiB x a b
      · have HE := hide (HG.out.symm.trans (if_pos hq))
        have HQ := hide hq
        clear hq
        go_wp2_with (go_at_call 81; refine (HC.out x).mono ?_; rw [HQ.out]; rintro e w1 ⟨rfl, rfl⟩)
        go_ret
        exact ⟨by rw [HE.out]; rfl, rfl⟩
      · have HE := hide (HG.out.symm.trans (if_neg (by rw [hq]; simp)))
        have HQ := hide hq
        clear hq
        go_wp2_with (go_at_call 81; refine (HC.out x).mono ?_; rw [HQ.out]; rintro e w1 ⟨rfl, rfl⟩)
        go_roundw
        case rel => exact ⟨j + 1, by omega, by go_num, HE.out.symm, trivial⟩
        case measure => simp [intOf]; omega
    · have hje : j = l.length := by omega
      subst hje
      rw [List.drop_length] at HG
      have HE : Hid (outGo a b l 0 = -1) := hide HG.out.symm
      go_wp2_with fail
      go_ret
      exact ⟨by rw [HE.out]; rfl, rfl⟩

set_option maxRecDepth 100000 in
theorem ContainsOut_any (v : Value) (l : List Int) (B C : Nat) (a b : Int) (w : World) (hv : RdG iE w v l) (h1 : w.cell? ⟨B, 0, none⟩ = some (.int .i64 a)) (h2 : w.cell? ⟨C, 0, none⟩ = some (.int .i64 b)) :
    Calls Try.prog 82 #[v, .func (.func 81) #[] #[.pointer (some ⟨B, 0, none⟩), .pointer (some ⟨C, 0, none⟩)]] w fun e w' => e = .returned (.bool (l.any fun v => !wiB v a b)) ∧ w' = w := by
  have HI := hide (IndexOut_any v l B C a b w hv h1 h2)
  have HA := hide (outGo_any (a := a) (b := b) (r := l) (i := 0))
  obtain ⟨ao, cap, rfl, _, _⟩ := hv.shape
  clear hv h1 h2
  go_enter Try.func82, Try.ntmps82
  go_wp2_with (go_at_call 91; refine HI.out.mono ?_; rintro e w1 ⟨rfl, rfl⟩)
  go_ret
  exact ⟨by rw [← HA.out]; rfl, rfl⟩

set_option maxRecDepth 100000 in
set_option maxHeartbeats 2000000 in
theorem areOfEach_any (x : Nd) (lv vv nv hv u : Value) (l : List Int) (a b : Int) (w : World) (hx : RdNd w x lv vv nv hv) (hu : RdG iE w u l) :
    Calls Try.prog 61 #[ndV x lv vv nv hv, u, .int .i64 a, .int .i64 b] w fun e w' => e = .returned (.bool (ofB x l a b)) ∧ Below w.heap.size w w' := by
  obtain ⟨n, id, te, vo, lo, ro, co, vs, ns, hs⟩ := x
  obtain ⟨h1, h2, h3, h4⟩ := hx
  simp only at h1 h2 h3 h4
  obtain ⟨ao, cap, rfl, hc1, hc2⟩ := h1.shape
  obtain ⟨bo, cap2, rfl, hd1, hd2⟩ := h2.shape
  obtain ⟨no, cap3, rfl, _, _⟩ := h3.shape
  obtain ⟨ho, cap4, rfl, _, _⟩ := h4.shape
  have hA := below_alloc3 w (.cells #[.int .i64 n, .int .i64 id, .int .i64 te, .int .i64 vo, .slice ao lo.length cap, .int .i64 ro, .int .i64 co, .slice bo vs.length cap2, .slice no ns.length cap3, .slice ho hs.length cap4] 25) (.cells #[.int .i64 a] 3) (.cells #[.int .i64 b] 3)
  have hB1 := Blk.at1of3 w (.cells #[.int .i64 n, .int .i64 id, .int .i64 te, .int .i64 vo, .slice ao lo.length cap, .int .i64 ro, .int .i64 co, .slice bo vs.length cap2, .slice no ns.length cap3, .slice ho hs.length cap4] 25) (.cells #[.int .i64 b] 3) 3 #[.int .i64 a]
  have hB2 := Blk.at2 w (.cells #[.int .i64 n, .int .i64 id, .int .i64 te, .int .i64 vo, .slice ao lo.length cap, .int .i64 ro, .int .i64 co, .slice bo vs.length cap2, .slice no ns.length cap3, .slice ho hs.length cap4] 25) (.cells #[.int .i64 a] 3) 3 #[.int .i64 b]
  have HC := hide (ContainsOut_any u l (w.heap.size + 1) (w.heap.size + 2) a b _ (hu.below hA) (hB1.cell 0) (hB2.cell 0))
  have HF : Hid (ofB ⟨n, id, te, vo, lo, ro, co, vs, ns, hs⟩ l a b = if ro = 2 then decide ((l.length : Int) = n) && !(l.any fun v => !wiB v a b) else decide (l.length = 0)) := hide rfl
  obtain ⟨uo, ucap, rfl, _, _⟩ := hu.shape
  have HA := hide hA
  unfold ndV ndA
  clear h1 h2 h3 h4 hu hA hB1 hB2
  by_cases hr : ro = 2
  · have HE := hide (HF.out.trans (if_pos hr))
    have hr2 : (ro != 2) = false := by simp [hr]
    clear hr
    by_cases hl : (l.length : Int) = n
    · have hl2 : ((l.length : Int) == n) = true := beq_iff_eq.2 hl
      have HL := hide (decide_eq_true hl)
      clear hl
      go_enter Try.func61, Try.ntmps61
      go_wp2_with (first
        | (go_at_call 82; refine HC.out.mono ?_; rintro e w1 ⟨rfl, rfl⟩))
      go_ret
      exact ⟨by rw [HE.out, HL.out]; rfl, HA.out⟩
    · have hl2 : ((l.length : Int) == n) = false := beq_eq_false_iff_ne.2 hl
      have HL := hide (decide_eq_false hl)
      clear hl
      go_enter Try.func61, Try.ntmps61
      go_wp2_with fail
      go_ret
      exact ⟨by rw [HE.out, HL.out]; rfl, HA.out⟩
  · have HE := hide (HF.out.trans (if_neg hr))
    have hr2 : (ro != 2) = true := by simp [hr]
    clear hr
    go_enter Try.func61, Try.ntmps61
    go_wp2_with fail
    go_ret
    exact ⟨by rw [HE.out, ← beq0]; rfl, HA.out⟩

set_option maxRecDepth 100000 in
set_option maxHeartbeats 2000000 in
theorem areKnown_any (x : Nd) (lv vv nv hv : Value) (w : World) (hx : RdNd w x lv vv nv hv) (hll : x.log.length ≤ 1000) :
    Calls Try.prog 29 #[ndV x lv vv nv hv] w fun e w' => e = .returned (.bool (knownB x)) ∧ Below w.heap.size w w' := by
  have HX := hide hx
  obtain ⟨n, id, te, vo, lo, ro, co, vs, ns, hs⟩ := x
  obtain ⟨h1, h2, h3, h4⟩ := hx
  simp only at h1 h2 h3 h4
  obtain ⟨ao, cap, rfl, hc1, hc2⟩ := h1.shape
  obtain ⟨bo, cap2, rfl, hd1, hd2⟩ := h2.shape
  obtain ⟨no, cap3, rfl, _, _⟩ := h3.shape
  obtain ⟨ho, cap4, rfl, _, _⟩ := h4.shape
  have hA := below_allocG w (.cells #[.int .i64 n, .int .i64 id, .int .i64 te, .int .i64 vo, .slice ao lo.length cap, .int .i64 ro, .int .i64 co, .slice bo vs.length cap2, .slice no ns.length cap3, .slice ho hs.length cap4] 25)
  have HC := hide (areOfEach_any ⟨n, id, te, vo, lo, ro, co, vs, ns, hs⟩ _ _ _ _ _ ns 1 (lo.length + 1) _ (HX.out.below hA) (h3.below hA))
  have HD := hide (fun W (hW : Below w.heap.size w W) => areOfEach_any ⟨n, id, te, vo, lo, ro, co, vs, ns, hs⟩ _ _ _ _ _ hs 0 lo.length W (HX.out.below hW) (h4.below hW))
  have HB := hide (Blk.new w 25 #[.int .i64 n, .int .i64 id, .int .i64 te, .int .i64 vo, .slice ao lo.length cap, .int .i64 ro, .int .i64 co, .slice bo vs.length cap2, .slice no ns.length cap3, .slice ho hs.length cap4])
  have HF : Hid (knownB ⟨n, id, te, vo, lo, ro, co, vs, ns, hs⟩ = (ofB ⟨n, id, te, vo, lo, ro, co, vs, ns, hs⟩ ns 1 (lo.length + 1) && ofB ⟨n, id, te, vo, lo, ro, co, vs, ns, hs⟩ hs 0 lo.length)) := hide rfl
  have HA := hide hA
  have hw1 : IntKind.i64.wrap ((lo.length : Int) + 1) = (lo.length : Int) + 1 := by simp only at hll; rw [IntKind.wrap_i64]; omega
  generalize hP : ofB ⟨n, id, te, vo, lo, ro, co, vs, ns, hs⟩ ns 1 (lo.length + 1) = P at *
  generalize hQ : ofB ⟨n, id, te, vo, lo, ro, co, vs, ns, hs⟩ hs 0 lo.length = Q at *
  unfold ndV ndA at HC HD
  unfold ndV ndA
  clear h1 h2 h3 h4 hA hP hQ HX
  cases P
  · go_enter Try.func29, Try.ntmps29
    go_wp2_with (first
      | (refine wpList_load_blk HB.out Try.underlying25 rfl Try.sizeNode rfl rfl rfl ?_)
      | (go_at_call 61; refine HC.out.mono ?_; rintro e w1 ⟨rfl, hb1⟩; have HB1 := hide (HA.out.trans (hb1.mono HA.out.size)); clear hb1))
    go_ret
    exact ⟨by rw [HF.out]; rfl, HB1.out⟩
  · go_enter Try.func29, Try.ntmps29
    go_wp2_with (refine wpList_load_blk HB.out Try.underlying25 rfl Try.sizeNode rfl rfl rfl ?_)
    refine HC.out.mono ?_
    rintro e w1 ⟨rfl, hb1⟩
    have hA1 := HA.out.trans (hb1.mono HA.out.size)
    have hB1 := HB.out.later hb1
    have HB1 := hide hB1
    have c4 := hB1.cell 4
    have c9 := hB1.cell 9
    have cl := hB1.lt
    simp at c4 c9 cl
    have HA1 := hide hA1
    clear hb1 hA1 hB1
    go_wp2_with (first
      | (refine wpList_load_blkW HB1.out Try.underlying25 rfl Try.sizeNode rfl rfl rfl ?_)
      | (go_at_call 61; refine (HD.out _ HA1.out).mono ?_; rintro e w2 ⟨rfl, hb2⟩; have HA2 := hide (HA1.out.trans (hb2.mono HA1.out.size)); clear hb2))
    go_ret
    exact ⟨by rw [HF.out]; rfl, HA2.out⟩

end Go.Proofs.Ytbffmdhogehfnaa
