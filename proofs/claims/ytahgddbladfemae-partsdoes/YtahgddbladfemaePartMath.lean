/-
  Plain maths of parts of the rows: what is fine, which part has a row, splits and joins. Nothing of a program stands here.
-/
import Derived.Test.YtahgddbladfemaeGen
namespace Go.Proofs.Ytahgddbladfemae
open Go.RowKit
set_option linter.unusedVariables false

/-! ### The order of texts -/

def bLt (a b : List UInt8) : Bool := Op.bytesLess a b

theorem bLt_irrefl : ∀ a : List UInt8, bLt a a = false
  | [] => rfl
  | x :: a => by simp [bLt, Op.bytesLess]; exact bLt_irrefl a

theorem bLt_trans : ∀ {a b c : List UInt8}, bLt a b = true → bLt b c = true → bLt a c = true
  | _, [], _, h, _ => by simp [bLt, Op.bytesLess] at h
  | _, _ :: _, [], _, h => by simp [bLt, Op.bytesLess] at h
  | [], _ :: _, _ :: _, _, _ => rfl
  | x :: a, y :: b, z :: c, h1, h2 => by
    simp only [bLt, Op.bytesLess, Bool.or_eq_true, decide_eq_true_eq, Bool.and_eq_true, beq_iff_eq] at h1 h2 ⊢
    rcases h1 with h1 | ⟨rfl, h1⟩
    · rcases h2 with h2 | ⟨rfl, h2⟩
      · exact .inl (UInt8.lt_trans h1 h2)
      · exact .inl h1
    · rcases h2 with h2 | ⟨rfl, h2⟩
      · exact .inl h2
      · exact .inr ⟨rfl, bLt_trans h1 h2⟩

theorem bLt_asymm {a b : List UInt8} (h : bLt a b = true) : bLt b a = false := by
  cases hb : bLt b a
  · rfl
  · have := bLt_trans h hb
    rw [bLt_irrefl] at this
    cases this

theorem bLt_total : ∀ {a b : List UInt8}, bLt a b = false → bLt b a = false → a = b
  | [], [], _, _ => rfl
  | [], _ :: _, h, _ => by simp [bLt, Op.bytesLess] at h
  | _ :: _, [], _, h => by simp [bLt, Op.bytesLess] at h
  | x :: a, y :: b, h1, h2 => by
    simp only [bLt, Op.bytesLess, Bool.or_eq_false_iff, decide_eq_false_iff_not, Bool.and_eq_false_iff, beq_eq_false_iff_ne] at h1 h2
    have hxy : x = y := UInt8.toNat_inj.1 (by have := h1.1; have := h2.1; simp only [UInt8.lt_iff_toNat_lt] at *; omega)
    subst hxy
    rw [bLt_total (h1.2.resolve_left (by simp)) (h2.2.resolve_left (by simp))]

theorem bLt_nil_right (a : List UInt8) : bLt a [] = false := by cases a <;> rfl

/-- Not above: a ≤ b. -/
theorem bLe_lt {a b c : List UInt8} (h1 : bLt b a = false) (h2 : bLt b c = true) : bLt a c = true := by
  cases h : bLt a b
  · rw [bLt_total h h1]; exact h2
  · exact bLt_trans h h2

theorem bLt_le {a b c : List UInt8} (h1 : bLt a b = true) (h2 : bLt c b = false) : bLt a c = true := by
  cases h : bLt b c
  · rw [bLt_total h2 h]; exact h1
  · exact bLt_trans h1 h

/-- 'a > b' as the walk spells it. -/
theorem gtS (a b : List UInt8) : (!Op.bytesLess a b && !(a == b)) = bLt b a := by
  cases h1 : bLt b a
  · cases h2 : Op.bytesLess a b
    · have := bLt_total (show bLt a b = false from h2) h1
      simp [this]
    · rfl
  · have h2 : Op.bytesLess a b = false := bLt_asymm h1
    have h3 : a ≠ b := by rintro rfl; rw [bLt_irrefl] at h1; cases h1
    simp [h2, h3]

theorem nodup_get {β : Type} {l : List β} : l.Nodup ↔ ∀ i j : Nat, i < j → ∀ a b, l[i]? = some a → l[j]? = some b → a ≠ b := by
  rw [List.Nodup, List.pairwise_iff_getElem]
  constructor
  · intro h i j hij a b ha hb
    obtain ⟨hi, rfl⟩ := List.getElem?_eq_some_iff.1 ha
    obtain ⟨hj, rfl⟩ := List.getElem?_eq_some_iff.1 hb
    exact h i j hi hj hij
  · intro h i j hi hj hij
    exact h i j hij _ _ (List.getElem?_eq_getElem hi) (List.getElem?_eq_getElem hj)

theorem toList_empty : (⟨#[]⟩ : ByteArray).toList = [] := by rw [ByteArray.toList_eq]

/-! ### Parts -/

/-- A part of the rows. -/
structure Pt where
  fr : ByteArray
  to_ : ByteArray
  id : Int

def zeroPt : Pt := ⟨⟨#[]⟩, ⟨#[]⟩, 0⟩

/-- How a part lies in memory. -/
def pE : En Pt 3 where
  v p := [.string p.fr, .string p.to_, .int .i64 p.id]
  len _ := rfl
  one p u hu := by
    simp only [List.mem_cons, List.not_mem_nil, or_false] at hu
    rcases hu with rfl | rfl | rfl <;> rfl
  pos := by decide

/-- From 0 to the greatest number. -/
def numB (n : Int) : Bool := decide (0 ≤ n ∧ n ≤ 1000000000)

/-- Has a part from a on, ahead of b, the row r? -/
def inB (r a b : ByteArray) : Bool := !bLt r.toList a.toList && (b.toList.isEmpty || bLt r.toList b.toList)

/-- Where the parts ahead of one end. -/
def endA (l : List Pt) (i : Nat) : ByteArray := match i with | 0 => ⟨#[]⟩ | j + 1 => (l.getD j zeroPt).to_

/-- Does a part leave rows to those behind it just if there are such, and has some of its own? -/
def endW (l : List Pt) (i : Nat) : Bool :=
  let p := l.getD i zeroPt
  if i + 1 = l.length then p.to_.toList.isEmpty else bLt p.fr.toList p.to_.toList

/-- What is wrong with a part, but for an ID that one ahead has. -/
def codeP (l : List Pt) (i : Nat) : Int :=
  let p := l.getD i zeroPt
  if 40 < p.fr.size ∨ 40 < p.to_.size then 8
  else if numB p.id = false then 3
  else if p.fr.toList ≠ (endA l i).toList ∨ endW l i = false then 5
  else 0

/-- Has one of the first i parts the ID? -/
def hasAhead (l : List Pt) (i : Nat) (n : Int) : Bool := (l.take i).any fun p => decide (p.id = n)

def codeP2 (l : List Pt) (i : Nat) : Int :=
  if codeP l i ≠ 0 then codeP l i else if hasAhead l i (l.getD i zeroPt).id then 10 else 0

def chkGo (l : List Pt) : Nat → Nat → Int × Int
  | 0, _ => (0, 0)
  | n + 1, i => if codeP2 l i = 0 then chkGo l n (i + 1) else (codeP2 l i, i)

/-- What Check tells of parts. -/
def chkP (l : List Pt) : Int × Int :=
  if l.length = 0 then (6, -1) else if 200 < l.length then (2, -1) else chkGo l l.length 0

theorem chkGo_ok {l : List Pt} {n i : Nat} (h : codeP2 l i = 0) : chkGo l (n + 1) i = chkGo l n (i + 1) := by rw [chkGo, if_pos h]
theorem chkGo_no {l : List Pt} {n i : Nat} (h : ¬ codeP2 l i = 0) : chkGo l (n + 1) i = (codeP2 l i, (i : Int)) := by rw [chkGo, if_neg h]
theorem codeP2_own {l : List Pt} {i : Nat} (h : ¬ codeP l i = 0) : codeP2 l i = codeP l i := by rw [codeP2, if_pos h]
theorem codeP2_twice {l : List Pt} {i : Nat} (h : codeP l i = 0) (h2 : hasAhead l i (l.getD i zeroPt).id = true) : codeP2 l i = 10 := by rw [codeP2, if_neg (by simp [h]), if_pos h2]
theorem codeP2_ok {l : List Pt} {i : Nat} (h : codeP l i = 0) (h2 : hasAhead l i (l.getD i zeroPt).id = false) : codeP2 l i = 0 := by rw [codeP2, if_neg (by simp [h]), if_neg (by rw [h2]; decide)]

theorem codeP2_zero {l : List Pt} {i : Nat} (h : codeP2 l i = 0) : codeP l i = 0 ∧ hasAhead l i (l.getD i zeroPt).id = false := by
  unfold codeP2 at h
  by_cases h0 : codeP l i = 0
  · refine ⟨h0, ?_⟩
    rw [if_neg (by simp [h0])] at h
    cases h1 : hasAhead l i (l.getD i zeroPt).id
    · rfl
    · rw [if_pos h1] at h; cases h
  · rw [if_pos h0] at h; exact absurd h h0

theorem chkGo_zero {l : List Pt} : ∀ {n i : Nat}, (chkGo l n i).1 = 0 → ∀ j, j < n → codeP2 l (i + j) = 0
  | 0, _, _, _, hj => by omega
  | n + 1, i, h, j, hj => by
    by_cases h0 : codeP2 l i = 0
    · rw [chkGo_ok h0] at h
      cases j with
      | zero => exact h0
      | succ j =>
        have := chkGo_zero h j (by omega)
        rwa [show i + (j + 1) = i + 1 + j by omega]
    · rw [chkGo_no h0] at h
      exact absurd h h0

theorem chkGo_all {l : List Pt} : ∀ {n i : Nat}, (∀ j, j < n → codeP2 l (i + j) = 0) → chkGo l n i = (0, 0)
  | 0, _, _ => rfl
  | n + 1, i, h => by
    rw [chkGo_ok (i := i) (h 0 (by omega))]
    exact chkGo_all fun j hj => by have := h (j + 1) (by omega); rwa [show i + (j + 1) = i + 1 + j by omega] at this

/-- One part by itself. -/
def okP (p : Pt) : Prop := p.fr.size ≤ 40 ∧ p.to_.size ≤ 40 ∧ numB p.id = true

/-- Parts that tile the rows from e on. -/
def Chn (e : List UInt8) : List Pt → Prop
  | [] => False
  | [p] => okP p ∧ p.fr.toList = e ∧ p.to_.toList = []
  | p :: q :: r => okP p ∧ p.fr.toList = e ∧ bLt p.fr.toList p.to_.toList = true ∧ Chn p.to_.toList (q :: r)

theorem Chn.head {e : List UInt8} {p : Pt} {r : List Pt} (h : Chn e (p :: r)) : okP p ∧ p.fr.toList = e := by
  cases r with
  | nil => exact ⟨h.1, h.2.1⟩
  | cons q r => exact ⟨h.1, h.2.1⟩

/-- What code 0 says. -/
theorem codeP_zero {l : List Pt} {i : Nat} {p : Pt} (hp : l[i]? = some p) : codeP l i = 0 ↔ okP p ∧ p.fr.toList = (endA l i).toList ∧ (if i + 1 = l.length then p.to_.toList = [] else bLt p.fr.toList p.to_.toList = true) := by
  have hd : l.getD i zeroPt = p := by rw [List.getD_eq_getElem?_getD, hp]; rfl
  have hw : endW l i = true ↔ (if i + 1 = l.length then p.to_.toList = [] else bLt p.fr.toList p.to_.toList = true) := by
    unfold endW
    simp only [hd]
    by_cases hl : i + 1 = l.length
    · rw [if_pos hl, if_pos hl]; simp
    · rw [if_neg hl, if_neg hl]
  rw [← hw]
  unfold codeP okP
  simp only [hd]
  by_cases h1 : 40 < p.fr.size ∨ 40 < p.to_.size
  · rw [if_pos h1]
    constructor
    · intro h; cases h
    · rintro ⟨⟨h2, h3, _⟩, _⟩; omega
  · rw [if_neg h1]
    by_cases h2 : numB p.id = false
    · rw [if_pos h2]
      constructor
      · intro h; cases h
      · rintro ⟨⟨_, _, h3⟩, _⟩; rw [h2] at h3; cases h3
    · rw [if_neg h2]
      by_cases h3 : p.fr.toList ≠ (endA l i).toList ∨ endW l i = false
      · rw [if_pos h3]
        constructor
        · intro h; cases h
        · rintro ⟨_, h4, h5⟩
          rcases h3 with h3 | h3
          · exact absurd h4 h3
          · rw [h3] at h5; cases h5
      · rw [if_neg h3]
        simp only [not_or, Bool.not_eq_false, ne_eq, Decidable.not_not] at h1 h2 h3
        exact ⟨fun _ => ⟨⟨by omega, by omega, h2⟩, h3⟩, fun _ => rfl⟩

theorem endA_mid (pre : List Pt) (x : Pt) (r : List Pt) : endA (pre ++ [x] ++ r) (pre.length + 1) = x.to_ := by
  simp only [endA, List.getD_eq_getElem?_getD]
  rw [List.append_assoc, List.getElem?_append_right (Nat.le_refl _)]
  simp

theorem chn_of_code : ∀ (r pre : List Pt) (e : List UInt8), r ≠ [] → (endA (pre ++ r) pre.length).toList = e → (∀ i, pre.length ≤ i → i < (pre ++ r).length → codeP (pre ++ r) i = 0) → Chn e r
  | [], _, _, h, _, _ => absurd rfl h
  | p :: r, pre, e, _, he, hc => by
    have h0 := hc pre.length (Nat.le_refl _) (by simp)
    have hp : (pre ++ p :: r)[pre.length]? = some p := by simp
    rw [codeP_zero hp, he] at h0
    obtain ⟨h1, h2, h3⟩ := h0
    cases r with
    | nil =>
      rw [if_pos (by simp)] at h3
      exact ⟨h1, h2, h3⟩
    | cons q r =>
      rw [if_neg (by simp)] at h3
      refine ⟨h1, h2, h3, chn_of_code (q :: r) (pre ++ [p]) _ (by simp) ?_ ?_⟩
      · rw [show (pre ++ [p]).length = pre.length + 1 by simp, endA_mid]
      · intro i hi hl
        have hi' : pre.length + 1 ≤ i := by simpa using hi
        have hl' : i < (pre ++ p :: q :: r).length := by simpa using hl
        rw [List.append_assoc, List.singleton_append]
        exact hc i (by omega) hl'

theorem code_of_chn : ∀ (r pre : List Pt) (e : List UInt8), (endA (pre ++ r) pre.length).toList = e → Chn e r → ∀ i, pre.length ≤ i → i < (pre ++ r).length → codeP (pre ++ r) i = 0
  | [], _, _, _, h, _, _, _ => h.elim
  | p :: r, pre, e, he, h, i, hi, hl => by
    have hp : (pre ++ p :: r)[pre.length]? = some p := by simp
    by_cases hie : i = pre.length
    · subst hie
      rw [codeP_zero hp, he]
      cases r with
      | nil => rw [if_pos (by simp)]; exact h
      | cons q r => rw [if_neg (by simp)]; exact ⟨h.1, h.2.1, h.2.2.1⟩
    · cases r with
      | nil => simp at hl; omega
      | cons q r =>
        have := code_of_chn (q :: r) (pre ++ [p]) p.to_.toList (by rw [show (pre ++ [p]).length = pre.length + 1 by simp, endA_mid]) h.2.2.2 i (by simp; omega) (by simpa using hl)
        rwa [List.append_assoc, List.singleton_append] at this

/-- Parts that are fine. -/
def FineP (l : List Pt) : Prop := l.length ≤ 200 ∧ Chn [] l ∧ (l.map Pt.id).Nodup

theorem Chn.ne_nil {e : List UInt8} {l : List Pt} (h : Chn e l) : l ≠ [] := by rintro rfl; exact h

theorem hasAhead_false {l : List Pt} {i : Nat} {n : Int} : hasAhead l i n = false ↔ ∀ k p, k < i → l[k]? = some p → p.id ≠ n := by
  unfold hasAhead
  rw [List.any_eq_false]
  constructor
  · intro h k p hk hp e
    have hm : p ∈ l.take i := List.mem_of_getElem? (i := k) (by rw [List.getElem?_take, if_pos hk, hp])
    simpa [e] using h p hm
  · intro h p hp
    obtain ⟨k, hk⟩ := List.getElem?_of_mem hp
    rw [List.getElem?_take] at hk
    split at hk
    · simpa using h k p ‹_› hk
    · cases hk

theorem nodup_ids {l : List Pt} : (l.map Pt.id).Nodup ↔ ∀ i, i < l.length → hasAhead l i (l.getD i zeroPt).id = false := by
  constructor
  · intro h i hi
    rw [hasAhead_false]
    intro k p hk hp e
    have hpi : l[i]? = some l[i] := List.getElem?_eq_getElem hi
    rw [List.getD_eq_getElem?_getD, hpi] at e
    exact nodup_get.1 h k i hk p.id l[i].id (by rw [List.getElem?_map, hp]; rfl) (by rw [List.getElem?_map, hpi]; rfl) e
  · intro h
    rw [nodup_get]
    intro k i hk a b ha hb e
    rw [List.getElem?_map, Option.map_eq_some_iff] at ha hb
    obtain ⟨p, hp, rfl⟩ := ha
    obtain ⟨q, hq, rfl⟩ := hb
    have := hasAhead_false.1 (h i (List.getElem?_eq_some_iff.1 hq).1) k p hk hp
    rw [List.getD_eq_getElem?_getD, hq] at this
    exact this e

theorem chkP_fine {l : List Pt} : (chkP l).1 = 0 ↔ FineP l := by
  unfold chkP FineP
  by_cases h0 : l.length = 0
  · rw [if_pos h0]
    have : l = [] := List.eq_nil_of_length_eq_zero h0
    subst this
    simp [Chn]
  · rw [if_neg h0]
    by_cases h2 : 200 < l.length
    · rw [if_pos h2]
      simp; omega
    · rw [if_neg h2]
      have hne : l ≠ [] := by rintro rfl; exact h0 rfl
      constructor
      · intro h
        have hz := chkGo_zero h
        simp only [Nat.zero_add] at hz
        refine ⟨by omega, ?_, ?_⟩
        · exact chn_of_code l [] [] hne toList_empty fun i _ hi => (codeP2_zero (hz i (by simpa using hi))).1
        · exact nodup_ids.2 fun i hi => (codeP2_zero (hz i hi)).2
      · rintro ⟨_, hc, hn⟩
        rw [chkGo_all]
        intro j hj
        rw [Nat.zero_add]
        exact codeP2_ok (code_of_chn l [] [] toList_empty hc j (Nat.zero_le _) (by simpa using hj)) (nodup_ids.1 hn j hj)

theorem chkP_ok {l : List Pt} (h : FineP l) : chkP l = (0, 0) := by
  have h1 := chkP_fine.2 h
  unfold chkP at h1 ⊢
  by_cases h0 : l.length = 0
  · rw [if_pos h0] at h1; simp at h1
  · rw [if_neg h0] at h1 ⊢
    by_cases h2 : 200 < l.length
    · rw [if_pos h2] at h1; simp at h1
    · rw [if_neg h2] at h1 ⊢
      have hz := chkGo_zero h1
      exact chkGo_all hz

/-! ### Which part has a row -/

theorem inB_true {r a b : ByteArray} : inB r a b = true ↔ bLt r.toList a.toList = false ∧ (b.toList = [] ∨ bLt r.toList b.toList = true) := by
  unfold inB
  simp

/-- The first part that has a row, from the i-th on; or -1. -/
def hvGo (r : ByteArray) : List Pt → Nat → Int
  | [], _ => -1
  | p :: l, i => if inB r p.fr p.to_ = true then (i : Int) else hvGo r l (i + 1)
def hvP (r : ByteArray) (l : List Pt) : Int := hvGo r l 0

theorem hvGo_yes {r : ByteArray} {p : Pt} {l : List Pt} {i : Nat} (h : inB r p.fr p.to_ = true) : hvGo r (p :: l) i = i := by rw [hvGo, if_pos h]
theorem hvGo_no {r : ByteArray} {p : Pt} {l : List Pt} {i : Nat} (h : inB r p.fr p.to_ = false) : hvGo r (p :: l) i = hvGo r l (i + 1) := by rw [hvGo, if_neg (by simp [h])]

/-- Below e none of the parts from e on has a row. -/
theorem chn_none {r : ByteArray} : ∀ {l : List Pt} {e : List UInt8}, Chn e l → bLt r.toList e = true → ∀ p ∈ l, inB r p.fr p.to_ = false
  | [], _, h, _ => h.elim
  | [p], e, h, hr => by
    intro q hq
    have : q = p := by simpa using hq
    subst this
    have e1 := h.2.1
    unfold inB
    rw [e1, hr]; rfl
  | p :: q :: l, e, h, hr => by
    intro x hx
    have e1 := h.2.1
    rcases List.mem_cons.1 hx with rfl | hx
    · unfold inB
      rw [e1, hr]; rfl
    · exact chn_none h.2.2.2 (bLt_trans hr (e1 ▸ h.2.2.1)) x hx

/-- From e on just one of them has it. -/
theorem chn_one {r : ByteArray} : ∀ {l : List Pt} {e : List UInt8} (i : Nat), Chn e l → bLt r.toList e = false → ∃ k p, hvGo r l i = ((i + k : Nat) : Int) ∧ l[k]? = some p ∧ inB r p.fr p.to_ = true ∧ ∀ j q, l[j]? = some q → inB r q.fr q.to_ = true → j = k
  | [], _, _, h, _ => h.elim
  | [p], e, i, h, hr => by
    have hy : inB r p.fr p.to_ = true := inB_true.2 ⟨by rw [h.2.1]; exact hr, .inl h.2.2⟩
    refine ⟨0, p, hvGo_yes hy, rfl, hy, fun j q hj _ => ?_⟩
    cases j with
    | zero => rfl
    | succ j => simp at hj
  | p :: q :: l, e, i, h, hr => by
    cases hb : bLt r.toList p.to_.toList
    · have hn : inB r p.fr p.to_ = false := by
        unfold inB
        have hne : p.to_.toList.isEmpty = false := by
          have := h.2.2.1
          cases hp : p.to_.toList with
          | nil => rw [hp, bLt_nil_right] at this; cases this
          | cons _ _ => rfl
        rw [hne, hb]; simp
      obtain ⟨k, x, h1, h2, h3, h4⟩ := chn_one (i + 1) h.2.2.2 hb
      refine ⟨k + 1, x, by rw [hvGo_no hn, h1]; congr 1; omega, by simpa using h2, h3, fun j y hj hy => ?_⟩
      cases j with
      | zero =>
        simp at hj
        subst hj
        rw [hn] at hy; cases hy
      | succ j => rw [h4 j y (by simpa using hj) hy]
    · have hy : inB r p.fr p.to_ = true := inB_true.2 ⟨by rw [h.2.1]; exact hr, .inr hb⟩
      refine ⟨0, p, hvGo_yes hy, rfl, hy, fun j x hj hx => ?_⟩
      cases j with
      | zero => rfl
      | succ j =>
        have := chn_none h.2.2.2 hb x (List.mem_of_getElem? (by simpa using hj))
        rw [this] at hx; cases hx

theorem bLt_nil (a : List UInt8) : bLt a [] = false := bLt_nil_right a

theorem hvP_one {r : ByteArray} {l : List Pt} (h : FineP l) : ∃ k p, hvP r l = (k : Nat) ∧ k < l.length ∧ l[k]? = some p ∧ inB r p.fr p.to_ = true ∧ ∀ j q, l[j]? = some q → inB r q.fr q.to_ = true → j = k := by
  obtain ⟨k, p, h1, h2, h3, h4⟩ := chn_one (r := r) 0 h.2.1 (bLt_nil _)
  refine ⟨k, p, by rw [hvP, h1, Nat.zero_add], (List.getElem?_eq_some_iff.1 h2).1, h2, h3, h4⟩

/-! ### IDs -/

/-- Has one of the parts an ID, but those n at a place? -/
def hasIDGo (at_ n : Nat) (id : Int) : List Pt → Nat → Bool
  | [], _ => false
  | p :: l, i => (decide (p.id = id) && (decide (i < at_) || decide (at_ + n ≤ i))) || hasIDGo at_ n id l (i + 1)
def hasID (l : List Pt) (at_ n : Nat) (id : Int) : Bool := hasIDGo at_ n id l 0

theorem hasIDGo_iff {at_ n : Nat} {id : Int} : ∀ {l : List Pt} {i : Nat}, hasIDGo at_ n id l i = true ↔ ∃ k p, l[k]? = some p ∧ p.id = id ∧ (i + k < at_ ∨ at_ + n ≤ i + k)
  | [], _ => by simp [hasIDGo]
  | p :: l, i => by
    simp only [hasIDGo, Bool.or_eq_true, Bool.and_eq_true, decide_eq_true_eq]
    rw [hasIDGo_iff (l := l) (i := i + 1)]
    constructor
    · rintro (⟨h1, h2⟩ | ⟨k, q, h1, h2, h3⟩)
      · exact ⟨0, p, rfl, h1, by simpa using h2⟩
      · exact ⟨k + 1, q, by simpa using h1, h2, by omega⟩
    · rintro ⟨k, q, h1, h2, h3⟩
      cases k with
      | zero =>
        simp at h1
        subst h1
        exact .inl ⟨h2, by simpa using h3⟩
      | succ k => exact .inr ⟨k, q, by simpa using h1, h2, by omega⟩

theorem hasID_iff {l : List Pt} {at_ n : Nat} {id : Int} : hasID l at_ n id = true ↔ ∃ k p, l[k]? = some p ∧ p.id = id ∧ (k < at_ ∨ at_ + n ≤ k) := by
  unfold hasID
  rw [hasIDGo_iff]
  simp

/-! ### Splits and joins -/

/-- What Split tells: a fault, or the parts. -/
def splitF (l : List Pt) (at_ : Int) (row : ByteArray) (left right : Int) : Int × Int :=
  if (chkP l).1 ≠ 0 then chkP l
  else if at_ < 0 ∨ (l.length : Int) ≤ at_ then (3, -1)
  else
    let p := l.getD at_.toNat zeroPt
    if 40 < row.size then (8, -2)
    else if row.toList = p.fr.toList ∨ inB row p.fr p.to_ = false then (5, -2)
    else if numB left = false ∨ numB right = false then (3, -3)
    else if left = right ∨ hasID l at_.toNat 1 left = true ∨ hasID l at_.toNat 1 right = true then (10, -3)
    else if l.length = 200 then (2, -1)
    else (0, 0)

def splitL (l : List Pt) (k : Nat) (row : ByteArray) (left right : Int) : List Pt :=
  l.take k ++ [⟨(l.getD k zeroPt).fr, row, left⟩, ⟨row, (l.getD k zeroPt).to_, right⟩] ++ l.drop (k + 1)

def joinF (l : List Pt) (at_ id : Int) : Int × Int :=
  if (chkP l).1 ≠ 0 then chkP l
  else if at_ < 0 ∨ (l.length : Int) - 1 ≤ at_ then (3, -1)
  else if numB id = false then (3, -3)
  else if hasID l at_.toNat 2 id = true then (10, -3)
  else (0, 0)

def joinL (l : List Pt) (k : Nat) (id : Int) : List Pt :=
  l.take k ++ [⟨(l.getD k zeroPt).fr, (l.getD (k + 1) zeroPt).to_, id⟩] ++ l.drop (k + 2)

theorem splitL_length {l : List Pt} {k : Nat} {row : ByteArray} {left right : Int} (h : k < l.length) : (splitL l k row left right).length = l.length + 1 := by
  simp [splitL]; omega

theorem joinL_length {l : List Pt} {k : Nat} {id : Int} (h : k + 1 < l.length) : (joinL l k id).length + 1 = l.length := by
  simp [joinL]; omega

theorem parts_at {l : List Pt} {k : Nat} (h : k < l.length) : l = l.take k ++ l.getD k zeroPt :: l.drop (k + 1) := by
  rw [List.getD_eq_getElem?_getD, List.getElem?_eq_getElem h]
  simp only [Option.getD_some, List.getElem_cons_drop, List.take_append_drop]

theorem parts_at2 {l : List Pt} {k : Nat} (h : k + 1 < l.length) : l = l.take k ++ l.getD k zeroPt :: l.getD (k + 1) zeroPt :: l.drop (k + 2) := by
  have h1 : l.drop (k + 1) = l.getD (k + 1) zeroPt :: l.drop (k + 2) := by
    rw [List.getD_eq_getElem?_getD, List.getElem?_eq_getElem h]
    simp only [Option.getD_some, List.getElem_cons_drop]
  rw [← h1]
  exact parts_at (by omega)

/-- A middle is put in the stead of another one with the same two ends. -/
theorem chn_mid : ∀ {xs : List Pt} {e : List UInt8} {ms ns : List Pt}, ms ≠ [] → ns ≠ [] → (∀ e', Chn e' ms → Chn e' ns) → Chn e (xs ++ ms) → Chn e (xs ++ ns)
  | [], e, ms, ns, _, _, h, hc => h _ hc
  | [p], e, m :: ms, n :: ns, h1, h2, h, hc => ⟨hc.1, hc.2.1, hc.2.2.1, h _ hc.2.2.2⟩
  | p :: q :: xs, e, ms, ns, h1, h2, h, hc => ⟨hc.1, hc.2.1, hc.2.2.1, chn_mid (xs := q :: xs) h1 h2 h hc.2.2.2⟩

theorem splitF_ok {l : List Pt} {at_ : Int} {row : ByteArray} {left right : Int} (h : (splitF l at_ row left right).1 = 0) :
    FineP l ∧ ∃ k : Nat, at_ = k ∧ k < l.length ∧ row.size ≤ 40 ∧ row.toList ≠ (l.getD k zeroPt).fr.toList ∧ inB row (l.getD k zeroPt).fr (l.getD k zeroPt).to_ = true ∧ numB left = true ∧ numB right = true ∧ left ≠ right ∧ hasID l k 1 left = false ∧ hasID l k 1 right = false ∧ l.length < 200 := by
  unfold splitF at h
  split at h
  · rename_i h0; exact absurd h h0
  · rename_i h0
    have hf := chkP_fine.1 (Decidable.not_not.1 h0)
    refine ⟨hf, ?_⟩
    split at h
    · simp at h
    · rename_i h1
      obtain ⟨k, rfl⟩ : ∃ k : Nat, at_ = k := ⟨at_.toNat, by omega⟩
      simp only [Int.toNat_natCast] at h
      refine ⟨k, rfl, by omega, ?_⟩
      split at h
      · simp at h
      · split at h
        · simp at h
        · split at h
          · simp at h
          · split at h
            · simp at h
            · split at h
              · simp at h
              · rename_i h2 h3 h4 h5 h6
                simp only [not_or, Bool.not_eq_false, Bool.not_eq_true] at h3 h4 h5
                have := hf.1
                exact ⟨by omega, h3.1, h3.2, h4.1, h4.2, h5.1, h5.2.1, h5.2.2, by omega⟩

theorem nodup_mid {l : List Pt} {xs ys ms : List Pt} {k n : Nat} (hl : l = xs ++ ms ++ ys) (hk : xs.length = k) (hn : ms.length = n) (h : (l.map Pt.id).Nodup) (ns : List Pt) (hns : (ns.map Pt.id).Nodup) (hno : ∀ p ∈ ns, hasID l k n p.id = false) :
    ((xs ++ ns ++ ys).map Pt.id).Nodup := by
  subst hl
  simp only [List.map_append, List.append_assoc, List.nodup_append] at h ⊢
  obtain ⟨h1, ⟨h2, h3, h4⟩, h5⟩ := h
  have hx : ∀ p ∈ ns, ∀ q ∈ xs, q.id ≠ p.id := by
    intro p hp q hq e
    obtain ⟨j, hj⟩ := List.getElem?_of_mem hq
    have hjl := (List.getElem?_eq_some_iff.1 hj).1
    have := hno p hp
    rw [Bool.eq_false_iff] at this
    exact this (hasID_iff.2 ⟨j, q, by rw [List.append_assoc, List.getElem?_append_left hjl, hj], e, .inl (by omega)⟩)
  have hy : ∀ p ∈ ns, ∀ q ∈ ys, q.id ≠ p.id := by
    intro p hp q hq e
    obtain ⟨j, hj⟩ := List.getElem?_of_mem hq
    have := hno p hp
    rw [Bool.eq_false_iff] at this
    refine this (hasID_iff.2 ⟨(xs ++ ms).length + j, q, by rw [List.getElem?_append_right (by omega), Nat.add_sub_cancel_left, hj], e, .inr (by simp; omega)⟩)
  refine ⟨h1, ⟨hns, h3, ?_⟩, ?_⟩
  · intro a ha b hb e
    obtain ⟨p, hp, rfl⟩ := List.mem_map.1 ha
    obtain ⟨q, hq, rfl⟩ := List.mem_map.1 hb
    exact hy p hp q hq e.symm
  · intro a ha b hb e
    obtain ⟨q, hq, rfl⟩ := List.mem_map.1 ha
    rcases List.mem_append.1 hb with hb | hb
    · obtain ⟨p, hp, rfl⟩ := List.mem_map.1 hb
      exact hx p hp q hq e
    · exact h5 _ ha b (List.mem_append_right _ hb) e

theorem split_fine {l : List Pt} {at_ : Int} {row : ByteArray} {left right : Int} (h : (splitF l at_ row left right).1 = 0) : FineP (splitL l at_.toNat row left right) := by
  obtain ⟨hf, k, rfl, hk, h1, h2, h3, h4, h5, h6, h7, h8, h9⟩ := splitF_ok h
  rw [Int.toNat_natCast]
  have hlen := splitL_length (row := row) (left := left) (right := right) hk
  refine ⟨by omega, ?_, ?_⟩
  · have hc := hf.2.1
    rw [parts_at hk] at hc
    unfold splitL
    rw [List.append_assoc]
    refine chn_mid (by simp) (by simp) ?_ hc
    intro e hm
    have hh := hm.head
    obtain ⟨hin1, hin2⟩ := inB_true.1 h3
    have hlt : bLt (l.getD k zeroPt).fr.toList row.toList = true := by
      cases hb : bLt (l.getD k zeroPt).fr.toList row.toList
      · exact absurd (bLt_total hin1 hb) h2
      · rfl
    generalize l.getD k zeroPt = p at *
    have hokp := hh.1
    have hoka : okP ⟨p.fr, row, left⟩ := ⟨hokp.1, h1, h4⟩
    have hokb : okP ⟨row, p.to_, right⟩ := ⟨h1, hokp.2.1, h5⟩
    cases hd : l.drop (k + 1) with
    | nil =>
      rw [hd] at hm
      exact ⟨hoka, hh.2, hlt, hokb, rfl, hm.2.2⟩
    | cons q r =>
      rw [hd] at hm
      have hto : bLt row.toList p.to_.toList = true := by
        rcases hin2 with h0 | h0
        · have := hm.2.2.1
          rw [h0, bLt_nil_right] at this
          cases this
        · exact h0
      exact ⟨hoka, hh.2, hlt, hokb, rfl, hto, hm.2.2.2⟩
  · have hl : l = l.take k ++ [l.getD k zeroPt] ++ l.drop (k + 1) := by
      rw [List.append_assoc, List.singleton_append]; exact parts_at hk
    refine nodup_mid (k := k) hl (by simp; omega) rfl hf.2.2 _ (by simp [h6]) ?_
    intro p hp
    simp only [List.mem_cons, List.not_mem_nil, or_false] at hp
    rcases hp with rfl | rfl
    · exact h7
    · exact h8

theorem joinF_ok {l : List Pt} {at_ id : Int} (h : (joinF l at_ id).1 = 0) : FineP l ∧ ∃ k : Nat, at_ = k ∧ k + 1 < l.length ∧ numB id = true ∧ hasID l k 2 id = false := by
  unfold joinF at h
  split at h
  · rename_i h0; exact absurd h h0
  · rename_i h0
    refine ⟨chkP_fine.1 (Decidable.not_not.1 h0), ?_⟩
    split at h
    · simp at h
    · rename_i h1
      obtain ⟨k, rfl⟩ : ∃ k : Nat, at_ = k := ⟨at_.toNat, by omega⟩
      simp only [Int.toNat_natCast] at h
      refine ⟨k, rfl, by omega, ?_⟩
      split at h
      · simp at h
      · split at h
        · simp at h
        · rename_i h2 h3
          exact ⟨by simpa using h2, by simpa using h3⟩

theorem join_fine {l : List Pt} {at_ id : Int} (h : (joinF l at_ id).1 = 0) : FineP (joinL l at_.toNat id) := by
  obtain ⟨hf, k, rfl, hk, h1, h2⟩ := joinF_ok h
  rw [Int.toNat_natCast]
  have hlen := joinL_length (id := id) hk
  have hle := hf.1
  refine ⟨by omega, ?_, ?_⟩
  · have hc := hf.2.1
    rw [parts_at2 hk] at hc
    unfold joinL
    rw [List.append_assoc]
    refine chn_mid (by simp) (by simp) ?_ hc
    intro e hm
    generalize l.getD k zeroPt = p at *
    generalize l.getD (k + 1) zeroPt = q at *
    obtain ⟨g1, g2, g3, g4⟩ := hm
    have hq := g4.head
    have hok : okP ⟨p.fr, q.to_, id⟩ := ⟨g1.1, hq.1.2.1, h1⟩
    cases hd : l.drop (k + 2) with
    | nil =>
      rw [hd] at g4
      exact ⟨hok, g2, g4.2.2⟩
    | cons x r =>
      rw [hd] at g4
      refine ⟨hok, g2, ?_, g4.2.2.2⟩
      have := g4.2.2.1
      rw [hq.2] at this
      exact bLt_trans g3 this
  · have hl : l = l.take k ++ [l.getD k zeroPt, l.getD (k + 1) zeroPt] ++ l.drop (k + 2) := by
      rw [List.append_assoc]; exact parts_at2 hk
    refine nodup_mid (k := k) hl (by simp; omega) rfl hf.2.2 _ (by simp) ?_
    intro p hp
    simp only [List.mem_cons, List.not_mem_nil, or_false] at hp
    subst hp
    exact h2

theorem getD_mid (xs : List Pt) (a : Pt) (ys : List Pt) (k : Nat) (hk : xs.length = k) : (xs ++ a :: ys).getD k zeroPt = a := by
  subst hk
  simp [List.getD_eq_getElem?_getD]

theorem getD_mid1 (xs : List Pt) (a b : Pt) (ys : List Pt) (k : Nat) (hk : xs.length = k) : (xs ++ a :: b :: ys).getD (k + 1) zeroPt = b := by
  subst hk
  simp [List.getD_eq_getElem?_getD]

/-- What is split and joined again is as it was. -/
theorem split_join {l : List Pt} {k : Nat} {row : ByteArray} {left right : Int} (hk : k < l.length) : joinL (splitL l k row left right) k (l.getD k zeroPt).id = l := by
  have ht : (l.take k).length = k := by simp; omega
  unfold joinL
  have e : splitL l k row left right = l.take k ++ ⟨(l.getD k zeroPt).fr, row, left⟩ :: ⟨row, (l.getD k zeroPt).to_, right⟩ :: l.drop (k + 1) := by simp [splitL]
  rw [e, getD_mid _ _ _ _ ht, getD_mid1 _ _ _ _ _ ht, List.take_left' ht, List.drop_append, ht, List.drop_of_length_le (by omega), show k + 2 - k = 2 by omega]
  simp only [List.nil_append, List.drop_succ_cons, List.drop_zero]
  rw [List.append_assoc, List.singleton_append]
  exact (parts_at hk).symm

theorem split_joinF {l : List Pt} {at_ : Int} {row : ByteArray} {left right : Int} (h : (splitF l at_ row left right).1 = 0) : joinF (splitL l at_.toNat row left right) at_ (l.getD at_.toNat zeroPt).id = (0, 0) := by
  have hfs := split_fine h
  obtain ⟨hf, k, rfl, hk, h1, h2, h3, h4, h5, h6, h7, h8, h9⟩ := splitF_ok h
  rw [Int.toNat_natCast] at hfs ⊢
  have hlen := splitL_length (row := row) (left := left) (right := right) hk
  unfold joinF
  rw [if_neg (by rw [chkP_ok hfs]; simp), if_neg (by omega), Int.toNat_natCast]
  have hc := hf.2.1
  have hokp : okP (l.getD k zeroPt) := by
    have : ∀ {xs : List Pt} {e : List UInt8} {p : Pt} {ys : List Pt}, Chn e (xs ++ p :: ys) → okP p := by
      intro xs
      induction xs with
      | nil => intro e p ys h; exact h.head.1
      | cons x xs ih =>
        intro e p ys h
        cases xs with
        | nil => exact ih h.2.2.2
        | cons y xs => exact ih h.2.2.2
    rw [parts_at hk] at hc
    exact this hc
  rw [if_neg (by rw [hokp.2.2]; simp), if_neg]
  rw [Bool.not_eq_true, Bool.eq_false_iff]
  intro hid
  obtain ⟨j, q, hj, hq, hjk⟩ := hasID_iff.1 hid
  -- a third part that has the ID lay in l, too, at another place
  have hn := hf.2.2
  have hkk : l[k]? = some (l.getD k zeroPt) := by rw [List.getD_eq_getElem?_getD, List.getElem?_eq_getElem hk]; rfl
  have key : ∀ m, m ≠ k → l[m]? = some q → False := by
    intro m hm hlm
    have hml := (List.getElem?_eq_some_iff.1 hlm).1
    have hn' := nodup_get.1 hn
    have e1 : (l.map Pt.id)[m]? = some q.id := by rw [List.getElem?_map, hlm]; rfl
    have e2 : (l.map Pt.id)[k]? = some (l.getD k zeroPt).id := by rw [List.getElem?_map, hkk]; rfl
    rcases Nat.lt_or_gt_of_ne hm with hlt | hlt
    · exact hn' m k hlt _ _ e1 e2 hq
    · exact hn' k m hlt _ _ e2 e1 hq.symm
  have ht : (l.take k).length = k := by simp; omega
  unfold splitL at hj
  rcases hjk with hjk | hjk
  · rw [List.append_assoc, List.getElem?_append_left (by omega), List.getElem?_take, if_pos hjk] at hj
    exact key j (by omega) hj
  · rw [List.getElem?_append_right (by simp; omega), List.getElem?_drop] at hj
    refine key _ ?_ hj
    simp
    omega

end Go.Proofs.Ytahgddbladfemae
