/-
  Plain maths of package entry: logs, and what is put into them. Nothing of a program stands here.
-/
import Derived.Test.YtpojgcjigjenoagSealMath
namespace Go.Proofs.Ytpojgcjigjenoag
open Go.RowKit
set_option linter.unusedVariables false

/-- An entry. -/
structure Et where
  term : Int
  text : ByteArray

/-- What is wrong with an entry behind one of a Term. -/
def codeB (a : Int) (e : Et) : Int := if e.term = 0 ∨ numL e.term = false then 3 else if e.term < a then 11 else if 200 < e.text.size then 8 else 0

def chkGo : Int → Nat → List Et → Int × Int
  | _, _, [] => (0, 0)
  | a, i, e :: l => if codeB a e ≠ 0 then (codeB a e, (i : Int)) else chkGo e.term (i + 1) l

/-- What is wrong with a log. -/
def chkE (l : List Et) : Int × Int := if 100 < l.length then (2, -1) else chkGo 0 0 l

theorem chkGo_z : ∀ (l : List Et) (a : Int) (i : Nat), Fz (chkGo a i l)
  | [], _, _ => fun _ => rfl
  | e :: l, a, i => by
    unfold chkGo
    split
    · intro h; contradiction
    · exact chkGo_z l _ _

theorem chkE_z (l : List Et) : Fz (chkE l) := by
  unfold chkE
  split
  · intro h; simp at h
  · exact chkGo_z l 0 0

theorem chkE_at {l : List Et} : -1000 ≤ (chkE l).2 ∧ (chkE l).2 ≤ 1000 := by
  have key : ∀ (l : List Et) (a : Int) (i : Nat), (chkGo a i l).2 = 0 ∨ ((i : Int) ≤ (chkGo a i l).2 ∧ (chkGo a i l).2 < (i : Int) + l.length) := by
    intro l
    induction l with
    | nil => intro a i; left; rfl
    | cons e l ih =>
      intro a i
      unfold chkGo
      split
      · right; simp; omega
      · rcases ih e.term (i + 1) with h | ⟨h1, h2⟩
        · exact .inl h
        · right
          simp only [List.length_cons]
          omega
  unfold chkE
  split
  · constructor <;> decide
  · have := key l 0 0
    omega

/-- What is wrong with a place and a Term. -/
def plF (n t : Int) : Int × Int := if numL n = false then (3, -1) else if numL t = false then (3, -2) else (0, 0)

theorem plF_z (n t : Int) : Fz (plF n t) := by
  unfold plF
  split
  · intro h; simp at h
  split
  · intro h; simp at h
  · intro; rfl

def secF (f : Int × Int) : Int × Int := if f.1 ≠ 0 then (f.1, f.2 - 1000) else (0, 0)

def bothF (a b : List Et) : Int × Int := if (chkE a).1 ≠ 0 then chkE a else secF (chkE b)

theorem secF_z (f : Int × Int) : Fz (secF f) := by
  unfold secF
  split
  · intro h; contradiction
  · intro; rfl

theorem bothF_z (a b : List Et) : Fz (bothF a b) := by
  unfold bothF
  split
  · exact chkE_z a
  · exact secF_z _

theorem bothF_ok {a b : List Et} (h : (bothF a b).1 = 0) : (chkE a).1 = 0 ∧ (chkE b).1 = 0 := by
  unfold bothF at h
  by_cases h1 : (chkE a).1 ≠ 0
  · rw [if_pos h1] at h; contradiction
  · rw [if_neg h1] at h
    refine ⟨by simpa using h1, ?_⟩
    unfold secF at h
    by_cases h2 : (chkE b).1 ≠ 0
    · rw [if_pos h2] at h; contradiction
    · simpa using h2

theorem bothF_of {a b : List Et} (h1 : (chkE a).1 = 0) (h2 : (chkE b).1 = 0) : bothF a b = (0, 0) := by
  unfold bothF secF
  rw [if_neg (by simpa using h1), if_neg (by simpa using h2)]

def oldF (l : List Et) (n t : Int) : Int × Int := if (chkE l).1 ≠ 0 then chkE l else plF n t
def ptF (l : List Et) (n t : Int) (m : List Et) : Int × Int := if (bothF l m).1 ≠ 0 then bothF l m else plF n t

theorem oldF_z (l : List Et) (n t : Int) : Fz (oldF l n t) := by
  unfold oldF
  split
  · exact chkE_z l
  · exact plF_z _ _

theorem ptF_z (l : List Et) (n t : Int) (m : List Et) : Fz (ptF l n t m) := by
  unfold ptF
  split
  · exact bothF_z _ _
  · exact plF_z _ _

/-- The Term of the last entry. -/
def lastT (l : List Et) : Int := match l.getLast? with
  | some e => e.term
  | none => 0

theorem lastT_nil : lastT [] = 0 := rfl
theorem lastT_at {l : List Et} {k : Nat} {e : Et} (h : l[k]? = some e) (hk : k + 1 = l.length) : lastT l = e.term := by
  unfold lastT
  rw [List.getLast?_eq_getElem?, show l.length - 1 = k by omega, h]

/-- Is a log older? -/
def oldB (l : List Et) (n t : Int) : Bool := decide (lastT l < t ∨ (lastT l = t ∧ (l.length : Int) < n))

/-- Has a log an entry of a Term at a place? -/
def tmE : Option Et → Int → Bool
  | some e, t => decide (e.term = t)
  | none, _ => false

def hasE (l : List Et) : Nat → Int → Bool
  | 0, t => decide (t = 0)
  | k + 1, t => tmE l[k]? t

theorem hasE_zero {l : List Et} {t : Int} : hasE l 0 t = decide (t = 0) := rfl
theorem hasE_some {l : List Et} {k : Nat} {t : Int} {e : Et} (h : l[k]? = some e) : hasE l (k + 1) t = decide (e.term = t) := by rw [hasE, h]; rfl
theorem hasE_none {l : List Et} {k : Nat} {t : Int} (h : l.length ≤ k) : hasE l (k + 1) t = false := by rw [hasE, List.getElem?_eq_none h]; rfl

theorem hasE_le {l : List Et} {k : Nat} {t : Int} (h : hasE l k t = true) : k ≤ l.length := by
  cases k with
  | zero => omega
  | succ k =>
    by_cases hk : k < l.length
    · omega
    · rw [hasE_none (by omega)] at h; contradiction

/-- Entries put behind a place. -/
def putGo (l : List Et) : Nat → List Et → List Et
  | _, [] => l
  | k, e :: m => if hasE l (k + 1) e.term = true then putGo l (k + 1) m else l.take k ++ (e :: m)

def outF (l : List Et) : Int × Int := if (chkE l).1 = 0 ∨ (chkE l).1 = 2 then chkE l else (11, -1)
def outR (l : List Et) : Int × Int := if (chkE l).1 ≠ 0 then ((chkE l).1, -1) else (0, 0)

theorem outF_z (l : List Et) : Fz (outF l) := by
  unfold outF
  split
  · exact chkE_z l
  · intro h; simp at h

/-- Entries that are fine by themselves. -/
def FineE (e : Et) : Prop := ¬ (e.term = 0 ∨ numL e.term = false) ∧ ¬ 200 < e.text.size

theorem codeB_fine {a : Int} {e : Et} (h : FineE e) : codeB a e = 0 ∨ codeB a e = 11 := by
  unfold codeB
  rw [if_neg h.1]
  split
  · exact .inr rfl
  · rw [if_neg h.2]; exact .inl rfl

theorem fine_codeB {a : Int} {e : Et} (h : codeB a e = 0) : FineE e := by
  unfold codeB at h
  by_cases h1 : e.term = 0 ∨ numL e.term = false
  · rw [if_pos h1] at h; simp at h
  rw [if_neg h1] at h
  by_cases h2 : e.term < a
  · rw [if_pos h2] at h; simp at h
  rw [if_neg h2] at h
  by_cases h3 : 200 < e.text.size
  · rw [if_pos h3] at h; simp at h
  exact ⟨h1, h3⟩

theorem chkGo_fine : ∀ (l : List Et) (a : Int) (i : Nat), (chkGo a i l).1 = 0 → ∀ e ∈ l, FineE e
  | [], _, _, _ => by simp
  | x :: l, a, i, h => by
    unfold chkGo at h
    by_cases h1 : codeB a x ≠ 0
    · rw [if_pos h1] at h; contradiction
    · rw [if_neg h1] at h
      intro e he
      rcases List.mem_cons.1 he with rfl | he
      · exact fine_codeB (by simpa using h1)
      · exact chkGo_fine l _ _ h e he

theorem chkE_fine {l : List Et} (h : (chkE l).1 = 0) : (∀ e ∈ l, FineE e) ∧ l.length ≤ 100 := by
  unfold chkE at h
  by_cases h1 : 100 < l.length
  · rw [if_pos h1] at h; simp at h
  · rw [if_neg h1] at h
    exact ⟨chkGo_fine l _ _ h, by omega⟩

theorem chkGo_code : ∀ (l : List Et) (a : Int) (i : Nat), (∀ e ∈ l, FineE e) → (chkGo a i l).1 = 0 ∨ (chkGo a i l).1 = 11
  | [], _, _, _ => .inl rfl
  | x :: l, a, i, h => by
    unfold chkGo
    split
    · have := codeB_fine (a := a) (h x (by simp))
      rcases this with h1 | h1
      · contradiction
      · exact .inr h1
    · exact chkGo_code l _ _ (fun e he => h e (List.mem_cons_of_mem _ he))

theorem out_same {l : List Et} (h : ∀ e ∈ l, FineE e) : outR l = outF l := by
  unfold outR outF
  by_cases h1 : 100 < l.length
  · have e : chkE l = (2, -1) := by unfold chkE; rw [if_pos h1]
    rw [e]; rfl
  · have e : chkE l = chkGo 0 0 l := by unfold chkE; rw [if_neg h1]
    have hz := chkE_z l
    rcases chkGo_code l 0 0 h with h2 | h2
    · have h3 : chkE l = (0, 0) := hz (by rw [e]; exact h2)
      rw [h3]; rfl
    · rw [e, if_pos (by rw [h2]; decide), if_neg (by rw [h2]; decide), h2]

theorem putGo_mem : ∀ (m : List Et) (l : List Et) (k : Nat) (e : Et), e ∈ putGo l k m → e ∈ l ∨ e ∈ m
  | [], l, k, e, h => .inl h
  | x :: m, l, k, e, h => by
    unfold putGo at h
    split at h
    · rcases putGo_mem m l (k + 1) e h with h | h
      · exact .inl h
      · exact .inr (List.mem_cons_of_mem _ h)
    · rcases List.mem_append.1 h with h | h
      · exact .inl (List.mem_of_mem_take h)
      · exact .inr h

theorem putGo_fine {l m : List Et} {k : Nat} (hl : ∀ e ∈ l, FineE e) (hm : ∀ e ∈ m, FineE e) : ∀ e ∈ putGo l k m, FineE e := by
  intro e he
  rcases putGo_mem m l k e he with h | h
  · exact hl e h
  · exact hm e h

theorem putGo_len : ∀ (m : List Et) (l : List Et) (k : Nat), (putGo l k m).length ≤ l.length + m.length
  | [], l, k => by simp [putGo]
  | x :: m, l, k => by
    unfold putGo
    split
    · have := putGo_len m l (k + 1)
      simp; omega
    · simp; omega

/-- Are entries there already? -/
def thr (l : List Et) : Nat → List Et → Bool
  | _, [] => true
  | k, e :: m => hasE l (k + 1) e.term && thr l (k + 1) m

theorem putGo_there : ∀ (m : List Et) (l : List Et) (k : Nat), thr l k m = true → putGo l k m = l
  | [], l, k, _ => rfl
  | x :: m, l, k, h => by
    unfold thr at h
    rw [Bool.and_eq_true] at h
    unfold putGo
    rw [if_pos h.1]
    exact putGo_there m l (k + 1) h.2

theorem putGo_not : ∀ (m : List Et) (l : List Et) (k : Nat), k ≤ l.length → thr l k m = false → (putGo l k m).length = k + m.length
  | [], l, k, _, h => by simp [thr] at h
  | x :: m, l, k, hk, h => by
    unfold thr at h
    unfold putGo
    by_cases h1 : hasE l (k + 1) x.term = true
    · rw [if_pos h1]
      rw [h1, Bool.true_and] at h
      have := putGo_not m l (k + 1) (hasE_le h1) h
      simp; omega
    · rw [if_neg h1]
      simp; omega

theorem putGo_take : ∀ (m : List Et) (l : List Et) (k : Nat), k ≤ l.length → (putGo l k m).take k = l.take k
  | [], l, k, _ => rfl
  | x :: m, l, k, hk => by
    unfold putGo
    split
    · rename_i h
      have := putGo_take m l (k + 1) (hasE_le h)
      have h2 : ((putGo l (k + 1) m).take (k + 1)).take k = (l.take (k + 1)).take k := by rw [this]
      rw [List.take_take, List.take_take, Nat.min_eq_left (by omega)] at h2
      exact h2
    · rw [List.take_append_of_le_length (by simp; omega), List.take_take, Nat.min_self]

theorem take_get {l : List Et} {k i : Nat} (h : i < k) : (l.take k)[i]? = l[i]? := by
  rw [List.getElem?_take, if_pos h]

theorem hasE_take {l m : List Et} {k j : Nat} {t : Int} (h : l.take k = m.take k) (hj : j ≤ k) : hasE l j t = hasE m j t := by
  cases j with
  | zero => rfl
  | succ j =>
    have := congrArg (fun x : List Et => x[j]?) h
    simp only [List.getElem?_take, if_pos (show j < k by omega)] at this
    rw [hasE, hasE, this]

/-- What is put is there. -/
theorem thr_put : ∀ (m : List Et) (l : List Et) (k : Nat), k ≤ l.length → thr (putGo l k m) k m = true
  | [], l, k, _ => rfl
  | x :: m, l, k, hk => by
    unfold thr putGo
    by_cases h1 : hasE l (k + 1) x.term = true
    · rw [if_pos h1]
      have h2 := hasE_le h1
      rw [thr_put m l (k + 1) h2, Bool.and_true]
      rw [hasE_take (putGo_take m l (k + 1) h2) (Nat.le_refl _)]
      exact h1
    · rw [if_neg h1]
      have key : ∀ (m2 : List Et) (p : List Et), thr (p ++ m2) p.length m2 = true := by
        intro m2
        induction m2 with
        | nil => intro p; rfl
        | cons y m2 ih =>
          intro p
          unfold thr
          have h3 : (p ++ y :: m2)[p.length]? = some y := by simp
          rw [hasE_some h3]
          have := ih (p ++ [y])
          simp only [List.append_assoc, List.singleton_append, List.length_append, List.length_singleton] at this
          rw [this]
          simp
      have h4 := key (x :: m) (l.take k)
      rw [List.length_take, Nat.min_eq_left hk] at h4
      unfold thr at h4
      exact h4

/-- Put twice it is the same. -/
theorem putGo_twice {m l : List Et} {k : Nat} (h : k ≤ l.length) : putGo (putGo l k m) k m = putGo l k m := putGo_there _ _ _ (thr_put m l k h)

theorem thr_len : ∀ (m : List Et) (l : List Et) (k : Nat), k ≤ l.length → thr l k m = true → k + m.length ≤ l.length
  | [], l, k, hk, _ => by simpa using hk
  | x :: m, l, k, hk, h => by
    unfold thr at h
    rw [Bool.and_eq_true] at h
    have := thr_len m l (k + 1) (hasE_le h.1) h.2
    simp; omega

theorem thr_get : ∀ (m : List Et) (l : List Et) (k : Nat), thr l k m = true → ∀ (i : Nat) (e : Et), m[i]? = some e → ∃ x, l[k + i]? = some x ∧ x.term = e.term
  | [], l, k, _, i, e, h => by simp at h
  | y :: m, l, k, h, i, e, hi => by
    unfold thr at h
    rw [Bool.and_eq_true] at h
    cases i with
    | zero =>
      simp at hi
      subst hi
      have h1 := h.1
      have h2 := hasE_le h1
      obtain ⟨x, hx⟩ : ∃ x, l[k]? = some x := ⟨_, List.getElem?_eq_getElem (by omega)⟩
      rw [hasE_some hx] at h1
      exact ⟨x, hx, by simpa using h1⟩
    | succ i =>
      have := thr_get m l (k + 1) h.2 i e (by simpa using hi)
      rw [show k + 1 + i = k + (i + 1) by omega] at this
      exact this

theorem putGo_ge {m l : List Et} {k : Nat} (h : k ≤ l.length) : k + m.length ≤ (putGo l k m).length := by
  have hk : k ≤ (putGo l k m).length := by
    have := congrArg List.length (putGo_take m l k h)
    rw [List.length_take, List.length_take] at this
    omega
  exact thr_len m _ k hk (thr_put m l k h)

/-- Of the first so many. -/
theorem thr_snoc : ∀ (m : List Et) (l : List Et) (k i : Nat) (e : Et), m[i]? = some e → thr l k (m.take (i + 1)) = (thr l k (m.take i) && hasE l (k + i + 1) e.term)
  | [], l, k, i, e, h => by simp at h
  | y :: m, l, k, 0, e, h => by
    simp at h
    subst h
    simp [thr]
  | y :: m, l, k, i + 1, e, h => by
    have := thr_snoc m l (k + 1) i e (by simpa using h)
    simp only [List.take_succ_cons, thr]
    rw [this, ← Bool.and_assoc, show k + 1 + i + 1 = k + (i + 1) + 1 by omega]

/-- The greatest place at which two agree, of the first so many. -/
def agGo (a b : List Et) : Nat → Nat
  | 0 => 0
  | k + 1 => if (a[k]?.map (·.term)) = (b[k]?.map (·.term)) then k + 1 else agGo a b k

theorem agGo_yes {a b : List Et} {k : Nat} {x y : Et} (hx : a[k]? = some x) (hy : b[k]? = some y) (h : x.term = y.term) : agGo a b (k + 1) = k + 1 := by
  unfold agGo; rw [hx, hy]; simp [h]
theorem agGo_no {a b : List Et} {k : Nat} {x y : Et} (hx : a[k]? = some x) (hy : b[k]? = some y) (h : ¬ x.term = y.term) : agGo a b (k + 1) = agGo a b k := by
  rw [agGo, hx, hy, if_neg (by simpa using h)]

def agN (a b : List Et) : Nat := if (bothF a b).1 = 0 then agGo a b (min a.length b.length) else 0

theorem agGo_le (a b : List Et) : ∀ k, agGo a b k ≤ k
  | 0 => Nat.le_refl _
  | k + 1 => by unfold agGo; split; omega; have := agGo_le a b k; omega

/-- What Put tells: the log, whether it was put, the fault. -/
def putL (l : List Et) (n t : Int) (m : List Et) : List Et :=
  if (ptF l n t m).1 ≠ 0 then [] else if hasE l n.toNat t = false then l else if (outF (putGo l n.toNat m)).1 ≠ 0 then [] else putGo l n.toNat m

def putI (l : List Et) (n t : Int) (m : List Et) : Bool :=
  if (ptF l n t m).1 ≠ 0 then false else if hasE l n.toNat t = false then false else if (outF (putGo l n.toNat m)).1 ≠ 0 then false else true

def putX (l : List Et) (n t : Int) (m : List Et) : Int × Int :=
  if (ptF l n t m).1 ≠ 0 then ptF l n t m else if hasE l n.toNat t = false then (0, 0) else outF (putGo l n.toNat m)

theorem ptF_ok {l : List Et} {n t : Int} {m : List Et} (h : (ptF l n t m).1 = 0) : (chkE l).1 = 0 ∧ (chkE m).1 = 0 ∧ numL n = true ∧ numL t = true := by
  unfold ptF at h
  by_cases h1 : (bothF l m).1 ≠ 0
  · rw [if_pos h1] at h; contradiction
  · rw [if_neg h1] at h
    obtain ⟨h2, h3⟩ := bothF_ok (by simpa using h1)
    refine ⟨h2, h3, ?_⟩
    unfold plF at h
    cases h4 : numL n
    · rw [h4] at h; simp at h
    · cases h5 : numL t
      · rw [h4, h5] at h; simp at h
      · exact ⟨rfl, rfl⟩

theorem ptF_of {l : List Et} {n t : Int} {m : List Et} (h1 : (chkE l).1 = 0) (h2 : (chkE m).1 = 0) (h3 : numL n = true) (h4 : numL t = true) : ptF l n t m = (0, 0) := by
  unfold ptF plF
  rw [bothF_of h1 h2, h3, h4]; rfl

end Go.Proofs.Ytpojgcjigjenoag
