/-
  Texts joined: AsK1.
-/
import Derived.Test.YtnbifobdkjkjlaaMAssignKeepsAsR8
/-
  Plain maths for AssignKeeps: what was done is refused if it comes again; turns and numbers never fall; each turn is one host's for one slot; each row is in one slot. Nothing is walked here.
-/
namespace Go.Proofs.Ytnbifobdkjkjlaa
open Go.RowKit
set_option linter.unusedVariables false

theorem act_of {b : Bd} {k : Nat} {x : Sl} {f : Int × Int} {g : Sl → Sl} (hx : b.sl[k]? = some x) (hf : f.1 = 0) : actS b (some k) f g = { b with sl := b.sl.set k (g x) } := by
  unfold actS
  dsimp only
  rw [if_pos hf, getD_of hx]

theorem ren_of {b : Bd} {i j : Nat} {ps : List Pt} (h : (renF b ps).1 = 0) : renB b i j ps = { b with nx := b.nx + ps.length, sl := b.sl.take i ++ newS ps b.nx ++ b.sl.drop j } := by
  unfold renF at h
  unfold renB
  by_cases q : 1000000000 < b.nx + (ps.length : Int)
  · rw [if_pos q] at h; cases h
  · rw [if_neg q]

theorem newS_mem : ∀ (l : List Pt) (n : Int) (s : Sl), s ∈ newS l n → s.st = 0 ∧ n ≤ s.p.id
  | [], n, s, hs => by cases hs
  | p :: r, n, s, hs => by
    rcases List.mem_cons.1 hs with q | q
    · subst q; exact ⟨rfl, Int.le_refl _⟩
    · have := newS_mem r (n + 1) s q
      exact ⟨this.1, by omega⟩

/-- What an order leaves: the turns and numbers do not fall; a slot that serves served so before, or has a turn that is new. -/
structure Goes (b x : Bd) : Prop where
  tu : b.tu ≤ x.tu
  nx : b.nx ≤ x.nx
  sl : ∀ s' ∈ x.sl, s'.st ≠ 0 → (∃ s ∈ b.sl, s.st ≠ 0 ∧ s.tu = s'.tu ∧ s.ho = s'.ho ∧ s.p.id = s'.p.id) ∨ b.tu < s'.tu

theorem Goes.refl (b : Bd) : Goes b b := ⟨Int.le_refl _, Int.le_refl _, fun s hs h => .inl ⟨s, hs, h, rfl, rfl, rfl⟩⟩

theorem Goes.set {b : Bd} {k : Nat} {x z : Sl} (hx : b.sl[k]? = some x) (hz : z.st ≠ 0 → x.st ≠ 0 ∧ x.tu = z.tu ∧ x.ho = z.ho ∧ x.p.id = z.p.id) : Goes b { b with sl := b.sl.set k z } :=
  ⟨Int.le_refl _, Int.le_refl _, fun s hs h => by
    rcases mem_set hs with q | q
    · exact .inl ⟨s, q, h, rfl, rfl, rfl⟩
    · subst q
      obtain ⟨h1, h2, h3, h4⟩ := hz h
      exact .inl ⟨x, List.mem_of_getElem? hx, h1, h2, h3, h4⟩⟩

theorem Goes.ren {b : Bd} {i j : Nat} {ps : List Pt} (h : (renF b ps).1 = 0) : Goes b (renB b i j ps) := by
  rw [ren_of h]
  refine ⟨Int.le_refl _, by show b.nx ≤ b.nx + (ps.length : Int); omega, fun s hs hst => ?_⟩
  rcases List.mem_append.1 hs with q | q
  · rcases List.mem_append.1 q with q | q
    · exact .inl ⟨s, List.mem_of_mem_take q, hst, rfl, rfl, rfl⟩
    · exact absurd (newS_mem _ _ _ q).1 hst
  · exact .inl ⟨s, List.mem_of_mem_drop q, hst, rfl, rfl, rfl⟩

theorem goes_act {b : Bd} {i : Option Nat} {f : Int × Int} {g : Sl → Sl} (hg : ∀ k x, i = some k → f.1 = 0 → b.sl[k]? = some x → (g x).st ≠ 0 → x.st ≠ 0 ∧ x.tu = (g x).tu ∧ x.ho = (g x).ho ∧ x.p.id = (g x).p.id) (hi : ∀ k, i = some k → k < b.sl.length) : Goes b (actS b i f g) := by
  cases i with
  | none => exact Goes.refl b
  | some k =>
    have hk := hi k rfl
    have hx : b.sl[k]? = some (b.sl[k]'hk) := List.getElem?_eq_getElem hk
    by_cases hf : f.1 = 0
    · rw [act_of hx hf]
      exact Goes.set hx (hg k _ rfl hf hx)
    · rw [actS_bad hf]; exact Goes.refl b

theorem step_goes {b : Bd} {o : Od} : Goes b (stepB b o).1 := by
  show Goes b (doB b o _ _)
  unfold doB
  split
  · unfold comeB
    split
    · split
      · exact ⟨Int.le_refl _, Int.le_refl _, fun s hs h => .inl ⟨s, hs, h, rfl, rfl, rfl⟩⟩
      · exact ⟨Int.le_refl _, Int.le_refl _, fun s hs h => .inl ⟨s, hs, h, rfl, rfl, rfl⟩⟩
    · exact Goes.refl b
  split
  · unfold loseB
    split
    · split
      · exact Goes.refl b
      · refine ⟨Int.le_refl _, Int.le_refl _, fun s hs h => ?_⟩
        obtain ⟨t, ht, e⟩ := List.mem_map.1 hs
        unfold lostS at e
        split at e
        · rw [← e] at h
          exact absurd rfl h
        · rw [e] at ht
          exact .inl ⟨s, ht, h, rfl, rfl, rfl⟩
    · exact Goes.refl b
  split
  · unfold giveB
    split
    · split
      · exact Goes.refl b
      · rename_i k hk
        refine ⟨by show b.tu ≤ b.tu + 1; omega, Int.le_refl _, fun s hs h => ?_⟩
        rcases mem_set hs with q | q
        · exact .inl ⟨s, q, h, rfl, rfl, rfl⟩
        · subst q
          exact .inr (by show b.tu < b.tu + 1; omega)
    · exact Goes.refl b
  split
  · refine goes_act (fun k x hk hf hx h => ?_) (fun k hk => idxS_lt hk)
    rw [hk] at hf
    have := (heF_zero hx hf).2.2
    exact ⟨by omega, rfl, rfl, rfl⟩
  split
  · refine goes_act (fun k x hk hf hx h => ?_) (fun k hk => idxS_lt hk)
    rw [hk] at hf
    have := slF_zero hx hf
    exact ⟨by omega, rfl, rfl, rfl⟩
  split
  · exact goes_act (fun k x hk hf hx h => absurd rfl h) (fun k hk => idxS_lt hk)
  split
  · cases hi : idxS b.sl o.id with
    | none => rw [(spF_none hi).2]; exact Goes.refl b
    | some k =>
      rw [(spF_some hi).2]
      split
      · exact Goes.refl b
      split
      · exact Goes.refl b
      by_cases h3 : (renF b (spP b k o.row)).1 = 0
      · exact Goes.ren h3
      · unfold renF at h3
        unfold renB
        by_cases q : 1000000000 < b.nx + ((spP b k o.row).length : Int)
        · rw [if_pos q]; exact Goes.refl b
        · rw [if_neg q] at h3; exact absurd rfl h3
  split
  · cases hi : idxS b.sl o.id with
    | none => rw [(jnF_none hi).2]; exact Goes.refl b
    | some k =>
      rw [(jnF_some hi).2]
      split
      · exact Goes.refl b
      split
      · exact Goes.refl b
      by_cases h3 : (renF b (jnP b k)).1 = 0
      · exact Goes.ren h3
      · unfold renF at h3
        unfold renB
        by_cases q : 1000000000 < b.nx + ((jnP b k).length : Int)
        · rw [if_pos q]; exact Goes.refl b
        · rw [if_neg q] at h3; exact absurd rfl h3
  · exact Goes.refl b

/-! ### What the turns are told -/

/-- What is told of a turn is so of each slot that serves. -/
def Told (c : Bd) (M : Int → Option (Int × Int)) : Prop := ∀ t p, M t = some p → t ≤ c.tu ∧ ∀ s ∈ c.sl, s.st ≠ 0 → s.tu = t → s.ho = p.1 ∧ s.p.id = p.2

theorem Told.goes {b x : Bd} {M : Int → Option (Int × Int)} (h : Told b M) (g : Goes b x) : Told x M := by
  intro t p hp
  obtain ⟨h1, h2⟩ := h t p hp
  refine ⟨by have := g.tu; omega, fun s hs hst ht => ?_⟩
  rcases g.sl s hs hst with ⟨r, hr, r1, r2, r3, r4⟩ | hlt
  · have := h2 r hr r1 (by omega)
    exact ⟨by rw [← r3]; exact this.1, by rw [← r4]; exact this.2⟩
  · omega

theorem DistT.eq {l : List Sl} (h : DistT l) {x y : Sl} (hx : x ∈ l) (hy : y ∈ l) (e : x.tu = y.tu) (h0 : x.tu ≠ 0) : x = y := by
  induction l with
  | nil => cases hx
  | cons a r ih =>
    have h1 := List.pairwise_cons.1 h
    rcases List.mem_cons.1 hx with p | p
    · rcases List.mem_cons.1 hy with q | q
      · rw [p, q]
      · subst p
        exact absurd (h1.1 y q e) h0
    · rcases List.mem_cons.1 hy with q | q
      · subst q
        have := h1.1 x p e.symm
        omega
      · exact ih h1.2 p q

theorem Told.put {c : Bd} {M : Int → Option (Int × Int)} {s : Sl} (h : Told c M) (hf : FineB c) (hs : s ∈ c.sl) (hst : s.st ≠ 0) : Told c (fun t => if t = s.tu then some (s.ho, s.p.id) else M t) := by
  intro t p hp
  dsimp only at hp
  by_cases q : t = s.tu
  · rw [if_pos q] at hp
    cases hp
    refine ⟨by rw [q]; exact (hf.sc s hs).t1, fun r hr _ hrt => ?_⟩
    have := hf.tn.eq hr hs (by omega) (by have := (hf.sc s hs).tz hst; omega)
    subst this
    exact ⟨rfl, rfl⟩
  · rw [if_neg q] at hp
    exact h t p hp

/-! ### One slot has the row -/

def cntR (l : List Sl) (r : ByteArray) : Nat := (l.filter fun s => inB r s.p.fr s.p.to_).length

theorem cntR_snoc {l : List Sl} {k : Nat} {s : Sl} {r : ByteArray} (hs : l[k]? = some s) : cntR (l.take (k + 1)) r = cntR (l.take k) r + (if inB r s.p.fr s.p.to_ = true then 1 else 0) := by
  unfold cntR
  rw [take_succ_of hs, List.filter_append, List.length_append]
  by_cases q : inB r s.p.fr s.p.to_ = true
  · rw [if_pos q]; simp [q]
  · rw [if_neg q]; simp [q]

theorem cntR_one {c : Bd} (h : FineB c) (r : ByteArray) : cntR c.sl r = 1 := by
  obtain ⟨k, p, _, hk, hp, hin, hall⟩ := hvP_one (r := r) h.pt
  rw [parts_len] at hk
  obtain ⟨s, hs⟩ : ∃ s, c.sl[k]? = some s := ⟨_, List.getElem?_eq_getElem hk⟩
  have hps : ∀ (j : Nat) (t : Sl), c.sl[j]? = some t → (parts c.sl)[j]? = some t.p := fun j t ht => by unfold parts; rw [List.getElem?_map, ht]; rfl
  have hpe : p = s.p := by have := hps k s hs; rw [hp] at this; cases this; rfl
  subst hpe
  have hone : ∀ (j : Nat) (t : Sl), c.sl[j]? = some t → inB r t.p.fr t.p.to_ = true → j = k := fun j t ht hi => hall j t.p (hps j t ht) hi
  have e : c.sl = c.sl.take k ++ s :: c.sl.drop (k + 1) := by
    obtain ⟨hl, rfl⟩ := List.getElem?_eq_some_iff.1 hs
    rw [← List.drop_eq_getElem_cons hl, List.take_append_drop]
  have h1 : (c.sl.take k).filter (fun s => inB r s.p.fr s.p.to_) = [] := by
    rw [List.filter_eq_nil_iff]
    intro t ht hi
    obtain ⟨j, hj⟩ := List.getElem?_of_mem ht
    rw [List.getElem?_take] at hj
    split at hj
    · rename_i q
      have := hone j t hj hi
      omega
    · cases hj
  have h2 : (c.sl.drop (k + 1)).filter (fun s => inB r s.p.fr s.p.to_) = [] := by
    rw [List.filter_eq_nil_iff]
    intro t ht hi
    obtain ⟨j, hj⟩ := List.getElem?_of_mem ht
    rw [List.getElem?_drop] at hj
    have := hone _ t hj hi
    omega
  unfold cntR
  rw [e, List.filter_append, h1, List.filter_cons, if_pos hin, h2]
  rfl

end Go.Proofs.Ytnbifobdkjkjlaa
