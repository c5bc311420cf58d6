/-
  Texts joined: AsN1.
-/
import Derived.Test.YtoeobhehjnkkkaaMLocateDoesAsR5
/-
  Plain maths: what a fine board is, and that it stays fine. Nothing is walked here.
-/
namespace Go.Proofs.Ytoeobhehjnkkkaa
open Go.RowKit
set_option linter.unusedVariables false

theorem aliveB_of {l : List Ho} {id : Int} (h : aliveB l id = true) : ∃ x ∈ l, x.id = id ∧ x.al = true := by
  unfold aliveB hoF at h
  rw [List.take_length] at h
  cases q : l.find? (fun h => decide (h.id = id)) with
  | none => rw [q] at h; cases h
  | some x =>
    rw [q] at h
    exact ⟨x, List.mem_of_find?_eq_some q, by simpa using List.find?_some q, h⟩

/-- No two have one ID. -/
def DistH (l : List Ho) : Prop := l.Pairwise (fun a c => a.id ≠ c.id)

theorem DistH.eq {l : List Ho} (h : DistH l) {x y : Ho} (hx : x ∈ l) (hy : y ∈ l) (e : x.id = y.id) : x = y := by
  induction l with
  | nil => cases hx
  | cons a r ih =>
    have h1 := List.pairwise_cons.1 h
    rcases List.mem_cons.1 hx with p | p
    · rcases List.mem_cons.1 hy with q | q
      · rw [p, q]
      · subst p
        exact absurd e (h1.1 y q)
    · rcases List.mem_cons.1 hy with q | q
      · subst q
        exact absurd e.symm (h1.1 x p)
      · exact ih h1.2 p q

theorem aliveB_to {l : List Ho} (hd : DistH l) {x : Ho} (hx : x ∈ l) (ha : x.al = true) : aliveB l x.id = true := by
  unfold aliveB hoF
  rw [List.take_length]
  cases q : l.find? (fun h => decide (h.id = x.id)) with
  | none =>
    have := List.find?_eq_none.1 q x hx
    simp at this
  | some y =>
    have h1 := List.mem_of_find?_eq_some q
    have h2 : y.id = x.id := by simpa using List.find?_some q
    rw [hd.eq h1 hx h2]
    simpa using ha

/-- A slot that may be, by itself. -/
structure FineS (b : Bd) (s : Sl) : Prop where
  s0 : 0 ≤ s.st
  s3 : s.st ≤ 3
  t0 : 0 ≤ s.tu
  t1 : s.tu ≤ b.tu
  i1 : 1 ≤ s.p.id
  i2 : s.p.id < b.nx
  off : s.st = 0 → s.ho = 0
  al : s.st ≠ 0 → aliveB b.hs s.ho = true
  tz : s.st ≠ 0 → s.tu ≠ 0

theorem codeS_iff {b : Bd} {s : Sl} : codeS b s = 0 ↔ FineS b s := by
  unfold codeS
  constructor
  · intro h
    split at h
    · cases h
    · rename_i h1
      split at h
      · rename_i h2
        split at h
        · cases h
        · rename_i h3
          exact ⟨by omega, by omega, by omega, by omega, by omega, by omega, fun _ => Decidable.not_not.1 h3, fun q => absurd h2 q, fun q => absurd h2 q⟩
      · rename_i h2
        split at h
        · cases h
        · rename_i h3
          split at h
          · cases h
          · rename_i h4
            exact ⟨by omega, by omega, by omega, by omega, by omega, by omega, fun q => absurd q h2, fun _ => by simpa using h3, fun _ => h4⟩
  · intro h
    have := h.s0; have := h.s3; have := h.t0; have := h.t1; have := h.i1; have := h.i2
    rw [if_neg (by omega)]
    by_cases q : s.st = 0
    · rw [if_pos q, if_neg (by simp [h.off q])]
    · rw [if_neg q, if_neg (by simp [h.al q]), if_neg (h.tz q)]

/-- No turn is given twice. -/
def DistT (l : List Sl) : Prop := l.Pairwise (fun s t => s.tu = t.tu → s.tu = 0)

/-- A board that is fine. -/
structure FineB (b : Bd) : Prop where
  hl : b.hs.length ≤ 20
  hi : ∀ h ∈ b.hs, oneB h.id = true ∧ oneB h.ep = true
  hn : DistH b.hs
  tu : numB b.tu = true
  nx : oneB b.nx = true
  pt : FineP (parts b.sl)
  sc : ∀ s ∈ b.sl, FineS b s
  tn : DistT b.sl

theorem getD_of {α : Type} {l : List α} {k : Nat} {x d : α} (h : l[k]? = some x) : l.getD k d = x := by rw [List.getD_eq_getElem?_getD, h]; rfl

theorem codeH_zero {l : List Ho} {i : Nat} {x : Ho} (hx : l[i]? = some x) : codeH l i = 0 ↔ oneB x.id = true ∧ oneB x.ep = true ∧ hoAhead l i x.id = false := by
  unfold codeH
  rw [getD_of hx]
  dsimp only
  constructor
  · intro h
    split at h
    · cases h
    · rename_i h1
      split at h
      · cases h
      · rename_i h2
        simp only [not_or, Bool.not_eq_false] at h1
        exact ⟨h1.1, h1.2, by simpa using h2⟩
  · intro ⟨h1, h2, h3⟩
    rw [if_neg (by simp [h1, h2]), if_neg (by simp [h3])]

theorem hoAhead_no {l : List Ho} {i : Nat} {n : Int} : hoAhead l i n = false ↔ ∀ k x, k < i → l[k]? = some x → x.id ≠ n := by
  unfold hoAhead
  rw [List.any_eq_false]
  constructor
  · intro h k x hk hx
    have := h x (List.mem_of_getElem? (by rw [List.getElem?_take, if_pos hk]; exact hx))
    simpa using this
  · intro h x hx
    obtain ⟨k, hk⟩ := List.getElem?_of_mem hx
    rw [List.getElem?_take] at hk
    split at hk
    · rename_i q; simpa using h k x q hk
    · cases hk

theorem chkH_iff {l : List Ho} : (chkH l).1 = 0 ↔ l.length ≤ 20 ∧ (∀ h ∈ l, oneB h.id = true ∧ oneB h.ep = true) ∧ DistH l := by
  unfold chkH
  constructor
  · intro h
    split at h
    · cases h
    · rename_i h0
      have h1 := chkHGo_zero h
      have h2 : ∀ i x, l[i]? = some x → oneB x.id = true ∧ oneB x.ep = true ∧ hoAhead l i x.id = false := fun i x hx => by
        have := h1 i (List.getElem?_eq_some_iff.1 hx).1
        rw [Nat.zero_add] at this
        exact (codeH_zero hx).1 this
      refine ⟨by omega, fun x hx => ?_, ?_⟩
      · obtain ⟨i, hi⟩ := List.getElem?_of_mem hx
        exact ⟨(h2 i x hi).1, (h2 i x hi).2.1⟩
      · unfold DistH
        rw [List.pairwise_iff_getElem]
        intro i j hi hj hij
        exact (hoAhead_no.1 (h2 j _ (List.getElem?_eq_getElem hj)).2.2) i _ hij (List.getElem?_eq_getElem hi)
  · intro ⟨h0, h1, h2⟩
    rw [if_neg (by omega), chkHGo_all]
    intro j hj
    rw [Nat.zero_add]
    refine (codeH_zero (List.getElem?_eq_getElem hj)).2 ⟨(h1 _ (List.getElem_mem hj)).1, (h1 _ (List.getElem_mem hj)).2, hoAhead_no.2 (fun k x hk hx => ?_)⟩
    unfold DistH at h2
    rw [List.pairwise_iff_getElem] at h2
    obtain ⟨hk2, rfl⟩ := List.getElem?_eq_some_iff.1 hx
    exact h2 k j hk2 hj hk

theorem tuMany_zero {l : List Sl} {i : Nat} {n : Int} : tuMany l i n = 0 ↔ ∀ k x, k < i → l[k]? = some x → x.tu ≠ n := by
  unfold tuMany
  rw [List.length_eq_zero_iff, List.filter_eq_nil_iff]
  constructor
  · intro h k x hk hx
    have := h x (List.mem_of_getElem? (by rw [List.getElem?_take, if_pos hk]; exact hx))
    simpa using this
  · intro h x hx
    obtain ⟨k, hk⟩ := List.getElem?_of_mem hx
    rw [List.getElem?_take] at hk
    split at hk
    · rename_i q; simpa using h k x q hk
    · cases hk

theorem codeS2_zero {b : Bd} {i : Nat} {x : Sl} (hx : b.sl[i]? = some x) : codeS2 b i = 0 ↔ FineS b x ∧ (x.tu ≠ 0 → tuMany b.sl i x.tu = 0) := by
  unfold codeS2
  rw [getD_of hx]
  dsimp only
  rw [← codeS_iff]
  constructor
  · intro h
    split at h
    · rename_i q; exact absurd h q
    · rename_i h1
      split at h
      · cases h
      · rename_i h2
        exact ⟨Decidable.not_not.1 h1, fun q => by
          by_cases z : tuMany b.sl i x.tu = 0
          · exact z
          · exact absurd ⟨q, by omega⟩ h2⟩
  · intro ⟨h1, h2⟩
    rw [if_neg (by simp [h1]), if_neg (fun q => by have := h2 q.1; omega)]

theorem fineB_iff {b : Bd} : (chkB b).1 = 0 ↔ FineB b := by
  constructor
  · intro h
    obtain ⟨h1, h2, h3, h4, h5⟩ := chkB_ok h
    obtain ⟨a1, a2, a3⟩ := chkH_iff.1 h1
    have k1 := chkSGo_zero h5
    have k2 : ∀ i x, b.sl[i]? = some x → FineS b x ∧ (x.tu ≠ 0 → tuMany b.sl i x.tu = 0) := fun i x hx => by
      have := k1 i (List.getElem?_eq_some_iff.1 hx).1
      rw [Nat.zero_add] at this
      exact (codeS2_zero hx).1 this
    refine ⟨a1, a2, a3, h2, h3, chkP_fine.1 h4, fun s hs => ?_, ?_⟩
    · obtain ⟨i, hi⟩ := List.getElem?_of_mem hs
      exact (k2 i s hi).1
    · unfold DistT
      rw [List.pairwise_iff_getElem]
      intro i j hi hj hij e
      refine Decidable.not_not.1 (fun q => ?_)
      have := (k2 j _ (List.getElem?_eq_getElem hj)).2 (by rw [← e]; exact q)
      exact tuMany_zero.1 this i _ hij (List.getElem?_eq_getElem hi) e
  · intro h
    have h1 : (chkH b.hs).1 = 0 := chkH_iff.2 ⟨h.hl, h.hi, h.hn⟩
    have h4 : (chkP (parts b.sl)).1 = 0 := chkP_fine.2 h.pt
    unfold chkB
    rw [if_neg (by simp [h1]), if_neg (by simp [h.tu, h.nx]), if_neg (by unfold chkQ; simp [h4]), chkSGo_all]
    intro j hj
    rw [Nat.zero_add]
    refine (codeS2_zero (List.getElem?_eq_getElem hj)).2 ⟨h.sc _ (List.getElem_mem hj), fun q => tuMany_zero.2 (fun k x hk hx e => ?_)⟩
    have hd := h.tn
    unfold DistT at hd
    rw [List.pairwise_iff_getElem] at hd
    obtain ⟨hk2, rfl⟩ := List.getElem?_eq_some_iff.1 hx
    have := hd k j hk2 hj hk e
    rw [e] at this
    exact q this

end Go.Proofs.Ytoeobhehjnkkkaa
