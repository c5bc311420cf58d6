/-
  Texts joined: AsK2.
-/
import Derived.Test.YtnbifobdkjkjlaaMAssignKeepsAsK1
/-
  Plain maths for AssignKeeps: what was done is refused if it comes again. Nothing is walked here.
-/
namespace Go.Proofs.Ytnbifobdkjkjlaa
open Go.RowKit
set_option linter.unusedVariables false

theorem idxP_no_of {α : Type} {f : α → Bool} : ∀ {l : List α} {i : Nat}, (∀ x ∈ l, f x = false) → idxP f l i = none
  | [], _, _ => rfl
  | a :: r, i, h => by
    rw [idxP_no (h a (by simp))]
    exact idxP_no_of fun x hx => h x (by simp [hx])

theorem idxP_set {α : Type} {f : α → Bool} : ∀ {l : List α} {k i : Nat} {x z : α}, l[k]? = some x → f z = f x → idxP f (l.set k z) i = idxP f l i
  | [], k, _, x, _, hk, _ => by simp at hk
  | a :: r, 0, i, x, z, hk, e => by
    simp only [List.getElem?_cons_zero, Option.some.injEq] at hk
    subst hk
    rw [List.set_cons_zero]
    by_cases q : f a = true
    · rw [idxP_yes q, idxP_yes (e.trans q)]
    · have q2 : f a = false := by simpa using q
      rw [idxP_no q2, idxP_no (e.trans q2)]
  | a :: r, k + 1, i, x, z, hk, e => by
    simp only [List.getElem?_cons_succ] at hk
    rw [List.set_cons_succ]
    by_cases q : f a = true
    · rw [idxP_yes q, idxP_yes q]
    · have q2 : f a = false := by simpa using q
      rw [idxP_no q2, idxP_no q2]
      exact idxP_set hk e

theorem idxS_set {l : List Sl} {k : Nat} {x z : Sl} {id : Int} (hk : l[k]? = some x) (hp : z.p = x.p) : idxS (l.set k z) id = idxS l id := idxP_set hk (by show decide (z.p.id = id) = decide (x.p.id = id); rw [hp])

theorem slF_no {l : List Sl} {k : Nat} {x : Sl} {st : Int} (hx : l[k]? = some x) (h : x.st ≠ st) : (slF l (some k) st).1 ≠ 0 := by
  rw [slF_some hx, if_pos h]; decide

theorem heF_no {l : List Sl} {k : Nat} {x : Sl} {ho tu st : Int} (hx : l[k]? = some x) (h : x.st ≠ st) : (heF l (some k) ho tu st).1 ≠ 0 := by
  unfold heF
  dsimp only
  split
  · decide
  · exact slF_no hx h

theorem set_at {α : Type} {l : List α} {k : Nat} {x z : α} (hk : l[k]? = some x) : (l.set k z)[k]? = some z := by
  rw [List.getElem?_set, if_pos rfl, if_pos (List.getElem?_eq_some_iff.1 hk).1]

theorem come_again {b : Bd} {id : Int} (h : FineB b) (h0 : (comeF b id).1 = 0) : (comeF (comeB b id) id).1 ≠ 0 := by
  have hf := come_fine (id := id) h
  have hid : oneB id = true := by
    cases q : oneB id
    · rw [comeF_no q] at h0; cases h0
    · rfl
  have hm : ∃ y ∈ (comeB b id).hs, y.id = id ∧ y.al = true := by
    unfold comeB
    rw [if_pos h0]
    cases hi : idxH b.hs id with
    | none => exact ⟨⟨id, 1, true⟩, by simp, rfl, rfl⟩
    | some k =>
      obtain ⟨x, hx, hxi⟩ := idxH_some hi
      dsimp only
      rw [getD_of hx]
      exact ⟨⟨x.id, x.ep + 1, true⟩, List.mem_of_getElem? (set_at hx), hxi, rfl⟩
  obtain ⟨y, hy, hyi, hya⟩ := hm
  cases hi : idxH (comeB b id).hs id with
  | none =>
    have := idxP_none hi y hy
    simp [hyi] at this
  | some k =>
    obtain ⟨x, hx, hxi⟩ := idxH_some hi
    have := hf.hn.eq (List.mem_of_getElem? hx) hy (by rw [hxi, hyi])
    rw [comeF_some hid hi hx, this, if_pos hya]
    decide

theorem lose_again {b : Bd} {id : Int} (h : FineB b) (h0 : (loseF b id).1 = 0) : (loseF (loseB b id) id).1 ≠ 0 := by
  have hf := lose_fine (id := id) h
  cases hi0 : idxH b.hs id with
  | none => rw [loseF_none hi0] at h0; cases h0
  | some k =>
    obtain ⟨x, hx, hxi⟩ := idxH_some hi0
    have hm : { x with al := false } ∈ (loseB b id).hs := by
      unfold loseB
      rw [if_pos h0, hi0]
      dsimp only
      rw [getD_of hx]
      exact List.mem_of_getElem? (set_at hx)
    cases hi : idxH (loseB b id).hs id with
    | none => rw [loseF_none hi]; decide
    | some j =>
      obtain ⟨y, hy, hyi⟩ := idxH_some hi
      have := hf.hn.eq (List.mem_of_getElem? hy) hm (by rw [hyi]; exact hxi.symm)
      unfold loseF
      rw [hi]
      dsimp only
      rw [getD_of hy, this]
      simp

theorem give_again {b : Bd} {id ho : Int} (h0 : (giveF b id ho).1 = 0) : (giveF (giveB b id ho) id ho).1 ≠ 0 := by
  cases hi : idxS b.sl id with
  | none => rw [giveF_none hi] at h0; cases h0
  | some k =>
    obtain ⟨x, hx, hxi⟩ := idxS_some hi
    have hb : giveB b id ho = { b with tu := b.tu + 1, sl := b.sl.set k ⟨x.p, 1, ho, b.tu + 1⟩ } := by
      unfold giveB
      rw [if_pos h0, hi]
      dsimp only
      rw [getD_of hx]
    rw [hb]
    rw [giveF_some (k := k) (x := ⟨x.p, 1, ho, b.tu + 1⟩) ((idxS_set (z := ⟨x.p, 1, ho, b.tu + 1⟩) hx rfl).trans hi) (set_at hx)]
    split
    · simp
    · simp

theorem ids_eq {b : Bd} (h : FineB b) {k j : Nat} {x y : Sl} (hk : b.sl[k]? = some x) (hj : b.sl[j]? = some y) (e : y.p.id = x.p.id) : k = j := by
  have hn := h.pt.2.2
  have h1 : ((parts b.sl).map Pt.id)[k]? = some x.p.id := by unfold parts; rw [List.getElem?_map, List.getElem?_map, hk]; rfl
  have h2 : ((parts b.sl).map Pt.id)[j]? = some x.p.id := by unfold parts; rw [List.getElem?_map, List.getElem?_map, hj]; simp [e]
  exact (List.getElem?_inj (List.getElem?_eq_some_iff.1 h1).1 hn).1 (h1.trans h2.symm)

theorem gone {b : Bd} (h : FineB b) {k j : Nat} {x : Sl} {ps : List Pt} (hk : b.sl[k]? = some x) (hj : k < j) (hf : (renF b ps).1 = 0) : idxS (renB b k j ps).sl x.p.id = none := by
  rw [ren_of hf]
  refine idxP_no_of (fun s hs => ?_)
  have hx2 := (h.sc x (List.mem_of_getElem? hk)).i2
  have : s.p.id ≠ x.p.id := fun e => by
    rcases List.mem_append.1 hs with q | q
    · rcases List.mem_append.1 q with q | q
      · obtain ⟨m, hm⟩ := List.getElem?_of_mem q
        rw [List.getElem?_take] at hm
        split at hm
        · rename_i hmk
          have := ids_eq h hk hm e
          omega
        · cases hm
      · have := (newS_mem _ _ _ q).2
        omega
    · obtain ⟨m, hm⟩ := List.getElem?_of_mem q
      rw [List.getElem?_drop] at hm
      have := ids_eq h hk hm e
      omega
  simpa using this

theorem sp_again {b : Bd} {id : Int} {row : ByteArray} (h : FineB b) (h0 : (spF b id row).1 = 0) : (spF (spB b id row) id row).1 ≠ 0 := by
  cases hi : idxS b.sl id with
  | none => rw [(spF_none hi).1] at h0; cases h0
  | some k =>
    obtain ⟨x, hx, hxi⟩ := idxS_some hi
    rw [(spF_some hi).1] at h0
    rw [(spF_some hi).2]
    by_cases h1 : (b.sl.getD k zeroSl).st ≠ 0
    · rw [if_pos h1] at h0; cases h0
    rw [if_neg h1] at h0 ⊢
    by_cases h2 : (splitF (parts b.sl) k row 0 b.nx).1 ≠ 0
    · rw [if_pos h2] at h0; exact absurd h0 h2
    rw [if_neg h2] at h0 ⊢
    have := gone h hx (Nat.lt_succ_self k) h0
    rw [hxi] at this
    rw [(spF_none this).1]
    decide

theorem jn_again {b : Bd} {id : Int} (h : FineB b) (h0 : (jnF b id).1 = 0) : (jnF (jnB b id) id).1 ≠ 0 := by
  cases hi : idxS b.sl id with
  | none => rw [(jnF_none hi).1] at h0; cases h0
  | some k =>
    obtain ⟨x, hx, hxi⟩ := idxS_some hi
    rw [(jnF_some hi).1] at h0
    rw [(jnF_some hi).2]
    by_cases h1 : k + 1 = b.sl.length
    · rw [if_pos h1] at h0; cases h0
    rw [if_neg h1] at h0 ⊢
    by_cases h2 : (b.sl.getD k zeroSl).st ≠ 0 ∨ (b.sl.getD (k + 1) zeroSl).st ≠ 0
    · rw [if_pos h2] at h0; cases h0
    rw [if_neg h2] at h0 ⊢
    have := gone h hx (show k < k + 2 by omega) h0
    rw [hxi] at this
    rw [(jnF_none this).1]
    decide

theorem step_again {b : Bd} {o : Od} (h : FineB b) (h0 : (stepB b o).2.1 = 0) : (stepB (stepB b o).1 o).2.1 ≠ 0 := by
  have h0 : (doF b o (spF b o.id o.row) (jnF b o.id)).1 = 0 := h0
  show (doF (doB b o (spB b o.id o.row) (jnB b o.id)) o (spF (doB b o (spB b o.id o.row) (jnB b o.id)) o.id o.row) (jnF (doB b o (spB b o.id o.row) (jnB b o.id)) o.id)).1 ≠ 0
  unfold doF at h0 ⊢
  unfold doB
  by_cases k1 : o.kind = 1
  · simp only [if_pos k1] at h0 ⊢; exact come_again h h0
  by_cases k2 : o.kind = 2
  · simp only [if_neg k1, if_pos k2] at h0 ⊢; exact lose_again h h0
  by_cases k3 : o.kind = 3
  · simp only [if_neg k1, if_neg k2, if_pos k3] at h0 ⊢; exact give_again h0
  by_cases k4 : o.kind = 4
  · simp only [if_neg k1, if_neg k2, if_neg k3, if_pos k4] at h0 ⊢
    cases hi : idxS b.sl o.id with
    | none => rw [hi] at h0; cases h0
    | some k =>
      obtain ⟨x, hx, hxi⟩ := idxS_some hi
      rw [hi] at h0
      rw [act_of hx h0]
      dsimp only
      rw [idxS_set (z := { x with st := 2 }) hx rfl, hi]
      exact heF_no (set_at hx) (by show (2 : Int) ≠ 1; decide)
  by_cases k5 : o.kind = 5
  · simp only [if_neg k1, if_neg k2, if_neg k3, if_neg k4, if_pos k5] at h0 ⊢
    cases hi : idxS b.sl o.id with
    | none => rw [hi] at h0; cases h0
    | some k =>
      obtain ⟨x, hx, hxi⟩ := idxS_some hi
      rw [hi] at h0
      rw [act_of hx h0]
      dsimp only
      rw [idxS_set (z := { x with st := 3 }) hx rfl, hi]
      exact slF_no (set_at hx) (by show (3 : Int) ≠ 2; decide)
  by_cases k6 : o.kind = 6
  · simp only [if_neg k1, if_neg k2, if_neg k3, if_neg k4, if_neg k5, if_pos k6] at h0 ⊢
    cases hi : idxS b.sl o.id with
    | none => rw [hi] at h0; cases h0
    | some k =>
      obtain ⟨x, hx, hxi⟩ := idxS_some hi
      rw [hi] at h0
      rw [act_of hx h0]
      dsimp only
      rw [idxS_set (z := offS x) hx rfl, hi]
      exact heF_no (set_at hx) (by show (0 : Int) ≠ 3; decide)
  by_cases k7 : o.kind = 7
  · simp only [if_neg k1, if_neg k2, if_neg k3, if_neg k4, if_neg k5, if_neg k6, if_pos k7] at h0 ⊢; exact sp_again h h0
  by_cases k8 : o.kind = 8
  · simp only [if_neg k1, if_neg k2, if_neg k3, if_neg k4, if_neg k5, if_neg k6, if_neg k7, if_pos k8] at h0 ⊢; exact jn_again h h0
  · simp only [if_neg k1, if_neg k2, if_neg k3, if_neg k4, if_neg k5, if_neg k6, if_neg k7, if_neg k8] at h0
    cases h0

end Go.Proofs.Ytnbifobdkjkjlaa
