/-
  Texts joined: AsN2.
-/
import Derived.Test.YtoeobhehjnkkkaaMLocateDoesAsN1
/-
  Plain maths: a fine board stays fine behind each order. Nothing is walked here.
-/
namespace Go.Proofs.Ytoeobhehjnkkkaa
open Go.RowKit
set_option linter.unusedVariables false

theorem pairwise_set {α : Type} {R : α → α → Prop} {l : List α} {k : Nat} {x z : α} (h : l.Pairwise R) (hk : l[k]? = some x) (h1 : ∀ y ∈ l, R x y → R z y) (h2 : ∀ y ∈ l, R y x → R y z) : (l.set k z).Pairwise R := by
  induction l generalizing k with
  | nil => exact h
  | cons a r ih =>
    obtain ⟨ha, hr⟩ := List.pairwise_cons.1 h
    cases k with
    | zero =>
      simp only [List.getElem?_cons_zero, Option.some.injEq] at hk
      subst hk
      rw [List.set_cons_zero, List.pairwise_cons]
      exact ⟨fun y hy => h1 y (List.mem_cons_of_mem _ hy) (ha y hy), hr⟩
    | succ j =>
      simp only [List.getElem?_cons_succ] at hk
      rw [List.set_cons_succ, List.pairwise_cons]
      refine ⟨fun y hy => ?_, ih hr hk (fun y hy => h1 y (List.mem_cons_of_mem _ hy)) (fun y hy => h2 y (List.mem_cons_of_mem _ hy))⟩
      rcases List.mem_or_eq_of_mem_set hy with q | q
      · exact ha y q
      · subst q
        exact h2 a (List.mem_cons_self) (ha x (List.mem_of_getElem? hk))

theorem mem_set {α : Type} {l : List α} {k : Nat} {z y : α} (h : y ∈ l.set k z) : y ∈ l ∨ y = z := List.mem_or_eq_of_mem_set h

theorem oneB_of {n : Int} (h1 : 1 ≤ n) (h2 : n ≤ 1000000000) : oneB n = true := oneB_iff.2 ⟨h1, h2⟩
theorem numB_iff {n : Int} : numB n = true ↔ 0 ≤ n ∧ n ≤ 1000000000 := by unfold numB; simp

theorem parts_set {l : List Sl} {k : Nat} {x z : Sl} (hk : l[k]? = some x) (hp : z.p = x.p) : parts (l.set k z) = parts l := by
  unfold parts
  rw [List.map_set, hp]
  apply List.ext_getElem?
  intro j
  rw [List.getElem?_set]
  by_cases q : k = j
  · subst q
    rw [if_pos rfl, List.getElem?_map, hk, if_pos (by rw [List.length_map]; exact (List.getElem?_eq_some_iff.1 hk).1)]
    rfl
  · rw [if_neg q]

theorem idxP_none {α : Type} {f : α → Bool} : ∀ {l : List α} {i : Nat}, idxP f l i = none → ∀ x ∈ l, f x = false
  | [], _, _, x, hx => by cases hx
  | a :: r, i, h, x, hx => by
    by_cases q : f a = true
    · rw [idxP_yes q] at h; cases h
    · rw [idxP_no (by simpa using q)] at h
      rcases List.mem_cons.1 hx with p | p
      · rw [p]; simpa using q
      · exact idxP_none h x p

/-- Slots that stay alive. -/
theorem FineS.hosts {b c : Bd} {s : Sl} (h : FineS b s) (ht : c.tu = b.tu) (hx : c.nx = b.nx) (ha : aliveB b.hs s.ho = true → aliveB c.hs s.ho = true) : FineS c s :=
  ⟨h.s0, h.s3, h.t0, by rw [ht]; exact h.t1, h.i1, by rw [hx]; exact h.i2, h.off, fun q => ha (h.al q), h.tz⟩

theorem come_fine {b : Bd} {id : Int} (h : FineB b) : FineB (comeB b id) := by
  by_cases hf : (comeF b id).1 = 0
  case neg => unfold comeB; rw [if_neg hf]; exact h
  have hid : oneB id = true := by
    cases q : oneB id
    · rw [comeF_no q] at hf; cases hf
    · rfl
  unfold comeB
  rw [if_pos hf]
  cases hi : idxH b.hs id with
  | none =>
    have hf2 := hf
    rw [comeF_none hid hi] at hf2
    have hlen : b.hs.length ≠ 20 := fun q => by rw [if_pos q] at hf2; cases hf2
    have hno : ∀ x ∈ b.hs, x.id ≠ id := fun x hx => by have := idxP_none hi x hx; simpa using this
    have hd : DistH (b.hs ++ [⟨id, 1, true⟩]) := by
      unfold DistH
      rw [List.pairwise_append]
      refine ⟨h.hn, List.pairwise_singleton _ _, fun x hx y hy => ?_⟩
      simp only [List.mem_singleton] at hy
      subst hy
      exact hno x hx
    have hal : ∀ n, aliveB b.hs n = true → aliveB (b.hs ++ [⟨id, 1, true⟩]) n = true := fun n hn => by
      obtain ⟨x, hx, rfl, ha⟩ := aliveB_of hn
      exact aliveB_to hd (List.mem_append_left _ hx) ha
    have hl := h.hl
    refine ⟨by simp; omega, fun x hx => ?_, hd, h.tu, h.nx, h.pt, fun s hs => (h.sc s hs).hosts rfl rfl (hal _), h.tn⟩
    rcases List.mem_append.1 hx with q | q
    · exact h.hi x q
    · simp only [List.mem_singleton] at q
      subst q
      exact ⟨hid, show oneB 1 = true by decide⟩
  | some k =>
    obtain ⟨x, hx, hxi⟩ := idxH_some hi
    have hg := getD_of (d := zeroHo) hx
    have hf2 := hf
    rw [comeF_some hid hi hx] at hf2
    dsimp only
    rw [hg]
    have hal0 : x.al = false := by
      cases q : x.al
      · rfl
      · rw [if_pos q] at hf2; cases hf2
    have hep : x.ep ≠ 1000000000 := fun q => by
      rw [if_neg (by rw [hal0]; simp), if_pos q] at hf2
      cases hf2
    have hx1 := h.hi x (List.mem_of_getElem? hx)
    have he := oneB_iff.1 hx1.2
    have hd : DistH (b.hs.set k ⟨x.id, x.ep + 1, true⟩) := pairwise_set h.hn hx (fun y _ q => q) (fun y _ q => q)
    have hal : ∀ n, aliveB b.hs n = true → aliveB (b.hs.set k ⟨x.id, x.ep + 1, true⟩) n = true := fun n hn => by
      obtain ⟨y, hy, rfl, ha⟩ := aliveB_of hn
      refine aliveB_to hd ?_ ha
      obtain ⟨j, hj⟩ := List.getElem?_of_mem hy
      have hkj : k ≠ j := fun q => by
        subst q
        rw [hx] at hj
        cases hj
        rw [hal0] at ha
        cases ha
      exact List.mem_of_getElem? (by rw [List.getElem?_set, if_neg hkj]; exact hj)
    refine ⟨by rw [List.length_set]; exact h.hl, fun y hy => ?_, hd, h.tu, h.nx, h.pt, fun s hs => (h.sc s hs).hosts rfl rfl (hal _), h.tn⟩
    rcases mem_set hy with q | q
    · exact h.hi y q
    · subst q
      exact ⟨hx1.1, oneB_of (by show 1 ≤ x.ep + 1; omega) (by show x.ep + 1 ≤ _; omega)⟩

theorem lose_fine {b : Bd} {id : Int} (h : FineB b) : FineB (loseB b id) := by
  by_cases hf : (loseF b id).1 = 0
  case neg => unfold loseB; rw [if_neg hf]; exact h
  unfold loseB
  rw [if_pos hf]
  cases hi : idxH b.hs id with
  | none => exact h
  | some k =>
    obtain ⟨x, hx, hxi⟩ := idxH_some hi
    have hg := getD_of (d := zeroHo) hx
    dsimp only
    rw [hg]
    have hd : DistH (b.hs.set k { x with al := false }) := pairwise_set h.hn hx (fun y _ q => q) (fun y _ q => q)
    have hal : ∀ n, n ≠ id → aliveB b.hs n = true → aliveB (b.hs.set k { x with al := false }) n = true := fun n hne hn => by
      obtain ⟨y, hy, rfl, ha⟩ := aliveB_of hn
      refine aliveB_to hd ?_ ha
      obtain ⟨j, hj⟩ := List.getElem?_of_mem hy
      have hkj : k ≠ j := fun q => by
        subst q
        rw [hx] at hj
        cases hj
        exact hne hxi
      exact List.mem_of_getElem? (by rw [List.getElem?_set, if_neg hkj]; exact hj)
    have hp : parts (b.sl.map (lostS id)) = parts b.sl := by
      unfold parts
      rw [List.map_map]
      apply List.map_congr_left
      intro s _
      show (lostS id s).p = s.p
      unfold lostS
      split <;> rfl
    have ht : ∀ s, (lostS id s).tu = s.tu := fun s => by unfold lostS; split <;> rfl
    refine ⟨by rw [List.length_set]; exact h.hl, fun y hy => ?_, hd, h.tu, h.nx, by rw [hp]; exact h.pt, fun s hs => ?_, ?_⟩
    · rcases mem_set hy with q | q
      · exact h.hi y q
      · subst q
        exact h.hi x (List.mem_of_getElem? hx)
    · obtain ⟨t, ht2, rfl⟩ := List.mem_map.1 hs
      have hs1 := h.sc t ht2
      unfold lostS
      by_cases q : t.ho = id
      · rw [if_pos q]
        exact ⟨by show (0 : Int) ≤ 0; omega, by show (0 : Int) ≤ 3; omega, hs1.t0, hs1.t1, hs1.i1, hs1.i2, fun _ => rfl, fun z => absurd rfl z, fun z => absurd rfl z⟩
      · rw [if_neg q]
        exact hs1.hosts rfl rfl (hal _ q)
    · unfold DistT
      rw [List.pairwise_map]
      simp only [ht]
      exact h.tn

/-- A slot is another one, with the same part and turn. -/
theorem FineB.slot {b : Bd} {k : Nat} {x z : Sl} (h : FineB b) (hx : b.sl[k]? = some x) (hp : z.p = x.p) (ht : z.tu = x.tu) (hz : FineS b z) : FineB { b with sl := b.sl.set k z } := by
  refine ⟨h.hl, h.hi, h.hn, h.tu, h.nx, by show FineP (parts (b.sl.set k z)); rw [parts_set hx hp]; exact h.pt, fun s hs => ?_, pairwise_set h.tn hx (fun y _ q => by rw [ht]; exact q) (fun y _ q => by rw [ht]; exact q)⟩
  rcases mem_set hs with q | q
  · have := h.sc s q
    exact ⟨this.s0, this.s3, this.t0, this.t1, this.i1, this.i2, this.off, this.al, this.tz⟩
  · subst q
    exact ⟨hz.s0, hz.s3, hz.t0, hz.t1, hz.i1, hz.i2, hz.off, hz.al, hz.tz⟩

theorem act_fine {b : Bd} {i : Option Nat} {f : Int × Int} {g : Sl → Sl} (h : FineB b) (hg : ∀ k x, i = some k → f.1 = 0 → b.sl[k]? = some x → (g x).p = x.p ∧ (g x).tu = x.tu ∧ FineS b (g x)) (hi : ∀ k, i = some k → k < b.sl.length) : FineB (actS b i f g) := by
  cases i with
  | none => exact h
  | some k =>
    unfold actS
    dsimp only
    by_cases hf : f.1 = 0
    · rw [if_pos hf]
      have hk := hi k rfl
      have hx : b.sl[k]? = some (b.sl[k]'hk) := List.getElem?_eq_getElem hk
      rw [getD_of hx]
      obtain ⟨h1, h2, h3⟩ := hg k _ rfl hf hx
      exact h.slot hx h1 h2 h3
    · rw [if_neg hf]; exact h

theorem give_fine {b : Bd} {id host : Int} (h : FineB b) : FineB (giveB b id host) := by
  by_cases hf : (giveF b id host).1 = 0
  case neg => unfold giveB; rw [if_neg hf]; exact h
  unfold giveB
  rw [if_pos hf]
  cases hi : idxS b.sl id with
  | none => exact h
  | some k =>
    obtain ⟨x, hx, hxi⟩ := idxS_some hi
    dsimp only
    rw [getD_of hx]
    have hf2 := hf
    rw [giveF_some hi hx] at hf2
    have ha : alH b.hs host = true := by
      cases q : alH b.hs host
      · rw [if_pos q] at hf2; cases hf2
      · rfl
    rw [if_neg (by rw [ha]; simp)] at hf2
    have hst : x.st = 0 := by
      by_cases q : x.st = 0
      · exact q
      · rw [if_pos q] at hf2; cases hf2
    rw [if_neg (by simp [hst])] at hf2
    have htu : b.tu ≠ 1000000000 := fun q => by rw [if_pos q] at hf2; cases hf2
    have hb := numB_iff.1 h.tu
    have hal : aliveB b.hs host = true := by
      cases hj : idxH b.hs host with
      | none => rw [alH_none hj] at ha; cases ha
      | some j =>
        obtain ⟨y, hy, hyi⟩ := idxH_some hj
        rw [alH_some hj hy] at ha
        rw [← hyi]
        exact aliveB_to h.hn (List.mem_of_getElem? hy) ha
    have hxs := h.sc x (List.mem_of_getElem? hx)
    refine ⟨h.hl, h.hi, h.hn, numB_iff.2 ⟨by show 0 ≤ b.tu + 1; omega, by show b.tu + 1 ≤ _; omega⟩, h.nx, by show FineP (parts (b.sl.set k ⟨x.p, 1, host, b.tu + 1⟩)); rw [parts_set (z := ⟨x.p, 1, host, b.tu + 1⟩) hx rfl]; exact h.pt, fun s hs => ?_, pairwise_set h.tn hx (fun y hy _ e => ?_) (fun y hy _ e => ?_)⟩
    · rcases mem_set hs with q | q
      · have h1 := h.sc s q
        exact ⟨h1.s0, h1.s3, h1.t0, by show s.tu ≤ b.tu + 1; have := h1.t1; omega, h1.i1, h1.i2, h1.off, h1.al, h1.tz⟩
      · subst q
        exact ⟨by show (0 : Int) ≤ 1; omega, by show (1 : Int) ≤ 3; omega, by show 0 ≤ b.tu + 1; omega, Int.le_refl _, hxs.i1, hxs.i2, fun z => absurd z (by show (1 : Int) ≠ 0; omega), fun _ => hal, fun _ => by show b.tu + 1 ≠ 0; omega⟩
    · have := (h.sc y hy).t1
      simp only at e
      omega
    · have := (h.sc y hy).t1
      simp only at e
      omega

end Go.Proofs.Ytoeobhehjnkkkaa
