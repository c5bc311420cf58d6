/-
  Texts joined: AsN3.
-/
import Derived.Test.YtoeobhehjnkkkaaMLocateDoesAsN2
/-
  Plain maths: a fine board stays fine behind orders for slots, behind splits and joins, behind each order. Nothing is walked here.
-/
namespace Go.Proofs.Ytoeobhehjnkkkaa
open Go.RowKit
set_option linter.unusedVariables false

theorem slF_zero {l : List Sl} {k : Nat} {x : Sl} {st : Int} (hx : l[k]? = some x) (h : (slF l (some k) st).1 = 0) : x.st = st := by
  rw [slF_some hx] at h
  by_cases q : x.st = st
  · exact q
  · rw [if_pos q] at h; cases h

theorem heF_zero {l : List Sl} {k : Nat} {x : Sl} {ho tu st : Int} (hx : l[k]? = some x) (h : (heF l (some k) ho tu st).1 = 0) : x.ho = ho ∧ x.tu = tu ∧ x.st = st := by
  unfold heF at h
  dsimp only at h
  rw [getD_of hx] at h
  by_cases q : x.ho ≠ ho ∨ x.tu ≠ tu
  · rw [if_pos q] at h; cases h
  · rw [if_neg q] at h
    refine ⟨?_, ?_, slF_zero hx h⟩
    · exact Decidable.not_not.1 (fun z => q (.inl z))
    · exact Decidable.not_not.1 (fun z => q (.inr z))

theorem idxS_lt {l : List Sl} {id : Int} {k : Nat} (h : idxS l id = some k) : k < l.length := by
  obtain ⟨x, hx, _⟩ := idxS_some h
  exact (List.getElem?_eq_some_iff.1 hx).1

/-- A slot that serves, in another state in which it serves. -/
theorem FineS.to {b : Bd} {s : Sl} {st : Int} (h : FineS b s) (hs : s.st ≠ 0) (h1 : 1 ≤ st) (h3 : st ≤ 3) : FineS b { s with st := st } :=
  ⟨by show 0 ≤ st; omega, h3, h.t0, h.t1, h.i1, h.i2, fun q => by have : st = 0 := q; omega, fun _ => h.al hs, fun _ => h.tz hs⟩

theorem FineS.toOff {b : Bd} {s : Sl} (h : FineS b s) : FineS b (offS s) :=
  ⟨by show (0 : Int) ≤ 0; omega, by show (0 : Int) ≤ 3; omega, h.t0, h.t1, h.i1, h.i2, fun _ => rfl, fun q => absurd rfl q, fun q => absurd rfl q⟩

theorem opened_fine {b : Bd} {id ho tu : Int} (h : FineB b) : FineB (actS b (idxS b.sl id) (heF b.sl (idxS b.sl id) ho tu 1) (fun s => { s with st := 2 })) := by
  refine act_fine h (fun k x hk hf hx => ⟨rfl, rfl, ?_⟩) (fun k hk => idxS_lt hk)
  rw [hk] at hf
  have := (heF_zero hx hf).2.2
  exact (h.sc x (List.mem_of_getElem? hx)).to (by omega) (by decide) (by decide)

theorem close_fine {b : Bd} {id : Int} (h : FineB b) : FineB (actS b (idxS b.sl id) (slF b.sl (idxS b.sl id) 2) (fun s => { s with st := 3 })) := by
  refine act_fine h (fun k x hk hf hx => ⟨rfl, rfl, ?_⟩) (fun k hk => idxS_lt hk)
  rw [hk] at hf
  have := slF_zero hx hf
  exact (h.sc x (List.mem_of_getElem? hx)).to (by omega) (by decide) (by decide)

theorem closed_fine {b : Bd} {id ho tu : Int} (h : FineB b) : FineB (actS b (idxS b.sl id) (heF b.sl (idxS b.sl id) ho tu 3) offS) := by
  refine act_fine h (fun k x hk hf hx => ⟨rfl, rfl, ?_⟩) (fun k hk => idxS_lt hk)
  exact (h.sc x (List.mem_of_getElem? hx)).toOff

/-- No part has a number that is not ahead of the next one. -/
theorem noID {b : Bd} (h : FineB b) {k n : Nat} {m : Int} (hm : b.nx ≤ m) : hasID (parts b.sl) k n m = false := by
  rw [Bool.eq_false_iff]
  intro q
  obtain ⟨j, p, hp, e, _⟩ := hasID_iff.1 q
  unfold parts at hp
  rw [List.getElem?_map] at hp
  cases hs : b.sl[j]? with
  | none => rw [hs] at hp; cases hp
  | some s =>
    rw [hs] at hp
    simp only [Option.map_some, Option.some.injEq] at hp
    subst hp
    have := (h.sc s (List.mem_of_getElem? hs)).i2
    omega

theorem parts_len (l : List Sl) : (parts l).length = l.length := by unfold parts; rw [List.length_map]

theorem parts_getD {l : List Sl} {k : Nat} {x : Sl} (h : l[k]? = some x) : (parts l).getD k zeroPt = x.p := by
  unfold parts
  rw [List.getD_eq_getElem?_getD, List.getElem?_map, h]
  rfl

theorem parts_appA (a b : List Sl) : parts (a ++ b) = parts a ++ parts b := by unfold parts; rw [List.map_append]
theorem parts_takeA (l : List Sl) (k : Nat) : parts (l.take k) = (parts l).take k := by unfold parts; rw [List.map_take]
theorem parts_dropA (l : List Sl) (k : Nat) : parts (l.drop k) = (parts l).drop k := by unfold parts; rw [List.map_drop]

/-- Slots are taken out, new ones put in, numbered from the next number on. -/
theorem ren_fine {b : Bd} {i j : Nat} {ps : List Pt} (h : FineB b) (hp : FineP (parts (b.sl.take i ++ newS ps b.nx ++ b.sl.drop j))) (hij : i ≤ j) (hf : (renF b ps).1 = 0) : FineB (renB b i j ps) := by
  unfold renF at hf
  have hle : ¬ 1000000000 < b.nx + (ps.length : Int) := fun q => by rw [if_pos q] at hf; cases hf
  unfold renB
  rw [if_neg hle]
  have hnx := oneB_iff.1 h.nx
  have hnew : ∀ (l : List Pt) (n : Int) (s : Sl), s ∈ newS l n → s.st = 0 ∧ s.ho = 0 ∧ s.tu = 0 ∧ n ≤ s.p.id ∧ s.p.id < n + l.length := by
    intro l
    induction l with
    | nil => intro n s hs; cases hs
    | cons p r ih =>
      intro n s hs
      rcases List.mem_cons.1 hs with q | q
      · subst q
        exact ⟨rfl, rfl, rfl, Int.le_refl _, by show n < n + ((p :: r).length : Int); simp only [List.length_cons]; omega⟩
      · obtain ⟨h1, h2, h3, h4, h5⟩ := ih (n + 1) s q
        exact ⟨h1, h2, h3, by omega, by simp only [List.length_cons]; omega⟩
  have hnewT : ∀ (l : List Pt) (n : Int), DistT (newS l n) := by
    intro l
    induction l with
    | nil => intro n; exact List.Pairwise.nil
    | cons p r ih =>
      intro n
      exact List.pairwise_cons.2 ⟨fun y _ _ => rfl, ih (n + 1)⟩
  refine ⟨h.hl, h.hi, h.hn, h.tu, oneB_of (by show 1 ≤ b.nx + (ps.length : Int); omega) (by show b.nx + (ps.length : Int) ≤ _; omega), hp, fun s hs => ?_, ?_⟩
  · have old : s ∈ b.sl → FineS { b with nx := b.nx + (ps.length : Int), sl := b.sl.take i ++ newS ps b.nx ++ b.sl.drop j } s := fun q => by
      have h1 := h.sc s q
      exact ⟨h1.s0, h1.s3, h1.t0, h1.t1, h1.i1, by show s.p.id < b.nx + (ps.length : Int); have := h1.i2; omega, h1.off, h1.al, h1.tz⟩
    rcases List.mem_append.1 hs with q | q
    · rcases List.mem_append.1 q with q | q
      · exact old (List.mem_of_mem_take q)
      · obtain ⟨h1, h2, h3, h4, h5⟩ := hnew ps b.nx s q
        have ht := numB_iff.1 h.tu
        exact ⟨by omega, by omega, by omega, by show s.tu ≤ b.tu; omega, by omega, h5, fun _ => h2, fun z => absurd h1 z, fun z => absurd h1 z⟩
    · exact old (List.mem_of_mem_drop q)
  · unfold DistT
    show List.Pairwise _ (b.sl.take i ++ newS ps b.nx ++ b.sl.drop j)
    rw [List.append_assoc, List.pairwise_append, List.pairwise_append]
    refine ⟨h.tn.sublist (List.take_sublist _ _), ⟨hnewT ps b.nx, h.tn.sublist (List.drop_sublist _ _), fun x hx y hy e => (hnew ps b.nx x hx).2.2.1⟩, fun x hx y hy e => ?_⟩
    rcases List.mem_append.1 hy with q | q
    · rw [e]; exact (hnew ps b.nx y q).2.2.1
    · obtain ⟨m, hm⟩ := List.getElem?_of_mem hx
      obtain ⟨n, hn⟩ := List.getElem?_of_mem q
      rw [List.getElem?_take] at hm
      split at hm
      · rename_i hmi
        rw [List.getElem?_drop] at hn
        have hd := h.tn
        unfold DistT at hd
        rw [List.pairwise_iff_getElem] at hd
        obtain ⟨h1, rfl⟩ := List.getElem?_eq_some_iff.1 hm
        obtain ⟨h2, rfl⟩ := List.getElem?_eq_some_iff.1 hn
        exact hd m (j + n) h1 h2 (by omega) e
      · cases hm

theorem split_fineB {b : Bd} {id : Int} {row : ByteArray} (h : FineB b) : FineB (spB b id row) := by
  cases hi : idxS b.sl id with
  | none => rw [(spF_none hi).2]; exact h
  | some k =>
    rw [(spF_some hi).2]
    obtain ⟨x, hx, hxi⟩ := idxS_some hi
    have hk := (List.getElem?_eq_some_iff.1 hx).1
    by_cases h1 : (b.sl.getD k zeroSl).st ≠ 0
    · rw [if_pos h1]; exact h
    rw [if_neg h1]
    by_cases h2 : (splitF (parts b.sl) k row 0 b.nx).1 ≠ 0
    · rw [if_pos h2]; exact h
    rw [if_neg h2]
    by_cases h3 : (renF b (spP b k row)).1 = 0
    case neg =>
      unfold renF at h3
      unfold renB
      by_cases q : 1000000000 < b.nx + ((spP b k row).length : Int)
      · rw [if_pos q]; exact h
      · rw [if_neg q] at h3; exact absurd rfl h3
    refine ren_fine h ?_ (by omega) h3
    have hle : b.nx + 2 ≤ 1000000000 := by
      unfold renF at h3
      by_cases q : 1000000000 < b.nx + ((spP b k row).length : Int)
      · rw [if_pos q] at h3; cases h3
      · have : ((spP b k row).length : Int) = 2 := rfl
        omega
    have hnx := oneB_iff.1 h.nx
    obtain ⟨hf, k', hk', hkl, g1, g2, g3, g4, g5, g6, g7, g8, g9⟩ := splitF_ok (Decidable.not_not.1 h2)
    obtain rfl : k = k' := by omega
    have hs : (splitF (parts b.sl) k row b.nx (b.nx + 1)).1 = 0 := by
      unfold splitF
      dsimp only
      rw [if_neg (by simp [chkP_fine.2 hf]), if_neg (by omega), if_neg (by omega), Int.toNat_natCast, if_neg (by simp only [not_or, Bool.not_eq_false]; exact ⟨g2, g3⟩),
        if_neg (by rw [numB_iff.2 ⟨by omega, by omega⟩, numB_iff.2 ⟨by omega, by omega⟩]; simp),
        if_neg (by rw [noID h (Int.le_refl _), noID h (by omega)]; simp; omega), if_neg (by have := g9; omega)]
    have := split_fine hs
    rw [Int.toNat_natCast] at this
    rw [parts_appA, parts_appA, parts_takeA, parts_dropA]
    unfold splitL at this
    rw [parts_getD hx] at this
    unfold spP
    rw [getD_of hx]
    exact this

theorem join_fineB {b : Bd} {id : Int} (h : FineB b) : FineB (jnB b id) := by
  cases hi : idxS b.sl id with
  | none => rw [(jnF_none hi).2]; exact h
  | some k =>
    rw [(jnF_some hi).2]
    obtain ⟨x, hx, hxi⟩ := idxS_some hi
    have hk := (List.getElem?_eq_some_iff.1 hx).1
    by_cases h1 : k + 1 = b.sl.length
    · rw [if_pos h1]; exact h
    rw [if_neg h1]
    by_cases h2 : (b.sl.getD k zeroSl).st ≠ 0 ∨ (b.sl.getD (k + 1) zeroSl).st ≠ 0
    · rw [if_pos h2]; exact h
    rw [if_neg h2]
    by_cases h3 : (renF b (jnP b k)).1 = 0
    case neg =>
      unfold renF at h3
      unfold renB
      by_cases q : 1000000000 < b.nx + ((jnP b k).length : Int)
      · rw [if_pos q]; exact h
      · rw [if_neg q] at h3; exact absurd rfl h3
    refine ren_fine h ?_ (by omega) h3
    have hle : b.nx + 1 ≤ 1000000000 := by
      unfold renF at h3
      by_cases q : 1000000000 < b.nx + ((jnP b k).length : Int)
      · rw [if_pos q] at h3; cases h3
      · have : ((jnP b k).length : Int) = 1 := rfl
        omega
    have hnx := oneB_iff.1 h.nx
    obtain ⟨y, hy⟩ : ∃ y, b.sl[k + 1]? = some y := ⟨_, List.getElem?_eq_getElem (by omega)⟩
    have hs : (joinF (parts b.sl) k b.nx).1 = 0 := by
      unfold joinF
      rw [if_neg (by simp [chkP_fine.2 h.pt]), if_neg (by rw [parts_len]; omega), if_neg (by rw [numB_iff.2 ⟨by omega, by omega⟩]; simp),
        Int.toNat_natCast, if_neg (by rw [noID h (Int.le_refl _)]; simp)]
    have := join_fine hs
    rw [Int.toNat_natCast] at this
    rw [parts_appA, parts_appA, parts_takeA, parts_dropA]
    unfold joinL at this
    rw [parts_getD hx, parts_getD hy] at this
    unfold jnP
    rw [getD_of hx, getD_of hy]
    exact this

/-- What an order comes to: the board behind it, and what is said. -/
def stepB (b : Bd) (o : Od) : Bd × (Int × Int) := (doB b o (spB b o.id o.row) (jnB b o.id), doF b o (spF b o.id o.row) (jnF b o.id))

theorem step_fine {b : Bd} {o : Od} (h : FineB b) : FineB (stepB b o).1 := by
  show FineB (doB b o _ _)
  unfold doB
  split
  · exact come_fine h
  split
  · exact lose_fine h
  split
  · exact give_fine h
  split
  · exact opened_fine h
  split
  · exact close_fine h
  split
  · exact closed_fine h
  split
  · exact split_fineB h
  split
  · exact join_fineB h
  · exact h

theorem step_chk (b : Bd) (o : Od) (h : (chkB b).1 = 0) : (chkB (stepB b o).1).1 = 0 := fineB_iff.2 (step_fine (fineB_iff.1 h))

end Go.Proofs.Ytoeobhehjnkkkaa
