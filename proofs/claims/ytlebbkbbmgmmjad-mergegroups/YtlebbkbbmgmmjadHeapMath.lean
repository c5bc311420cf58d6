/-
  Plain maths of merge's heap.
-/
import Derived.Test.YtlebbkbbmgmmjadSortMath
import Derived.Test.YtlebbkbbmgmmjadMergeW2
namespace Go.Proofs.Ytlebbkbbmgmmjad
open Go.RowKit

/-- The first cell of s comes not behind that of o. -/
def Le2 (s o : Src) : Prop := ahB o s = false

theorem ahB_iff {s o : Src} : ahB s o = true ↔ Lt (hd s) (hd o) ∨ (Sm (hd s) (hd o) ∧ s.n < o.n) := by
  unfold ahB
  simp only [Bool.or_eq_true, decide_eq_true_eq, Bool.and_eq_true, ordC_neg, ordC_zero]

theorem Le2_iff {s o : Src} : Le2 s o ↔ Lt (hd s) (hd o) ∨ (Sm (hd s) (hd o) ∧ s.n ≤ o.n) := by
  unfold Le2
  rw [← Bool.not_eq_true, ahB_iff]
  constructor
  · intro h
    by_cases h1 : Lt (hd s) (hd o)
    · exact .inl h1
    · have h2 : Sm (hd s) (hd o) := Lt_total h1 (fun k => h (.inl k))
      exact .inr ⟨h2, by by_cases h3 : s.n ≤ o.n; exact h3; exact absurd (.inr ⟨h2.symm, by omega⟩) h⟩
  · rintro (h | ⟨h, h2⟩) (k | ⟨k, k2⟩)
    · exact Lt_irrefl _ (Lt_trans h k)
    · exact Lt_not_Sm h k.symm
    · exact Lt_not_Sm k h.symm
    · omega

theorem Le2.refl (s : Src) : Le2 s s := Le2_iff.2 (.inr ⟨Sm.refl _, Int.le_refl _⟩)
theorem Le2.trans {a b c : Src} (h : Le2 a b) (k : Le2 b c) : Le2 a c := by
  rw [Le2_iff] at *
  rcases h with h | ⟨h, h2⟩ <;> rcases k with k | ⟨k, k2⟩
  · exact .inl (Lt_trans h k)
  · exact .inl (Lt_Sm h k)
  · exact .inl (Sm_Lt h k)
  · exact .inr ⟨h.trans k, by omega⟩

theorem Le2_of_ah {a b : Src} (h : ahB a b = true) : Le2 a b := by
  rw [Le2_iff]
  rcases ahB_iff.1 h with h | ⟨h, h2⟩
  · exact .inl h
  · exact .inr ⟨h, by omega⟩

/-- Two places changed. -/
def swp (hs : List Src) (i j : Nat) : List Src :=
  match hs[i]?, hs[j]? with
  | some x, some y => (hs.set i y).set j x
  | _, _ => hs

theorem swp_get {hs : List Src} {i j : Nat} (hi : i < hs.length) (hj : j < hs.length) (k : Nat) : (swp hs i j)[k]? = if k = j then hs[i]? else if k = i then hs[j]? else hs[k]? := by
  unfold swp
  rw [List.getElem?_eq_getElem hi, List.getElem?_eq_getElem hj]
  simp only
  rw [List.getElem?_set, List.getElem?_set]
  by_cases h1 : j = k
  · subst h1
    simp [hj]
  · have h1' : ¬ k = j := fun e => h1 e.symm
    by_cases h2 : i = k
    · subst h2
      simp [h1, h1', hi]
    · have h2' : ¬ k = i := fun e => h2 e.symm
      simp [h1, h1', h2, h2']

theorem swp_len (hs : List Src) (i j : Nat) : (swp hs i j).length = hs.length := by
  unfold swp
  split <;> simp

theorem swp_perm {hs : List Src} {i j : Nat} (hi : i < hs.length) (hj : j < hs.length) : (swp hs i j).Perm hs := by
  unfold swp
  rw [List.getElem?_eq_getElem hi, List.getElem?_eq_getElem hj]
  exact List.set_set_perm hi hj

/-- No source is ahead of the one above it. -/
def HeapP (hs : List Src) : Prop := ∀ (i : Nat) a b, 0 < i → hs[(i - 1) / 2]? = some a → hs[i]? = some b → Le2 a b

/-- A heap, but for the place at, which may have to rise. -/
structure UpH (hs : List Src) (at' : Nat) : Prop where
  lt : at' < hs.length
  most : ∀ (i : Nat) a b, 0 < i → i ≠ at' → hs[(i - 1) / 2]? = some a → hs[i]? = some b → Le2 a b
  over : ∀ (i : Nat) a b, 0 < i → (i - 1) / 2 = at' → 0 < at' → hs[(at' - 1) / 2]? = some a → hs[i]? = some b → Le2 a b

/-- A heap, but for the place at, which may have to sink. -/
structure DnH (hs : List Src) (at' : Nat) : Prop where
  most : ∀ (i : Nat) a b, 0 < i → (i - 1) / 2 ≠ at' → hs[(i - 1) / 2]? = some a → hs[i]? = some b → Le2 a b
  over : ∀ (i : Nat) a b, 0 < i → (i - 1) / 2 = at' → 0 < at' → hs[(at' - 1) / 2]? = some a → hs[i]? = some b → Le2 a b

theorem UpH.done {hs : List Src} {k : Nat} (h : UpH hs k) (hd : k = 0 ∨ ∀ a b, hs[(k - 1) / 2]? = some a → hs[k]? = some b → ahB b a = false) : HeapP hs := by
  intro i a b h0 ha hb
  by_cases hi : i = k
  · subst hi
    rcases hd with rfl | hd
    · omega
    · exact hd a b ha hb
  · exact h.most i a b h0 hi ha hb

theorem UpH.step {hs : List Src} {k : Nat} (h : UpH hs k) (hk : 0 < k) {x y : Src} (hx : hs[k]? = some x) (hy : hs[(k - 1) / 2]? = some y) (hlt : ahB x y = true) : UpH (swp hs k ((k - 1) / 2)) ((k - 1) / 2) := by
  have hl := h.lt
  have hp : (k - 1) / 2 < hs.length := by omega
  have hxy := Le2_of_ah hlt
  generalize hpe : (k - 1) / 2 = p at *
  have hpk : p ≠ k := by omega
  refine ⟨by rw [swp_len]; exact hp, fun i a b h0 hi ha hb => ?_, fun i a b h0 hi hp0 ha hb => ?_⟩
  · rw [swp_get hl hp] at ha hb
    rw [if_neg hi] at hb
    by_cases h1 : i = k
    · subst h1
      rw [if_pos rfl, hy] at hb
      rw [hpe, if_pos rfl, hx] at ha
      cases hb; cases ha
      exact hxy
    · rw [if_neg h1] at hb
      by_cases h2 : (i - 1) / 2 = p
      · rw [if_pos h2, hx] at ha
        cases ha
        exact hxy.trans (h.most i y b h0 h1 (by rw [h2]; exact hy) hb)
      · rw [if_neg h2] at ha
        by_cases h3 : (i - 1) / 2 = k
        · rw [if_pos h3, hy] at ha
          cases ha
          exact h.over i y b h0 h3 hk (by rw [hpe]; exact hy) hb
        · rw [if_neg h3] at ha
          exact h.most i a b h0 h1 ha hb
  · rw [swp_get hl hp] at ha hb
    have hq1 : (p - 1) / 2 ≠ p := by omega
    have hq2 : (p - 1) / 2 ≠ k := by omega
    rw [if_neg hq1, if_neg hq2] at ha
    have hay : Le2 a y := h.most p a y hp0 hpk ha hy
    have hip : i ≠ p := by omega
    rw [if_neg hip] at hb
    by_cases h1 : i = k
    · rw [if_pos h1, hy] at hb
      cases hb
      exact hay
    · rw [if_neg h1] at hb
      exact hay.trans (h.most i y b h0 h1 (by rw [hi]; exact hy) hb)

theorem UpH.init {hs : List Src} (h : HeapP hs) (s : Src) : UpH (hs ++ [s]) hs.length := by
  refine ⟨by simp, fun i a b h0 hi ha hb => ?_, fun i a b h0 hi hp ha hb => ?_⟩
  · have hl := (List.getElem?_eq_some_iff.1 hb).1
    simp at hl
    rw [List.getElem?_append_left (by omega)] at ha hb
    exact h i a b h0 ha hb
  · have hl := (List.getElem?_eq_some_iff.1 hb).1
    simp at hl
    omega

theorem DnH.done {hs : List Src} {k : Nat} (h : DnH hs k) (hd : ∀ (i : Nat) a b, 0 < i → (i - 1) / 2 = k → hs[k]? = some a → hs[i]? = some b → Le2 a b) : HeapP hs := by
  intro i a b h0 ha hb
  by_cases hi : (i - 1) / 2 = k
  · rw [hi] at ha
    exact hd i a b h0 hi ha hb
  · exact h.most i a b h0 hi ha hb

theorem DnH.step {hs : List Src} {k f : Nat} (h : DnH hs k) (hf0 : 0 < f) (hf : (f - 1) / 2 = k) (hfl : f < hs.length) {x y : Src} (hx : hs[k]? = some x) (hy : hs[f]? = some y) (hxy : Le2 y x)
    (hmin : ∀ (i : Nat) b, 0 < i → (i - 1) / 2 = k → hs[i]? = some b → Le2 y b) : DnH (swp hs k f) f := by
  have hkl : k < hs.length := by omega
  have hkf : k ≠ f := by omega
  refine ⟨fun i a b h0 hi ha hb => ?_, fun i a b h0 hi hp0 ha hb => ?_⟩
  · rw [swp_get hkl hfl] at ha hb
    rw [if_neg hi] at ha
    by_cases h1 : (i - 1) / 2 = k
    · rw [if_pos h1, hy] at ha
      cases ha
      by_cases h2 : i = f
      · rw [if_pos h2, hx] at hb
        cases hb
        exact hxy
      · rw [if_neg h2, if_neg (by omega)] at hb
        exact hmin i b h0 h1 hb
    · rw [if_neg h1] at ha
      by_cases h2 : i = f
      · rw [h2, hf] at h1
        exact absurd rfl h1
      · rw [if_neg h2] at hb
        by_cases h3 : i = k
        · rw [if_pos h3, hy] at hb
          cases hb
          exact h.over f a y hf0 hf (by omega) (by rw [← h3]; exact ha) hy
        · rw [if_neg h3] at hb
          exact h.most i a b h0 h1 ha hb
  · rw [swp_get hkl hfl] at ha hb
    rw [hf, if_neg hkf, if_pos rfl, hy] at ha
    cases ha
    rw [if_neg (by omega), if_neg (by omega)] at hb
    exact h.most i y b h0 (by omega) (by rw [hi]; exact hy) hb

/-- The first place has the least one. -/
theorem HeapP.min {hs : List Src} (h : HeapP hs) {x : Src} (hx : hs[0]? = some x) : ∀ (i : Nat) b, hs[i]? = some b → Le2 x b := by
  intro i
  induction i using Nat.strongRecOn with
  | _ i ih =>
    intro b hb
    by_cases h0 : i = 0
    · subst h0
      rw [hx] at hb
      cases hb
      exact Le2.refl _
    · have hl := (List.getElem?_eq_some_iff.1 hb).1
      have hp : (i - 1) / 2 < hs.length := by omega
      exact (ih ((i - 1) / 2) (by omega) _ (List.getElem?_eq_getElem hp)).trans (h i _ b (by omega) (List.getElem?_eq_getElem hp) hb)

theorem HeapP.nil : HeapP [] := fun i a b _ h => by simp at h

/-- The block behind a change of two places. -/
theorem HpAt.swap {xs : Array Value} {hs : List Src} (h : HpAt xs hs) {i j : Nat} {x y : Src} (hij : i ≠ j) (hx : hs[i]? = some x) (hy : hs[j]? = some y) :
    HpAt ((((xs.setIfInBounds (i * 2) y.v).setIfInBounds (i * 2 + 1) (.int .i64 y.n)).setIfInBounds (j * 2) x.v).setIfInBounds (j * 2 + 1) (.int .i64 x.n)) (swp hs i j) := by
  have hi := (List.getElem?_eq_some_iff.1 hx).1
  have hj := (List.getElem?_eq_some_iff.1 hy).1
  have hs' := h.size
  have hl := h.len
  have key : ∀ m, ((((xs.setIfInBounds (i * 2) y.v).setIfInBounds (i * 2 + 1) (.int .i64 y.n)).setIfInBounds (j * 2) x.v).setIfInBounds (j * 2 + 1) (.int .i64 x.n))[m]? = if m = j * 2 + 1 then some (.int .i64 x.n) else if m = j * 2 then some x.v else if m = i * 2 + 1 then some (.int .i64 y.n) else if m = i * 2 then some y.v else xs[m]? := by
    intro m
    simp only [Array.getElem?_setIfInBounds, Array.size_setIfInBounds]
    by_cases h1 : m = j * 2 + 1
    · subst h1; simp; omega
    · rw [if_neg (fun e => h1 e.symm), if_neg h1]
      by_cases h2 : m = j * 2
      · subst h2; simp; omega
      · rw [if_neg (fun e => h2 e.symm), if_neg h2]
        by_cases h3 : m = i * 2 + 1
        · subst h3; simp; omega
        · rw [if_neg (fun e => h3 e.symm), if_neg h3]
          by_cases h4 : m = i * 2
          · subst h4; simp; omega
          · rw [if_neg (fun e => h4 e.symm), if_neg h4]
  refine ⟨by simp [hs'], by rw [swp_len]; exact hl, ?_, fun k s hk => ?_, fun k s hk => ?_, ?_⟩
  · rw [key, if_neg (by omega), if_neg (by omega), if_neg (by omega), if_neg (by omega), swp_len]
    exact h.n
  · rw [swp_get hi hj] at hk
    rw [key, if_neg (by omega)]
    by_cases h1 : k = j
    · subst h1
      rw [if_pos rfl, hx] at hk
      cases hk
      rw [if_pos rfl]
    · rw [if_neg h1] at hk
      rw [if_neg (by omega), if_neg (by omega)]
      by_cases h2 : k = i
      · subst h2
        rw [if_pos rfl, hy] at hk
        cases hk
        rw [if_pos rfl]
      · rw [if_neg h2] at hk
        rw [if_neg (by omega)]
        exact h.at0 k s hk
  · rw [swp_get hi hj] at hk
    rw [key]
    by_cases h1 : k = j
    · subst h1
      rw [if_pos rfl, hx] at hk
      cases hk
      rw [if_pos rfl]
    · rw [if_neg h1] at hk
      rw [if_neg (by omega), if_neg (by omega)]
      by_cases h2 : k = i
      · subst h2
        rw [if_pos rfl, hy] at hk
        cases hk
        rw [if_pos rfl]
      · rw [if_neg h2] at hk
        rw [if_neg (by omega), if_neg (by omega)]
        exact h.at1 k s hk
  · rw [Array.all_eq_true_iff_forall_mem]
    intro v hv
    obtain ⟨m, hm, e⟩ := Array.mem_iff_getElem.1 hv
    have hk := key m
    rw [Array.getElem?_eq_getElem hm, e] at hk
    have hone : ∀ v ∈ xs, v.oneCell' = true := Array.all_eq_true_iff_forall_mem.1 h.one
    split at hk
    · cases hk; rfl
    · split at hk
      · cases hk
        exact hone _ (Array.mem_of_getElem? (h.at0 i x hx))
      · split at hk
        · cases hk; rfl
        · split at hk
          · cases hk
            exact hone _ (Array.mem_of_getElem? (h.at0 j y hy))
          · exact hone _ (Array.mem_of_getElem? hk.symm)

end Go.Proofs.Ytlebbkbbmgmmjad
