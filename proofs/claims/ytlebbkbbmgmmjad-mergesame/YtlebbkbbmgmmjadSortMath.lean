/-
  Plain maths of sorting: two lists in order made one, of cells in one place at one time the last one.
-/
import Derived.Test.YtlebbkbbmgmmjadCellMath
namespace Go.Proofs.Ytlebbkbbmgmmjad
open Go.RowKit

/-- One Row, Col and Time. -/
def Sm (a b : Cl) : Prop := rc a = rc b ∧ a.time = b.time
theorem Sm.refl (a : Cl) : Sm a a := ⟨rfl, rfl⟩
theorem Sm.symm {a b : Cl} (h : Sm a b) : Sm b a := ⟨h.1.symm, h.2.symm⟩
theorem Sm.trans {a b c : Cl} (h : Sm a b) (k : Sm b c) : Sm a c := ⟨h.1.trans k.1, h.2.trans k.2⟩
theorem Lt_not_Sm {a b : Cl} (h : Lt a b) : ¬ Sm a b := by
  rintro ⟨h1, h2⟩
  rcases h with h | ⟨_, h⟩
  · exact kl_ne h h1
  · omega

theorem Lt_Sm {a b c : Cl} (h : Lt a b) (k : Sm b c) : Lt a c := by
  rcases h with h | ⟨h1, h2⟩
  · exact .inl (k.1 ▸ h)
  · exact .inr ⟨h1.trans k.1, by have := k.2; omega⟩

theorem Sm_Lt {a b c : Cl} (k : Sm a b) (h : Lt b c) : Lt a c := by
  rcases h with h | ⟨h1, h2⟩
  · exact .inl (by rw [k.1]; exact h)
  · exact .inr ⟨k.1.trans h1, by have := k.2; omega⟩

theorem Lt_total {a b : Cl} (h1 : ¬ Lt a b) (h2 : ¬ Lt b a) : Sm a b := by
  have e : rc a = rc b := kl_total (fun h => h1 (.inl h)) (fun h => h2 (.inl h))
  refine ⟨e, ?_⟩
  by_cases h3 : b.time < a.time
  · exact absurd (.inr ⟨e, h3⟩) h1
  · by_cases h4 : a.time < b.time
    · exact absurd (.inr ⟨e.symm, h4⟩) h2
    · omega

theorem ordC_zero {a b : Cl} : ordC a b = 0 ↔ Sm a b := by
  unfold ordC Sm rc
  by_cases h1 : cmpS a.row b.row = 0
  · have e1 := cmpS_zero.1 h1
    by_cases h2 : cmpS a.col b.col = 0
    · have e2 := cmpS_zero.1 h2
      simp only [h1, h2, ne_eq, not_true_eq_false, if_false, e1, e2, cmpI]
      simp
      split <;> (try split) <;> omega
    · have : ¬ a.col.toList = b.col.toList := fun e => h2 (cmpS_zero.2 e)
      simp [h1, h2, this]
  · have : ¬ a.row.toList = b.row.toList := fun e => h1 (cmpS_zero.2 e)
    simp [h1, this]

/-- Two lists made one. -/
def mrg : List Cl → List Cl → List Cl
  | [], b => b
  | x :: a, [] => x :: a
  | x :: a, y :: b => if ordC x y < 0 then x :: mrg a (y :: b) else if ordC x y = 0 then y :: mrg a b else y :: mrg (x :: a) b
  termination_by a b => a.length + b.length

theorem mrg_nil_right (a : List Cl) : mrg a [] = a := by cases a <;> simp [mrg]
theorem mrg_left {x y : Cl} {a b : List Cl} (h : ordC x y < 0) : mrg (x :: a) (y :: b) = x :: mrg a (y :: b) := by rw [mrg, if_pos h]
theorem mrg_both {x y : Cl} {a b : List Cl} (h : ordC x y = 0) : mrg (x :: a) (y :: b) = y :: mrg a b := by rw [mrg, if_neg (by omega), if_pos h]
theorem mrg_right {x y : Cl} {a b : List Cl} (h : 0 < ordC x y) : mrg (x :: a) (y :: b) = y :: mrg (x :: a) b := by rw [mrg, if_neg (by omega), if_neg (by omega)]

theorem mrg_len : ∀ (a b : List Cl), (mrg a b).length ≤ a.length + b.length
  | [], b => by simp [mrg]
  | x :: a, [] => by simp [mrg]
  | x :: a, y :: b => by
    have i1 := mrg_len a (y :: b)
    have i2 := mrg_len a b
    have i3 := mrg_len (x :: a) b
    rw [mrg]
    split
    · simp at i1 ⊢; omega
    · split
      · simp at i2 ⊢; omega
      · simp at i3 ⊢; omega
  termination_by a b => a.length + b.length

theorem mrg_mem : ∀ (a b : List Cl), a.Pairwise Lt → b.Pairwise Lt → ∀ c, c ∈ mrg a b ↔ c ∈ b ∨ (c ∈ a ∧ ∀ d ∈ b, ¬ Sm c d)
  | [], b, _, _, c => by simp [mrg]
  | x :: a, [], _, _, c => by simp [mrg]
  | x :: a, y :: b, ha, hb, c => by
    obtain ⟨ha1, ha2⟩ := List.pairwise_cons.1 ha
    obtain ⟨hb1, hb2⟩ := List.pairwise_cons.1 hb
    rw [mrg]
    split
    · rename_i h
      have hxy := ordC_neg.1 h
      rw [List.mem_cons, mrg_mem a (y :: b) ha2 hb c]
      constructor
      · rintro (rfl | h1 | ⟨h1, h2⟩)
        · refine .inr ⟨by simp, fun d hd => ?_⟩
          rcases List.mem_cons.1 hd with rfl | hd
          · exact Lt_not_Sm hxy
          · exact Lt_not_Sm (Lt_trans hxy (hb1 d hd))
        · exact .inl h1
        · exact .inr ⟨by simp [h1], h2⟩
      · rintro (h1 | ⟨h1, h2⟩)
        · exact .inr (.inl h1)
        · rcases List.mem_cons.1 h1 with rfl | h1
          · exact .inl rfl
          · exact .inr (.inr ⟨h1, h2⟩)
    · rename_i h
      split
      · rename_i h0
        have hxy := ordC_zero.1 h0
        rw [List.mem_cons, mrg_mem a b ha2 hb2 c]
        constructor
        · rintro (rfl | h1 | ⟨h1, h2⟩)
          · exact .inl (by simp)
          · exact .inl (by simp [h1])
          · refine .inr ⟨by simp [h1], fun d hd => ?_⟩
            rcases List.mem_cons.1 hd with rfl | hd
            · exact fun h3 => Lt_not_Sm (Sm_Lt hxy.symm (ha1 c h1)) h3.symm
            · exact h2 d hd
        · rintro (h1 | ⟨h1, h2⟩)
          · rcases List.mem_cons.1 h1 with rfl | h1
            · exact .inl rfl
            · exact .inr (.inl h1)
          · rcases List.mem_cons.1 h1 with rfl | h1
            · exact absurd hxy (h2 y (by simp))
            · exact .inr (.inr ⟨h1, fun d hd => h2 d (by simp [hd])⟩)
      · rename_i h0
        have hyx : Lt y x := by
          by_cases hh : Lt y x
          · exact hh
          · exact absurd (ordC_zero.2 (Lt_total (fun k => h (ordC_neg.2 k)) hh)) h0
        rw [List.mem_cons, mrg_mem (x :: a) b ha hb2 c]
        constructor
        · rintro (rfl | h1 | ⟨h1, h2⟩)
          · exact .inl (by simp)
          · exact .inl (by simp [h1])
          · refine .inr ⟨h1, fun d hd => ?_⟩
            rcases List.mem_cons.1 hd with rfl | hd
            · have hyc : Lt d c := by
                rcases List.mem_cons.1 h1 with rfl | h1
                · exact hyx
                · exact Lt_trans hyx (ha1 c h1)
              exact fun h3 => Lt_not_Sm hyc h3.symm
            · exact h2 d hd
        · rintro (h1 | ⟨h1, h2⟩)
          · rcases List.mem_cons.1 h1 with rfl | h1
            · exact .inl rfl
            · exact .inr (.inl h1)
          · exact .inr (.inr ⟨h1, fun d hd => h2 d (by simp [hd])⟩)
  termination_by a b => a.length + b.length

theorem mrg_pw : ∀ (a b : List Cl), a.Pairwise Lt → b.Pairwise Lt → (mrg a b).Pairwise Lt
  | [], b, _, hb => by simpa [mrg] using hb
  | x :: a, [], ha, _ => by simpa [mrg] using ha
  | x :: a, y :: b, ha, hb => by
    obtain ⟨ha1, ha2⟩ := List.pairwise_cons.1 ha
    obtain ⟨hb1, hb2⟩ := List.pairwise_cons.1 hb
    have i1 := mrg_pw a (y :: b) ha2 hb
    have i2 := mrg_pw a b ha2 hb2
    have i3 := mrg_pw (x :: a) b ha hb2
    rw [mrg]
    split
    · rename_i h
      have hxy := ordC_neg.1 h
      refine List.pairwise_cons.2 ⟨fun c hc => ?_, i1⟩
      rcases (mrg_mem a (y :: b) ha2 hb c).1 hc with h1 | ⟨h1, _⟩
      · rcases List.mem_cons.1 h1 with rfl | h1
        · exact hxy
        · exact Lt_trans hxy (hb1 c h1)
      · exact ha1 c h1
    · rename_i h
      split
      · rename_i h0
        have hxy := ordC_zero.1 h0
        refine List.pairwise_cons.2 ⟨fun c hc => ?_, i2⟩
        rcases (mrg_mem a b ha2 hb2 c).1 hc with h1 | ⟨h1, _⟩
        · exact hb1 c h1
        · exact Sm_Lt hxy.symm (ha1 c h1)
      · rename_i h0
        have hyx : Lt y x := by
          by_cases hh : Lt y x
          · exact hh
          · exact absurd (ordC_zero.2 (Lt_total (fun k => h (ordC_neg.2 k)) hh)) h0
        refine List.pairwise_cons.2 ⟨fun c hc => ?_, i3⟩
        rcases (mrg_mem (x :: a) b ha hb2 c).1 hc with h1 | ⟨h1, _⟩
        · exact hb1 c h1
        · rcases List.mem_cons.1 h1 with rfl | h1
          · exact hyx
          · exact Lt_trans hyx (ha1 c h1)
  termination_by a b => a.length + b.length

/-- c is the last one of its place and time in l. -/
def LastIn : List Cl → Cl → Prop
  | [], _ => False
  | x :: l, c => LastIn l c ∨ (c = x ∧ ∀ d ∈ l, ¬ Sm c d)

theorem LastIn.mem : ∀ {l : List Cl} {c : Cl}, LastIn l c → c ∈ l
  | x :: l, c, h => by
    rcases h with h | ⟨rfl, _⟩
    · exact List.mem_cons_of_mem _ h.mem
    · simp

theorem last_ex : ∀ {l : List Cl} {c : Cl}, c ∈ l → ∃ d, LastIn l d ∧ Sm c d
  | x :: l, c, h => by
    by_cases hx : ∃ d ∈ l, Sm c d
    · obtain ⟨d, hd, hcd⟩ := hx
      obtain ⟨e, he, hde⟩ := last_ex hd
      exact ⟨e, .inl he, hcd.trans hde⟩
    · rcases List.mem_cons.1 h with rfl | h
      · exact ⟨c, .inr ⟨rfl, fun d hd hs => hx ⟨d, hd, hs⟩⟩, Sm.refl _⟩
      · exact absurd ⟨c, h, Sm.refl _⟩ hx

theorem last_append : ∀ {a b : List Cl} {c : Cl}, LastIn (a ++ b) c ↔ LastIn b c ∨ (LastIn a c ∧ ∀ d ∈ b, ¬ Sm c d)
  | [], b, c => by simp [LastIn]
  | x :: a, b, c => by
    simp only [List.cons_append, LastIn, last_append (a := a), List.mem_append]
    constructor
    · rintro ((h | h) | ⟨rfl, h⟩)
      · exact .inl h
      · exact .inr ⟨.inl h.1, h.2⟩
      · exact .inr ⟨.inr ⟨rfl, fun d hd => h d (.inl hd)⟩, fun d hd => h d (.inr hd)⟩
    · rintro (h | ⟨h | ⟨rfl, h⟩, h2⟩)
      · exact .inl (.inl h)
      · exact .inl (.inr ⟨h, h2⟩)
      · exact .inr ⟨rfl, fun d hd => hd.elim (h d) (h2 d)⟩

theorem last_pw : ∀ {l : List Cl}, l.Pairwise Lt → ∀ {c : Cl}, LastIn l c ↔ c ∈ l
  | [], _, c => by simp [LastIn]
  | x :: l, hp, c => by
    obtain ⟨h1, h2⟩ := List.pairwise_cons.1 hp
    simp only [LastIn, last_pw h2, List.mem_cons]
    constructor
    · rintro (h | ⟨h, _⟩)
      · exact .inr h
      · exact .inl h
    · rintro (rfl | h)
      · exact .inr ⟨rfl, fun d hd => Lt_not_Sm (h1 d hd)⟩
      · exact .inl h

/-- out is l in order, of cells in one place at one time the last one. -/
def Srt (l out : List Cl) : Prop := out.Pairwise Lt ∧ (∀ c, c ∈ out ↔ LastIn l c) ∧ out.length ≤ l.length

theorem Srt.uniq {l o p : List Cl} (h : Srt l o) (k : Srt l p) : o = p :=
  pw_ext Lt_irrefl (fun _ _ _ => Lt_trans) h.1 k.1 fun c => (h.2.1 c).trans (k.2.1 c).symm

theorem Srt.nil : Srt [] [] := ⟨.nil, by simp [LastIn], by simp⟩
theorem Srt.pw {l : List Cl} (h : l.Pairwise Lt) : Srt l l := ⟨h, fun _ => (last_pw h).symm, Nat.le_refl _⟩

theorem Srt.join {a b o p : List Cl} (h : Srt a o) (k : Srt b p) : Srt (a ++ b) (mrg o p) := by
  refine ⟨mrg_pw o p h.1 k.1, fun c => ?_, ?_⟩
  · rw [mrg_mem o p h.1 k.1, last_append, k.2.1, h.2.1]
    constructor
    · rintro (h1 | ⟨h1, h2⟩)
      · exact .inl h1
      · refine .inr ⟨h1, fun d hd hs => ?_⟩
        obtain ⟨e, he, hde⟩ := last_ex hd
        exact h2 e ((k.2.1 e).2 he) (hs.trans hde)
    · rintro (h1 | ⟨h1, h2⟩)
      · exact .inl h1
      · exact .inr ⟨h1, fun d hd => h2 d ((k.2.1 d).1 hd).mem⟩
  · have := mrg_len o p
    have := h.2.2
    have := k.2.2
    simp
    omega

end Go.Proofs.Ytlebbkbbmgmmjad
