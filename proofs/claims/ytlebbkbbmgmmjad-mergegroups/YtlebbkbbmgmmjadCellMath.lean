/-
  Plain maths of cells in order: what is seen, found once.
-/
import Derived.Test.YtlebbkbbmgmmjadCellW6
import Derived.Lib.Strings
namespace Go.Proofs.Ytlebbkbbmgmmjad
open Go.RowKit

abbrev bl := Op.bytesLess

theorem bl_irrefl : ∀ a : List UInt8, bl a a = false
  | [] => rfl
  | x :: a => by simp [bl, Op.bytesLess]; exact bl_irrefl a

theorem bl_trans : ∀ {a b c : List UInt8}, bl a b = true → bl b c = true → bl a c = true
  | _, [], _, h, _ => by simp [bl, Op.bytesLess] at h
  | _, _ :: _, [], _, h => by simp [bl, Op.bytesLess] at h
  | [], _ :: _, _ :: _, _, _ => rfl
  | x :: a, y :: b, z :: c, h1, h2 => by
    simp only [bl, Op.bytesLess, Bool.or_eq_true, decide_eq_true_eq, Bool.and_eq_true, beq_iff_eq] at h1 h2 ⊢
    rcases h1 with h1 | ⟨rfl, h1⟩
    · rcases h2 with h2 | ⟨rfl, h2⟩
      · exact .inl (UInt8.lt_trans h1 h2)
      · exact .inl h1
    · rcases h2 with h2 | ⟨rfl, h2⟩
      · exact .inl h2
      · exact .inr ⟨rfl, bl_trans h1 h2⟩

theorem bl_asymm {a b : List UInt8} (h : bl a b = true) : bl b a = false := by
  cases hb : bl b a
  · rfl
  · have := bl_trans h hb
    rw [bl_irrefl] at this
    cases this

theorem bl_total : ∀ {a b : List UInt8}, bl a b = false → bl b a = false → a = b
  | [], [], _, _ => rfl
  | [], _ :: _, h, _ => by simp [bl, Op.bytesLess] at h
  | _ :: _, [], _, h => by simp [bl, Op.bytesLess] at h
  | x :: a, y :: b, h1, h2 => by
    simp only [bl, Op.bytesLess, Bool.or_eq_false_iff, decide_eq_false_iff_not, Bool.and_eq_false_iff, beq_eq_false_iff_ne] at h1 h2
    have hxy : x = y := UInt8.toNat_inj.1 (by have := h1.1; have := h2.1; simp only [UInt8.lt_iff_toNat_lt] at *; omega)
    subst hxy
    rw [bl_total (h1.2.resolve_left (by simp)) (h2.2.resolve_left (by simp))]

theorem bl_ne {a b : List UInt8} (h : bl a b = true) : a ≠ b := fun e => by rw [e, bl_irrefl] at h; cases h

/-- A place: a row and a column. -/
abbrev Ky := List UInt8 × List UInt8
def rc (c : Cl) : Ky := (c.row.toList, c.col.toList)
def kl (a b : Ky) : Prop := bl a.1 b.1 = true ∨ (a.1 = b.1 ∧ bl a.2 b.2 = true)

theorem kl_irrefl (a : Ky) : ¬ kl a a := by
  rintro (h | ⟨_, h⟩) <;> rw [bl_irrefl] at h <;> cases h

theorem kl_trans {a b c : Ky} (h1 : kl a b) (h2 : kl b c) : kl a c := by
  rcases h1 with h1 | ⟨e1, h1⟩ <;> rcases h2 with h2 | ⟨e2, h2⟩
  · exact .inl (bl_trans h1 h2)
  · exact .inl (e2 ▸ h1)
  · exact .inl (e1 ▸ h2)
  · exact .inr ⟨e1.trans e2, bl_trans h1 h2⟩

theorem kl_ne {a b : Ky} (h : kl a b) : a ≠ b := fun e => kl_irrefl b (e ▸ h)

theorem kl_total {a b : Ky} (h1 : ¬ kl a b) (h2 : ¬ kl b a) : a = b := by
  have x1 : bl a.1 b.1 = false := by cases h : bl a.1 b.1; rfl; exact absurd (.inl h) h1
  have x2 : bl b.1 a.1 = false := by cases h : bl b.1 a.1; rfl; exact absurd (.inl h) h2
  have e := bl_total x1 x2
  have x3 : bl a.2 b.2 = false := by cases h : bl a.2 b.2; rfl; exact absurd (.inr ⟨e, h⟩) h1
  have x4 : bl b.2 a.2 = false := by cases h : bl b.2 a.2; rfl; exact absurd (.inr ⟨e.symm, h⟩) h2
  exact Prod.ext e (bl_total x3 x4)

theorem cmpS_neg {a b : ByteArray} : cmpS a b < 0 ↔ bl a.toList b.toList = true := by
  unfold cmpS
  cases h : Op.bytesLess a.toList b.toList
  · by_cases e : a.toList = b.toList <;> simp [e, bl, h] at h ⊢ <;> simp [h]
  · simp [bl, h]

theorem cmpS_zero {a b : ByteArray} : cmpS a b = 0 ↔ a.toList = b.toList := by
  unfold cmpS
  by_cases e : a.toList = b.toList
  · have := bl_irrefl b.toList
    simp only [e]
    simp only [bl] at this
    simp [this]
  · simp only [e, if_false]
    split <;> simp

/-- a stands ahead of b. -/
def Lt (a b : Cl) : Prop := kl (rc a) (rc b) ∨ (rc a = rc b ∧ b.time < a.time)

theorem ordC_neg {a b : Cl} : ordC a b < 0 ↔ Lt a b := by
  unfold ordC Lt kl rc
  by_cases h1 : cmpS a.row b.row = 0
  · have e1 := cmpS_zero.1 h1
    by_cases h2 : cmpS a.col b.col = 0
    · have e2 := cmpS_zero.1 h2
      simp only [h1, h2, ne_eq, not_true_eq_false, if_false, e1, e2, bl_irrefl, cmpI]
      simp
      split <;> (try split) <;> omega
    · simp only [h1, ne_eq, not_true_eq_false, if_false, h2, not_false_eq_true, if_true, cmpS_neg, e1, bl_irrefl]
      have : ¬ a.col.toList = b.col.toList := fun e => h2 (cmpS_zero.2 e)
      simp [this]
  · simp only [ne_eq, h1, not_false_eq_true, if_true, cmpS_neg]
    have : ¬ a.row.toList = b.row.toList := fun e => h1 (cmpS_zero.2 e)
    simp [this]

theorem Lt_irrefl (a : Cl) : ¬ Lt a a := by
  rintro (h | ⟨_, h⟩)
  · exact kl_irrefl _ h
  · omega

theorem Lt_trans {a b c : Cl} (h1 : Lt a b) (h2 : Lt b c) : Lt a c := by
  rcases h1 with h1 | ⟨e1, h1⟩ <;> rcases h2 with h2 | ⟨e2, h2⟩
  · exact .inl (kl_trans h1 h2)
  · exact .inl (e2 ▸ h1)
  · exact .inl (e1 ▸ h2)
  · exact .inr ⟨e1.trans e2, by omega⟩

theorem Lt_le {a b : Cl} (h : Lt a b) : kl (rc a) (rc b) ∨ rc a = rc b := h.elim .inl (fun h => .inr h.1)

theorem pw_of_adj : ∀ (cs : List Cl), (∀ i c d, cs[i]? = some c → cs[i + 1]? = some d → Lt c d) → cs.Pairwise Lt
  | [], _ => .nil
  | [c], _ => by simp
  | c :: e :: r, h => by
    have ih := pw_of_adj (e :: r) (fun i x y hx hy => h (i + 1) x y (by simpa using hx) (by simpa using hy))
    have hce : Lt c e := h 0 c e rfl rfl
    refine List.pairwise_cons.2 ⟨fun d hd => ?_, ih⟩
    rcases List.mem_cons.1 hd with rfl | hd
    · exact hce
    · exact Lt_trans hce ((List.pairwise_cons.1 ih).1 d hd)

/-- Cells that Check passes. -/
theorem fine_len {cs : List Cl} (h : (checkC cs).1 = 0) : cs.length ≤ 1000 := (faultR_fine h).1

theorem fine_code {cs : List Cl} (h : (checkC cs).1 = 0) {c : Cl} (hc : c ∈ cs) : codeC c = 0 := by
  obtain ⟨i, hi, e⟩ := List.getElem_of_mem hc
  have h0 := (faultR_fine h).2 i hi
  have hg : cs[i]? = some c := by rw [List.getElem?_eq_getElem hi, e]
  by_cases hz : codeC c = 0
  · exact hz
  · rw [codeAt_own hg hz] at h0
    exact h0

theorem fine_pw {cs : List Cl} (h : (checkC cs).1 = 0) : cs.Pairwise Lt := by
  refine pw_of_adj cs fun i c d hc hd => ?_
  have hi : i + 1 < cs.length := (List.getElem?_eq_some_iff.1 hd).1
  have h0 := (faultR_fine h).2 (i + 1) hi
  rw [codeAt_later hd hc (fine_code h (List.mem_of_getElem? hd))] at h0
  rw [← ordC_neg]
  split at h0
  · simp at h0
  · omega

theorem code_row {c : Cl} (h : codeC c = 0) : c.row.toList ≠ [] := by
  intro e
  unfold codeC at h
  rw [e] at h
  simp at h

theorem kl_zero {c : Cl} (h : codeC c = 0) : kl (rc zeroC) (rc c) := by
  left
  have := code_row h
  have e0 : (rc zeroC).1 = [] := by simp [rc, zeroC, ByteArray.toList_eq]
  rw [e0]
  show bl [] c.row.toList = true
  cases e : c.row.toList with
  | nil => exact absurd e this
  | cons x l => rfl

/-- The cells that are seen, behind one that hides. -/
def visGo (t : Int) : Cl → List Cl → List Cl
  | _, [] => []
  | nw, c :: r => if seenB t nw c then c :: visGo t (nextN t nw c) r else visGo t (nextN t nw c) r
/-- The cells that are seen. -/
def vis (t : Int) (cs : List Cl) : List Cl := visGo t zeroC cs

theorem hid_iff {t : Int} {nw c : Cl} : hid t nw c = true ↔ t < c.time ∨ rc c = rc nw := by
  unfold hid rc
  simp

theorem visGo_sub (t : Int) : ∀ (cs : List Cl) (nw : Cl), (visGo t nw cs).Sublist cs
  | [], _ => .slnil
  | c :: r, nw => by
    unfold visGo
    split
    · exact (visGo_sub t r _).cons_cons c
    · exact (visGo_sub t r _).cons c

theorem visGo_pw (t : Int) : ∀ (cs : List Cl) (nw : Cl), cs.Pairwise Lt → (∀ c ∈ cs, kl (rc nw) (rc c) ∨ rc nw = rc c) →
    (∀ d ∈ visGo t nw cs, kl (rc nw) (rc d)) ∧ (visGo t nw cs).Pairwise (fun a b => kl (rc a) (rc b))
  | [], _, _, _ => ⟨by simp [visGo], .nil⟩
  | c :: r, nw, hp, hn => by
    obtain ⟨hp1, hp2⟩ := List.pairwise_cons.1 hp
    cases hh : hid t nw c
    · have hx : ¬ (t < c.time ∨ rc c = rc nw) := fun h => by rw [hid_iff.2 h] at hh; cases hh
      have hlt : kl (rc nw) (rc c) := (hn c (by simp)).resolve_right (fun e => hx (.inr e.symm))
      have hnx : nextN t nw c = c := by simp [nextN, hh]
      obtain ⟨i1, i2⟩ := visGo_pw t r c hp2 (fun d hd => Lt_le (hp1 d hd))
      unfold visGo
      rw [hnx]
      split
      · refine ⟨fun d hd => ?_, List.pairwise_cons.2 ⟨i1, i2⟩⟩
        rcases List.mem_cons.1 hd with rfl | hd
        · exact hlt
        · exact kl_trans hlt (i1 d hd)
      · exact ⟨fun d hd => kl_trans hlt (i1 d hd), i2⟩
    · have hnx : nextN t nw c = nw := by simp [nextN, hh]
      have hs : seenB t nw c = false := by simp [seenB, hh]
      unfold visGo
      rw [hnx, hs]
      exact visGo_pw t r nw hp2 (fun d hd => hn d (by simp [hd]))

theorem scanGo_eq (a b : ByteArray) (t m : Int) : ∀ (cs : List Cl) (nw : Cl) (acc : List Cl),
    scanGo a b t m nw cs acc = acc ++ ((visGo t nw cs).filter fun c => askB a b c.row).take (m.toNat - acc.length)
  | [], _, acc => by simp [scanGo, visGo]
  | c :: r, nw, acc => by
    unfold visGo
    cases h1 : seenB t nw c
    · rw [scanGo_miss (by rw [h1]; rfl), scanGo_eq a b t m r]
      simp
    · cases h2 : askB a b c.row
      · rw [scanGo_miss (by rw [h1, h2]; rfl), scanGo_eq a b t m r]
        simp [h2]
      · by_cases h3 : (acc.length : Int) < m
        · rw [scanGo_hit h1 h2 (by simpa using h3), scanGo_eq a b t m r]
          simp only [if_true, List.filter_cons, h2, List.length_append, List.length_cons, List.length_nil, List.append_assoc]
          obtain ⟨k, hk⟩ : ∃ k, m.toNat - acc.length = k + 1 := ⟨m.toNat - acc.length - 1, by omega⟩
          rw [hk, show m.toNat - (acc.length + (0 + 1)) = k by omega]
          rfl
        · rw [scanGo_miss (by rw [h1, h2]; simpa using h3), scanGo_eq a b t m r]
          simp [show m.toNat - acc.length = 0 by omega]

/-- Of this place? -/
def isAt (k : Ky) (c : Cl) : Bool := c.row.toList == k.1 && c.col.toList == k.2
theorem isAt_iff {k : Ky} {c : Cl} : isAt k c = true ↔ rc c = k := by
  unfold isAt rc
  rw [Prod.ext_iff]
  simp

theorem getGo_eq (t : Int) (row col : ByteArray) : ∀ (cs : List Cl) (nw : Cl),
    getGo t row col nw cs = match (visGo t nw cs).find? (isAt (row.toList, col.toList)) with
      | some c => (c.val, true)
      | none => (⟨#[]⟩, false)
  | [], _ => rfl
  | c :: r, nw => by
    unfold visGo
    cases h1 : seenB t nw c
    · rw [getGo_miss (by rw [h1]; rfl), getGo_eq t row col r]
      rfl
    · cases h2 : isAt (row.toList, col.toList) c
      · rw [getGo_miss (by rw [h1]; exact h2), getGo_eq t row col r]
        simp [h2]
      · have h3 := h2
        unfold isAt at h3
        rw [Bool.and_eq_true] at h3
        rw [getGo_hit h1 h3.1 h3.2]
        simp [h2]

theorem vis_pw {cs : List Cl} (t : Int) (h : (checkC cs).1 = 0) : (vis t cs).Pairwise (fun a b => kl (rc a) (rc b)) :=
  (visGo_pw t cs zeroC (fine_pw h) (fun _ hc => .inl (kl_zero (fine_code h hc)))).2

/-- In a list in order by places, who is there is found. -/
theorem find_pw : ∀ {l : List Cl}, l.Pairwise (fun a b => kl (rc a) (rc b)) → ∀ {c : Cl}, c ∈ l → l.find? (isAt (rc c)) = some c
  | [], _, _, hc => by simp at hc
  | d :: l, hp, c, hc => by
    obtain ⟨h1, h2⟩ := List.pairwise_cons.1 hp
    rcases List.mem_cons.1 hc with rfl | hc
    · rw [List.find?_cons_of_pos (isAt_iff.2 rfl)]
    · have := h1 c hc
      rw [List.find?_cons_of_neg (by rw [isAt_iff]; exact kl_ne this)]
      exact find_pw h2 hc

/-- Two lists in strict order that have the same are the same. -/
theorem pw_ext {α : Type} {R : α → α → Prop} (hirr : ∀ a, ¬ R a a) (htr : ∀ a b c, R a b → R b c → R a c) : ∀ {l m : List α}, l.Pairwise R → m.Pairwise R → (∀ a, a ∈ l ↔ a ∈ m) → l = m
  | [], [], _, _, _ => rfl
  | [], b :: m, _, _, h => by have := (h b).2 (by simp); simp at this
  | a :: l, [], _, _, h => by have := (h a).1 (by simp); simp at this
  | a :: l, b :: m, hl, hm, h => by
    obtain ⟨l1, l2⟩ := List.pairwise_cons.1 hl
    obtain ⟨m1, m2⟩ := List.pairwise_cons.1 hm
    have hab : a = b := by
      rcases List.mem_cons.1 ((h a).1 (by simp)) with e | ha
      · exact e
      · rcases List.mem_cons.1 ((h b).2 (by simp)) with e | hb
        · exact e.symm
        · exact absurd (htr _ _ _ (m1 a ha) (l1 b hb)) (hirr b)
    subst hab
    rw [pw_ext hirr htr l2 m2 fun x => ?_]
    constructor
    · intro hx
      rcases List.mem_cons.1 ((h x).1 (by simp [hx])) with e | hx'
      · subst e; exact absurd (l1 _ hx) (hirr _)
      · exact hx'
    · intro hx
      rcases List.mem_cons.1 ((h x).2 (by simp [hx])) with e | hx'
      · subst e; exact absurd (m1 _ hx) (hirr _)
      · exact hx'

end Go.Proofs.Ytlebbkbbmgmmjad
