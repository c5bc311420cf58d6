/-
  Plain maths of compacting: what is seen stays as it was.
-/
import Derived.Test.YtlebbkbbmgmmjadGroupsMath
import Derived.Test.YtlebbkbbmgmmjadMergeW14
namespace Go.Proofs.Ytlebbkbbmgmmjad
open Go.RowKit

/-- The newest ones of their places, behind one that hides. -/
def freshGo (t : Int) : Cl → List Cl → List Cl
  | _, [] => []
  | nw, c :: r => if hid t nw c then freshGo t nw r else c :: freshGo t c r

theorem nextN_hid {t : Int} {nw c : Cl} (h : hid t nw c = true) : nextN t nw c = nw := by simp [nextN, h]
theorem nextN_new {t : Int} {nw c : Cl} (h : hid t nw c = false) : nextN t nw c = c := by simp [nextN, h]

theorem visGo_fresh (t : Int) : ∀ (L : List Cl) (nw x : Cl), x ∈ visGo t nw L ↔ x ∈ freshGo t nw L ∧ x.gone = false
  | [], nw, x => by simp [visGo, freshGo]
  | c :: r, nw, x => by
    unfold visGo freshGo
    cases h : hid t nw c
    · rw [nextN_new h]
      have hs : seenB t nw c = !c.gone := by simp [seenB, h]
      rw [hs]
      cases hg : c.gone
      · simp only [Bool.not_false, if_true, Bool.false_eq_true, if_false, List.mem_cons, visGo_fresh t r c x]
        constructor
        · rintro (rfl | ⟨h1, h2⟩)
          · exact ⟨.inl rfl, hg⟩
          · exact ⟨.inr h1, h2⟩
        · rintro ⟨rfl | h1, h2⟩
          · exact .inl rfl
          · exact .inr ⟨h1, h2⟩
      · simp only [Bool.not_true, Bool.false_eq_true, if_false, List.mem_cons, visGo_fresh t r c x]
        constructor
        · rintro ⟨h1, h2⟩
          exact ⟨.inr h1, h2⟩
        · rintro ⟨rfl | h1, h2⟩
          · rw [hg] at h2; cases h2
          · exact ⟨h1, h2⟩
    · have hs : seenB t nw c = false := by simp [seenB, h]
      rw [nextN_hid h, hs]
      simp only [Bool.false_eq_true, if_false, if_true]
      exact visGo_fresh t r nw x

theorem compGo_fresh (t : Int) (wh : Bool) : ∀ (L : List Cl) (nw x : Cl), x ∈ compGo t wh nw L ↔ (x ∈ L ∧ t < x.time) ∨ (x ∈ freshGo t nw L ∧ (wh && x.gone) = false)
  | [], nw, x => by simp [compGo, freshGo]
  | c :: r, nw, x => by
    unfold compGo freshGo
    cases h : hid t nw c
    · rw [nextN_new h]
      have hct : decide (t < c.time) = false := by
        unfold hid at h
        simp only [Bool.or_eq_false_iff] at h
        exact h.1
      have hs : stB t wh nw c = !(wh && c.gone) := by simp [stB, h, hct]
      have hct' : ¬ t < c.time := by simpa using hct
      rw [hs]
      cases hg : (wh && c.gone)
      · simp only [Bool.not_false, if_true, Bool.false_eq_true, if_false, List.mem_cons, compGo_fresh t wh r c x]
        constructor
        · rintro (rfl | ⟨h1, h2⟩ | ⟨h1, h2⟩)
          · exact .inr ⟨.inl rfl, hg⟩
          · exact .inl ⟨.inr h1, h2⟩
          · exact .inr ⟨.inr h1, h2⟩
        · rintro (⟨rfl | h1, h2⟩ | ⟨rfl | h1, h2⟩)
          · exact absurd h2 hct'
          · exact .inr (.inl ⟨h1, h2⟩)
          · exact .inl rfl
          · exact .inr (.inr ⟨h1, h2⟩)
      · simp only [Bool.not_true, Bool.false_eq_true, if_false, List.mem_cons, compGo_fresh t wh r c x]
        constructor
        · rintro (⟨h1, h2⟩ | ⟨h1, h2⟩)
          · exact .inl ⟨.inr h1, h2⟩
          · exact .inr ⟨.inr h1, h2⟩
        · rintro (⟨rfl | h1, h2⟩ | ⟨rfl | h1, h2⟩)
          · exact absurd h2 hct'
          · exact .inl ⟨h1, h2⟩
          · rw [hg] at h2; cases h2
          · exact .inr ⟨h1, h2⟩
    · rw [nextN_hid h]
      simp only [if_true]
      by_cases hct : t < c.time
      · have hs : stB t wh nw c = true := by simp [stB, hct]
        rw [hs]
        simp only [if_true, List.mem_cons, compGo_fresh t wh r nw x]
        constructor
        · rintro (rfl | ⟨h1, h2⟩ | h1)
          · exact .inl ⟨.inl rfl, hct⟩
          · exact .inl ⟨.inr h1, h2⟩
          · exact .inr h1
        · rintro (⟨rfl | h1, h2⟩ | h1)
          · exact .inl rfl
          · exact .inr (.inl ⟨h1, h2⟩)
          · exact .inr (.inr h1)
      · have hs : stB t wh nw c = false := by simp [stB, hct, h]
        rw [hs]
        simp only [Bool.false_eq_true, if_false, List.mem_cons, compGo_fresh t wh r nw x]
        constructor
        · rintro (⟨h1, h2⟩ | h1)
          · exact .inl ⟨.inr h1, h2⟩
          · exact .inr h1
        · rintro (⟨rfl | h1, h2⟩ | h1)
          · exact absurd h2 hct
          · exact .inl ⟨h1, h2⟩
          · exact .inr h1

/-- The newest one of its place at a time. -/
def Nwt (t : Int) (L : List Cl) (x : Cl) : Prop := x ∈ L ∧ x.time ≤ t ∧ ∀ y ∈ L, rc y = rc x → y.time ≤ t → y.time ≤ x.time

theorem freshGo_mem (t : Int) : ∀ (L : List Cl) (nw : Cl), L.Pairwise Lt → (∀ c ∈ L, kl (rc nw) (rc c) ∨ rc nw = rc c) → ∀ x, x ∈ freshGo t nw L ↔ Nwt t L x ∧ rc x ≠ rc nw
  | [], nw, _, _, x => by simp [freshGo, Nwt]
  | c :: r, nw, hp, hn, x => by
    obtain ⟨hp1, hp2⟩ := List.pairwise_cons.1 hp
    unfold freshGo
    cases h : hid t nw c
    · have hx : ¬ (t < c.time ∨ rc c = rc nw) := fun k => by rw [hid_iff.2 k] at h; cases h
      have hct : c.time ≤ t := by have := fun k => hx (.inl k); omega
      have hlt : kl (rc nw) (rc c) := (hn c (by simp)).resolve_right (fun e => hx (.inr e.symm))
      have hcr : ∀ d ∈ r, kl (rc c) (rc d) ∨ rc c = rc d := fun d hd => Lt_le (hp1 d hd)
      have htime : ∀ y ∈ r, rc y = rc c → y.time < c.time := fun y hy he => by
        rcases hp1 y hy with k | k
        · exact absurd he.symm (kl_ne k)
        · exact k.2
      simp only [Bool.false_eq_true, if_false, List.mem_cons, freshGo_mem t r c hp2 hcr x]
      constructor
      · rintro (rfl | ⟨⟨h1, h2, h3⟩, h4⟩)
        · refine ⟨⟨by simp, hct, fun y hy he _ => ?_⟩, fun e => hx (.inr e)⟩
          rcases List.mem_cons.1 hy with rfl | hy
          · exact Int.le_refl _
          · have := htime y hy he; omega
        · refine ⟨⟨by simp [h1], h2, fun y hy he ht => ?_⟩, fun e => ?_⟩
          · rcases List.mem_cons.1 hy with rfl | hy
            · exact absurd he.symm h4
            · exact h3 y hy he ht
          · rcases hcr x h1 with k | k
            · exact kl_ne (kl_trans hlt k) e.symm
            · exact h4 k.symm
      · rintro ⟨⟨h1, h2, h3⟩, h4⟩
        by_cases hxc : x = c
        · exact .inl hxc
        · have hxr : x ∈ r := (List.mem_cons.1 h1).resolve_left hxc
          refine .inr ⟨⟨hxr, h2, fun y hy => h3 y (by simp [hy])⟩, fun e => ?_⟩
          have k1 := h3 c (by simp) e.symm hct
          have k2 := htime x hxr e
          omega
    · have hx := hid_iff.1 h
      simp only [if_true, freshGo_mem t r nw hp2 (fun d hd => hn d (by simp [hd])) x]
      constructor
      · rintro ⟨⟨h1, h2, h3⟩, h4⟩
        refine ⟨⟨by simp [h1], h2, fun y hy he ht => ?_⟩, h4⟩
        rcases List.mem_cons.1 hy with rfl | hy
        · rcases hx with k | k
          · omega
          · exact absurd (he.symm.trans k) h4
        · exact h3 y hy he ht
      · rintro ⟨⟨h1, h2, h3⟩, h4⟩
        refine ⟨⟨(List.mem_cons.1 h1).resolve_left (fun e => ?_), h2, fun y hy => h3 y (by simp [hy])⟩, h4⟩
        subst e
        rcases hx with k | k
        · omega
        · exact h4 k

/-- Lists that are in order, of cells that are fine. -/
structure Fin' (L : List Cl) : Prop where
  pw : L.Pairwise Lt
  code : ∀ c ∈ L, codeC c = 0

theorem Fin'.fresh {L : List Cl} (h : Fin' L) (t : Int) (x : Cl) : x ∈ freshGo t zeroC L ↔ Nwt t L x := by
  rw [freshGo_mem t L zeroC h.pw (fun c hc => .inl (kl_zero (h.code c hc)))]
  exact ⟨fun k => k.1, fun k => ⟨k, fun e => kl_ne (kl_zero (h.code x k.1)) e.symm⟩⟩

theorem Fin'.vis {L : List Cl} (h : Fin' L) (t : Int) (x : Cl) : x ∈ vis t L ↔ Nwt t L x ∧ x.gone = false := by
  unfold Proofs.Ytlebbkbbmgmmjad.vis
  rw [visGo_fresh, h.fresh]

theorem Fin'.comp {L : List Cl} (h : Fin' L) (t : Int) (wh : Bool) (x : Cl) : x ∈ compGo t wh zeroC L ↔ (x ∈ L ∧ t < x.time) ∨ (Nwt t L x ∧ (wh && x.gone) = false) := by
  rw [compGo_fresh, h.fresh]

theorem compGo_sub (t : Int) (wh : Bool) : ∀ (L : List Cl) (nw : Cl), (compGo t wh nw L).Sublist L
  | [], _ => .slnil
  | c :: r, nw => by
    unfold compGo
    split
    · exact (compGo_sub t wh r _).cons_cons c
    · exact (compGo_sub t wh r _).cons c

theorem Fin'.ofComp {L : List Cl} (h : Fin' L) (t : Int) (wh : Bool) : Fin' (compGo t wh zeroC L) :=
  ⟨h.pw.sublist (compGo_sub t wh L zeroC), fun c hc => h.code c ((compGo_sub t wh L zeroC).subset hc)⟩

theorem vis_eq {L M : List Cl} (hL : Fin' L) (hM : Fin' M) {t : Int} (h : ∀ x, Nwt t L x ∧ x.gone = false ↔ Nwt t M x ∧ x.gone = false) : vis t L = vis t M :=
  pw_ext (R := fun a b : Cl => kl (rc a) (rc b)) (fun a => kl_irrefl _) (fun _ _ _ => kl_trans) (visGo_pw t L zeroC hL.pw (fun _ hc => .inl (kl_zero (hL.code _ hc)))).2 (visGo_pw t M zeroC hM.pw (fun _ hc => .inl (kl_zero (hM.code _ hc)))).2
    fun x => by rw [hL.vis, hM.vis]; exact h x

/-- At each time from since on the same is seen. -/
theorem comp_vis {L : List Cl} (h : Fin' L) {t0 t : Int} (wh : Bool) (ht : t0 ≤ t) : vis t (compGo t0 wh zeroC L) = vis t L := by
  have hsub := (compGo_sub t0 wh L zeroC).subset
  refine vis_eq (h.ofComp t0 wh) h fun x => ?_
  constructor
  · rintro ⟨⟨h1, h2, h3⟩, hg⟩
    refine ⟨⟨hsub h1, h2, fun y hy he hyt => ?_⟩, hg⟩
    rcases (h.comp t0 wh x).1 h1 with ⟨_, k⟩ | ⟨⟨_, _, k⟩, _⟩
    · by_cases hy0 : t0 < y.time
      · exact h3 y ((h.comp t0 wh y).2 (.inl ⟨hy, hy0⟩)) he hyt
      · omega
    · by_cases hy0 : t0 < y.time
      · exact h3 y ((h.comp t0 wh y).2 (.inl ⟨hy, hy0⟩)) he hyt
      · exact k y hy he (by omega)
  · rintro ⟨⟨h1, h2, h3⟩, hg⟩
    have hx : x ∈ compGo t0 wh zeroC L := by
      rw [h.comp]
      by_cases hx0 : t0 < x.time
      · exact .inl ⟨h1, hx0⟩
      · exact .inr ⟨⟨h1, by omega, fun y hy he hyt => h3 y hy he (by omega)⟩, by rw [hg, Bool.and_false]⟩
    exact ⟨⟨hx, h2, fun y hy => h3 y (hsub hy)⟩, hg⟩

/-- Compact twice is compact. -/
theorem comp_comp {L : List Cl} (h : Fin' L) (t0 : Int) (wh : Bool) : compGo t0 wh zeroC (compGo t0 wh zeroC L) = compGo t0 wh zeroC L := by
  have hC := h.ofComp t0 wh
  have hsub := (compGo_sub t0 wh L zeroC).subset
  refine pw_ext Lt_irrefl (fun _ _ _ => Lt_trans) (hC.ofComp t0 wh).pw hC.pw fun x => ?_
  constructor
  · exact fun hx => (compGo_sub t0 wh _ zeroC).subset hx
  · intro hx
    rw [hC.comp]
    rcases (h.comp t0 wh x).1 hx with ⟨_, k⟩ | ⟨⟨_, k1, k2⟩, k3⟩
    · exact .inl ⟨hx, k⟩
    · exact .inr ⟨⟨hx, k1, fun y hy => k2 y (hsub hy)⟩, k3⟩

theorem nwt_ex {t : Int} : ∀ {L : List Cl} {y : Cl}, y ∈ L → y.time ≤ t → ∃ z, Nwt t L z ∧ rc z = rc y ∧ y.time ≤ z.time
  | c :: r, y, hy, ht => by
    by_cases hr : ∃ d ∈ r, rc d = rc y ∧ d.time ≤ t
    · obtain ⟨d, hd, hdy, hdt⟩ := hr
      obtain ⟨z, ⟨z1, z2, z3⟩, z4, z5⟩ := nwt_ex hd hdt
      by_cases hc : rc c = rc y ∧ c.time ≤ t ∧ z.time < c.time
      · refine ⟨c, ⟨by simp, hc.2.1, fun u hu hue hut => ?_⟩, hc.1, ?_⟩
        · rcases List.mem_cons.1 hu with rfl | hu
          · exact Int.le_refl _
          · have := z3 u hu (by rw [hue, hc.1, z4, hdy]) hut; omega
        · rcases List.mem_cons.1 hy with rfl | hy
          · exact Int.le_refl _
          · have := z3 y hy (by rw [z4, hdy]) ht; omega
      · refine ⟨z, ⟨by simp [z1], z2, fun u hu hue hut => ?_⟩, by rw [z4, hdy], ?_⟩
        · rcases List.mem_cons.1 hu with rfl | hu
          · by_cases hlt : z.time < u.time
            · exact absurd ⟨by rw [hue, z4, hdy], hut, hlt⟩ hc
            · omega
          · exact z3 u hu hue hut
        · rcases List.mem_cons.1 hy with rfl | hy
          · by_cases hlt : z.time < y.time
            · exact absurd ⟨rfl, ht, hlt⟩ hc
            · omega
          · exact z3 y hy (by rw [z4, hdy]) ht
    · have hyc : y = c := by
        rcases List.mem_cons.1 hy with e | hy
        · exact e
        · exact absurd ⟨y, hy, rfl, ht⟩ hr
      subst hyc
      refine ⟨y, ⟨by simp, ht, fun u hu hue hut => ?_⟩, rfl, Int.le_refl _⟩
      rcases List.mem_cons.1 hu with rfl | hu
      · exact Int.le_refl _
      · exact absurd ⟨u, hu, hue, hut⟩ hr

/-- With older lists behind, too. -/
theorem comp_older {O J : List Cl} (hO : Fin' O) (hJ : Fin' J) {t0 t : Int} (ht : t0 ≤ t) : vis t (mrg O J) = vis t (mrg O (compGo t0 false zeroC J)) := by
  have hC := hJ.ofComp t0 false
  have hsub := (compGo_sub t0 false J zeroC).subset
  have mM := fun c => mrg_mem O J hO.pw hJ.pw c
  have mM' := fun c => mrg_mem O (compGo t0 false zeroC J) hO.pw hC.pw c
  have fM : Fin' (mrg O J) := ⟨mrg_pw _ _ hO.pw hJ.pw, fun c hc => (((mM c).1 hc).elim (hJ.code c) (fun k => hO.code c k.1))⟩
  have fM' : Fin' (mrg O (compGo t0 false zeroC J)) := ⟨mrg_pw _ _ hO.pw hC.pw, fun c hc => (((mM' c).1 hc).elim (hC.code c) (fun k => hO.code c k.1))⟩
  generalize hCC : compGo t0 false zeroC J = C at *
  have inC : ∀ x, x ∈ C ↔ (x ∈ J ∧ t0 < x.time) ∨ Nwt t0 J x := fun x => by
    rw [← hCC, hJ.comp]
    simp
  have rep : ∀ y ∈ J, ∃ z ∈ C, rc z = rc y ∧ y.time ≤ z.time ∧ (z.time ≤ t0 ∨ z = y) := fun y hy => by
    by_cases h0 : t0 < y.time
    · exact ⟨y, (inC y).2 (.inl ⟨hy, h0⟩), rfl, Int.le_refl _, .inr rfl⟩
    · obtain ⟨z, h1, h2, h3⟩ := nwt_ex hy (show y.time ≤ t0 by omega)
      exact ⟨z, (inC z).2 (.inr h1), h2, h3, .inl h1.2.1⟩
  have key : ∀ x, Nwt t (mrg O J) x ↔ Nwt t (mrg O C) x := by
    intro x
    constructor
    · rintro ⟨h1, h2, h3⟩
      have h1' : x ∈ mrg O C := by
        rcases (mM x).1 h1 with k | ⟨k1, k2⟩
        · refine (mM' x).2 (.inl ((inC x).2 ?_))
          by_cases h0 : t0 < x.time
          · exact .inl ⟨k, h0⟩
          · exact .inr ⟨k, by omega, fun y hy he hyt => h3 y ((mM y).2 (.inl hy)) he (by omega)⟩
        · exact (mM' x).2 (.inr ⟨k1, fun d hd => k2 d (hsub hd)⟩)
      refine ⟨h1', h2, fun y hy he hyt => ?_⟩
      rcases (mM' y).1 hy with k | ⟨k1, _⟩
      · exact h3 y ((mM y).2 (.inl (hsub k))) he hyt
      · by_cases hs : ∃ j ∈ J, Sm y j
        · obtain ⟨j, hj, hyj⟩ := hs
          have := h3 j ((mM j).2 (.inl hj)) (by rw [← hyj.1]; exact he) (by have := hyj.2; omega)
          have := hyj.2
          omega
        · exact h3 y ((mM y).2 (.inr ⟨k1, fun d hd k => hs ⟨d, hd, k⟩⟩)) he hyt
    · rintro ⟨h1, h2, h3⟩
      have hmax : ∀ y ∈ J, rc y = rc x → y.time ≤ t → y.time ≤ x.time := fun y hy he hyt => by
        obtain ⟨z, z1, z2, z3, z4⟩ := rep y hy
        have hzt : z.time ≤ t := by
          rcases z4 with k | rfl
          · omega
          · exact hyt
        have := h3 z ((mM' z).2 (.inl z1)) (by rw [z2]; exact he) hzt
        omega
      have h1' : x ∈ mrg O J := by
        rcases (mM' x).1 h1 with k | ⟨k1, k2⟩
        · exact (mM x).2 (.inl (hsub k))
        · refine (mM x).2 (.inr ⟨k1, fun j hj hs => ?_⟩)
          by_cases hjC : j ∈ C
          · exact k2 j hjC hs
          · obtain ⟨z, z1, z2, z3, z4⟩ := rep j hj
            have hj0 : j.time ≤ t0 := by
              by_cases h0 : t0 < j.time
              · exact absurd ((inC j).2 (.inl ⟨hj, h0⟩)) hjC
              · omega
            have hzt : z.time ≤ t := by
              rcases z4 with k | rfl
              · omega
              · exact absurd z1 hjC
            have h4 := h3 z ((mM' z).2 (.inl z1)) (by rw [z2, ← hs.1]) hzt
            have h5 := hs.2
            have hsz : Sm x z := ⟨by rw [z2, hs.1], by omega⟩
            exact k2 z z1 hsz
      refine ⟨h1', h2, fun y hy he hyt => ?_⟩
      rcases (mM y).1 hy with k | ⟨k1, k2⟩
      · exact hmax y k he hyt
      · exact h3 y ((mM' y).2 (.inr ⟨k1, fun d hd => k2 d (hsub hd)⟩)) he hyt
  exact vis_eq fM fM' fun x => by rw [key x]

end Go.Proofs.Ytlebbkbbmgmmjad
