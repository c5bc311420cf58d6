/-
  Plain maths of leases: what holds behind each deed; who trusts. Nothing of a program stands here.
-/
import Derived.Test.YtpojgcjigjenoagLeaseMath
namespace Go.Proofs.Ytpojgcjigjenoag
open Go.RowKit
set_option linter.unusedVariables false

/-- A trust that was given: in an epoch that is its own, of a wish that was sent at a moment m. -/
def GoodT (H : Int → Int) (M : List (Int × List Int)) (c : Ct) (span : Int) (n : Nat) (who e u : Int) : Prop :=
  1 ≤ e ∧ e ≤ c.lease.ep ∧ H e = who ∧ 0 ≤ who ∧ who < n ∧ ∃ m ∈ M, u = lget m.2 who 0 + trustD span ∧ (e = c.lease.ep → m.1 + span ≤ c.lease.til) ∧ (e < c.lease.ep → m.1 + span ≤ c.now)

structure InvC (H : Int → Int) (M : List (Int × List Int)) (c : Ct) (span : Int) (n : Nat) : Prop where
  cl : c.clocks.length = n
  tl : c.trusts.length = n
  mem : (c.now, c.clocks) ∈ M
  le : ∀ m ∈ M, m.1 ≤ c.now
  ep0 : 0 ≤ c.lease.ep
  hold0 : c.lease.ep = 0 → c.lease.hold = 0
  hold1 : 0 < c.lease.ep → c.lease.hold = H c.lease.ep + 1 ∧ 0 < c.lease.hold
  ws : ∀ w ∈ c.wishes, 0 ≤ w.who ∧ w.who < n ∧ (∃ m ∈ M, w.sent = lget m.2 w.who 0) ∧ (0 < w.ep → w.ep ≤ c.lease.ep ∧ H w.ep = w.who)
  rs : ∀ r ∈ c.replies, GoodT H M c span n r.who r.ep r.til
  ts : ∀ i : Nat, i < n → lget c.trusts i ⟨0, 0⟩ = ⟨0, 0⟩ ∨ GoodT H M c span n i (lget c.trusts i ⟨0, 0⟩).ep (lget c.trusts i ⟨0, 0⟩).til

theorem GoodT.keep {H : Int → Int} {M M' : List (Int × List Int)} {c c' : Ct} {span : Int} {n : Nat} {who e u : Int} (h : GoodT H M c span n who e u) (hM : ∀ m ∈ M, m ∈ M') (hl : c'.lease = c.lease) (hn : c.now ≤ c'.now) : GoodT H M' c' span n who e u := by
  obtain ⟨h1, h2, h3, h4, h5, m, hm, h6, h7, h8⟩ := h
  refine ⟨h1, by rw [hl]; exact h2, h3, h4, h5, m, hM m hm, h6, by rw [hl]; exact h7, fun h => ?_⟩
  rw [hl] at h
  have := h8 h
  omega

theorem lget_set {α : Type} (l : List α) (i : Int) (x d : α) (j : Nat) (hi : 0 ≤ i) : lget (lset l i x) j d = if (j : Int) = i ∧ j < l.length then x else lget l j d := by
  unfold lget lset
  rw [List.getD_eq_getElem?_getD, List.getD_eq_getElem?_getD, Int.toNat_natCast, List.getElem?_set]
  by_cases h : i.toNat = j
  · rw [if_pos h]
    by_cases hj : i.toNat < l.length
    · rw [if_pos hj, if_pos (by omega)]
      rfl
    · rw [if_neg hj, if_neg (by omega), List.getElem?_eq_none (by omega)]
  · rw [if_neg h, if_neg (by omega)]

theorem mem_ldel {α : Type} {l : List α} {i : Int} {x : α} (h : x ∈ ldel l i) : x ∈ l := List.mem_of_mem_eraseIdx h

theorem lget_mem {α : Type} {l : List α} {i : Int} {d : α} (h0 : 0 ≤ i) (h1 : i < l.length) : lget l i d ∈ l := by
  unfold lget
  rw [List.getD_eq_getElem?_getD, List.getElem?_eq_getElem (by omega)]
  exact List.getElem_mem _

theorem InvC.plain {H : Int → Int} {M M' : List (Int × List Int)} {c c' : Ct} {span : Int} {n : Nat} (h : InvC H M c span n) (hM : M' = (c'.now, c'.clocks) :: M) (hl : c'.lease = c.lease) (hn : c.now ≤ c'.now) (hcl : c'.clocks.length = n) (htl : c'.trusts.length = n)
    (hw : ∀ w ∈ c'.wishes, w ∈ c.wishes ∨ (0 ≤ w.who ∧ w.who < n ∧ (∃ m ∈ M, w.sent = lget m.2 w.who 0) ∧ (0 < w.ep → w.ep ≤ c.lease.ep ∧ H w.ep = w.who)))
    (hr : ∀ r ∈ c'.replies, r ∈ c.replies)
    (ht : ∀ i : Nat, i < n → lget c'.trusts i ⟨0, 0⟩ = lget c.trusts i ⟨0, 0⟩ ∨ lget c'.trusts i ⟨0, 0⟩ = ⟨0, 0⟩ ∨ GoodT H M c span n i (lget c'.trusts i ⟨0, 0⟩).ep (lget c'.trusts i ⟨0, 0⟩).til) :
    InvC H M' c' span n := by
  subst hM
  exact {
  cl := hcl
  tl := htl
  mem := by simp
  le := by
    intro m hm
    rcases List.mem_cons.1 hm with rfl | hm
    · exact Int.le_refl _
    · have := h.le m hm; omega
  ep0 := by rw [hl]; exact h.ep0
  hold0 := by rw [hl]; exact h.hold0
  hold1 := by rw [hl]; exact h.hold1
  ws := by
    intro w hwm
    have : 0 ≤ w.who ∧ w.who < n ∧ (∃ m ∈ M, w.sent = lget m.2 w.who 0) ∧ (0 < w.ep → w.ep ≤ c.lease.ep ∧ H w.ep = w.who) := (hw w hwm).elim (h.ws w) id
    obtain ⟨h1, h2, ⟨m, hm, h3⟩, h4⟩ := this
    exact ⟨h1, h2, ⟨m, List.mem_cons_of_mem _ hm, h3⟩, by rw [hl]; exact h4⟩
  rs := fun r hrm => (h.rs r (hr r hrm)).keep (fun m hm => List.mem_cons_of_mem _ hm) hl hn
  ts := by
    intro i hi
    rcases ht i hi with e | e | e
    · rw [e]
      exact (h.ts i hi).imp id fun g => g.keep (fun m hm => List.mem_cons_of_mem _ hm) hl hn
    · exact .inl e
    · exact .inr (e.keep (fun m hm => List.mem_cons_of_mem _ hm) hl hn) }

/-- A lease that is granted or renewed, and the reply to it. -/
theorem InvC.heard {H : Int → Int} {M : List (Int × List Int)} {c : Ct} {span : Int} {n : Nat} (h : InvC H M c span n) {w : Ws} (hwm : w ∈ c.wishes) (hf : (heardF c.lease w c.now span).1 = 0) (ws' : List Ws) (hws : ∀ x ∈ ws', x ∈ c.wishes) (hle : ∀ m ∈ M, m.1 ≤ c.now) :
    ∃ H', (∀ e, e ≤ c.lease.ep → H' e = H e) ∧ c.lease.ep ≤ (heardL c.lease w c.now span).ep ∧
      InvC H' ((c.now, c.clocks) :: M) { c with wishes := ws', lease := heardL c.lease w c.now span, replies := c.replies ++ [⟨w.who, (heardL c.lease w c.now span).ep, w.sent + trustD span⟩] } span n := by
  obtain ⟨hw1, hw2, ⟨m0, hm0, hsent⟩, hw4⟩ := h.ws w hwm
  have hm0n := hle m0 hm0
  by_cases he : 0 < w.ep
  · -- a renewal
    obtain ⟨hwe, hwH⟩ := hw4 he
    rw [heardF, if_pos he] at hf
    have hL : heardL c.lease w c.now span = renewL c.lease (w.who + 1) w.ep c.now span := by rw [heardL, if_pos he]
    obtain ⟨e1, e2, e3⟩ := renewL_eq hf
    rw [hL, e1]
    have keep : ∀ {who e u : Int}, GoodT H M c span n who e u → GoodT H ((c.now, c.clocks) :: M) { c with wishes := ws', lease := ⟨c.lease.hold, c.lease.ep, max c.lease.til (c.now + span)⟩, replies := c.replies ++ [⟨w.who, c.lease.ep, w.sent + trustD span⟩] } span n who e u := by
      rintro who e u ⟨g1, g2, g3, g4, g5, m, hm, g6, g7, g8⟩
      exact ⟨g1, g2, g3, g4, g5, m, List.mem_cons_of_mem _ hm, g6, fun q => by have := g7 q; simp only; omega, g8⟩
    refine ⟨H, fun _ _ => rfl, Int.le_refl _, h.cl, h.tl, by simp, ?_, h.ep0, h.hold0, h.hold1, ?_, ?_, ?_⟩
    · intro m hm
      rcases List.mem_cons.1 hm with rfl | hm
      · exact Int.le_refl _
      · exact h.le m hm
    · intro x hx
      obtain ⟨a1, a2, ⟨m, hm, a3⟩, a4⟩ := h.ws x (hws x hx)
      exact ⟨a1, a2, ⟨m, List.mem_cons_of_mem _ hm, a3⟩, a4⟩
    · intro r hr
      rcases List.mem_append.1 hr with hr | hr
      · exact keep (h.rs r hr)
      · have : r = ⟨w.who, c.lease.ep, w.sent + trustD span⟩ := by simpa using hr
        subst this
        refine ⟨by simp only; omega, Int.le_refl _, by simp only; rw [e3]; exact hwH, hw1, hw2, m0, List.mem_cons_of_mem _ hm0, by simp only; rw [hsent], fun _ => by simp only; omega, fun q => by simp only at q; omega⟩
    · intro i hi
      exact (h.ts i hi).imp id keep
  · -- a grant
    rw [heardF, if_neg he] at hf
    have hL : heardL c.lease w c.now span = grantL c.lease (w.who + 1) c.now span := by rw [heardL, if_neg he]
    obtain ⟨e1, e2, e3⟩ := grantL_eq hf
    rw [hL, e1]
    have hep := h.ep0
    refine ⟨fun e => if e = c.lease.ep + 1 then w.who else H e, fun e hle => if_neg (by omega), by simp only; omega, ?_⟩
    have keep : ∀ {who e u : Int}, GoodT H M c span n who e u → GoodT (fun e => if e = c.lease.ep + 1 then w.who else H e) ((c.now, c.clocks) :: M) { c with wishes := ws', lease := ⟨w.who + 1, c.lease.ep + 1, c.now + span⟩, replies := c.replies ++ [⟨w.who, c.lease.ep + 1, w.sent + trustD span⟩] } span n who e u := by
      rintro who e u ⟨g1, g2, g3, g4, g5, m, hm, g6, g7, g8⟩
      refine ⟨g1, by simp only; omega, by simp only; rw [if_neg (by omega)]; exact g3, g4, g5, m, List.mem_cons_of_mem _ hm, g6, fun q => by simp only at q; omega, fun _ => ?_⟩
      by_cases hq : e = c.lease.ep
      · have h1 := g7 hq
        have h2 := (h.hold1 (by omega)).2
        simp only
        omega
      · exact g8 (by omega)
    refine ⟨h.cl, h.tl, by simp, ?_, by simp only; omega, by simp only; omega, fun _ => ⟨by simp, by simp only; omega⟩, ?_, ?_, ?_⟩
    · intro m hm
      rcases List.mem_cons.1 hm with rfl | hm
      · exact Int.le_refl _
      · exact h.le m hm
    · intro x hx
      obtain ⟨a1, a2, ⟨m, hm, a3⟩, a4⟩ := h.ws x (hws x hx)
      refine ⟨a1, a2, ⟨m, List.mem_cons_of_mem _ hm, a3⟩, fun q => ?_⟩
      obtain ⟨b1, b2⟩ := a4 q
      exact ⟨by simp only; omega, by rw [if_neg (by omega)]; exact b2⟩
    · intro r hr
      rcases List.mem_append.1 hr with hr | hr
      · exact keep (h.rs r hr)
      · have : r = ⟨w.who, c.lease.ep + 1, w.sent + trustD span⟩ := by simpa using hr
        subst this
        exact ⟨by simp only; omega, Int.le_refl _, by simp, hw1, hw2, m0, List.mem_cons_of_mem _ hm0, by simp only; rw [hsent], fun _ => by simp only; omega, fun q => by simp only at q; omega⟩
    · intro i hi
      exact (h.ts i hi).imp id keep

theorem InvC.step {H : Int → Int} {M : List (Int × List Int)} {c : Ct} {span : Int} {n : Nat} {d : Dd} (h : InvC H M c span n) (hm : mayC c d = 0) :
    ∃ H', (∀ e, e ≤ c.lease.ep → H' e = H e) ∧ c.lease.ep ≤ (doC c span d).lease.ep ∧ InvC H' (((doC c span d).now, (doC c span d).clocks) :: M) (doC c span d) span n := by
  have hcl := h.cl
  unfold mayC at hm
  split at hm
  · cases hm
  rename_i k0
  split at hm
  · cases hm
  rename_i k1
  split at hm
  · cases hm
  rename_i k2
  split at hm
  · cases hm
  rename_i k3
  split at hm
  · cases hm
  rename_i k4
  clear hm
  have same : ∀ i : Nat, i < n → lget c.trusts i ⟨0, 0⟩ = lget c.trusts i ⟨0, 0⟩ ∨ lget c.trusts i ⟨0, 0⟩ = ⟨0, 0⟩ ∨ GoodT H M c span n i (lget c.trusts i ⟨0, 0⟩).ep (lget c.trusts i ⟨0, 0⟩).til := fun i _ => .inl rfl
  unfold doC
  by_cases d0 : d.kind = 0
  · simp only [d0, if_pos]
    refine ⟨H, fun _ _ => rfl, Int.le_refl _, ?_⟩
    refine h.plain ?hM0 ?hl0 ?hn0 ?hcl0 ?htl0 ?hw0 ?hr0 ?ht0
    case hM0 => exact rfl
    case hl0 => exact rfl
    case hn0 => exact (show c.now ≤ c.now + d.n by omega)
    case hcl0 => exact h.cl
    case htl0 => exact h.tl
    case hw0 => exact (fun w hw => .inl hw)
    case hr0 => exact (fun r hr => hr)
    case ht0 => exact same
  simp only [if_neg d0]
  by_cases d1 : d.kind = 1
  · simp only [if_pos d1]
    refine ⟨H, fun _ _ => rfl, Int.le_refl _, ?_⟩
    refine h.plain ?hM1 ?hl1 ?hn1 ?hcl1 ?htl1 ?hw1 ?hr1 ?ht1
    case hM1 => exact rfl
    case hl1 => exact rfl
    case hn1 => exact (Int.le_refl _)
    case hcl1 => exact (by simp only [lset, List.length_set]; exact h.cl)
    case htl1 => exact h.tl
    case hw1 => exact (fun w hw => .inl hw)
    case hr1 => exact (fun r hr => hr)
    case ht1 => exact same
  simp only [if_neg d1]
  by_cases d2 : d.kind = 2
  · simp only [if_pos d2]
    refine ⟨H, fun _ _ => rfl, Int.le_refl _, ?_⟩
    refine h.plain ?hM2 ?hl2 ?hn2 ?hcl2 ?htl2 ?hw2 ?hr2 ?ht2
    case hM2 => exact rfl
    case hl2 => exact rfl
    case hn2 => exact (Int.le_refl _)
    case hcl2 => exact h.cl
    case htl2 => exact h.tl
    case hr2 => exact (fun r hr => hr)
    case ht2 => exact same
    intro w hw
    rcases List.mem_append.1 hw with hw | hw
    · exact .inl hw
    · right
      have hwe := List.mem_singleton.1 hw
      have hd : 0 ≤ d.who ∧ d.who < n := by omega
      obtain ⟨i, hi⟩ : ∃ i : Nat, d.who = i := ⟨d.who.toNat, by omega⟩
      rw [hwe]
      refine ⟨hd.1, hd.2, ⟨_, h.mem, rfl⟩, fun q => ?_⟩
      simp only at q ⊢
      split at q
      · rename_i hlt
        rw [if_pos hlt]
        rw [hi] at q ⊢
        rcases h.ts i (by omega) with e | e
        · rw [e] at q; simp at q
        · exact ⟨e.2.1, e.2.2.1⟩
      · omega
  simp only [if_neg d2]
  by_cases d3 : d.kind = 3
  · simp only [if_pos d3]
    have hwm : lget c.wishes d.n ⟨0, 0, 0⟩ ∈ c.wishes := lget_mem (by omega) (by omega)
    split
    · rename_i hf
      exact h.heard hwm hf _ (fun x hx => mem_ldel hx) h.le
    · refine ⟨H, fun _ _ => rfl, Int.le_refl _, ?_⟩
      refine h.plain ?hM3 ?hl3 ?hn3 ?hcl3 ?htl3 ?hw3 ?hr3 ?ht3
      case hM3 => exact rfl
      case hl3 => exact rfl
      case hn3 => exact (Int.le_refl _)
      case hcl3 => exact h.cl
      case htl3 => exact h.tl
      case hw3 => exact (fun w hw => .inl (mem_ldel hw))
      case hr3 => exact (fun r hr => hr)
      case ht3 => exact same
  simp only [if_neg d3]
  by_cases d4 : d.kind = 4
  · simp only [if_pos d4]
    have hrm : lget c.replies d.n ⟨0, 0, 0⟩ ∈ c.replies := lget_mem (by omega) (by omega)
    have hg := h.rs _ hrm
    split
    · refine ⟨H, fun _ _ => rfl, Int.le_refl _, ?_⟩
      refine h.plain ?hM4 ?hl4 ?hn4 ?hcl4 ?htl4 ?hw4 ?hr4 ?ht4
      case hM4 => exact rfl
      case hl4 => exact rfl
      case hn4 => exact (Int.le_refl _)
      case hcl4 => exact h.cl
      case htl4 => exact (by simp only [lset, List.length_set]; exact h.tl)
      case hw4 => exact (fun w hw => .inl hw)
      case hr4 => exact (fun r hr => mem_ldel hr)
      intro i hi
      simp only
      rw [lget_set _ _ _ _ _ hg.2.2.2.1]
      split
      · rename_i hq
        right; right
        rw [← hq.1] at hg
        exact hg
      · exact .inl rfl
    · refine ⟨H, fun _ _ => rfl, Int.le_refl _, ?_⟩
      refine h.plain ?hM5 ?hl5 ?hn5 ?hcl5 ?htl5 ?hw5 ?hr5 ?ht5
      case hM5 => exact rfl
      case hl5 => exact rfl
      case hn5 => exact (Int.le_refl _)
      case hcl5 => exact h.cl
      case htl5 => exact h.tl
      case hw5 => exact (fun w hw => .inl hw)
      case hr5 => exact (fun r hr => mem_ldel hr)
      case ht5 => exact same
  simp only [if_neg d4]
  by_cases d5 : d.kind = 5
  · simp only [if_pos d5]
    refine ⟨H, fun _ _ => rfl, Int.le_refl _, ?_⟩
    refine h.plain ?hM6 ?hl6 ?hn6 ?hcl6 ?htl6 ?hw6 ?hr6 ?ht6
    case hM6 => exact rfl
    case hl6 => exact rfl
    case hn6 => exact (Int.le_refl _)
    case hcl6 => exact h.cl
    case htl6 => exact (by simp only [lset, List.length_set]; exact h.tl)
    case hw6 => exact (fun w hw => .inl hw)
    case hr6 => exact (fun r hr => hr)
    intro i hi
    simp only
    rw [lget_set _ _ _ _ _ (by omega)]
    split
    · exact .inr (.inl rfl)
    · exact .inl rfl
  simp only [if_neg d5]
  by_cases d6 : d.kind = 6
  · simp only [if_pos d6]
    refine ⟨H, fun _ _ => rfl, Int.le_refl _, ?_⟩
    refine h.plain ?hM7 ?hl7 ?hn7 ?hcl7 ?htl7 ?hw7 ?hr7 ?ht7
    case hM7 => exact rfl
    case hl7 => exact rfl
    case hn7 => exact (Int.le_refl _)
    case hcl7 => exact h.cl
    case htl7 => exact h.tl
    case hr7 => exact (fun r hr => hr)
    case ht7 => exact same
    intro w hw
    rcases List.mem_append.1 hw with hw | hw
    · exact .inl hw
    · rw [List.mem_singleton.1 hw]
      exact .inl (lget_mem (by omega) (by omega))
  simp only [if_neg d6]
  by_cases d7 : d.kind = 7
  · simp only [if_pos d7]
    refine ⟨H, fun _ _ => rfl, Int.le_refl _, ?_⟩
    refine h.plain ?hM8 ?hl8 ?hn8 ?hcl8 ?htl8 ?hw8 ?hr8 ?ht8
    case hM8 => exact rfl
    case hl8 => exact rfl
    case hn8 => exact (Int.le_refl _)
    case hcl8 => exact h.cl
    case htl8 => exact h.tl
    case hw8 => exact (fun w hw => .inl (mem_ldel hw))
    case hr8 => exact (fun r hr => hr)
    case ht8 => exact same
  simp only [if_neg d7]
  refine ⟨H, fun _ _ => rfl, Int.le_refl _, ?_⟩
  refine h.plain ?hM9 ?hl9 ?hn9 ?hcl9 ?htl9 ?hw9 ?hr9 ?ht9
  case hM9 => exact rfl
  case hl9 => exact rfl
  case hn9 => exact (Int.le_refl _)
  case hcl9 => exact h.cl
  case htl9 => exact h.tl
  case hw9 => exact (fun w hw => .inl hw)
  case hr9 => exact (fun r hr => mem_ldel hr)
  case ht9 => exact same

theorem InvC.begin (span : Int) (n : Nat) : InvC (fun _ => 0) [(0, List.replicate n 0)] (court0 n) span n where
  cl := by simp [court0]
  tl := by simp [court0]
  mem := by simp [court0]
  le := by intro m hm; simp at hm; subst hm; simp [court0]
  ep0 := by simp [court0, zeroLs]
  hold0 := by simp [court0, zeroLs]
  hold1 := by intro h; simp [court0, zeroLs] at h
  ws := by intro w hw; simp [court0] at hw
  rs := by intro r hr; simp [court0] at hr
  ts := by
    intro i hi
    left
    simp [court0, lget, hi]

/-- Where clocks go on as they must, who trusts does it in the newest epoch. -/
theorem InvC.trusting {H : Int → Int} {M : List (Int × List Int)} {c : Ct} {span : Int} {n : Nat} (h : InvC H M c span n) (hcl : ∀ x ∈ c.clocks, 0 ≤ x) {i : Nat} (hi : i < n) (ht : lget c.clocks i 0 < (lget c.trusts i ⟨0, 0⟩).til) :
    1 ≤ (lget c.trusts i ⟨0, 0⟩).ep ∧ (lget c.trusts i ⟨0, 0⟩).ep ≤ c.lease.ep ∧ H (lget c.trusts i ⟨0, 0⟩).ep = i ∧
      ((∀ m ∈ M, m.1 + span ≤ c.now → lget m.2 i 0 + trustD span ≤ lget c.clocks i 0) → (lget c.trusts i ⟨0, 0⟩).ep = c.lease.ep) := by
  have hc0 : 0 ≤ lget c.clocks i 0 := by
    have := h.cl
    exact hcl _ (lget_mem (by omega) (by omega))
  rcases h.ts i hi with e | ⟨g1, g2, g3, g4, g5, m, hm, g6, g7, g8⟩
  · rw [e] at ht
    simp only at ht
    omega
  · refine ⟨g1, g2, g3, fun hf => ?_⟩
    by_cases hq : (lget c.trusts i ⟨0, 0⟩).ep = c.lease.ep
    · exact hq
    · have := hf m hm (g8 (by omega))
      omega

end Go.Proofs.Ytpojgcjigjenoag
