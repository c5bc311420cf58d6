/-
  Plain maths of leases: courts that may be; what each kind of deed comes to. Nothing of a program stands here.
-/
import Derived.Test.YtfmoniabpinceafLeaseMath4
namespace Go.Proofs.Ytfmoniabpinceaf
open Go.RowKit
set_option linter.unusedVariables false

structure WfC (c : Ct) (span : Int) (n : Nat) : Prop where
  sp : 4 ≤ span ∧ span ≤ 1000000
  n8 : n ≤ 8
  cl : c.clocks.length = n
  tl : c.trusts.length = n
  now : 0 ≤ c.now ∧ c.now ≤ 900000000
  clk : ∀ x ∈ c.clocks, 0 ≤ x ∧ x ≤ 900000000
  ep : 0 ≤ c.lease.ep
  tr : ∀ t ∈ c.trusts, 0 ≤ t.ep
  wl : c.wishes.length ≤ 100
  rl : c.replies.length ≤ 100
  ws : ∀ w ∈ c.wishes, 0 ≤ w.who ∧ w.who < n ∧ (0 ≤ w.sent ∧ w.sent ≤ 900000000) ∧ 0 ≤ w.ep
  rs : ∀ r ∈ c.replies, 0 ≤ r.who ∧ r.who < n ∧ 0 ≤ r.ep

theorem WfC.begin {span : Int} {n : Nat} (h : 4 ≤ span ∧ span ≤ 1000000) (hn : n ≤ 8) : WfC (court0 n) span n where
  sp := h
  n8 := hn
  cl := by simp [court0]
  tl := by simp [court0]
  now := by simp [court0]
  clk := by intro x hx; have := (List.mem_replicate.1 hx).2; omega
  ep := by simp [court0, zeroLs]
  tr := by intro t ht; have := (List.mem_replicate.1 ht).2; rw [this]; exact Int.le_refl _
  wl := by simp [court0]
  rl := by simp [court0]
  ws := by intro w hw; simp [court0] at hw
  rs := by intro w hw; simp [court0] at hw

theorem overC_iff {c : Ct} : overC c = false ↔ c.now ≤ 900000000 ∧ c.wishes.length ≤ 100 ∧ c.replies.length ≤ 100 ∧ ∀ x ∈ c.clocks, x ≤ 900000000 := by
  unfold overC
  simp only [Bool.or_eq_false_iff, decide_eq_false_iff_not, List.any_eq_false, decide_eq_true_eq, Int.not_lt, Nat.not_lt]
  exact ⟨fun ⟨⟨⟨a, b⟩, c⟩, d⟩ => ⟨a, b, c, d⟩, fun ⟨a, b, c, d⟩ => ⟨⟨⟨a, b⟩, c⟩, d⟩⟩

theorem overC_tt {c : Ct} (h : ¬ (c.now ≤ 900000000 ∧ c.wishes.length ≤ 100 ∧ c.replies.length ≤ 100 ∧ ∀ x ∈ c.clocks, x ≤ 900000000)) : overC c = true := by
  cases q : overC c
  · exact absurd (overC_iff.1 q) h
  · rfl

theorem stepC_zero {c : Ct} {span : Int} {d : Dd} (h : stepC c span d = 0) : mayC c d = 0 ∧ overC (doC c span d) = false := by
  unfold stepC at h
  split at h
  · rename_i q; exact absurd h q
  · rename_i q
    refine ⟨Decidable.not_not.1 q, ?_⟩
    split at h
    · cases h
    · rename_i q2; simpa using q2

theorem stepC_may {c : Ct} {span : Int} {d : Dd} (h : mayC c d ≠ 0) : stepC c span d = mayC c d := by unfold stepC; rw [if_pos h]
theorem stepC_ok {c : Ct} {span : Int} {d : Dd} (h : mayC c d = 0) (ho : overC (doC c span d) = false) : stepC c span d = 0 := by unfold stepC; rw [if_neg (by rw [h]; simp), if_neg (by rw [ho]; simp)]
theorem stepC_much {c : Ct} {span : Int} {d : Dd} (h : mayC c d = 0) (ho : overC (doC c span d) = true) : stepC c span d = 9 := by unfold stepC; rw [if_neg (by rw [h]; simp), if_pos ho]

theorem doC_0 (c : Ct) (span who n : Int) : doC c span ⟨0, who, n⟩ = { c with now := c.now + n } := rfl
theorem doC_1 (c : Ct) (span who n : Int) : doC c span ⟨1, who, n⟩ = { c with clocks := lset c.clocks who (lget c.clocks who 0 + n) } := rfl
theorem doC_2 (c : Ct) (span who n : Int) : doC c span ⟨2, who, n⟩ = { c with wishes := c.wishes ++ [⟨who, lget c.clocks who 0, if lget c.clocks who 0 < (lget c.trusts who ⟨0, 0⟩).til then (lget c.trusts who ⟨0, 0⟩).ep else 0⟩] } := rfl
theorem doC_3 (c : Ct) (span who n : Int) : doC c span ⟨3, who, n⟩ = if (heardF c.lease (lget c.wishes n ⟨0, 0, 0⟩) c.now span).1 = 0 then
      { c with wishes := ldel c.wishes n, lease := heardL c.lease (lget c.wishes n ⟨0, 0, 0⟩) c.now span, replies := c.replies ++ [⟨(lget c.wishes n ⟨0, 0, 0⟩).who, (heardL c.lease (lget c.wishes n ⟨0, 0, 0⟩) c.now span).ep, (lget c.wishes n ⟨0, 0, 0⟩).sent + trustD span⟩] }
    else { c with wishes := ldel c.wishes n } := rfl
theorem doC_4 (c : Ct) (span who n : Int) : doC c span ⟨4, who, n⟩ = if (lget c.trusts (lget c.replies n ⟨0, 0, 0⟩).who ⟨0, 0⟩).ep < (lget c.replies n ⟨0, 0, 0⟩).ep ∨ ((lget c.replies n ⟨0, 0, 0⟩).ep = (lget c.trusts (lget c.replies n ⟨0, 0, 0⟩).who ⟨0, 0⟩).ep ∧ (lget c.trusts (lget c.replies n ⟨0, 0, 0⟩).who ⟨0, 0⟩).til < (lget c.replies n ⟨0, 0, 0⟩).til) then
      { c with replies := ldel c.replies n, trusts := lset c.trusts (lget c.replies n ⟨0, 0, 0⟩).who ⟨(lget c.replies n ⟨0, 0, 0⟩).ep, (lget c.replies n ⟨0, 0, 0⟩).til⟩ }
    else { c with replies := ldel c.replies n } := rfl
theorem doC_5 (c : Ct) (span who n : Int) : doC c span ⟨5, who, n⟩ = { c with trusts := lset c.trusts who ⟨0, 0⟩ } := rfl
theorem doC_6 (c : Ct) (span who n : Int) : doC c span ⟨6, who, n⟩ = { c with wishes := c.wishes ++ [lget c.wishes n ⟨0, 0, 0⟩] } := rfl
theorem doC_7 (c : Ct) (span who n : Int) : doC c span ⟨7, who, n⟩ = { c with wishes := ldel c.wishes n } := rfl
theorem doC_8 (c : Ct) (span who n : Int) : doC c span ⟨8, who, n⟩ = { c with replies := ldel c.replies n } := rfl

theorem lset_mem {α : Type} {l : List α} {i : Int} {x y : α} (h : y ∈ lset l i x) : y ∈ l ∨ y = x := List.mem_or_eq_of_mem_set h
theorem ldel_len {α : Type} (l : List α) (i : Int) : (ldel l i).length ≤ l.length := List.length_eraseIdx_le _ _

theorem grantL_ep {l : Ls} {who now span : Int} (h : 0 ≤ l.ep) : 0 ≤ (grantL l who now span).ep := by
  unfold grantL
  split
  · simp only; omega
  · exact Int.le_refl _

theorem renewL_ep {l : Ls} {who ep now span : Int} (h : 0 ≤ l.ep) : 0 ≤ (renewL l who ep now span).ep := by
  unfold renewL
  split
  · exact h
  · exact Int.le_refl _

theorem heardL_ep {l : Ls} {w : Ws} {now span : Int} (h : 0 ≤ l.ep) : 0 ≤ (heardL l w now span).ep := by
  unfold heardL
  split
  · exact renewL_ep h
  · exact grantL_ep h

theorem lget_dflt {α : Type} {l : List α} {i : Int} {d : α} {p : α → Prop} (h : ∀ x ∈ l, p x) (hd : p d) : p (lget l i d) := by
  unfold lget
  rw [List.getD_eq_getElem?_getD]
  cases q : l[i.toNat]? with
  | none => exact hd
  | some y => exact h y (List.mem_of_getElem? q)

theorem WfC.step {c : Ct} {span : Int} {n : Nat} {d : Dd} (h : WfC c span n) (hs : stepC c span d = 0) : WfC (doC c span d) span n := by
  obtain ⟨hm, ho⟩ := stepC_zero hs
  obtain ⟨o1, o2, o3, o4⟩ := overC_iff.1 ho
  obtain ⟨k, who, m⟩ := d
  have hcl := h.cl
  have hk : 0 ≤ k ∧ k ≤ 8 := by
    unfold mayC at hm
    split at hm
    · cases hm
    · rename_i q; simp only at q; omega
  have hk1 : k < 2 → 0 ≤ m := by
    intro q
    unfold mayC at hm
    split at hm
    · cases hm
    split at hm
    · cases hm
    split at hm
    · cases hm
    rename_i q2
    simp only at q2
    omega
  have hkw : k = 2 → 0 ≤ who ∧ who < n := by
    intro q
    unfold mayC at hm
    split at hm
    · cases hm
    split at hm
    · cases hm
    rename_i q2
    simp only at q2
    omega
  have hkn : k = 3 ∨ k = 6 → 0 ≤ m ∧ m < c.wishes.length := by
    intro q
    unfold mayC at hm
    split at hm
    · cases hm
    split at hm
    · cases hm
    split at hm
    · cases hm
    split at hm
    · cases hm
    rename_i q2
    simp only at q2
    omega
  obtain rfl | rfl | rfl | rfl | rfl | rfl | rfl | rfl | rfl : k = 0 ∨ k = 1 ∨ k = 2 ∨ k = 3 ∨ k = 4 ∨ k = 5 ∨ k = 6 ∨ k = 7 ∨ k = 8 := by omega
  · rw [doC_0] at o1 ⊢
    have := hk1 (by omega)
    have := h.now
    simp only at o1
    exact { h with now := ⟨by simp only; omega, by simp only; omega⟩ }
  · rw [doC_1] at o4 ⊢
    have := hk1 (by omega)
    refine { h with cl := by simp [lset, h.cl], clk := fun x hx => ⟨?_, o4 x hx⟩ }
    rcases lset_mem hx with q | q
    · exact (h.clk x q).1
    · have : 0 ≤ lget c.clocks who 0 := lget_dflt (p := fun x => 0 ≤ x) (fun y hy => (h.clk y hy).1) (Int.le_refl _)
      omega
  · rw [doC_2] at o2 ⊢
    obtain ⟨w0, w1⟩ := hkw rfl
    refine { h with wl := o2, ws := fun x hx => ?_ }
    rcases List.mem_append.1 hx with q | q
    · exact h.ws x q
    · rw [List.mem_singleton.1 q]
      refine ⟨w0, w1, ?_, ?_⟩
      · exact lget_dflt (p := fun x => 0 ≤ x ∧ x ≤ 900000000) h.clk (by omega)
      · simp only
        split
        · exact lget_dflt (p := fun t : Tr => 0 ≤ t.ep) h.tr (Int.le_refl _)
        · exact Int.le_refl _
  · rw [doC_3] at o3 ⊢
    split
    · rename_i q
      rw [if_pos q] at o3
      refine { h with wl := Nat.le_trans (ldel_len _ _) h.wl, ep := heardL_ep h.ep, rl := o3, ws := fun x hx => h.ws x (mem_ldel hx), rs := fun x hx => ?_ }
      rcases List.mem_append.1 hx with q | q
      · exact h.rs x q
      · rw [List.mem_singleton.1 q]
        have hw := hkn (.inl rfl)
        have := h.ws _ (lget_mem (d := ⟨0, 0, 0⟩) hw.1 hw.2)
        exact ⟨this.1, this.2.1, heardL_ep h.ep⟩
    · exact { h with wl := Nat.le_trans (ldel_len _ _) h.wl, ws := fun x hx => h.ws x (mem_ldel hx) }
  · rw [doC_4]
    split
    · refine { h with rl := Nat.le_trans (ldel_len _ _) h.rl, rs := fun x hx => h.rs x (mem_ldel hx), tl := by simp [lset, h.tl], tr := fun x hx => ?_ }
      rcases lset_mem hx with q | q
      · exact h.tr x q
      · rw [q]
        exact lget_dflt (p := fun t : Rp => 0 ≤ t.ep) (fun r hr => (h.rs r hr).2.2) (Int.le_refl _)
    · exact { h with rl := Nat.le_trans (ldel_len _ _) h.rl, rs := fun x hx => h.rs x (mem_ldel hx) }
  · rw [doC_5]
    refine { h with tl := by simp [lset, h.tl], tr := fun x hx => ?_ }
    rcases lset_mem hx with q | q
    · exact h.tr x q
    · rw [q]; exact Int.le_refl _
  · rw [doC_6] at o2 ⊢
    have hw := hkn (.inr rfl)
    refine { h with wl := o2, ws := fun x hx => ?_ }
    rcases List.mem_append.1 hx with q | q
    · exact h.ws x q
    · rw [List.mem_singleton.1 q]
      exact h.ws _ (lget_mem hw.1 hw.2)
  · rw [doC_7]
    exact { h with wl := Nat.le_trans (ldel_len _ _) h.wl, ws := fun x hx => h.ws x (mem_ldel hx) }
  · rw [doC_8]
    exact { h with rl := Nat.le_trans (ldel_len _ _) h.rl, rs := fun x hx => h.rs x (mem_ldel hx) }

/-- Nothing of a court is over. -/
theorem WfC.over {c : Ct} {span : Int} {n : Nat} (h : WfC c span n) : overC c = false := overC_iff.2 ⟨h.now.2, h.wl, h.rl, fun x hx => (h.clk x hx).2⟩

end Go.Proofs.Ytfmoniabpinceaf
