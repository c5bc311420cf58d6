/-
  Plain maths of the law CellScans.
-/
import Derived.Test.YtlebbkbbmgmmjadCellMath
namespace Go.Proofs.Ytlebbkbbmgmmjad
open Go.RowKit

theorem vis_sub (t : Int) (cs : List Cl) : (vis t cs).Sublist cs := visGo_sub t cs zeroC

/-- Where Scan has no fault. -/
theorem scanC_fine {cs : List Cl} {a b : ByteArray} {t m : Int} (h : (scanC cs a b t m).2.1 = 0) :
    (checkC cs).1 = 0 ∧ isNumB t = true ∧ 0 ≤ m ∧ m ≤ 1000 ∧ (scanC cs a b t m).1 = ((vis t cs).filter fun c => askB a b c.row).take m.toNat := by
  unfold scanC at h ⊢
  by_cases h1 : (checkC cs).1 = 0
  · rw [if_neg (by omega)] at h ⊢
    by_cases h2 : isNumB t = false
    · rw [if_pos h2] at h; simp at h
    · rw [if_neg h2] at h ⊢
      by_cases h3 : m < 0 ∨ 1000 < m
      · rw [if_pos h3] at h; simp at h
      · rw [if_neg h3]
        refine ⟨h1, by simpa using h2, by omega, by omega, ?_⟩
        rw [scanGo_eq]
        simp [vis]
  · rw [if_pos h1] at h
    exact absurd h h1

theorem getC_fine {cs : List Cl} {row col : ByteArray} {t : Int} (h1 : (checkC cs).1 = 0) (h2 : isNumB t = true) :
    getC cs row col t = match (vis t cs).find? (isAt (row.toList, col.toList)) with
      | some c => (c.val, true, (0, 0))
      | none => (⟨#[]⟩, false, (0, 0)) := by
  rw [getC_ok h1 h2, getGo_eq]
  unfold vis
  cases (visGo t zeroC cs).find? (isAt (row.toList, col.toList)) <;> rfl

/-- What Scan tells is what Get tells. -/
theorem scan_get {cs : List Cl} {a b : ByteArray} {t m : Int} (h : (scanC cs a b t m).2.1 = 0) {c : Cl} (hc : c ∈ (scanC cs a b t m).1) : getC cs c.row c.col t = (c.val, true, (0, 0)) := by
  obtain ⟨h1, h2, _, _, h5⟩ := scanC_fine h
  rw [h5] at hc
  have hv : c ∈ vis t cs := (List.mem_filter.1 (List.mem_of_mem_take hc)).1
  rw [getC_fine h1 h2, show (c.row.toList, c.col.toList) = rc c from rfl, find_pw (vis_pw t h1) hv]

theorem scan_pw {cs : List Cl} {a b : ByteArray} {t m : Int} (h : (scanC cs a b t m).2.1 = 0) : (scanC cs a b t m).1.Pairwise (fun a b => kl (rc a) (rc b)) := by
  obtain ⟨h1, _, _, _, h5⟩ := scanC_fine h
  rw [h5]
  exact ((vis_pw t h1).filter _).take

/-- The test that the law makes of two neighbours. -/
theorem kl_tests {c d : Cl} (h : kl (rc c) (rc d)) : bl d.row.toList c.row.toList = false ∧ ((d.row.toList == c.row.toList) = false ∨ (d.row.toList == c.row.toList) = true ∧ bl d.col.toList c.col.toList = false ∧ (d.col.toList == c.col.toList) = false) := by
  rcases h with h | ⟨e, h⟩
  · have := bl_ne h
    exact ⟨bl_asymm h, .inl (beq_eq_false_iff_ne.2 (fun e => this e.symm))⟩
  · have e' : c.row.toList = d.row.toList := e
    have := bl_ne h
    exact ⟨by rw [e']; exact bl_irrefl _, .inr ⟨beq_iff_eq.2 e'.symm, bl_asymm h, beq_eq_false_iff_ne.2 (fun e => this e.symm)⟩⟩

/-- How many numbers below k pass. -/
def cntUp (f : Nat → Bool) : Nat → Nat
  | 0 => 0
  | k + 1 => cntUp f k + if f k then 1 else 0

theorem cntUp_no {f : Nat → Bool} {k : Nat} (h : f k = false) : cntUp f (k + 1) = cntUp f k := by simp [cntUp, h]
theorem cntUp_yes {f : Nat → Bool} {k : Nat} (h : f k = true) : cntUp f (k + 1) = cntUp f k + 1 := by simp [cntUp, h]

theorem cntUp_le (f : Nat → Bool) : ∀ k, cntUp f k ≤ k
  | 0 => Nat.le_refl _
  | k + 1 => by have := cntUp_le f k; unfold cntUp; split <;> omega

theorem cntUp_eq (f : Nat → Bool) : ∀ k, cntUp f k = ((List.range k).filter f).length
  | 0 => rfl
  | k + 1 => by
    rw [List.range_succ, List.filter_append, List.length_append, ← cntUp_eq f k, cntUp]
    cases h : f k <;> simp [h]

/-- A number at which another place begins. -/
def headB (cs : List Cl) (i : Nat) : Bool := i == 0 || rc (cs.getD (i - 1) zeroC) != rc (cs.getD i zeroC)
/-- Does the law count this number? -/
def okScan (cs : List Cl) (a b : ByteArray) (t : Int) (i : Nat) : Bool :=
  headB cs i && askB a b (cs.getD i zeroC).row && ((vis t cs).find? (isAt (rc (cs.getD i zeroC)))).isSome

theorem pw_get {cs : List Cl} (h : cs.Pairwise Lt) {i j : Nat} (hj : j < cs.length) (hij : i < j) : Lt (cs.getD i zeroC) (cs.getD j zeroC) := by
  have := List.pairwise_iff_getElem.1 h i j (by omega) hj hij
  simpa [List.getD_eq_getElem?_getD, hj, show i < cs.length by omega] using this

theorem head_kl {cs : List Cl} (h : cs.Pairwise Lt) {i j : Nat} (hj : j < cs.length) (hij : i < j) (hh : headB cs j = true) : kl (rc (cs.getD i zeroC)) (rc (cs.getD j zeroC)) := by
  unfold headB at hh
  have hj0 : (j == 0) = false := by simp; omega
  rw [hj0, Bool.false_or, bne_iff_ne] at hh
  have h1 := (Lt_le (pw_get h hj (show j - 1 < j by omega))).resolve_right hh
  by_cases e : i = j - 1
  · rw [e]; exact h1
  · rcases Lt_le (pw_get h (show j - 1 < cs.length by omega) (show i < j - 1 by omega)) with h2 | h2
    · exact kl_trans h2 h1
    · rw [h2]; exact h1

/-- There is a first number of a place. -/
theorem head_of {cs : List Cl} : ∀ (j : Nat), j < cs.length → ∃ i, i ≤ j ∧ headB cs i = true ∧ rc (cs.getD i zeroC) = rc (cs.getD j zeroC)
  | 0, _ => ⟨0, Nat.le_refl _, rfl, rfl⟩
  | j + 1, hj => by
    by_cases e : rc (cs.getD j zeroC) = rc (cs.getD (j + 1) zeroC)
    · obtain ⟨i, h1, h2, h3⟩ := head_of (cs := cs) j (by omega)
      exact ⟨i, by omega, h2, h3.trans e⟩
    · refine ⟨j + 1, Nat.le_refl _, ?_, rfl⟩
      unfold headB
      rw [show j + 1 - 1 = j from rfl, bne_iff_ne.2 e, Bool.or_true]

theorem askB_rc {a b : ByteArray} {c d : Cl} (h : rc c = rc d) : askB a b c.row = askB a b d.row := by
  have : c.row.toList = d.row.toList := congrArg Prod.fst h
  unfold askB
  rw [this]

/-- What the law counts is as many as are seen. -/
theorem cnt_all {cs : List Cl} (a b : ByteArray) (t : Int) (h : (checkC cs).1 = 0) : cntUp (okScan cs a b t) cs.length = ((vis t cs).filter fun c => askB a b c.row).length := by
  have hp := fine_pw h
  have hv := vis_pw t h
  have hall : ((List.range cs.length).filter (okScan cs a b t)).map (fun i => rc (cs.getD i zeroC)) = ((vis t cs).filter fun c => askB a b c.row).map rc := ?_
  · have := congrArg List.length hall
    rw [List.length_map, List.length_map] at this
    rw [cntUp_eq, this]
  refine pw_ext kl_irrefl (fun _ _ _ => kl_trans) ?_ ?_ ?_
  · rw [List.pairwise_map]
    have h1 : ((List.range cs.length).filter (okScan cs a b t)).Pairwise (· < ·) := List.pairwise_lt_range.filter _
    refine h1.imp_of_mem fun {i j} hi hj hij => ?_
    rw [List.mem_filter, List.mem_range] at hi hj
    have hh : headB cs j = true := by
      have := hj.2
      unfold okScan at this
      simp only [Bool.and_eq_true] at this
      exact this.1.1
    exact head_kl hp hj.1 hij hh
  · rw [List.pairwise_map]
    exact hv.filter _
  · intro k
    simp only [List.mem_map, List.mem_filter, List.mem_range]
    constructor
    · rintro ⟨i, ⟨hi, hok⟩, rfl⟩
      unfold okScan at hok
      simp only [Bool.and_eq_true, Option.isSome_iff_exists] at hok
      obtain ⟨⟨_, h2⟩, d, hd⟩ := hok
      have hd1 := isAt_iff.1 (List.find?_some hd)
      exact ⟨d, ⟨List.mem_of_find?_eq_some hd, by rw [askB_rc hd1]; exact h2⟩, hd1⟩
    · rintro ⟨d, ⟨hd, hask⟩, rfl⟩
      obtain ⟨j, hj, e⟩ := List.getElem_of_mem ((vis_sub t cs).subset hd)
      have ej : cs.getD j zeroC = d := by simp [List.getD_eq_getElem?_getD, hj, e]
      obtain ⟨i, h1, h2, h3⟩ := head_of (cs := cs) j hj
      rw [ej] at h3
      refine ⟨i, ⟨by omega, ?_⟩, h3⟩
      unfold okScan
      rw [h2, askB_rc h3, hask, h3, find_pw hv hd]
      rfl

theorem okAt_get {cs : List Cl} {a b : ByteArray} {t : Int} (h1 : (checkC cs).1 = 0) (h2 : isNumB t = true) {i : Nat} {c : Cl} (hc : cs.getD i zeroC = c) : okScan cs a b t i = (headB cs i && askB a b c.row && (getC cs c.row c.col t).2.1) := by
  unfold okScan
  rw [hc, getC_fine h1 h2, show (c.row.toList, c.col.toList) = rc c from rfl]
  cases (vis t cs).find? (isAt (rc c)) <;> rfl

theorem getC_code {cs : List Cl} {row col : ByteArray} {t : Int} (h1 : (checkC cs).1 = 0) (h2 : isNumB t = true) : (getC cs row col t).2.2 = (0, 0) := by
  rw [getC_ok h1 h2]

theorem getC_split {cs : List Cl} {row col : ByteArray} {t : Int} (h : (getC cs row col t).2.2 = (0, 0)) : ∃ gv gi, getC cs row col t = (gv, gi, (0, 0)) :=
  ⟨(getC cs row col t).1, (getC cs row col t).2.1, by rw [← h]⟩

theorem head_cases {cs : List Cl} {k : Nat} {c d : Cl} (hk : k ≠ 0) (hc : cs.getD k zeroC = c) (hd : cs.getD (k - 1) zeroC = d) :
    headB cs k = false ∧ (d.row.toList == c.row.toList) = true ∧ (d.col.toList == c.col.toList) = true ∨ headB cs k = true ∧ (d.row.toList == c.row.toList) = true ∧ (d.col.toList == c.col.toList) = false ∨ headB cs k = true ∧ (d.row.toList == c.row.toList) = false := by
  have hk0 : (k == 0) = false := by simp [hk]
  have e : headB cs k = !((d.row.toList == c.row.toList) && (d.col.toList == c.col.toList)) := by
    unfold headB
    rw [hd, hc, hk0]
    simp only [Bool.false_or, rc]
    rfl
  rw [e]
  cases (d.row.toList == c.row.toList) <;> cases (d.col.toList == c.col.toList) <;> simp

theorem ask_cases (a b row : ByteArray) : askB a b row = false ∧ Op.bytesLess row.toList a.toList = true ∨ askB a b row = true ∧ Op.bytesLess row.toList a.toList = false ∧ b.toList.isEmpty = true ∨ askB a b row = true ∧ Op.bytesLess row.toList a.toList = false ∧ b.toList.isEmpty = false ∧ Op.bytesLess row.toList b.toList = true ∨ askB a b row = false ∧ Op.bytesLess row.toList a.toList = false ∧ b.toList.isEmpty = false ∧ Op.bytesLess row.toList b.toList = false := by
  unfold askB
  cases Op.bytesLess row.toList a.toList <;> cases b.toList.isEmpty <;> cases Op.bytesLess row.toList b.toList <;> simp

theorem scan_count {cs : List Cl} {a b : ByteArray} {t m : Int} (h : (scanC cs a b t m).2.1 = 0) (hl : ((scanC cs a b t m).1.length : Int) ≠ m) : cntUp (okScan cs a b t) cs.length = (scanC cs a b t m).1.length := by
  obtain ⟨h1, _, h3, _, h5⟩ := scanC_fine h
  rw [cnt_all a b t h1, h5, List.length_take]
  rw [h5, List.length_take] at hl
  omega

end Go.Proofs.Ytlebbkbbmgmmjad
