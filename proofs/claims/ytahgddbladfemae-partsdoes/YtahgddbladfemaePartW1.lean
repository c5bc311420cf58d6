/-
  The walks over package parts' small functions.
-/
import Derived.Test.YtahgddbladfemaeRows
import Derived.Test.YtahgddbladfemaePartMath
import Derived.Test.YtahgddbladfemaeGenB
namespace Go.Proofs.Ytahgddbladfemae
open Go.RowKit
set_option linter.unusedVariables false

theorem infoInt : (Try.prog.info? 3).map (fun i => (i.zero, i.size, i.bytes)) = some (some (.int .i64 0), 1, 8) := by kernel_rfl

theorem infoPart : (Try.prog.info? 34).map (fun i => (i.zero, i.size, i.bytes)) = some (some (.agg #[.string ⟨#[]⟩, .string ⟨#[]⟩, .int .i64 0]), 3, 40) := by kernel_rfl

/-- A part's three places, written out. -/
theorem AtG.part {w : World} {b off : Nat} {c : Pt} (h : AtG pE w b off c) :
    w.cell? ⟨b, off, none⟩ = some (.string c.fr) ∧ w.cell? ⟨b, off + 1, none⟩ = some (.string c.to_) ∧ w.cell? ⟨b, off + 2, none⟩ = some (.int .i64 c.id) :=
  ⟨h 0 _ rfl, h 1 _ rfl, h 2 _ rfl⟩

set_option maxRecDepth 100000 in
set_option maxHeartbeats 400000 in
theorem vIsNum_any (n : Int) (w : World) : Calls Try.prog 26 #[.int .i64 n] w fun e w' => e = .returned (.bool (numB n)) ∧ w' = w := by
  by_cases h1 : 0 ≤ n
  · have hd : decide (0 ≤ n) = true := by simpa using h1
    go_enter Try.func26, Try.ntmps26
    go_wp2_with fail
    go_ret
    exact ⟨by simp [numB, h1], rfl⟩
  · have hd : decide (0 ≤ n) = false := by simpa using h1
    go_enter Try.func26, Try.ntmps26
    go_wp2_with fail
    go_ret
    exact ⟨by simp [numB]; omega, rfl⟩

set_option maxRecDepth 100000 in
theorem vIsBetween_any (r a b : ByteArray) (w : World) : Calls Try.prog 24 #[.string r, .string a, .string b] w fun e w' => e = .returned (.bool (inB r a b)) ∧ w' = w := by
  cases h1 : Op.bytesLess r.toList a.toList <;> cases h2 : b.toList.isEmpty <;> cases h3 : Op.bytesLess r.toList b.toList
  all_goals
    go_enter Try.func24, Try.ntmps24
    go_wp2_with fail
    go_ret
    exact ⟨by simp [inB, bLt, h1, h2, h3], rfl⟩

set_option maxRecDepth 100000 in
set_option maxHeartbeats 400000 in
theorem endAhead_any (v : Value) (l : List Pt) (i : Nat) (w : World) (hv : RdG pE w v l) (hi : i < l.length) :
    Calls Try.prog 30 #[v, .int .i64 i] w fun e w' => e = .returned (.string (endA l i)) ∧ w' = w := by
  obtain ⟨ao, cap, rfl, hc1, hc2⟩ := hv.shape
  unfold maxLen at hc2
  cases i with
  | zero =>
    go_enter Try.func30, Try.ntmps30
    go_wp2_with fail
    go_ret
    exact ⟨rfl, rfl⟩
  | succ j =>
    obtain ⟨p, hp⟩ : ∃ p, l[j]? = some p := ⟨_, List.getElem?_eq_getElem (by omega)⟩
    obtain ⟨b, off, rfl, hb, hat⟩ := hv.here hp
    obtain ⟨c0, c1, c2⟩ := hat.part
    have HE := hide (show endA l (j + 1) = p.to_ by simp only [endA, List.getD_eq_getElem?_getD, hp]; rfl)
    have h0 : (((j + 1 : Nat) : Int) == 0) = false := by simp; omega
    have hw : IntKind.i64.wrap (((j + 1 : Nat) : Int) - 1) = (j : Int) := by rw [IntKind.wrap_i64]; omega
    have hj1 : (0 : Int) ≤ (j : Int) := by omega
    have hj2 : (j : Int) < (l.length : Int) := by omega
    generalize hI : ((j + 1 : Nat) : Int) = I at *
    clear hat hp hv hI
    go_enter Try.func30, Try.ntmps30
    go_wp2_with fail
    go_ret
    exact ⟨by rw [HE.out]; rfl, rfl⟩

set_option maxRecDepth 100000 in
set_option maxHeartbeats 400000 in
theorem endsWell_any (v : Value) (l : List Pt) (i : Nat) (w : World) (hv : RdG pE w v l) (hi : i < l.length) :
    Calls Try.prog 31 #[v, .int .i64 i] w fun e w' => e = .returned (.bool (endW l i)) ∧ ∃ n, w' = w.drewN n := by
  obtain ⟨ao, cap, rfl, hc1, hc2⟩ := hv.shape
  unfold maxLen at hc2
  obtain ⟨p, hp⟩ : ∃ p, l[i]? = some p := ⟨_, List.getElem?_eq_getElem hi⟩
  obtain ⟨b, off, rfl, hb, hat⟩ := hv.here hp
  obtain ⟨c0, c1, c2⟩ := hat.part
  have hj1 : (0 : Int) ≤ (i : Int) := by omega
  have hj2 : (i : Int) < (l.length : Int) := by omega
  have hgd : l.getD i zeroPt = p := by rw [List.getD_eq_getElem?_getD, hp]; rfl
  by_cases hl : i + 1 = l.length
  · have HE := hide (show endW l i = p.to_.toList.isEmpty by simp only [endW, hgd, if_pos hl])
    have h0 : ((i : Int) == (l.length : Int) - 1) = true := by simp; omega
    clear hat hp hv hgd hl
    go_enter Try.func31, Try.ntmps31
    go_wp2_with fail
    go_ret
    exact ⟨by rw [HE.out]; simp, 0, rfl⟩
  · have HE := hide (show endW l i = (!Op.bytesLess p.to_.toList p.fr.toList && !(p.to_.toList == p.fr.toList)) by rw [gtS]; simp only [endW, hgd, if_neg hl])
    have h0 : ((i : Int) == (l.length : Int) - 1) = false := by simp; omega
    clear hat hp hv hgd hl
    go_enter Try.func31, Try.ntmps31
    go_wp2_with fail
    go_quiet (fail)
    go_wp2_with fail
    go_ret
    exact ⟨by rw [HE.out]; rfl, _, rfl⟩

set_option maxRecDepth 100000 in
set_option maxHeartbeats 1000000 in
theorem codeAtP_any (v : Value) (l : List Pt) (i : Nat) (w : World) (hv : RdG pE w v l) (hi : i < l.length) :
    Calls Try.prog 23 #[v, .int .i64 i] w fun e w' => e = .returned (.int .i64 (codeP l i)) ∧ Below w.heap.size w w' := by
  have hEA := fun W (hW : Below w.heap.size w W) => endAhead_any v l i W (hv.below hW) hi
  have hEW := fun W (hW : Below w.heap.size w W) => endsWell_any v l i W (hv.below hW) hi
  obtain ⟨ao, cap, rfl, hc1, hc2⟩ := hv.shape
  unfold maxLen at hc2
  obtain ⟨p, hp⟩ : ∃ p, l[i]? = some p := ⟨_, List.getElem?_eq_getElem hi⟩
  obtain ⟨b, off, rfl, hb, hat⟩ := hv.here hp
  obtain ⟨c0, c1, c2⟩ := hat.part
  have hj1 : (0 : Int) ≤ (i : Int) := by omega
  have hj2 : (i : Int) < (l.length : Int) := by omega
  have hgd : l.getD i zeroPt = p := by rw [List.getD_eq_getElem?_getD, hp]; rfl
  have HEA := hide hEA
  have HEW := hide hEW
  have HC : Hid (codeP l i = if 40 < p.fr.size ∨ 40 < p.to_.size then 8 else if numB p.id = false then 3 else if p.fr.toList ≠ (endA l i).toList ∨ endW l i = false then 5 else 0) := hide (by simp only [codeP, hgd])
  clear hat hp hv hgd hEA hEW
  by_cases h1 : 40 < p.fr.size ∨ 40 < p.to_.size
  · have HE := hide (HC.out.trans (if_pos h1))
    by_cases h2 : 40 < p.fr.size
    all_goals
      go_enter Try.func23, Try.ntmps23
      go_wp2_with fail
      go_ret
      exact ⟨by rw [HE.out]; rfl, by go_grown⟩
  · have HE := hide (HC.out.trans (if_neg h1))
    have h2 : ¬ 40 < p.fr.size := fun h => h1 (.inl h)
    have h3 : ¬ 40 < p.to_.size := fun h => h1 (.inr h)
    clear h1 HC
    cases h4 : numB p.id
    · have HE := hide (HE.out.trans (if_pos h4))
      go_enter Try.func23, Try.ntmps23
      go_wp2_with (go_at_call 26; refine (vIsNum_any _ _).mono ?_; rintro e w' ⟨rfl, rfl⟩; rw [h4])
      go_ret
      exact ⟨by rw [HE.out]; rfl, by go_grown⟩
    · have HE := hide (HE.out.trans (if_neg (by rw [h4]; decide)))
      cases h5 : (p.fr.toList == (endA l i).toList)
      · have HE := hide (HE.out.trans (if_pos (.inl (by simpa using h5))))
        go_enter Try.func23, Try.ntmps23
        go_wp2_with (go_at_call 26; refine (vIsNum_any _ _).mono ?_; rintro e w' ⟨rfl, rfl⟩; rw [h4])
        have HEA2 := hide (fun n => HEA.out ((w.alloc (.cells #[.string p.fr, .string p.to_, .int .i64 p.id] 34)).drewN n) (below_drewN (by go_grown) _))
        go_quiet (first | (go_at_call 30; exact Calls.quiet_of_same (HEA2.out _)) | (go_at_call 30; exact quiet_addG ((HEA2.out _).mono fun _ _ ⟨h, h'⟩ => ⟨h, 0, h'⟩)))
        go_wp2_with fail
        go_ret
        exact ⟨by rw [HE.out]; rfl, below_drewN (by go_grown) _⟩
      · have h7 : ¬ p.fr.toList ≠ (endA l i).toList := by simpa using h5
        have HE5 : Hid (∀ b, endW l i = b → codeP l i = cond b 0 5) := hide fun b hb => by
          rw [HE.out]
          cases b
          · exact if_pos (.inr hb)
          · exact if_neg (by rw [hb]; simpa using h7)
        cases h6 : endW l i
        all_goals
          have HE := hide (HE5.out _ h6)
          clear h7 HE5
          go_enter Try.func23, Try.ntmps23
          go_wp2_with (go_at_call 26; refine (vIsNum_any _ _).mono ?_; rintro e w' ⟨rfl, rfl⟩; rw [h4])
          have HEA2 := hide (fun n => HEA.out ((w.alloc (.cells #[.string p.fr, .string p.to_, .int .i64 p.id] 34)).drewN n) (below_drewN (by go_grown) _))
          have HEW2 := hide (fun n => HEW.out ((w.alloc (.cells #[.string p.fr, .string p.to_, .int .i64 p.id] 34)).drewN n) (below_drewN (by go_grown) _))
          rw [h6] at HEW2
          go_quiet (first | (go_at_call 30; exact Calls.quiet_of_same (HEA2.out _)) | (go_at_call 31; exact Calls.quiet_of (HEW2.out _)))
          go_wp2_with fail
          go_ret
          exact ⟨by rw [HE.out]; rfl, below_drewN (by go_grown) _⟩

end Go.Proofs.Ytahgddbladfemae
