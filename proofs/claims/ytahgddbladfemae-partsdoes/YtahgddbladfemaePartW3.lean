/-
  The walks over lists of ints that are searched, parts.rowFault and idFault.
-/
import Derived.Test.YtahgddbladfemaePartW2
namespace Go.Proofs.Ytahgddbladfemae
open Go.RowKit Go.Maps
set_option linter.unusedVariables false

/-- The first that f says yes to, from the i-th on; or -1. -/
def fixGo (f : Int → Bool) : List Int → Nat → Int
  | [], _ => -1
  | x :: r, i => if f x = true then (i : Int) else fixGo f r (i + 1)

theorem fixGo_yes {f : Int → Bool} {x : Int} {r : List Int} {i : Nat} (h : f x = true) : fixGo f (x :: r) i = i := by rw [fixGo, if_pos h]
theorem fixGo_no {f : Int → Bool} {x : Int} {r : List Int} {i : Nat} (h : f x = false) : fixGo f (x :: r) i = fixGo f r (i + 1) := by rw [fixGo, if_neg (by simp [h])]

theorem fixGo_any {f : Int → Bool} : ∀ {r : List Int} {i : Nat}, decide (0 ≤ fixGo f r i) = r.any f
  | [], _ => rfl
  | x :: r, i => by
    cases h : f x
    · rw [fixGo_no h, fixGo_any, List.any_cons, h, Bool.false_or]
    · rw [fixGo_yes h, List.any_cons, h, Bool.true_or]
      simp

theorem drop_consI {α : Type} {l : List α} {i : Nat} {x : α} (h : l[i]? = some x) : l.drop i = x :: l.drop (i + 1) := by
  obtain ⟨hl, rfl⟩ := List.getElem?_eq_some_iff.1 h
  exact List.drop_eq_getElem_cons hl

/-- An int of a list, where it lies. -/
theorem Rd.hereI {w : World} {ao : Option Addr} {n cap : Nat} {zs : List Int} (h : Rd w (.slice ao n cap) (ic zs)) {i : Nat} {x : Int} (hi : zs[i]? = some x) :
    ∃ b off, ao = some ⟨b, off, none⟩ ∧ b < w.heap.size ∧ w.cell? ⟨b, off + i, none⟩ = some (.int .i64 x) := by
  have hl := (List.getElem?_eq_some_iff.1 hi).1
  obtain ⟨b, off, cap', hv, _, _, hb, hc⟩ := h.pos (by rw [ic_length]; omega)
  simp only [Value.slice.injEq] at hv
  obtain ⟨rfl, _, _⟩ := hv
  exact ⟨b, off, rfl, hb, hc i _ (by simp [ic, hi])⟩

set_option maxRecDepth 100000 in
set_option maxHeartbeats 400000 in
theorem idWrong_any (n : Int) (w : World) : Calls Try.prog 25 #[.int .i64 n] w fun e w' => e = .returned (.bool (!numB n)) ∧ w' = w := by
  go_enter Try.func25, Try.ntmps25
  go_wp2_with (go_at_call 26; refine (vIsNum_any _ _).mono ?_; rintro e w' ⟨rfl, rfl⟩)
  go_ret
  exact ⟨rfl, rfl⟩

set_option maxRecDepth 100000 in
set_option maxHeartbeats 1000000 in
theorem IndexFuncI_any (v : Value) (zs : List Int) (w : World) (hv : Rd w v (ic zs)) :
    Calls Try.prog 32 #[v, .func (.func 25) #[] #[]] w fun e w' => e = .returned (.int .i64 (fixGo (fun x => !numB x) zs 0)) ∧ w' = w := by
  obtain ⟨ao, cap, hvv, hc1, hc2⟩ := hv.shape
  rw [ic_length] at hvv hc1
  subst hvv
  unfold maxLen at hc2
  go_enter Try.func32, Try.ntmps32
  go_wp2_with fail
  go_loop [8] (fun iv => ∃ (j : Nat), j ≤ zs.length ∧ iv = .int .i64 j ∧ fixGo (fun x => !numB x) (zs.drop j) j = fixGo (fun x => !numB x) zs 0)
    (fun iv => zs.length - (intOf iv).toNat)
  case atStart => exact ⟨0, by omega, rfl, rfl⟩
  case round =>
    obtain ⟨j, hj, rfl, hgo⟩ := hrel
    have HG := hide hgo
    clear hgo
    by_cases hlt : j < zs.length
    · obtain ⟨x, hx⟩ : ∃ x, zs[j]? = some x := ⟨_, List.getElem?_eq_getElem hlt⟩
      obtain ⟨b, off, rfl, hb, hc⟩ := hv.hereI hx
      rw [drop_consI hx] at HG
      have hk1 : (0 : Int) ≤ (j : Int) := by omega
      have hk2 : (j : Int) < (zs.length : Int) := by omega
      clear hx
      cases hq : numB x
      · have HE := hide (HG.out.symm.trans (fixGo_yes (by rw [hq]; rfl)))
        go_wp2_with (go_at_call 25; refine (idWrong_any _ _).mono ?_; rintro e w' ⟨rfl, rfl⟩; rw [hq])
        go_ret
        exact ⟨by rw [HE.out]; rfl, rfl⟩
      · have HE := hide (HG.out.symm.trans (fixGo_no (by rw [hq]; rfl)))
        go_wp2_with (go_at_call 25; refine (idWrong_any _ _).mono ?_; rintro e w' ⟨rfl, rfl⟩; rw [hq])
        go_round
        case rel => exact ⟨j + 1, by omega, by go_num, HE.out.symm⟩
        case measure => simp [intOf]; omega
    · have hje : j = zs.length := by omega
      subst hje
      rw [List.drop_length] at HG
      have HE : Hid (fixGo (fun x => !numB x) zs 0 = -1) := hide HG.out.symm
      go_wp2_with fail
      go_ret
      exact ⟨by rw [HE.out]; rfl, rfl⟩

set_option maxRecDepth 100000 in
set_option maxHeartbeats 400000 in
theorem ContainsFuncI_any (v : Value) (zs : List Int) (w : World) (hv : Rd w v (ic zs)) :
    Calls Try.prog 27 #[v, .func (.func 25) #[] #[]] w fun e w' => e = .returned (.bool (zs.any fun x => !numB x)) ∧ w' = w := by
  go_enter Try.func27, Try.ntmps27
  go_wp2_with fail
  refine (IndexFuncI_any _ zs _ hv).mono ?_
  rintro e w1 ⟨rfl, rfl⟩
  go_wp2_with fail
  go_ret
  exact ⟨by rw [← fixGo_any (i := 0)]; rfl, rfl⟩

set_option maxRecDepth 100000 in
set_option maxHeartbeats 1000000 in
theorem IndexI_any (v : Value) (zs : List Int) (y : Int) (w : World) (hv : Rd w v (ic zs)) :
    Calls Try.prog 33 #[v, .int .i64 y] w fun e w' => e = .returned (.int .i64 (fixGo (fun x => y == x) zs 0)) ∧ w' = w := by
  obtain ⟨ao, cap, hvv, hc1, hc2⟩ := hv.shape
  rw [ic_length] at hvv hc1
  subst hvv
  unfold maxLen at hc2
  go_enter Try.func33, Try.ntmps33
  go_wp2_with fail
  go_loop [8] (fun iv => ∃ (j : Nat), j ≤ zs.length ∧ iv = .int .i64 j ∧ fixGo (fun x => y == x) (zs.drop j) j = fixGo (fun x => y == x) zs 0)
    (fun iv => zs.length - (intOf iv).toNat)
  case atStart => exact ⟨0, by omega, rfl, rfl⟩
  case round =>
    obtain ⟨j, hj, rfl, hgo⟩ := hrel
    have HG := hide hgo
    clear hgo
    by_cases hlt : j < zs.length
    · obtain ⟨x, hx⟩ : ∃ x, zs[j]? = some x := ⟨_, List.getElem?_eq_getElem hlt⟩
      obtain ⟨b, off, rfl, hb, hc⟩ := hv.hereI hx
      rw [drop_consI hx] at HG
      have hk1 : (0 : Int) ≤ (j : Int) := by omega
      have hk2 : (j : Int) < (zs.length : Int) := by omega
      clear hx
      cases hq : (y == x)
      · have HE := hide (HG.out.symm.trans (fixGo_no hq))
        go_wp2_with fail
        go_round
        case rel => exact ⟨j + 1, by omega, by go_num, HE.out.symm⟩
        case measure => simp [intOf]; omega
      · have HE := hide (HG.out.symm.trans (fixGo_yes hq))
        go_wp2_with fail
        go_ret
        exact ⟨by rw [HE.out]; rfl, rfl⟩
    · have hje : j = zs.length := by omega
      subst hje
      rw [List.drop_length] at HG
      have HE : Hid (fixGo (fun x => y == x) zs 0 = -1) := hide HG.out.symm
      go_wp2_with fail
      go_ret
      exact ⟨by rw [HE.out]; rfl, rfl⟩

set_option maxRecDepth 100000 in
set_option maxHeartbeats 400000 in
theorem ContainsI_any (v : Value) (zs : List Int) (y : Int) (w : World) (hv : Rd w v (ic zs)) :
    Calls Try.prog 28 #[v, .int .i64 y] w fun e w' => e = .returned (.bool (zs.any fun x => y == x)) ∧ w' = w := by
  go_enter Try.func28, Try.ntmps28
  go_wp2_with fail
  refine (IndexI_any _ zs y _ hv).mono ?_
  rintro e w1 ⟨rfl, rfl⟩
  go_wp2_with fail
  go_ret
  exact ⟨by rw [← fixGo_any (i := 0)]; rfl, rfl⟩

/-- Why a part can't be split at a row. -/
def rowF (p : Pt) (row : ByteArray) : Int × Int :=
  if 40 < row.size then (8, -2) else if row.toList = p.fr.toList ∨ inB row p.fr p.to_ = false then (5, -2) else (0, 0)

set_option maxRecDepth 100000 in
set_option maxHeartbeats 1000000 in
theorem rowFault_any (p : Pt) (row : ByteArray) (w : World) :
    Calls Try.prog 20 #[.agg #[.string p.fr, .string p.to_, .int .i64 p.id], .string row] w fun e w' => e = .returned (flt (rowF p row)) ∧ Below w.heap.size w w' := by
  by_cases h1 : 40 < row.size
  · have HE := hide (show rowF p row = (8, -2) by simp [rowF, h1])
    go_enter Try.func20, Try.ntmps20
    go_wp2_with fail
    exact bodyPost_ret (v := flt (8, -2)) (by simp [results, Try.results20, go_sem, flt]) rfl ⟨by rw [HE.out], by go_grown⟩
  · have HR := hide (show rowF p row = if row.toList = p.fr.toList ∨ inB row p.fr p.to_ = false then (5, -2) else (0, 0) by simp [rowF, h1])
    cases h2 : (row.toList == p.fr.toList)
    · have h2' : ¬ row.toList = p.fr.toList := by simpa using h2
      cases h3 : inB row p.fr p.to_
      · have HE := hide (HR.out.trans (if_pos (.inr h3)))
        clear h2'
        go_enter Try.func20, Try.ntmps20
        go_wp2_with (go_at_call 24; refine (vIsBetween_any _ _ _ _).mono ?_; rintro e w' ⟨rfl, rfl⟩; rw [h3])
        exact bodyPost_ret (v := flt (5, -2)) (by simp [results, Try.results20, go_sem, flt]) rfl ⟨by rw [HE.out], by go_grown⟩
      · have HE := hide (HR.out.trans (if_neg (by rw [h3]; simpa using h2')))
        clear h2'
        go_enter Try.func20, Try.ntmps20
        go_wp2_with (go_at_call 24; refine (vIsBetween_any _ _ _ _).mono ?_; rintro e w' ⟨rfl, rfl⟩; rw [h3])
        exact bodyPost_ret (v := flt (0, 0)) (by simp [results, Try.results20, go_sem, flt]) rfl ⟨by rw [HE.out], by go_grown⟩
    · have HE := hide (HR.out.trans (if_pos (.inl (by simpa using h2))))
      go_enter Try.func20, Try.ntmps20
      go_wp2_with fail
      exact bodyPost_ret (v := flt (5, -2)) (by simp [results, Try.results20, go_sem, flt]) rfl ⟨by rw [HE.out], by go_grown⟩

end Go.Proofs.Ytahgddbladfemae
