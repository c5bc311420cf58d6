/-
  Texts joined: PartR1.
-/
import Derived.Test.YtoeobhehjnkkkaaMLocateDoes4
/-
  The walks over the document's answers of parts: F, Num, InPart, SameParts, HasID, Instead.
-/
namespace Go.Proofs.Ytoeobhehjnkkkaa
open Go.RowKit
set_option linter.unusedVariables false

set_option maxRecDepth 100000 in
theorem rF_any (c a : Int) (w : World) : Calls Try.prog 11 #[.int .i64 c, .int .i64 a] w fun e w' => e = .returned (flt (c, a)) ∧ Below w.heap.size w w' := by
  go_enter Try.func11, Try.ntmps11
  go_wp2_with fail
  exact bodyPost_ret (v := flt (c, a)) (by simp [results, Try.results11, go_sem, flt]) rfl ⟨rfl, by go_grown⟩

set_option maxRecDepth 100000 in
set_option maxHeartbeats 400000 in
theorem rNum_any (n : Int) (w : World) : Calls Try.prog 42 #[.int .i64 n] w fun e w' => e = .returned (.bool (numB n)) ∧ w' = w := by
  by_cases h1 : 0 ≤ n
  · have hd : decide (0 ≤ n) = true := by simpa using h1
    go_enter Try.func42, Try.ntmps42
    go_wp2_with fail
    go_ret
    exact ⟨by simp [numB, h1], rfl⟩
  · have hd : decide (0 ≤ n) = false := by simpa using h1
    go_enter Try.func42, Try.ntmps42
    go_wp2_with fail
    go_ret
    exact ⟨by simp [numB]; omega, rfl⟩

set_option maxRecDepth 100000 in
set_option maxHeartbeats 400000 in
theorem InPart_any (p : Pt) (r : ByteArray) (w : World) : Calls Try.prog 18 #[.agg #[.string p.fr, .string p.to_, .int .i64 p.id], .string r] w fun e w' => e = .returned (.bool (inB r p.fr p.to_)) ∧ Below w.heap.size w w' := by
  cases h1 : Op.bytesLess r.toList p.fr.toList <;> cases h2 : p.to_.toList.isEmpty <;> cases h3 : Op.bytesLess r.toList p.to_.toList
  all_goals
    go_enter Try.func18, Try.ntmps18
    go_wp2_with fail
    go_ret
    exact ⟨by simp [inB, bLt, h1, h2, h3], by go_grown⟩


theorem hasIDGo_yes {at_ n : Nat} {id : Int} {p : Pt} {l : List Pt} {i : Nat} (h1 : p.id = id) (h2 : i < at_ ∨ at_ + n ≤ i) : hasIDGo at_ n id (p :: l) i = true := by
  rw [hasIDGo]
  rcases h2 with h2 | h2 <;> simp [h1, h2]

theorem hasIDGo_no {at_ n : Nat} {id : Int} {p : Pt} {l : List Pt} {i : Nat} (h : ¬ (p.id = id ∧ (i < at_ ∨ at_ + n ≤ i))) : hasIDGo at_ n id (p :: l) i = hasIDGo at_ n id l (i + 1) := by
  rw [hasIDGo]
  have : (decide (p.id = id) && (decide (i < at_) || decide (at_ + n ≤ i))) = false := by
    rw [Bool.eq_false_iff]
    intro hq
    apply h
    simpa using hq
  rw [this, Bool.false_or]

theorem drop_consG {α : Type} {l : List α} {i : Nat} {x : α} (h : l[i]? = some x) : l.drop i = x :: l.drop (i + 1) := by
  obtain ⟨hl, rfl⟩ := List.getElem?_eq_some_iff.1 h
  exact List.drop_eq_getElem_cons hl


theorem take_snocG {α : Type} {l : List α} {i : Nat} {x : α} (h : l[i]? = some x) : l.take (i + 1) = l.take i ++ [x] := by
  obtain ⟨hl, rfl⟩ := List.getElem?_eq_some_iff.1 h
  exact List.take_succ_eq_append_getElem hl

theorem ownsShape3 {w : World} {base : Nat} {e : TypeId} {K : Nat} {v : Value} {n : Nat} {xs : List Value} (h : w.ownsRow base e K v n xs) : ∃ ao cap, v = .slice ao n cap := by
  rcases h.2 with ⟨rfl, hn⟩ | ⟨g, cap, cur, rfl, _⟩
  · exact ⟨none, 0, by rw [hn]⟩
  · exact ⟨_, _, rfl⟩


end Go.Proofs.Ytoeobhehjnkkkaa
