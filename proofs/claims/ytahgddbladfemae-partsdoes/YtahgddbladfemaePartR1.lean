/-
  The walks over the document's answers of parts: F, Num, InPart, SameParts, HasID, Instead.
-/
import Derived.Test.YtahgddbladfemaePartW1
namespace Go.Proofs.Ytahgddbladfemae
open Go.RowKit
set_option linter.unusedVariables false

set_option maxRecDepth 100000 in
theorem rF_any (c a : Int) (w : World) : Calls Try.prog 11 #[.int .i64 c, .int .i64 a] w fun e w' => e = .returned (flt (c, a)) ∧ Below w.heap.size w w' := by
  go_enter Try.func11, Try.ntmps11
  go_wp2_with fail
  exact bodyPost_ret (v := flt (c, a)) (by simp [results, Try.results11, go_sem, flt]) rfl ⟨rfl, by go_grown⟩

set_option maxRecDepth 100000 in
set_option maxHeartbeats 400000 in
theorem rNum_any (n : Int) (w : World) : Calls Try.prog 13 #[.int .i64 n] w fun e w' => e = .returned (.bool (numB n)) ∧ w' = w := by
  by_cases h1 : 0 ≤ n
  · have hd : decide (0 ≤ n) = true := by simpa using h1
    go_enter Try.func13, Try.ntmps13
    go_wp2_with fail
    go_ret
    exact ⟨by simp [numB, h1], rfl⟩
  · have hd : decide (0 ≤ n) = false := by simpa using h1
    go_enter Try.func13, Try.ntmps13
    go_wp2_with fail
    go_ret
    exact ⟨by simp [numB]; omega, rfl⟩

set_option maxRecDepth 100000 in
set_option maxHeartbeats 400000 in
theorem InPart_any (p : Pt) (r : ByteArray) (w : World) : Calls Try.prog 12 #[.agg #[.string p.fr, .string p.to_, .int .i64 p.id], .string r] w fun e w' => e = .returned (.bool (inB r p.fr p.to_)) ∧ Below w.heap.size w w' := by
  cases h1 : Op.bytesLess r.toList p.fr.toList <;> cases h2 : p.to_.toList.isEmpty <;> cases h3 : Op.bytesLess r.toList p.to_.toList
  all_goals
    go_enter Try.func12, Try.ntmps12
    go_wp2_with fail
    go_ret
    exact ⟨by simp [inB, bLt, h1, h2, h3], by go_grown⟩

set_option maxRecDepth 100000 in
set_option maxHeartbeats 1000000 in
theorem SameParts_any (v u : Value) (l : List Pt) (w : World) (hv : RdG pE w v l) (hu : RdG pE w u l) :
    Calls Try.prog 10 #[v, u] w fun e w' => e = .returned (.bool true) ∧ Below w.heap.size w w' := by
  obtain ⟨ao, cap, hvv, hc1, hc2⟩ := hv.shape
  obtain ⟨bo, cbp, huu, hd1, hd2⟩ := hu.shape
  subst hvv huu
  unfold maxLen at hc2 hd2
  have hnb : ((l.length : Int) != l.length) = false := by simp
  go_enter Try.func10, Try.ntmps10
  go_wp2_with fail
  go_loopw [5] (fun i wr => ∃ k : Nat, k ≤ l.length ∧ i = .int .i64 k ∧ Below w.heap.size w wr)
    (fun i _ => l.length - (intOf i).toNat)
  case atStart => exact ⟨0, by omega, rfl, Below.refl _ _⟩
  case round =>
    obtain ⟨k, hk, rfl, hbel⟩ := hrel
    by_cases hlt : k < l.length
    · obtain ⟨p, hp⟩ : ∃ p, l[k]? = some p := ⟨_, List.getElem?_eq_getElem hlt⟩
      obtain ⟨b, off, rfl, hb, hat⟩ := hv.here hp
      obtain ⟨b2, off2, rfl, hb2, hat2⟩ := hu.here hp
      obtain ⟨c0, c1, c2⟩ := (hat.below hbel).part
      obtain ⟨d0, d1, d2⟩ := (hat2.below hbel).part
      have hk1 : (0 : Int) ≤ (k : Int) := by omega
      have hk2 : (k : Int) < (l.length : Int) := by omega
      clear hat hat2 hp hv hu
      go_wp2_with fail
      go_quiet (fail)
      go_wp2_with fail
      go_roundw
      case rel => exact ⟨k + 1, by omega, by go_num, below_drewN hbel _⟩
      case measure => simp [intOf]; omega
    · go_wp2_with fail
      go_ret
      exact ⟨rfl, hbel⟩

theorem hasIDGo_yes {at_ n : Nat} {id : Int} {p : Pt} {l : List Pt} {i : Nat} (h1 : p.id = id) (h2 : i < at_ ∨ at_ + n ≤ i) : hasIDGo at_ n id (p :: l) i = true := by
  rw [hasIDGo]
  rcases h2 with h2 | h2 <;> simp [h1, h2]

theorem hasIDGo_no {at_ n : Nat} {id : Int} {p : Pt} {l : List Pt} {i : Nat} (h : ¬ (p.id = id ∧ (i < at_ ∨ at_ + n ≤ i))) : hasIDGo at_ n id (p :: l) i = hasIDGo at_ n id l (i + 1) := by
  rw [hasIDGo]
  have : (decide (p.id = id) && (decide (i < at_) || decide (at_ + n ≤ i))) = false := by
    rw [Bool.eq_false_iff]
    intro hq
    apply h
    simpa using hq
  rw [this, Bool.false_or]

theorem drop_consG {α : Type} {l : List α} {i : Nat} {x : α} (h : l[i]? = some x) : l.drop i = x :: l.drop (i + 1) := by
  obtain ⟨hl, rfl⟩ := List.getElem?_eq_some_iff.1 h
  exact List.drop_eq_getElem_cons hl

set_option maxRecDepth 100000 in
set_option maxHeartbeats 1000000 in
theorem HasID_any (v : Value) (l : List Pt) (at_ n : Nat) (id : Int) (w : World) (hv : RdG pE w v l) (hab : at_ + n ≤ 1000000) :
    Calls Try.prog 14 #[v, .int .i64 at_, .int .i64 n, .int .i64 id] w fun e w' => e = .returned (.bool (hasID l at_ n id)) ∧ w' = w := by
  obtain ⟨ao, cap, hvv, hc1, hc2⟩ := hv.shape
  subst hvv
  unfold maxLen at hc2
  go_enter Try.func14, Try.ntmps14
  go_wp2_with fail
  go_loop [9] (fun i => ∃ k : Nat, k ≤ l.length ∧ i = .int .i64 k ∧ hasIDGo at_ n id (l.drop k) k = hasID l at_ n id)
    (fun i => l.length - (intOf i).toNat)
  case atStart => exact ⟨0, by omega, rfl, rfl⟩
  case round =>
    obtain ⟨k, hk, rfl, hgo⟩ := hrel
    have HG := hide hgo
    clear hgo
    by_cases hlt : k < l.length
    · obtain ⟨p, hp⟩ : ∃ p, l[k]? = some p := ⟨_, List.getElem?_eq_getElem hlt⟩
      obtain ⟨b, off, rfl, hb, hat⟩ := hv.here hp
      obtain ⟨c0, c1, c2⟩ := hat.part
      rw [drop_consG hp] at HG
      have hk1 : (0 : Int) ≤ (k : Int) := by omega
      have hk2 : (k : Int) < (l.length : Int) := by omega
      clear hat hp
      by_cases h1 : p.id = id
      · have h1b : (p.id == id) = true := by simp [h1]
        by_cases h2 : k < at_
        · have HE := hide (HG.out.symm.trans (hasIDGo_yes h1 (.inl h2)))
          have hd : decide ((k : Int) < (at_ : Int)) = true := decide_eq_true (by omega)
          clear h1
          go_wp2_with fail
          go_ret
          exact ⟨by rw [HE.out]; rfl, rfl⟩
        · have hd : decide ((k : Int) < (at_ : Int)) = false := decide_eq_false (by omega)
          by_cases h3 : at_ + n ≤ k
          · have HE := hide (HG.out.symm.trans (hasIDGo_yes h1 (.inr h3)))
            have hd2 : (at_ : Int) + (n : Int) ≤ (k : Int) := by omega
            clear h1
            go_wp2_with fail
            go_ret
            exact ⟨by rw [HE.out]; rfl, rfl⟩
          · have HE := hide (HG.out.symm.trans (hasIDGo_no (by omega)))
            have hd2 : ¬ (at_ : Int) + (n : Int) ≤ (k : Int) := by omega
            clear h1
            go_wp2_with fail
            go_round
            case rel => exact ⟨k + 1, by omega, by go_num, HE.out.symm⟩
            case measure => simp [intOf]; omega
      · have h1b : (p.id == id) = false := beq_eq_false_iff_ne.2 h1
        have HE := hide (HG.out.symm.trans (hasIDGo_no (fun h => h1 h.1)))
        clear h1
        go_wp2_with fail
        go_round
        case rel => exact ⟨k + 1, by omega, by go_num, HE.out.symm⟩
        case measure => simp [intOf]; omega
    · have hke : k = l.length := by omega
      subst hke
      rw [List.drop_length] at HG
      have HE : Hid (hasID l at_ n id = false) := hide HG.out.symm
      go_wp2_with fail
      go_ret
      exact ⟨by rw [HE.out]; rfl, rfl⟩

theorem take_snocG {α : Type} {l : List α} {i : Nat} {x : α} (h : l[i]? = some x) : l.take (i + 1) = l.take i ++ [x] := by
  obtain ⟨hl, rfl⟩ := List.getElem?_eq_some_iff.1 h
  exact List.take_succ_eq_append_getElem hl

theorem ownsShape3 {w : World} {base : Nat} {e : TypeId} {K : Nat} {v : Value} {n : Nat} {xs : List Value} (h : w.ownsRow base e K v n xs) : ∃ ao cap, v = .slice ao n cap := by
  rcases h.2 with ⟨rfl, hn⟩ | ⟨g, cap, cur, rfl, _⟩
  · exact ⟨none, 0, by rw [hn]⟩
  · exact ⟨_, _, rfl⟩

set_option maxRecDepth 100000 in
set_option maxHeartbeats 2000000 in
theorem Instead_any (v u : Value) (l os : List Pt) (a n : Nat) (w : World) (hv : RdG pE w v l) (hu : RdG pE w u os) (hab : a + n ≤ l.length) (hl : l.length ≤ 1000) (hol : os.length ≤ 1000) :
    Calls Try.prog 17 #[v, .int .i64 a, .int .i64 n, u] w fun e w' => ∃ v', e = .returned v' ∧ RdG pE w' v' (l.take a ++ os ++ l.drop (a + n)) ∧ Below w.heap.size w w' ∧ New w.heap.size v' := by
  obtain ⟨ao, cap, hvv, hc1, hc2⟩ := hv.shape
  obtain ⟨bo, cbp, huu, hd1, hd2⟩ := hu.shape
  subst hvv huu
  unfold maxLen at hc2 hd2
  go_enter Try.func17, Try.ntmps17
  go_wp2_with fail
  go_loopw [9, 10] (fun sv i wr => ∃ (k : Nat) (s : Value), k ≤ a ∧ i = .int .i64 k ∧ s = sv ∧ wr.ownsRow w.heap.size 34 3 s k (pE.vs (l.take k)) ∧ Below w.heap.size w wr)
    (fun _ i _ => a - (intOf i).toNat)
  case atStart => exact ⟨0, _, by omega, rfl, rfl, World.ownsRow_nil _ _ _ _, Below.refl _ _⟩
  case round =>
    obtain ⟨k, s, hk, rfl, rfl, hown, hbel⟩ := hrel
    have hbs := hbel.size
    obtain ⟨so, sc, hso⟩ := ownsShape3 hown
    subst hso
    by_cases hlt : k < a
    · obtain ⟨p, hp⟩ : ∃ p, l[k]? = some p := ⟨_, List.getElem?_eq_getElem (by omega)⟩
      obtain ⟨b, off, rfl, hb, hat⟩ := hv.here hp
      obtain ⟨c0, c1, c2⟩ := (hat.below hbel).part
      have HT := hide (take_snocG hp)
      have hk1 : (0 : Int) ≤ (k : Int) := by omega
      have hk2 : (k : Int) < (l.length : Int) := by omega
      have hk3 : k ≤ 100000000 := by omega
      clear hat hp
      go_wp2_with (at_builtin; go_must (refine wpList_append_oneG (E := pE) (c := p) hown rfl Try.underlying22 infoPart rfl rfl rfl rfl rfl hk3 (by decide) hbs ?_); intro v2 w2 hown2 hb2 hg2; clear hg2)
      go_roundw
      case rel => exact ⟨k + 1, _, by omega, by go_num, rfl, by rw [HT.out]; exact hown2, hbel.trans hb2⟩
      case measure => simp [intOf]; omega
    · have hke : k = a := by omega
      subst hke
      have h63 : k + os.length ≤ 1000000000 := by omega
      have hur := hu.below hbel
      go_wp2_with (at_builtin; go_must (refine wpList_append_rdG hown hur Try.underlying22 infoPart rfl rfl rfl rfl rfl h63 (by decide) hbs ?_); intro v2 w2 hown2 hb2 hg2; clear hg2)
      have hbel2 := hbel.trans hb2
      obtain ⟨so2, sc2, hso2⟩ := ownsShape3 hown2
      subst hso2
      clear hown hbel hb2 hur
      go_loopw [9, 11] (fun sv i wr => ∃ (j : Nat) (s : Value), k + n ≤ j ∧ j ≤ l.length ∧ i = .int .i64 j ∧ s = sv ∧ wr.ownsRow w.heap.size 34 3 s (k + os.length + (j - (k + n))) (pE.vs (l.take k ++ os ++ (l.drop (k + n)).take (j - (k + n)))) ∧ Below w.heap.size w wr)
        (fun _ i _ => l.length - (intOf i).toNat)
      case atStart => exact ⟨k + n, _, by omega, by omega, by go_num, rfl, by simpa using hown2, hbel2⟩
      case round =>
        obtain ⟨j, s, hj1, hj, rfl, rfl, hown, hbel⟩ := hrel
        have hbs := hbel.size
        obtain ⟨so, sc, hso⟩ := ownsShape3 hown
        subst hso
        by_cases hlt : j < l.length
        · obtain ⟨p, hp⟩ : ∃ p, l[j]? = some p := ⟨_, List.getElem?_eq_getElem (by omega)⟩
          obtain ⟨b, off, rfl, hb, hat⟩ := hv.here hp
          obtain ⟨c0, c1, c2⟩ := (hat.below hbel).part
          have HT := hide (show (l.drop (k + n)).take (j + 1 - (k + n)) = (l.drop (k + n)).take (j - (k + n)) ++ [p] by
            rw [show j + 1 - (k + n) = (j - (k + n)) + 1 by omega]
            exact take_snocG (by rw [List.getElem?_drop, show k + n + (j - (k + n)) = j by omega, hp]))
          have hk1 : (0 : Int) ≤ (j : Int) := by omega
          have hk2 : (j : Int) < (l.length : Int) := by omega
          have hk3 : k + os.length + (j - (k + n)) ≤ 100000000 := by omega
          clear hat hp
          go_wp2_with (at_builtin; go_must (refine wpList_append_oneG (E := pE) (c := p) hown rfl Try.underlying22 infoPart rfl rfl rfl rfl rfl hk3 (by decide) hbs ?_); intro v2 w2 hown2 hb2 hg2; clear hg2)
          go_roundw
          case rel => exact ⟨j + 1, _, by omega, by omega, by go_num, rfl, by rw [HT.out, ← List.append_assoc, show k + os.length + (j + 1 - (k + n)) = k + os.length + (j - (k + n)) + 1 by omega]; exact hown2, hbel.trans hb2⟩
          case measure => simp [intOf]; omega
        · have hje : j = l.length := by omega
          subst hje
          rw [show (l.drop (k + n)).take (l.length - (k + n)) = l.drop (k + n) from List.take_of_length_le (by simp)] at hown
          go_wp2_with fail
          go_ret
          exact ⟨_, rfl, RdG.ofOwns hown, hbel, New.owns hown⟩

end Go.Proofs.Ytahgddbladfemae
