/-
  Texts joined: AsW5.
-/
import Derived.Test.YtoeobhehjnkkkaaMLocateDoesAsW4
import Derived.Test.YtoeobhehjnkkkaaMLocateDoes4
/-
  The walks over package assign's small functions of hosts and slots.
-/
namespace Go.Proofs.Ytoeobhehjnkkkaa
open Go.RowKit Go.Maps
set_option linter.unusedVariables false

/-- The first of a list that f says yes to, from the i-th on. -/
def idxP {α : Type} (f : α → Bool) : List α → Nat → Option Nat
  | [], _ => none
  | x :: r, i => if f x = true then some i else idxP f r (i + 1)

theorem idxP_yes {α : Type} {f : α → Bool} {x : α} {r : List α} {i : Nat} (h : f x = true) : idxP f (x :: r) i = some i := by rw [idxP, if_pos h]
theorem idxP_no {α : Type} {f : α → Bool} {x : α} {r : List α} {i : Nat} (h : f x = false) : idxP f (x :: r) i = idxP f r (i + 1) := by rw [idxP, if_neg (by simp [h])]

theorem idxP_some {α : Type} {f : α → Bool} : ∀ {l : List α} {i k : Nat}, idxP f l i = some k → ∃ x, i ≤ k ∧ l[k - i]? = some x ∧ f x = true ∧ ∀ j y, j < k - i → l[j]? = some y → f y = false
  | [], _, _, h => by simp [idxP] at h
  | x :: r, i, k, h => by
    cases hx : f x
    · rw [idxP_no hx] at h
      obtain ⟨y, h1, h2, h3, h4⟩ := idxP_some h
      refine ⟨y, by omega, ?_, h3, fun j z hj hz => ?_⟩
      · rw [show k - i = (k - (i + 1)) + 1 by omega]; exact h2
      · cases j with
        | zero => simp at hz; rw [← hz]; exact hx
        | succ j => exact h4 j z (by omega) hz
    · rw [idxP_yes hx] at h
      cases h
      exact ⟨x, Nat.le_refl _, by simp, hx, fun j z hj => by omega⟩

/-- The place of the host, of the slot of an ID. -/
def idxH (l : List Ho) (id : Int) : Option Nat := idxP (fun h => decide (h.id = id)) l 0
def idxS (l : List Sl) (id : Int) : Option Nat := idxP (fun s => decide (s.p.id = id)) l 0

theorem idxH_some {l : List Ho} {id : Int} {k : Nat} (h : idxH l id = some k) : ∃ x, l[k]? = some x ∧ x.id = id := by
  obtain ⟨x, _, h2, h3, _⟩ := idxP_some h
  exact ⟨x, by simpa using h2, by simpa using h3⟩

theorem idxS_some {l : List Sl} {id : Int} {k : Nat} (h : idxS l id = some k) : ∃ x, l[k]? = some x ∧ x.p.id = id := by
  obtain ⟨x, _, h2, h3, _⟩ := idxP_some h
  exact ⟨x, by simpa using h2, by simpa using h3⟩

/-- A pointer to an element of a row of one's own; nil. -/
def elP (v : Value) (K : Nat) : Option Nat → Value
  | none => .pointer none
  | some i => match v with
    | .slice (some a) _ _ => .pointer (some ⟨a.block, i * K, none⟩)
    | _ => .pointer none

theorem elP_none (v : Value) (K : Nat) : elP v K none = .pointer none := rfl
theorem elP_some (g : Nat) (n c K i : Nat) : elP (.slice (some ⟨g, 0, none⟩) n c) K (some i) = .pointer (some ⟨g, i * K, none⟩) := rfl

/-- A board in memory. -/
structure BdAt (w : World) (base B : Nat) (b : Bd) (hv sv : Value) : Prop where
  blk : Blk w B 80 #[hv, sv, .int .i64 b.tu, .int .i64 b.nx]
  hos : w.ownsRow base 42 3 hv b.hs.length (hoE.vs b.hs)
  slo : w.ownsRow base 46 6 sv b.sl.length (slE.vs b.sl)
  low : base ≤ B

theorem owns_laterA {w w' : World} {base : Nat} {e : TypeId} {K : Nat} {v : Value} {n : Nat} {xs : List Value} (h : w.ownsRow base e K v n xs) (hb : Below w.heap.size w w') : w'.ownsRow base e K v n xs := by
  refine ⟨h.1, ?_⟩
  rcases h.2 with hn | ⟨g, cap, cur, rfl, h1, h2, r⟩
  · exact .inl hn
  · exact .inr ⟨g, cap, cur, rfl, h1, by rw [hb.block _ (Array.getElem?_eq_some_iff.1 h2).1]; exact h2, r⟩

theorem BdAt.later {w w' : World} {base B : Nat} {b : Bd} {hv sv : Value} (h : BdAt w base B b hv sv) (hb : Below w.heap.size w w') : BdAt w' base B b hv sv :=
  ⟨h.blk.later hb, owns_laterA h.hos hb, owns_laterA h.slo hb, h.low⟩

/-- Where an element of a row of one's own lies. -/
theorem owns_here {α : Type} {K : Nat} {E : En α K} {w : World} {base : Nat} {e : TypeId} {v : Value} {n : Nat} {cs : List α} (h : w.ownsRow base e K v n (E.vs cs)) {i : Nat} {c : α} (hi : cs[i]? = some c) :
    ∃ g cap, v = .slice (some ⟨g, 0, none⟩) n cap ∧ base ≤ g ∧ g < w.heap.size ∧ AtG E w g (i * K) c := by
  have hr := RdG.ofOwns h
  rcases h.2 with ⟨rfl, rfl, hz⟩ | ⟨g, cap, cur, rfl, h1, h2, _⟩
  · have hl := (List.getElem?_eq_some_iff.1 hi).1
    have h0 := h.1
    rw [vs_length] at h0
    have := E.pos
    have : cs.length * K = 0 := by omega
    rcases Nat.mul_eq_zero.1 this with q | q <;> omega
  · obtain ⟨b, off, hq, hb, hat⟩ := hr.here hi
    simp only [Option.some.injEq, Addr.mk.injEq] at hq
    obtain ⟨rfl, rfl, _⟩ := hq
    refine ⟨g, cap, rfl, h1, (Array.getElem?_eq_some_iff.1 h2).1, ?_⟩
    simpa using hat

set_option maxRecDepth 100000 in
set_option maxHeartbeats 1000000 in
theorem host_any (base B : Nat) (b : Bd) (hv sv : Value) (id : Int) (w : World) (h : BdAt w base B b hv sv) (hl : b.hs.length ≤ 1000) :
    Calls Try.prog 88 #[.pointer (some ⟨B, 0, none⟩), .int .i64 id] w fun e w' => e = .returned (elP hv 3 (idxH b.hs id)) ∧ w' = w := by
  have HH := hide h.hos
  obtain ⟨ah, ch, rfl⟩ := owns_shapeA h.hos
  obtain ⟨as_, cs, rfl⟩ := owns_shapeA h.slo
  have b0 := h.blk.cell 0
  have bl := h.blk.lt
  simp at b0
  clear h
  go_enter Try.func88, Try.ntmps88
  go_wp2_with fail
  go_loop [12] (fun iv => ∃ (j : Nat), j ≤ b.hs.length ∧ iv = .int .i64 j ∧ idxP (fun h => decide (h.id = id)) (b.hs.drop j) j = idxH b.hs id)
    (fun iv => b.hs.length - (intOf iv).toNat)
  case atStart => exact ⟨0, by omega, rfl, rfl⟩
  case round =>
    obtain ⟨j, hj, rfl, hgo⟩ := hrel
    have HG := hide hgo
    clear hgo
    by_cases hlt : j < b.hs.length
    · obtain ⟨x, hx⟩ : ∃ x, b.hs[j]? = some x := ⟨_, List.getElem?_eq_getElem hlt⟩
      obtain ⟨g, cap, hve, hg1, hg2, hat⟩ := owns_here HH.out hx
      simp only [Value.slice.injEq] at hve
      obtain ⟨rfl, _, rfl⟩ := hve
      obtain ⟨c0, c1, c2⟩ := hat.host
      rw [drop_consI hx] at HG
      have hk1 : (0 : Int) ≤ (j : Int) := by omega
      have hk2 : (j : Int) < (b.hs.length : Int) := by omega
      clear hat hx c1 c2
      by_cases hid : x.id = id
      · have q1 : (x.id == id) = true := by simp [hid]
        have HE := hide (HG.out.symm.trans (idxP_yes (by simp [hid])))
        clear hid
        go_wp2_with fail
        go_ret
        exact ⟨by rw [HE.out]; rfl, rfl⟩
      · have q1 : (x.id == id) = false := beq_eq_false_iff_ne.2 hid
        have HE := hide ((idxP_no (r := b.hs.drop (j + 1)) (i := j) (f := fun h => decide (h.id = id)) (x := x) (by simp [hid])).symm.trans HG.out)
        clear hid
        go_wp2_with fail
        go_round
        case rel => exact ⟨j + 1, by omega, by go_num, HE.out⟩
        case measure => simp [intOf]; omega
    · have hje : j = b.hs.length := by omega
      subst hje
      rw [List.drop_length] at HG
      have HE := hide HG.out.symm
      go_wp2_with fail
      go_ret
      exact ⟨by rw [HE.out]; rfl, rfl⟩

end Go.Proofs.Ytoeobhehjnkkkaa
