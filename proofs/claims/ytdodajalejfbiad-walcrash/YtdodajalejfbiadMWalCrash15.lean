/-
  Texts joined: RangeOwn, WalI1, WalL1, WalL2, WalL3, WalC1.
-/
import Derived.Test.YtdodajalejfbiadMWalCrash14
import Derived.RangeFuncNested
import Derived.RangeFuncBound
import Derived.RangeFuncCalls
import Derived.RangeFuncLeaves
import Derived.Shelf.Abstract
import Derived.Shelf.RegionOpen
import Derived.WalkKit
import Derived.OwnWalkIn
import Derived.TacticsInMore
import Derived.LoopNIn
import Derived.LoopIn
import Derived.Sort.CutIn
import Derived.Stop.RegionWithIn
import Derived.Maps.OwnIn
/-
  A range over a function whose iterator keeps cells of its own, and whose body keeps a row of its own: the caller's law. Nothing of a program stands here.
-/
namespace Go.Proofs.Ytdodajalejfbiad
open Go.RowKit Go.Shelf

variable {F : Fence} {n : Nat} {P : Program}

/-- What the caller says abides the iterator's own two blocks. -/
def AbI {α : Type} (B : Nat) (J : List α → Option Nat → World → Prop) : Prop :=
  ∀ s g A A' row, J s g A → A.grownBy A' row → (∀ r, row = some r → r = B + 1 ∨ r = B + 2) → J s g A'

/-- The contract of an iterator that lays two blocks of its own behind the first. -/
def SeqG {α : Type} (F : Fence) (n : Nat) (P : Program) (gf : Nat) (lb : Array Value) (encs : α → Array Value) (Ok : List α → α → Option Nat → World → Prop) (Kp : Option Nat → World → World → Prop) (S Sp : List α → Prop) (w : World) : Prop :=
  ∀ (l : Nat) (J Jx : List α → Option Nat → World → Prop) (W : World), Below w.heap.size w W → W.heap.size = w.heap.size + 2 → AbI W.heap.size J → AbI W.heap.size Jx →
    (∀ s g A, J s g A → ∀ k, g = some k → W.heap.size + 3 ≤ k ∧ k < A.heap.size) →
    (∀ pre x g A, J pre g A → Ok pre x g A → W.heap.size + 3 ≤ A.heap.size → YieldAt F (n - 1) P l (encs x) A fun e A' =>
      (e = .returned (.bool true) ∧ (∃ g', J (pre ++ [x]) g' A') ∧ Kp g A A') ∨ (e = .returned (.bool false) ∧ ∃ g', Jx (pre ++ [x]) g' A')) →
    J [] none W →
    CallsIn F n P gf (#[.func (.yield l) #[] #[]] ++ lb) W fun e W' => (∃ v, e = .returned v) ∧ ((∃ xs g, S xs ∧ J xs g W') ∨ (∃ pre g, Sp pre ∧ Jx pre g W'))

/-- What the caller says abides the five blocks that the loop and the iterator lay. -/
def OwnG {α : Type} (B : Nat) (I : List α → Option Nat → World → Prop) : Prop :=
  ∀ s g A A' row, I s g A → A.grownBy A' row → (∀ r, row = some r → B ≤ r ∧ r < B + 5) → I s g A'

theorem OwnG.putObj {α : Type} {B : Nat} {I : List α → Option Nat → World → Prop} (h : OwnG B I) {s : List α} {g : Option Nat} {W : World} {l : Nat} (o' : Obj) (hs : I s g W) (hB : B ≤ l) (hB2 : l < B + 5) : I s g (W.putObj l o') :=
  h s g W _ (some l) hs (grownBy_putObj' W l o') (fun r e => by cases e; exact ⟨hB, hB2⟩)
theorem OwnG.alloc {α : Type} {B : Nat} {I : List α → Option Nat → World → Prop} (h : OwnG B I) {s : List α} {g : Option Nat} {W : World} (o : Obj) (hs : I s g W) : I s g (W.alloc o) :=
  h s g W _ none hs (World.grownBy_alloc W o none) (fun r e => by cases e)

/-- How the body of a round may be left. -/
def ownPostS {α : Type} (B : Nat) (Kp : Option Nat → World → World → Prop) (I : List α → Option Nat → World → Prop) (Ix : Code → List α → Option Nat → World → Prop) (xs : List α) (g : Option Nat) (W : World) : Exit → Act → World → Prop
  | .normal, _, W' => KeepsFrom B W W' ∧ Kp g W W' ∧ ∃ g', I xs g' W'
  | .ret, _, W' => KeepsFrom B W W' ∧ ∃ g', Ix .ret xs g' W'
  | .exit id, _, W' => KeepsFrom B W W' ∧ ∃ g', Ix (.exit id) xs g' W'
  | .goto t, _, W' => KeepsFrom B W W' ∧ ∃ g', Ix (.goto t) xs g' W'
  | .panic _, _, _ => False
  | .outgrown, _, _ => False

theorem wpIn_rangeFunc_st {α : Type} {g : Operand} {ps : Array Tmp} {assign body : Code} {Q : Exit → Act → World → Prop} {a : Act} {w : World}
    (hro : F.round = none) (h1 : 1 ≤ n) {gf : Nat} {lb : Array Value} (hg : a.eval g = .func (.func gf) #[] lb) (hFg : F.fn gf) (eg : ∀ args w, (callFunc gf args).run P w = .ok (.enter gf args) w)
    {encs : α → Array Value} {Ok : List α → α → Option Nat → World → Prop} {Kp : Option Nat → World → World → Prop} {S Sp : List α → Prop} (hseq : SeqG F (n - 1) P gf lb encs Ok Kp S Sp w)
    (hKt : ∀ {g : Option Nat} {A B C : World}, Kp g A B → Kp g B C → Kp g A C) (hKb : ∀ (g : Option Nat) (W : World) (l : Nat) (o o' : Obj), W.heap[l]? = some o → o.isCells = false → Kp g W (W.putObj l o')) (hps : ∀ x, (encs x).size = ps.size)
    (I : List α → Option Nat → World → Prop) (Ix : Code → List α → Option Nat → World → Prop) (hI : OwnG w.heap.size I) (hIx : ∀ c, OwnG w.heap.size (Ix c)) (h0 : I [] none w)
    (hgI : ∀ s g A, I s g A → ∀ k, g = some k → w.heap.size + 5 ≤ k ∧ k < A.heap.size)
    (Ax : List α → α → Option Nat → Act → World → Prop) (hAx : ∀ pre x g a' W l o', w.heap.size ≤ l → l < w.heap.size + 5 → Ax pre x g a' W → Ax pre x g a' (W.putObj l o'))
    (hassign : ∀ (l : Nat) (pre : List α) (x : α) (g : Option Nat) (W : World) (K : Act → World → Prop), I pre g W → Ok pre x g W → w.heap.size + 5 ≤ W.heap.size → (∀ a' W', KeepsFrom w.heap.size W W' → Kp g W W' → I pre g W' → Ax pre x g a' W' → K a' W') →
      assign.wpIn (F.inRound l) (n - 1 - 1) P (Exit.then K (fun _ _ _ => False)) { tmps := (ps.zip (encs x)).foldl (fun t (p, v) => t.setIfInBounds p v) a.tmps, defers := [] } W)
    (hbody : ∀ (l : Nat) (pre : List α) (x : α) (g : Option Nat) (a' : Act) (W : World), I pre g W → Ax pre x g a' W → body.wpIn (F.inRound l) (n - 1 - 1) P (ownPostS w.heap.size Kp I Ix (pre ++ [x]) g W) a' W)
    (hdone : ∀ (D : Nat) (xs : List α) (g : Option Nat) (W : World), w.heap.size ≤ D → D < w.heap.size + 5 → S xs → I xs g W → W.heap[D]? = some (.deferred (some [])) → Q .normal { a with defers := { target := .collected D, args := #[] } :: a.defers } W)
    (hstop : ∀ (D : Nat) (c : Code) (pre : List α) (g : Option Nat) (W : World), w.heap.size ≤ D → D < w.heap.size + 5 → Sp pre → Ix c pre g W → W.heap[D]? = some (.deferred (some [])) → c.wpIn F n P Q { a with defers := { target := .collected D, args := #[] } :: a.defers } W) :
    (Code.rangeFunc g ps assign body).wpIn F n P Q a w := by
  refine wpIn_rangeFunc ?_
  intro fn hfn
  rw [hro]
  obtain ⟨rec, hrec⟩ : ∃ rec : LoopState → Option Code → Loop, rec = fun st pe => { state := st, pending := pe, fn, tmps := a.tmps, params := ps, assign, body, defers := w.heap.size } := ⟨_, rfl⟩
  obtain ⟨W1, hW1⟩ : ∃ W1, (w.alloc (.deferred (some []))).alloc (.loop (rec .ready none)) = W1 := ⟨_, rfl⟩
  have hL1 : W1.heap[w.heap.size + 1]? = some (.loop (rec .ready none)) := by
    rw [← hW1]; have := World.alloc_heap_new (w.alloc (.deferred (some []))) (.loop (rec .ready none)); rwa [World.size_alloc] at this
  have hK1 : W1.heap[w.heap.size]? = some (.deferred (some [])) := by
    rw [← hW1]; exact (Below.heap_alloc _ _ _ (by simp)).trans (World.alloc_heap_new w _)
  have hI1 : I [] none W1 := by rw [← hW1]; exact hI.alloc _ (hI.alloc _ h0)
  have hb1 : Below w.heap.size w W1 := by
    rw [← hW1]; exact ((Below.refl _ w).alloc (Nat.le_refl _) _).alloc (by simp) _
  have hz1 : W1.heap.size = w.heap.size + 2 := by rw [← hW1]; simp
  refine ⟨w.heap.size + 1, [{ target := .collected w.heap.size, args := #[] }], W1, { target := .fn (.func gf) lb, args := #[.func (.yield (w.heap.size + 1)) #[] #[]] }, W1, gf,
    #[.func (.yield (w.heap.size + 1)) #[] #[]] ++ lb, W1, ?_, ?_, ?_, ?_, fun _ => h1, ?_⟩
  · rw [← hW1, hrec]; exact run_enterLoop_outer _ _ _ _ _
  · simp only [resolve, hg]
    simp [go_sem]
  · intro f' hf'; simp [Target.leads] at hf'; subst hf'; exact hFg
  · simp [invoke, go_sem, eg]
  · have hbk : ∀ {A A' : World} {row : Option Nat} {k : Nat} {o : Obj}, A.grownBy A' row → (∀ r, row = some r → r = W1.heap.size + 1 ∨ r = W1.heap.size + 2) → k < w.heap.size + 2 → A.heap[k]? = some o → A'.heap[k]? = some o := fun hg' hr hk ho => by
      rw [hg'.block _ (Array.getElem?_eq_some_iff.1 ho).1 (fun e => by have := hr _ e.symm; omega)]
      exact ho
    refine (hseq (w.heap.size + 1)
      (fun pre g W => I pre g W ∧ W.heap[w.heap.size + 1]? = some (.loop (rec .ready none)) ∧ W.heap[w.heap.size]? = some (.deferred (some [])))
      (fun pre g W => ∃ c, Ix c pre g W ∧ W.heap[w.heap.size + 1]? = some (.loop (rec .done (some c))) ∧ W.heap[w.heap.size]? = some (.deferred (some [])))
      W1 hb1 hz1
      (fun s g A B row hs hg' hr => ⟨hI s g A B row hs.1 hg' (fun r e => by have := hr r e; omega), hbk hg' hr (by omega) hs.2.1, hbk hg' hr (by omega) hs.2.2⟩)
      (fun s g A B row hs hg' hr => by
        obtain ⟨c, hc, hl, hk⟩ := hs
        exact ⟨c, hIx c s g A B row hc hg' (fun r e => by have := hr r e; omega), hbk hg' hr (by omega) hl, hbk hg' hr (by omega) hk⟩)
      (fun s g A hs k e => by have := hgI s g A hs.1 k e; omega)
      ?_ ⟨hI1, hL1, hK1⟩).mono ?_
    · rintro pre x g W ⟨hi, hl, hk⟩ hok hsz
      have hy := run_yield (P := P) (args := encs x) hl (by rw [hrec]; exact hps x)
      rw [hrec] at hy
      refine ⟨fn, _, assign, body, hy, roundIn_of_wpIn hfn (hassign _ pre x g W _ hi hok (by omega) ?_)⟩
      clear hy
      intro a' Wa hkfa hkpa hia hax
      replace hl := hkfa.same _ _ (by omega) hl rfl
      replace hk := hkfa.same _ _ (Nat.le_refl _) hk rfl
      have hlt : w.heap.size + 1 < Wa.heap.size := (Array.getElem?_eq_some_iff.1 hl).1
      refine ⟨_, run_beginRound hl (by rw [hrec]), ?_⟩
      have hl2 : (Wa.putObj (w.heap.size + 1) (.loop { rec .ready none with state := .busy })).heap[w.heap.size + 1]? = some (.loop { rec .ready none with state := .busy }) := World.putObj_heap_same hlt
      have hk2 : (Wa.putObj (w.heap.size + 1) (.loop { rec .ready none with state := .busy })).heap[w.heap.size]? = some (.deferred (some [])) := (World.putObj_heap_other (by omega)).trans hk
      have hw2 : Kp g Wa (Wa.putObj (w.heap.size + 1) (.loop { rec .ready none with state := .busy })) := hKb _ _ _ _ _ hl rfl
      refine wpIn_mono (hbody _ pre x g a' _ (hI.putObj _ hia (by omega) (by omega)) (hAx _ _ _ _ _ _ _ (by omega) (by omega) hax)) ?_
      have fin : ∀ (jump : Option Code) (W3 : World), KeepsFrom w.heap.size (Wa.putObj (w.heap.size + 1) (.loop { rec .ready none with state := .busy })) W3 →
          (Instr.endRound (w.heap.size + 1) jump).run P W3 = .ok (.bool jump.isNone) (W3.putObj (w.heap.size + 1) (.loop (rec (if jump.isNone then .ready else .done) jump))) ∧
          W3.heap[w.heap.size + 1]? = some (.loop { rec .ready none with state := .busy }) ∧
          (W3.putObj (w.heap.size + 1) (.loop (rec (if jump.isNone then .ready else .done) jump))).heap[w.heap.size + 1]? = some (.loop (rec (if jump.isNone then .ready else .done) jump)) ∧
          (W3.putObj (w.heap.size + 1) (.loop (rec (if jump.isNone then .ready else .done) jump))).heap[w.heap.size]? = some (.deferred (some [])) := fun jump W3 hk3 => by
        have hl3 := hk3.same _ _ (by omega) hl2 rfl
        have := run_endRound (P := P) jump hl3
        rw [hrec] at this ⊢
        exact ⟨this, by rw [hrec] at hl3; exact hl3, World.putObj_heap_same (Array.getElem?_eq_some_iff.1 hl3).1, (World.putObj_heap_other (by omega)).trans (hk3.same _ _ (Nat.le_refl _) hk2 rfl)⟩
      rintro e a3 W3 hp
      cases e with
      | normal =>
        obtain ⟨hk3, hkp3, g', hi3⟩ := hp
        obtain ⟨hr, hl3, hl4, hk4⟩ := fin none W3 hk3
        exact ⟨_, _, hr, .inl ⟨rfl, ⟨g', hI.putObj _ hi3 (by omega) (by omega), hl4, hk4⟩, hKt hkpa (hKt (hKt hw2 hkp3) (hKb _ _ _ _ _ hl3 rfl))⟩⟩
      | ret =>
        obtain ⟨hk3, g', hi3⟩ := hp
        obtain ⟨hr, hl3, hl4, hk4⟩ := fin (some .ret) W3 hk3
        exact ⟨_, _, hr, .inr ⟨rfl, g', .ret, (hIx _).putObj _ hi3 (by omega) (by omega), hl4, hk4⟩⟩
      | exit id =>
        obtain ⟨hk3, g', hi3⟩ := hp
        obtain ⟨hr, hl3, hl4, hk4⟩ := fin (some (.exit id)) W3 hk3
        exact ⟨_, _, hr, .inr ⟨rfl, g', .exit id, (hIx _).putObj _ hi3 (by omega) (by omega), hl4, hk4⟩⟩
      | goto t =>
        obtain ⟨hk3, g', hi3⟩ := hp
        obtain ⟨hr, hl3, hl4, hk4⟩ := fin (some (.goto t)) W3 hk3
        exact ⟨_, _, hr, .inr ⟨rfl, g', .goto t, (hIx _).putObj _ hi3 (by omega) (by omega), hl4, hk4⟩⟩
      | panic ch => exact hp.elim
      | outgrown => exact hp.elim
    · rintro e W2 ⟨⟨v, rfl⟩, (⟨xs, g', hS, hi, hl, hk⟩ | ⟨pre, g', hSp, c, hi, hl, hk⟩)⟩
      · exact ⟨none, _, by have := run_endLoop (P := P) hl (by rw [hrec]; simp); rw [hrec] at this; exact this, hdone _ xs g' _ (Nat.le_refl _) (by omega) hS (hI.putObj _ hi (by omega) (by omega)) ((World.putObj_heap_other (by omega)).trans hk)⟩
      · exact ⟨some c, _, by have := run_endLoop (P := P) hl (by rw [hrec]; simp); rw [hrec] at this; exact this, hstop _ c pre g' _ (Nat.le_refl _) (by omega) hSp ((hIx c).putObj _ hi (by omega) (by omega)) ((World.putObj_heap_other (by omega)).trans hk)⟩

/-- All but the five blocks as it was. -/
def Rl (B : Nat) (A A' : World) : Prop := A.heap.size ≤ A'.heap.size ∧ ∀ k, (k < B ∨ B + 5 ≤ k) → k < A.heap.size → A'.heap[k]? = A.heap[k]?
theorem Rl.refl (B : Nat) (A : World) : Rl B A A := ⟨Nat.le_refl _, fun _ _ _ => rfl⟩
theorem Rl.put {B : Nat} {A A' : World} {l : Nat} {o : Obj} (h1 : B ≤ l) (h2 : l < B + 5) (h : Rl B (A.putObj l o) A') : Rl B A A' :=
  ⟨by have := h.1; simp at this; exact this, fun k hk hA => by
    rw [h.2 k hk (by simpa using hA)]
    exact World.putObj_heap_other (by omega)⟩

/-- The same, assignment and body in one. -/
theorem wpIn_rangeFunc_st2 {α : Type} {g : Operand} {ps : Array Tmp} {assign body : Code} {Q : Exit → Act → World → Prop} {a : Act} {w : World}
    (hro : F.round = none) (h1 : 1 ≤ n) {gf : Nat} {lb : Array Value} (hg : a.eval g = .func (.func gf) #[] lb) (hFg : F.fn gf) (eg : ∀ args w, (callFunc gf args).run P w = .ok (.enter gf args) w)
    {encs : α → Array Value} {Ok : List α → α → Option Nat → World → Prop} {Kp : Option Nat → World → World → Prop} {S Sp : List α → Prop} (hseq : SeqG F (n - 1) P gf lb encs Ok Kp S Sp w)
    (hKt : ∀ {g : Option Nat} {A B C : World}, Kp g A B → Kp g B C → Kp g A C) (hKb : ∀ (g : Option Nat) (W : World) (l : Nat) (o o' : Obj), W.heap[l]? = some o → o.isCells = false → Kp g W (W.putObj l o')) (hps : ∀ x, (encs x).size = ps.size)
    (I : List α → Option Nat → World → Prop) (Ix : Code → List α → Option Nat → World → Prop) (hI : OwnG w.heap.size I) (hIx : ∀ c, OwnG w.heap.size (Ix c)) (h0 : I [] none w)
    (hgI : ∀ s g A, I s g A → ∀ k, g = some k → w.heap.size + 5 ≤ k ∧ k < A.heap.size)
    (hround : ∀ (l : Nat) (pre : List α) (x : α) (g : Option Nat) (W : World), I pre g W → Ok pre x g W → w.heap.size + 5 ≤ W.heap.size →
      assign.wpIn (F.inRound l) (n - 1 - 1) P (Exit.then (fun a' W' => KeepsFrom w.heap.size W W' ∧ Kp g W W' ∧ I pre g W' ∧ ∀ (l' : Nat) W'', Rl w.heap.size W' W'' → I pre g W'' → body.wpIn (F.inRound l') (n - 1 - 1) P (ownPostS w.heap.size Kp I Ix (pre ++ [x]) g W'') a' W'') (fun _ _ _ => False)) { tmps := (ps.zip (encs x)).foldl (fun t (p, v) => t.setIfInBounds p v) a.tmps, defers := [] } W)
    (hdone : ∀ (D : Nat) (xs : List α) (g : Option Nat) (W : World), w.heap.size ≤ D → D < w.heap.size + 5 → S xs → I xs g W → W.heap[D]? = some (.deferred (some [])) → Q .normal { a with defers := { target := .collected D, args := #[] } :: a.defers } W)
    (hstop : ∀ (D : Nat) (c : Code) (pre : List α) (g : Option Nat) (W : World), w.heap.size ≤ D → D < w.heap.size + 5 → Sp pre → Ix c pre g W → W.heap[D]? = some (.deferred (some [])) → c.wpIn F n P Q { a with defers := { target := .collected D, args := #[] } :: a.defers } W) :
    (Code.rangeFunc g ps assign body).wpIn F n P Q a w := by
  refine wpIn_rangeFunc_st hro h1 hg hFg eg hseq (fun h k => hKt h k) hKb hps I Ix hI hIx h0 hgI
    (fun pre x g a' A => ∀ (l' : Nat) A', Rl w.heap.size A A' → I pre g A' → body.wpIn (F.inRound l') (n - 1 - 1) P (ownPostS w.heap.size Kp I Ix (pre ++ [x]) g A') a' A')
    (fun pre x g a' W l o' hl hl2 h l' A' hr hi => h l' A' (hr.put hl hl2) hi) ?_ (fun l pre x g a' W hi h => h l W (Rl.refl _ _) hi) hdone hstop
  intro l pre x g W K hi hok hsz hK
  refine wpIn_mono (hround l pre x g W hi hok hsz) ?_
  intro e a' W' h
  cases e with
  | normal => exact hK a' W' h.1 h.2.1 h.2.2.1 h.2.2.2
  | _ => exact h.elim

end Go.Proofs.Ytdodajalejfbiad

/-
  The iterator over a log's notes: its contract.
-/
namespace Go.Proofs.Ytdodajalejfbiad
open Go.RowKit Go.Shelf
attribute [local go_sem] Oper.semAt_some

/-- What comes: a note's end, the note, and where its cells lie. -/
abbrev Nx := Nat × Nt × Value
def prj (x : Nx) : Nat × Nt := (x.1, x.2.1)
def encX (x : Nx) : Array Value := #[.int .i64 x.1, .agg #[.int .i64 x.2.1.seq, x.2.2]]

/-- What is known of what comes. -/
def okX (B : Nat) (bs : List UInt8) (pre : List Nx) (x : Nx) (g : Option Nat) (A : World) : Prop :=
  (pre ++ [x]).map prj <+: logR bs ∧ RdC A x.2.2 x.2.1.cells ∧ New (B + 5) x.2.2 ∧ (∀ k, g = some k → ∀ a l c, x.2.2 = .slice (some a) l c → a.block ≠ k)

/-- What a round keeps. -/
def kpX (bx : Nat → Prop) (g : Option Nat) (A A' : World) : Prop :=
  A.heap.size ≤ A'.heap.size ∧ ∀ k o, A.heap[k]? = some o → o.isCells = true → ¬ bx k → g ≠ some k → A'.heap[k]? = some o

theorem kpX_t {bx : Nat → Prop} {g : Option Nat} {A B C : World} (h : kpX bx g A B) (k : kpX bx g B C) : kpX bx g A C :=
  ⟨Nat.le_trans h.1 k.1, fun i o hi ho hb hg => k.2 i o (h.2 i o hi ho hb hg) ho hb hg⟩
theorem kpX_b (bx : Nat → Prop) (g : Option Nat) (W : World) (l : Nat) (o o' : Obj) (h : W.heap[l]? = some o) (ho : o.isCells = false) : kpX bx g W (W.putObj l o') :=
  ⟨by simp, fun k q hk hq _ _ => by
    rw [World.putObj_heap_other (fun e => by subst e; rw [h] at hk; cases hk; rw [ho] at hq; cases hq)]
    exact hk⟩
theorem kpX_below {bx : Nat → Prop} {g : Option Nat} {A A' : World} (h : Below A.heap.size A A') : kpX bx g A A' :=
  ⟨h.size, fun k o hk _ _ _ => by rw [h.block k (Array.getElem?_eq_some_iff.1 hk).1]; exact hk⟩

theorem kpX.bk {bx : Nat → Prop} {g : Option Nat} {A A' : World} (h : kpX bx g A A') {B : Nat} {t : TypeId} {xs : Array Value} (hb : Bk A B t xs) (h1 : ¬ bx B) (h2 : g ≠ some B) : Bk A' B t xs := h.2 B _ hb rfl h1 h2
theorem kpX.cell {bx : Nat → Prop} {g : Option Nat} {A A' : World} (h : kpX bx g A A') {p : Addr} {u : Value} (hc : A.cell? p = some u) (h1 : ¬ bx p.block) (h2 : g ≠ some p.block) : A'.cell? p = some u := by
  obtain ⟨o, ho, hcl⟩ := cells_of_cell hc
  rw [← hc]
  exact World.cell?_of_block ((h.2 _ _ ho hcl h1 h2).trans ho.symm)
theorem kpX.rd {bx : Nat → Prop} {g : Option Nat} {A A' : World} (h : kpX bx g A A') {v : Value} {xs : List Value} (hr : Rd A v xs) (h1 : ∀ a l c, v = .slice (some a) l c → 0 < xs.length → ¬ bx a.block ∧ g ≠ some a.block) : Rd A' v xs := by
  obtain ⟨ao, cap, hv, h2, h3, h4, h5⟩ := hr
  refine ⟨ao, cap, hv, h2, h3, h4, fun a ha j u hu => ?_⟩
  have hb : (a.add j).block = a.block := by unfold Addr.add; split <;> rfl
  have hl := (List.getElem?_eq_some_iff.1 hu).1
  obtain ⟨q1, q2⟩ := h1 a _ _ (by rw [hv, ha]) (by omega)
  exact h.cell (h5 a ha j u hu) (by rw [hb]; exact q1) (by rw [hb]; exact q2)

/-- Where the reader stands. -/
def kOf (R : Nat) (W : World) : Nat := match W.cell? ⟨R, 1, none⟩ with | some (.int _ z) => z.toNat | _ => 0
theorem kOf_rdr {R : Nat} {W : World} {t : TypeId} {v : Value} {k : Nat} (h : RdrT W t R v k) : kOf R W = k := by
  unfold kOf
  rw [h.facts.2.1]
  simp

theorem two9 {e : Ending} {A B : Prop} (h : (e = .returned (.bool true) ∧ A) ∨ (e = .returned (.bool false) ∧ B)) : ∃ b : Bool, e = .returned (.bool b) ∧ ((b = true ∧ A) ∨ (b = false ∧ B)) := by
  rcases h with ⟨h1, h2⟩ | ⟨h1, h2⟩
  · exact ⟨true, h1, .inl ⟨rfl, h2⟩⟩
  · exact ⟨false, h1, .inr ⟨rfl, h2⟩⟩

set_option maxRecDepth 100000 in
set_option maxHeartbeats 4000000 in
theorem notesOf1_stops (n : Nat) (hn : 2 ≤ n) (Bb : Nat) (ao : Option Addr) (cap : Nat) (bs : List UInt8) (bx : Nat → Prop) (w : World) (hB : w.cell? ⟨Bb, 0, none⟩ = some (.slice ao bs.length cap)) (hrd : Rd w (.slice ao bs.length cap) (bc bs)) (hbl : bs.length ≤ 60000)
    (hbv : ∀ a l c, Value.slice ao bs.length cap = .slice (some a) l c → 0 < (bc bs).length → ¬ bx a.block) (hbw : ∀ k, bx k → k < w.heap.size) :
    SeqG Fence.wide n Try.prog 104 #[.pointer (some ⟨Bb, 0, none⟩)] encX (okX w.heap.size bs) (kpX bx) (fun xs => xs.map prj = logR bs) (fun pre => pre.map prj <+: logR bs) w := by
  intro l J Jx W hbW hzW hJ hJx hg hY h0
  have hBW := cell_belowC hB hbW
  have hrW := hrd.below hbW
  have hblW : Bb < W.heap.size := World.block_lt_of_cell? W _ hBW
  have hpW : ∀ a l c, Value.slice ao bs.length cap = .slice (some a) l c → 0 < (bc bs).length → a.block < w.heap.size := by
    intro a l c e hp
    simp only [Value.slice.injEq] at e
    obtain ⟨rfl, _, _⟩ := e
    obtain ⟨b, off, cap', hv, _, _, hb, _⟩ := hrd.pos hp
    simp only [Value.slice.injEq, Option.some.injEq] at hv
    rw [hv.1]
    exact hb
  have HPW := hide hpW
  have HBV := hide hbv
  have HBW := hide hbw
  have HY := hide hY
  have HG := hide hg
  have HJ := hide hJ
  have HJX := hide hJx
  have HZW := hide hzW
  clear hpW hbv hbw hY hg hJ hJx hB hrd hzW
  refine callsIn_of_wp Try.func104 rfl trivial ?_ rfl
  simp only [Try.ntmps104, List.size_toArray, List.length_cons, List.length_nil, Nat.reduceAdd, Nat.reduceSub, Array.replicate_succ, Array.replicate_zero, List.push_toArray, List.append_toArray, List.nil_append, List.cons_append]
  gi_wp2_with fail
  refine ⟨trivial, fun _ => by omega, (callsIn_wide.2 (ReaderOf_any ao bs.length cap _)).mono ?_⟩
  rintro e w1 ⟨rfl, hb1, hz1⟩
  have hb2 : Below W.heap.size W ((w1.alloc (.cells #[.slice ao bs.length cap, .int .i64 0] 104)).alloc (.cells #[.int .i64 0, .slice none 0 0] 41)) := (hb1.alloc (by omega) _).alloc (by simp; omega) _
  have hR2 : RdrT ((w1.alloc (.cells #[.slice ao bs.length cap, .int .i64 0] 104)).alloc (.cells #[.int .i64 0, .slice none 0 0] 41)) 104 w1.heap.size (.slice ao bs.length cap) (0 : Nat) := (Below.heap_alloc _ _ _ (by simp)).trans (heap_alloc_new w1 _)
  have hL2 : Bk ((w1.alloc (.cells #[.slice ao bs.length cap, .int .i64 0] 104)).alloc (.cells #[.int .i64 0, .slice none 0 0] 41)) (w1.heap.size + 1) 41 #[.int .i64 0, .slice none 0 0] := Bk.new2 w1 _ _ _
  have hz2 : ((w1.alloc (.cells #[.slice ao bs.length cap, .int .i64 0] 104)).alloc (.cells #[.int .i64 0, .slice none 0 0] 41)).heap.size = W.heap.size + 3 := by simp [hz1]
  have HB2 := hide hb2
  have HR2 := hide hR2
  have HL2 := hide hL2
  have HZ2 := hide hz2
  clear hb2 hR2 hL2 hz2
  gi_wp2_with fail
  generalize (w1.alloc (.cells #[.slice ao bs.length cap, .int .i64 0] 104)).alloc (.cells #[.int .i64 0, .slice none 0 0] 41) = w2 at *
  have hb2 := HB2.out
  have hR2 := HR2.out
  have hL2 := HL2.out
  have hz2 := HZ2.out
  rw [hz1] at hR2 hL2
  clear HB2 HR2 HL2 HZ2 hb1 hz1
  have hJ2 : J [] none w2 := HJ.out [] none W w2 none h0 ⟨hb2.os, hb2.tape, hb2.output, hb2.size, fun k hk _ => hb2.block k hk⟩ (fun r e => by cases e)
  have hr2 := hrW.below hb2
  clear h0 hBW hrW hb2
  gi_loopw [5] (fun _ wr => ∃ (pre : List Nx) (g : Option Nat) (k f : Nat) (ls : Int) (lu : Value), J pre g wr ∧ RdrT wr 104 (W.heap.size + 1) (.slice ao bs.length cap) k ∧ Bk wr (W.heap.size + 1 + 1) 41 #[.int .i64 ls, lu] ∧ lu.oneCell' = true ∧ k ≤ bs.length ∧ pre.map prj ++ logGo (f + 1) (bs.drop k) ls k = logR bs ∧ bs.length ≤ k + f ∧ 0 ≤ ls ∧ ls ≤ 1000000000 ∧ W.heap.size + 3 ≤ wr.heap.size ∧ Rd wr (.slice ao bs.length cap) (bc bs))
    (fun _ wr => bs.length + 1 - kOf (W.heap.size + 1) wr)
  case atStart => exact ⟨[], none, 0, bs.length, 0, .slice none 0 0, hJ2, hR2, hL2, rfl, by omega, rfl, by omega, by omega, by omega, by omega, hr2⟩
  case round =>
    clear hJ2 hR2 hL2 hr2 hz2
    obtain ⟨pre, g, k, f, ls, lu, hJr, hRr, hLr, hlu, hk, hlog, hf, hl0, hl1, hzr, hrr⟩ := hrel
    have HLOG := hide hlog
    have HK0 := hide (kOf_rdr hRr)
    have HGK := hide (HG.out pre g wr hJr)
    clear hlog
    gi_wp2_with fail
    refine ⟨trivial, fun _ => by omega, (callsIn_wide.2 (Frame_any _ (W.heap.size + 1) _ bs k _ hrr (fun a l c e hp => by have := HPW.out a l c e hp; have := HZW.out; omega) hRr hk (by omega))).mono ?_⟩
    rintro e w3 hfr
    cases hfa : frameAt (bs.drop k) with
    | none =>
      rw [hfa] at hfr
      obtain ⟨rfl, hR3, hg3⟩ := hfr
      have HE := hide (@logGo_end f k (bs.drop k) ls hfa)
      have hJ3 : J pre g w3 := HJ.out pre g wr w3 (some (W.heap.size + 1)) hJr hg3 (fun r e => by cases e; exact .inl rfl)
      clear hfa hR3 hg3 hRr hLr hrr
      gi_wp2_with fail
      refine bodyPost_ret (results_none rfl _ _ _) rfl ⟨⟨_, rfl⟩, .inl ⟨pre, g, by rw [← HLOG.out, HE.out, List.append_nil], hJ3⟩⟩
    | some body =>
      rw [hfa] at hfr
      obtain ⟨uo, uc, rfl, hu3, hub, hR3, hg3⟩ := hfr
      have hfl := frameAt_len hfa
      rw [List.length_drop] at hfl
      have hJ3 : J pre g w3 := HJ.out pre g wr w3 (some (W.heap.size + 1)) hJr hg3 (fun r e => by cases e; exact .inl rfl)
      have hL3 := hLr.grown hg3 (by simp)
      have hr3 := hrr.grownT hg3 (fun a l c e hp => by have := HPW.out a l c e hp; have := HZW.out; omega)
      have hz3 : W.heap.size + 3 ≤ w3.heap.size := Nat.le_trans hzr hg3.size
      have HGK3 := hide (HG.out pre g w3 hJ3)
      have HSTOP := hide (@logGo_stop f k (bs.drop k) body ls hfa)
      have HSTEP := hide (@logGo_step f k (bs.drop k) body ls hfa)
      clear hfa hRr hLr hrr hg3 hJr HGK hub
      gi_wp2_with fail
      refine ⟨trivial, fun _ => by omega, (callsIn_wide.2 (WRead_any _ body _ hu3)).mono ?_⟩
      rintro e w4 ⟨v4, rfl, hr4c, hb4, hn4⟩
      have hJ4 : J pre g w4 := HJ.out pre g w3 w4 none hJ3 ⟨hb4.os, hb4.tape, hb4.output, hb4.size, fun k hk _ => hb4.block k hk⟩ (fun r e => by cases e)
      have hL4 := hL3.below hb4 hL3.lt
      have hr4 := hr3.below hb4
      have hR4 : RdrT w4 104 (W.heap.size + 1) (.slice ao bs.length cap) (k + (body.length + 6) : Nat) := (hb4.block _ (by omega)).trans hR3
      have hz4 := hb4.size
      have HCS := hide (readN_cases body)
      generalize readN body = RN at *
      obtain ⟨⟨s, cs⟩, fx, fy⟩ := RN
      simp only at hr4c HSTOP HSTEP HCS ⊢
      obtain ⟨vo4, vc4, hv4, _, _⟩ := hr4c.shape
      subst hv4
      have hoff4 : ∀ kk, g = some kk → ∀ a l c, Value.slice vo4 cs.length vc4 = .slice (some a) l c → a.block ≠ kk := fun kk hkk a l c e => by
        have h1 := hn4 a l c e
        have h2 := (HGK3.out kk hkk).2
        omega
      have hnn4 : New (w.heap.size + 5) (.slice vo4 cs.length vc4) := hn4.mono (by have := HZW.out; omega)
      have HOFF := hide hoff4
      clear hL3 hr3 hR3 hJ3 hb4 hn4 hu3 hoff4
      have hb46 : Below w4.heap.size w4 ((w4.alloc (.cells #[.int .i64 s, .slice vo4 cs.length vc4] 41)).alloc (.cells #[.int .i64 fx, .int .i64 fy] 28)) := (below_alloc' _ _).alloc (by simp) _
      have hN6 : Bk ((w4.alloc (.cells #[.int .i64 s, .slice vo4 cs.length vc4] 41)).alloc (.cells #[.int .i64 fx, .int .i64 fy] 28)) w4.heap.size 41 #[.int .i64 s, .slice vo4 cs.length vc4] := (Bk.new w4 _ _).below (below_alloc' _ _) (by simp)
      have hF6 : Bk ((w4.alloc (.cells #[.int .i64 s, .slice vo4 cs.length vc4] 41)).alloc (.cells #[.int .i64 fx, .int .i64 fy] 28)) (w4.heap.size + 1) 28 #[.int .i64 fx, .int .i64 fy] := Bk.new2 w4 _ _ _
      have HB46 := hide hb46
      have HN6 := hide hN6
      have HF6 := hide hF6
      clear hb46 hN6 hF6
      unfold ntA fltC
      gi_upto_region 5 with fail
      generalize (w4.alloc (.cells #[.int .i64 s, .slice vo4 cs.length vc4] 41)).alloc (.cells #[.int .i64 fx, .int .i64 fy] 28) = w6 at *
      have hb46 := HB46.out
      have hN6 := HN6.out
      have hF6 := HF6.out
      have hJ6 : J pre g w6 := HJ.out pre g w4 w6 none hJ4 ⟨hb46.os, hb46.tape, hb46.output, hb46.size, fun k hk _ => hb46.block k hk⟩ (fun r e => by cases e)
      have hL6 := hL4.below hb46 hL4.lt
      have hr6 := hr4.below hb46
      have hR6 : RdrT w6 104 (W.heap.size + 1) (.slice ao bs.length cap) (k + (body.length + 6) : Nat) := (hb46.block _ (by omega)).trans hR4
      have hc6 := hr4c.below hb46
      have hz6 := hb46.size
      have hgN : g ≠ some w4.heap.size := fun e => by have := (HGK3.out _ e).2; omega
      clear HB46 HN6 HF6 hL4 hr4 hR4 hJ4 hr4c hb46
      have f0 := hF6.cell 0
      have f1 := hF6.cell 1
      have n0 := hN6.cell 0
      have n1 := hN6.cell 1
      have l0 := hL6.cell 0
      have l1 := hL6.cell 1
      simp at f0 f1 n0 n1 l0 l1
      by_cases hx : fx = 0
      case neg =>
        have HE := hide (HSTOP.out (fun h => hx h.1))
        have hcb : (fx == 0) = false := beq_eq_false_iff_ne.2 hx
        have hcb2 : (fx != 0) = true := by simp [hx]
        gi_wp2_with fail
        refine ⟨trivial, ?_⟩
        gi_wp2_with fail
        refine bodyPost_ret (results_none rfl _ _ _) rfl ⟨⟨_, rfl⟩, .inl ⟨pre, g, by rw [← HLOG.out, HE.out, List.append_nil], hJ6⟩⟩
      subst hx
      obtain ⟨hfy, hnf⟩ : fy = 0 ∧ (noteF s cs).1 = 0 := by
        rcases HCS.out with h | ⟨h1, h2⟩
        · exact absurd rfl h.1
        · exact ⟨by simpa using h1, h2⟩
      subst hfy
      obtain ⟨_, hs1, hs2, _, _, _⟩ := noteF_zero hnf
      clear HCS hnf
      gi_wp2_with fail
      refine ⟨trivial, fun _ => by omega, (callsIn_wide.2 (follows_any ls s lu (.slice vo4 cs.length vc4) _ ⟨by omega, by omega⟩)).mono ?_⟩
      rintro e w7 ⟨rfl, hb7⟩
      have hJ7 : J pre g w7 := HJ.out pre g w6 w7 none hJ6 ⟨hb7.os, hb7.tape, hb7.output, hb7.size, fun k hk _ => hb7.block k hk⟩ (fun r e => by cases e)
      have hN7 := hN6.below hb7 hN6.lt
      have hL7 := hL6.below hb7 hL6.lt
      have hr7 := hr6.below hb7
      have hR7 : RdrT w7 104 (W.heap.size + 1) (.slice ao bs.length cap) (k + (body.length + 6) : Nat) := (hb7.block _ (by omega)).trans hR6
      have hc7 := hc6.below hb7
      have hz7 := hb7.size
      clear f0 f1 n0 n1 l0 l1 hJ6 hN6 hL6 hr6 hR6 hc6 hF6 hb7
      cases hfo : follB ls s
      · have HE := hide (HSTOP.out (by simp [hfo]))
        gi_wp2_with fail
        refine bodyPost_ret (results_none rfl _ _ _) rfl ⟨⟨_, rfl⟩, .inl ⟨pre, g, by rw [← HLOG.out, HE.out, List.append_nil], hJ7⟩⟩
      · have HS := hide (HSTEP.out (by first | rfl | trivial) (by first | exact hfo | rfl))
        have HLG : Hid (pre.map prj ++ (k + (body.length + 6), (⟨s, cs⟩ : Nt)) :: logGo f ((bs.drop k).drop (body.length + 6)) s (k + (body.length + 6)) = logR bs) := hide (by rw [← HS.out]; exact HLOG.out)
        clear HSTOP HSTEP HLOG HS hfo
        have hJ8 : J pre g w7.drew := HJ.out pre g w7 w7.drew none hJ7 ⟨rfl, rfl, rfl, Nat.le_refl _, fun _ _ _ => rfl⟩ (fun r e => by cases e)
        have hok : okX w.heap.size bs pre (k + (body.length + 6), ⟨s, cs⟩, .slice vo4 cs.length vc4) g w7.drew := ⟨⟨_, by
          have := HLG.out
          rw [List.map_append, List.append_assoc]
          exact this⟩, hc7, hnn4, HOFF.out⟩
        obtain ⟨fn, tmps, assign, body9, hy, hRo⟩ := HY.out pre (k + (body.length + 6), ⟨s, cs⟩, .slice vo4 cs.length vc4) g w7.drew hJ8 hok (by show W.heap.size + 3 ≤ w7.heap.size; omega)
        dsimp only [encX] at hy
        rw [show (((k + (body.length + 6) : Nat)) : Int) = (k : Int) + ((body.length : Int) + 6) by push_cast; rfl] at hy
        have n0 := hN7.cell 0
        have n1 := hN7.cell 1
        simp at n0 n1
        have HRD7 := hide hR7
        gi_wp2_with fail
        gi_region_with (first
          | (refine ⟨trivial, fun _ => by omega, ?_⟩; refine (callsIn_wide.2 (At_any _ _ _ _ _ (by exact HRD7.out))).mono ?_; rintro e w8 ⟨rfl, rfl⟩)
          | (refine ⟨fun _ => by omega, hRo.mono ?_⟩; rintro e W9 hr9; obtain ⟨b9, rfl, hb9⟩ := two9 hr9))
        all_goals
          have hzW := HZW.out
          have hlow : ∀ kk, w.heap.size ≤ kk → ¬ bx kk := fun kk hkk h => by have := HBW.out _ h; omega
          rcases hb9 with ⟨rfl, ⟨g', hJ9⟩, hk9⟩ | ⟨rfl, g', hJx9⟩
          · have hgl : ∀ kk, kk < W.heap.size + 3 → g ≠ some kk := fun kk hkk e => by have := (HGK3.out kk e).1; omega
            have hN9 := hk9.bk (B := w4.heap.size) hN7 (hlow _ (by omega)) hgN
            have hL9 := hk9.bk (B := W.heap.size + 1 + 1) hL7 (hlow _ (by omega)) (hgl _ (by omega))
            have hR9 : RdrT W9 104 (W.heap.size + 1) (.slice ao bs.length cap) (k + (body.length + 6) : Nat) := hk9.2 _ _ HRD7.out rfl (hlow _ (by omega)) (hgl _ (by omega))
            have hr9 := hk9.rd (v := .slice ao bs.length cap) (xs := bc bs) hr7 (fun a l c e hp => ⟨HBV.out a l c e hp, hgl _ (by have := HPW.out a l c e hp; omega)⟩)
            have hz9 : w7.heap.size ≤ W9.heap.size := hk9.1
            have HL9 := hide hL9
            have HR9 := hide hR9
            have HRR9 := hide hr9
            have HJ9 := hide hJ9
            clear n0 n1 hy hRo
            have n0 := hN9.cell 0
            have n1 := hN9.cell 1
            have l0 := hL9.cell 0
            have l1 := hL9.cell 1
            have l2 := hL9.frozen 0
            have l3 := hL9.frozen 1
            have hlL := hL9.lt
            simp at n0 n1 l0 l1
            clear hJ7 hJ8 hok hN7 hL7 hr7 hR7 hc7 hN9 hL9 hR9 hr9 hJ9 hk9 hzW
            gi_wp2_with fail
            go_roundw
            case rel =>
              have hzW := HZW.out
              obtain ⟨f', rfl⟩ : ∃ f', f = f' + 1 := ⟨f - 1, by omega⟩
              refine ⟨pre ++ [(k + (body.length + 6), ⟨s, cs⟩, .slice vo4 cs.length vc4)], g', k + (body.length + 6), f', s, .slice vo4 cs.length vc4, ?_, ?_, HL9.out.store2 _ _, rfl, by omega, ?_, by omega, by omega, by omega, ?_, ?_⟩
              · exact HJ.out _ _ W9 _ (some (W.heap.size + 1 + 1)) HJ9.out (grownT_trans (grownT_set W9 _ 0 _) (grownT_set _ _ 1 _)) (fun r e => by cases e; right; rfl)
              · exact (HR9.out.other (by simp only; omega) _).other (by simp only; omega) _
              · rw [← List.drop_drop, List.map_append, List.append_assoc]
                exact HLG.out
              · simp; omega
              · exact HRR9.out.grownT (grownT_trans (grownT_set W9 _ 0 _) (grownT_set _ _ 1 _)) (fun a l c e hp => by have := HPW.out a l c e hp; omega)
            case measure =>
              have hR10 := (HR9.out.other (p := ⟨W.heap.size + 1 + 1, 0, none⟩) (by simp only; omega) (.int .i64 s)).other (p := ⟨W.heap.size + 1 + 1, 1, none⟩) (by simp only; omega) (.slice vo4 cs.length vc4)
              rw [kOf_rdr hR10, HK0.out]
              omega
          · gi_wp2_with fail
            exact bodyPost_ret (results_none rfl _ _ _) rfl ⟨⟨_, rfl⟩, .inr ⟨_, hok.1, g', hJx9⟩⟩

end Go.Proofs.Ytdodajalejfbiad

/-
  The walk over wal.Log.
-/
namespace Go.Proofs.Ytdodajalejfbiad
open Go.RowKit Go.Shelf
attribute [local go_sem] Oper.semAt_some

set_option maxRecDepth 100000 in
set_option maxHeartbeats 400000 in
theorem notesOf_any (ao : Option Addr) (m c : Nat) (w : World) :
    Calls Try.prog 76 #[.slice ao m c] w fun e w' => e = .returned (.func (.func 104) #[] #[.pointer (some ⟨w.heap.size, 0, none⟩)]) ∧ w' = w.alloc (.cells #[.slice ao m c] 42) := by
  go_enter Try.func76, Try.ntmps76
  go_wp2_with fail
  go_ret
  exact ⟨rfl, rfl⟩

/-- Four blocks that a call lays first. -/
theorem four_new (w : World) (t1 t2 t3 t4 : TypeId) (a b c d : Array Value) :
    Bk ((((w.alloc (.cells a t1)).alloc (.cells b t2)).alloc (.cells c t3)).alloc (.cells d t4)) w.heap.size t1 a ∧ Bk ((((w.alloc (.cells a t1)).alloc (.cells b t2)).alloc (.cells c t3)).alloc (.cells d t4)) (w.heap.size + 1) t2 b ∧
    Bk ((((w.alloc (.cells a t1)).alloc (.cells b t2)).alloc (.cells c t3)).alloc (.cells d t4)) (w.heap.size + 1 + 1) t3 c ∧ Bk ((((w.alloc (.cells a t1)).alloc (.cells b t2)).alloc (.cells c t3)).alloc (.cells d t4)) (w.heap.size + 1 + 1 + 1) t4 d ∧
    Below w.heap.size w ((((w.alloc (.cells a t1)).alloc (.cells b t2)).alloc (.cells c t3)).alloc (.cells d t4)) ∧ ((((w.alloc (.cells a t1)).alloc (.cells b t2)).alloc (.cells c t3)).alloc (.cells d t4)).heap.size = w.heap.size + 4 := by
  refine ⟨?_, ?_, ?_, ?_, ?_, by simp⟩
  · exact (((Bk.new w t1 a).below (below_alloc' _ _) (by simp)).below (below_alloc' _ _) (by simp <;> omega)).below (below_alloc' _ _) (by simp <;> omega)
  · exact ((Bk.new2 w _ t2 b).below (below_alloc' _ _) (by simp)).below (below_alloc' _ _) (by simp <;> omega)
  · have h := (Bk.new2 (w.alloc (.cells a t1)) (.cells b t2) t3 c).below (below_alloc' _ (.cells d t4)) (by simp)
    rw [World.size_alloc] at h
    exact h
  · have h := Bk.new2 ((w.alloc (.cells a t1)).alloc (.cells b t2)) (.cells c t3) t4 d
    simp only [World.size_alloc] at h
    exact h
  · exact ((((Below.refl _ w).alloc (Nat.le_refl _) _).alloc (by simp) _).alloc (by simp <;> omega) _).alloc (by simp <;> omega) _

/-- Where the notes that have come end, and the last one's number. -/
def sizX (pre : List Nx) : Nat := ((pre.map prj).map (·.1)).getLastD 0
def lasX (pre : List Nx) : Int := ((pre.map prj).map (fun p => p.2.seq)).getLastD 0
theorem sizX_snoc (pre : List Nx) (x : Nx) : sizX (pre ++ [x]) = x.1 := by simp [sizX, prj]
theorem lasX_snoc (pre : List Nx) (x : Nx) : lasX (pre ++ [x]) = x.2.1.seq := by simp [lasX, prj]
theorem sizX_all {xs : List Nx} {bs : List UInt8} (h : xs.map prj = logR bs) : sizX xs = sizeR bs := by rw [sizX, h, sizeR]
theorem lasX_all {xs : List Nx} {bs : List UInt8} (h : xs.map prj = logR bs) : lasX xs = lastR bs := by rw [lasX, h, lastR]

theorem logGo_fine : ∀ (f : Nat) (bs : List UInt8) (last : Int) (k : Nat), ∀ p ∈ logGo f bs last k, (noteF p.2.seq p.2.cells).1 = 0
  | 0, _, _, _, p, h => by simp [logGo] at h
  | f + 1, bs, last, k, p, h => by
    cases h1 : frameAt bs with
    | none => rw [logGo_end h1] at h; simp at h
    | some body =>
      by_cases h3 : (readN body).2.1 = 0 ∧ follB last (readN body).1.seq = true
      · rw [logGo_step h1 h3.1 h3.2, List.mem_cons] at h
        rcases h with rfl | h
        · rcases readN_cases body with h4 | h4
          · exact absurd h3.1 h4.1
          · exact h4.2
        · exact logGo_fine f _ _ _ p h
      · rw [logGo_stop h1 h3] at h; simp at h

theorem lastR_range (bs : List UInt8) : 0 ≤ lastR bs ∧ lastR bs ≤ 1000000000 := by
  rw [lastR, List.getLastD_eq_getLast?]
  cases h : ((logR bs).map (fun p => p.2.seq)).getLast? with
  | none => simp
  | some s =>
    have hm := List.mem_of_getLast? h
    obtain ⟨p, hp, rfl⟩ := List.mem_map.1 hm
    obtain ⟨_, h1, h2, _⟩ := noteF_zero (logGo_fine _ _ _ _ p hp)
    simp only [Option.getD_some]
    omega

theorem keepsFrom_below {B : Nat} {W W' : World} (h : Below W.heap.size W W') : KeepsFrom B W W' :=
  ⟨h.size, fun k o _ hk _ => by rw [h.block k (Array.getElem?_eq_some_iff.1 hk).1]; exact hk⟩

theorem keepsSet {B : Nat} {W X : World} (h : KeepsFrom B W X) {R : Nat} (j : Nat) (u : Value) (hR : R < B) : KeepsFrom B W (X.setCell ⟨R, j, none⟩ u) :=
  h.trans (KeepsFrom.of_grownBy (grownT_set X R j u) (fun k e => by cases e; exact hR))
theorem kpX.setC {bx : Nat → Prop} {g : Option Nat} {W X : World} (h : kpX bx g W X) {R : Nat} (j : Nat) (u : Value) (hR : bx R) : kpX bx g W (X.setCell ⟨R, j, none⟩ u) :=
  kpX_t h ⟨by simp, fun k o hk _ hb _ => by
    rw [heap_setCell_other X _ k u (fun e => hb (by rw [e]; exact hR))]
    exact hk⟩
theorem belowSet {B : Nat} {w X : World} (h : Below B w X) (hB : B ≤ X.heap.size) {R : Nat} (j : Nat) (u : Value) (hR : B ≤ R) : Below B w (X.setCell ⟨R, j, none⟩ u) :=
  h.grown (grownT_set X R j u) hB (fun k e => by cases e; exact hR)

/-- A variable and a note are written, in whatever order. -/
def Wr2 (w9 W2 : World) (B S L : Nat) (tI tN : TypeId) (x y z : Value) (X : World) : Prop :=
  KeepsFrom B W2 X ∧ kpX (fun k => k = S ∨ k = L) none W2 X ∧ Bk X S tI #[x] ∧ Bk X L tN #[y, z] ∧ Below S w9 X
theorem wr2_a {w9 W2 : World} {B S L : Nat} {tI tN : TypeId} {x0 y0 z0 : Value} (x y z : Value) (h1 : Bk W2 S tI #[x0]) (h2 : Bk W2 L tN #[y0, z0]) (h4 : Below S w9 W2) (hSL : S < L) (hLB : L < B) :
    Wr2 w9 W2 B S L tI tN x y z (((W2.setCell ⟨S, 0, none⟩ x).setCell ⟨L, 0, none⟩ y).setCell ⟨L, 1, none⟩ z) := by
  have hs := h1.lt
  refine ⟨keepsSet (keepsSet (keepsSet (KeepsFrom.refl _ _) 0 x (by omega)) 0 y hLB) 1 z hLB, (((kpX_below (Below.refl _ _)).setC 0 x (.inl rfl)).setC 0 y (.inr rfl)).setC 1 z (.inr rfl), ((h1.set 0 x).othN (by simp only; omega) y).othN (by simp only; omega) z, (h2.othN (by simp only; omega) x).store2 y z, belowSet (belowSet (belowSet h4 (by omega) 0 x (Nat.le_refl _)) (by simp; omega) 0 y (by omega)) (by simp; omega) 1 z (by omega)⟩
theorem wr2_b {w9 W2 : World} {B S L : Nat} {tI tN : TypeId} {x0 y0 z0 : Value} (x y z : Value) (h1 : Bk W2 S tI #[x0]) (h2 : Bk W2 L tN #[y0, z0]) (h4 : Below S w9 W2) (hSL : S < L) (hLB : L < B) :
    Wr2 w9 W2 B S L tI tN x y z (((W2.setCell ⟨L, 0, none⟩ y).setCell ⟨L, 1, none⟩ z).setCell ⟨S, 0, none⟩ x) := by
  have hs := h1.lt
  refine ⟨keepsSet (keepsSet (keepsSet (KeepsFrom.refl _ _) 0 y hLB) 1 z hLB) 0 x (by omega), (((kpX_below (Below.refl _ _)).setC 0 y (.inr rfl)).setC 1 z (.inr rfl)).setC 0 x (.inl rfl), ((h1.othN (by simp only; omega) y).othN (by simp only; omega) z).set 0 x, (h2.store2 y z).othN (by simp only; omega) x, belowSet (belowSet (belowSet h4 (by omega) 0 y (by omega)) (by simp; omega) 1 z (by omega)) (by simp; omega) 0 x (Nat.le_refl _)⟩

theorem wpIn_quiet {F : Fence} {n : Nat} {P : Program} {K : Act → World → Prop} {Q : Exit → Act → World → Prop} {c : Code} {a : Act} {w : World} (h : c.wpIn F n P (Exit.then K (fun _ _ _ => False)) a w) : c.wpIn F n P (Exit.then K Q) a w :=
  wpIn_mono h (fun e a w h => by cases e <;> first | exact h | exact h.elim)

/-- The results are written, and the mark is taken. -/
theorem fin5 {w W X : World} {A B D : Nat} {t u : TypeId} {x0 x1 y0 y1 a b c d : Value} {o : Obj} (h1 : Bk W A t #[x0, x1]) (h2 : Bk W B u #[y0, y1]) (hAB : A < B) (hw : w.heap.size ≤ A) (hBD : B < D) (hb : Below w.heap.size w W) (hK : W.heap[D]? = some o)
    (hX : X.heap = ((((W.setCell ⟨A, 0, none⟩ a).setCell ⟨A, 1, none⟩ b).setCell ⟨B, 0, none⟩ c).setCell ⟨B, 1, none⟩ d).heap ∨ X.heap = ((((W.setCell ⟨B, 0, none⟩ c).setCell ⟨B, 1, none⟩ d).setCell ⟨A, 0, none⟩ a).setCell ⟨A, 1, none⟩ b).heap) (hos : X.os = W.os ∧ X.tape = W.tape ∧ X.output = W.output) :
    X.heap[D]? = some o ∧ ∀ o', Bk (X.putObj D o') A t #[a, b] ∧ Bk (X.putObj D o') B u #[c, d] ∧ Below w.heap.size w (X.putObj D o') ∧ Below w.heap.size W (X.putObj D o') := by
  have hl := h2.lt
  have key : X.heap[D]? = some o ∧ Bk X A t #[a, b] ∧ Bk X B u #[c, d] ∧ W.heap.size ≤ X.heap.size ∧ ∀ k, k < w.heap.size → X.heap[k]? = W.heap[k]? := by
    rcases hX with hX | hX
    · unfold Bk
      rw [hX]
      refine ⟨?_, ((h1.store2 a b).othN (by simp only; omega) c).othN (by simp only; omega) d, ((h2.othN (by simp only; omega) a).othN (by simp only; omega) b).store2 c d, by simp, fun k hk => ?_⟩
      · rw [heap_setCell_other _ _ _ _ (by simp only; omega), heap_setCell_other _ _ _ _ (by simp only; omega), heap_setCell_other _ _ _ _ (by simp only; omega), heap_setCell_other _ _ _ _ (by simp only; omega), hK]
      · rw [heap_setCell_other _ _ _ _ (by simp only; omega), heap_setCell_other _ _ _ _ (by simp only; omega), heap_setCell_other _ _ _ _ (by simp only; omega), heap_setCell_other _ _ _ _ (by simp only; omega)]
    · unfold Bk
      rw [hX]
      refine ⟨?_, ((h1.othN (by simp only; omega) c).othN (by simp only; omega) d).store2 a b, ((h2.store2 c d).othN (by simp only; omega) a).othN (by simp only; omega) b, by simp, fun k hk => ?_⟩
      · rw [heap_setCell_other _ _ _ _ (by simp only; omega), heap_setCell_other _ _ _ _ (by simp only; omega), heap_setCell_other _ _ _ _ (by simp only; omega), heap_setCell_other _ _ _ _ (by simp only; omega), hK]
      · rw [heap_setCell_other _ _ _ _ (by simp only; omega), heap_setCell_other _ _ _ _ (by simp only; omega), heap_setCell_other _ _ _ _ (by simp only; omega), heap_setCell_other _ _ _ _ (by simp only; omega)]
  obtain ⟨k1, k2, k3, k4, k5⟩ := key
  refine ⟨k1, fun o' => ?_⟩
  have hW : Below w.heap.size W (X.putObj D o') := ⟨hos.1, hos.2.1, hos.2.2, by simp; exact k4, fun k hk => (World.putObj_heap_other (by omega)).trans (k5 k hk)⟩
  exact ⟨(World.putObj_heap_other (by omega)).trans k2, (World.putObj_heap_other (by omega)).trans k3, hb.trans hW, hW⟩

set_option maxRecDepth 100000 in
set_option maxHeartbeats 4000000 in
theorem Log_any (v u : Value) (bs : List UInt8) (k s : Int) (cs : List Cl) (w : World) (hv : Rd w v (bc bs)) (hu : RdC w u cs) :
    Calls Try.prog 32 #[dsk v k, ntA s u] w fun e w' => ∃ v', e = .returned (.tuple #[dsk v' (logD bs k s cs).2.1, fltC (logD bs k s cs).2.2]) ∧ Rd w' v' (bc (logD bs k s cs).1) ∧ Below w.heap.size w w' ∧ New w.heap.size v' := by
  obtain ⟨ao, cap, hvv, hc1, hc2⟩ := hv.shape
  rw [bc_length] at hc1 hvv
  subst hvv
  unfold maxLen at hc2
  obtain ⟨uo, ucap, huu, hd1, hd2⟩ := hu.shape
  subst huu
  unfold maxLen at hd2
  unfold dsk ntA
  refine (callsIn_wide (n := 5)).1 ?_
  refine callsIn_of_wp_marks Try.func32 rfl trivial ?_ rfl
  simp only [Try.ntmps32, List.size_toArray, List.length_cons, List.length_nil, Nat.reduceAdd, Nat.reduceSub, Array.replicate_succ, Array.replicate_zero, List.push_toArray, List.append_toArray, List.nil_append, List.cons_append]
  gi_wp2_with fail
  obtain ⟨hD4, hN4, hRD4, hRF4, hb4, hz4⟩ := four_new w 58 41 58 28 #[.slice ao bs.length cap, .int .i64 k] #[.int .i64 s, .slice uo cs.length ucap] #[.slice none 0 0, .int .i64 0] #[.int .i64 0, .int .i64 0]
  generalize (((w.alloc (.cells #[.slice ao bs.length cap, .int .i64 k] 58)).alloc (.cells #[.int .i64 s, .slice uo cs.length ucap] 41)).alloc (.cells #[.slice none 0 0, .int .i64 0] 58)).alloc (.cells #[.int .i64 0, .int .i64 0] 28) = w4 at *
  refine ⟨trivial, (callsIn_wide.2 (Check_any _ bs k _ (hv.below hb4))).mono ?_⟩
  rintro e w5 ⟨rfl, hb5⟩
  have hD5 := hD4.below hb5 hD4.lt
  have hN5 := hN4.below hb5 hN4.lt
  have hRD5 := hRD4.below hb5 hRD4.lt
  have hRF5 := hRF4.below hb5 hRF4.lt
  have hbw5 := hb4.trans (hb5.mono (by omega))
  have hz5 := hb5.size
  have HZ4 := hide hz4
  clear hD4 hN4 hRD4 hRF4 hb4 hb5 hz4
  have HLB := hide (@logD_bad bs k s cs)
  have HLN := hide (@logD_note bs k s cs)
  have HLS := hide (@logD_state bs k s cs)
  have HLM := hide (@logD_much bs k s cs)
  have HLO := hide (@logD_ok bs k s cs)
  have d0 := hRD5.cell 0
  have d1 := hRD5.cell 1
  have d2 := hRD5.frozen 0
  have d3 := hRD5.frozen 1
  have g0 := hRF5.cell 0
  have g1 := hRF5.cell 1
  have g2 := hRF5.frozen 0
  have g3 := hRF5.frozen 1
  have hlD := hRD5.lt
  have hlF := hRF5.lt
  have n0 := hN5.cell 0
  have n1 := hN5.cell 1
  simp at d0 d1 g0 g1 n0 n1
  by_cases hc : checkR bs k = 0
  case neg =>
    have HE := hide (HLB.out hc)
    clear HLB HLN HLS HLM HLO
    generalize checkR bs k = cx at *
    have hcb : (cx == 0) = false := beq_eq_false_iff_ne.2 hc
    have hcb2 : (cx != 0) = true := by simp [hc]
    unfold flt
    gi_wp2_with fail
    gi_region
    all_goals
      gi_wp2_with fail
      exact ⟨.tuple #[dsk (.slice none 0 0) 0, fltC (cx, 0)], by simp [results, Try.results32, go_sem, dsk, fltC, d0, d1, g0, g1, hlD, hlF], .slice none 0 0, by rw [HE.out]; rfl, by rw [HE.out]; exact Rd.nil _, by go_grown, New.nil _⟩
  rw [hc]
  have HLN1 := hide (fun h => HLN.out hc h)
  have HLS1 := hide (fun h => HLS.out hc h)
  have HLM1 := hide (fun h => HLM.out hc h)
  have HLO1 := hide (fun h => HLO.out hc h)
  obtain ⟨hk1, hk2, hk3⟩ := checkR_zero hc
  have HC := hide hc
  clear HLB HLN HLS HLM HLO hc
  unfold flt
  gi_upto_region 4 with fail
  have hbA := below_alloc' w5 (.cells #[.int .i64 0, .int .i64 0] 28)
  have hD6 := hD5.below hbA hD5.lt
  have hN6 := hN5.below hbA hN5.lt
  have hRD6 := hRD5.below hbA hRD5.lt
  have hRF6 := hRF5.below hbA hRF5.lt
  have hbw6 := hbw5.trans (hbA.mono hbw5.size)
  have hz6 : w5.heap.size < (w5.alloc (.cells #[.int .i64 0, .int .i64 0] 28)).heap.size := by simp
  generalize w5.alloc (.cells #[.int .i64 0, .int .i64 0] 28) = w6 at *
  clear hbA hD5 hN5 hRD5 hRF5 hbw5 d0 d1 d2 d3 g0 g1 g2 g3 n0 n1 hlD hlF
  have n0 := hN6.cell 0
  have n1 := hN6.cell 1
  simp at n0 n1
  gi_wp2_with fail
  refine ⟨trivial, (callsIn_wide.2 (WWrite_any s _ cs _ (hu.below hbw6))).mono ?_⟩
  rintro e w7 ⟨v7, rfl, hr7, hb7, hn7⟩
  have hD7 := hD6.below hb7 hD6.lt
  have hN7 := hN6.below hb7 hN6.lt
  have hRD7 := hRD6.below hb7 hRD6.lt
  have hRF7 := hRF6.below hb7 hRF6.lt
  have hbw7 := hbw6.trans (hb7.mono hbw6.size)
  have hz7 := hb7.size
  clear hD6 hN6 hRD6 hRF6 hbw6 hb7 n0 n1
  have d0 := hRD7.cell 0
  have d1 := hRD7.cell 1
  have d2 := hRD7.frozen 0
  have d3 := hRD7.frozen 1
  have g0 := hRF7.cell 0
  have g1 := hRF7.cell 1
  have g2 := hRF7.frozen 0
  have g3 := hRF7.frozen 1
  have hlD := hRD7.lt
  have hlF := hRF7.lt
  simp at d0 d1 g0 g1
  have HWB : Hid ((noteF s cs).1 ≠ 0 → writeN s cs = ([], noteF s cs)) := hide (fun h => by rw [writeN, if_neg h])
  have HWO : Hid ((noteF s cs).1 = 0 → writeN s cs = (noteB s cs, (0, 0))) := hide (fun h => by rw [writeN, if_pos h])
  generalize writeN s cs = WN at *
  obtain ⟨YB, fx, fy⟩ := WN
  simp only at hr7 HWB HWO ⊢
  obtain ⟨yo, yc, hyv, _, _⟩ := hr7.shape
  rw [bc_length] at hyv
  subst hyv
  by_cases hnf : (noteF s cs).1 = 0
  case neg =>
    have e9 := HWB.out hnf
    have HE := hide (HLN1.out hnf)
    clear HLN1 HLS1 HLM1 HLO1 HWB HWO
    generalize noteF s cs = NF at *
    obtain ⟨nx, ny⟩ := NF
    simp only [Prod.mk.injEq] at e9
    obtain ⟨rfl, rfl, rfl⟩ := e9
    simp only at hnf
    have hcb : (fx == 0) = false := beq_eq_false_iff_ne.2 hnf
    have hcb2 : (fx != 0) = true := by simp [hnf]
    unfold fltC
    gi_wp2_with fail
    gi_region
    all_goals
      gi_wp2_with fail
      exact ⟨.tuple #[dsk (.slice none 0 0) 0, fltC (fx, fy)], by simp [results, Try.results32, go_sem, dsk, fltC, d0, d1, g0, g1, hlD, hlF], .slice none 0 0, by rw [HE.out]; rfl, by rw [HE.out]; exact Rd.nil _, by go_grown, New.nil _⟩
  have e9 := HWO.out hnf
  simp only [Prod.mk.injEq] at e9
  obtain ⟨hyb, rfl, rfl⟩ := e9
  have HYB := hide hyb
  have hnb := noteB_len hnf
  rw [← hyb] at hnb
  obtain ⟨_, hs1, hs2, _, _, _⟩ := noteF_zero hnf
  have HLS2 := hide (HLS1.out hnf)
  have HLM2 := hide (HLM1.out hnf)
  have HLO2 := hide (HLO1.out hnf)
  clear HLN1 HLS1 HLM1 HLO1 HWB HWO hyb d0 d1 d2 d3 g0 g1 g2 g3
  have hb78 : Below w7.heap.size w7 (((w7.alloc (.cells #[.int .i64 0, .int .i64 0] 28)).alloc (.cells #[.int .i64 0] 3)).alloc (.cells #[.int .i64 0, .slice none 0 0] 41)) := ((below_alloc' _ _).alloc (by simp) _).alloc (by simp; omega) _
  have hS8 : Bk (((w7.alloc (.cells #[.int .i64 0, .int .i64 0] 28)).alloc (.cells #[.int .i64 0] 3)).alloc (.cells #[.int .i64 0, .slice none 0 0] 41)) (w7.heap.size + 1) 3 #[.int .i64 0] := (Bk.new2 w7 _ _ _).below (below_alloc' _ _) (by simp)
  have hL8 : Bk (((w7.alloc (.cells #[.int .i64 0, .int .i64 0] 28)).alloc (.cells #[.int .i64 0] 3)).alloc (.cells #[.int .i64 0, .slice none 0 0] 41)) (w7.heap.size + 1 + 1) 41 #[.int .i64 0, .slice none 0 0] := by
    have h := Bk.new2 (w7.alloc (.cells #[.int .i64 0, .int .i64 0] 28)) (.cells #[.int .i64 0] 3) 41 #[.int .i64 0, .slice none 0 0]
    rw [World.size_alloc] at h
    exact h
  have hz8 : (((w7.alloc (.cells #[.int .i64 0, .int .i64 0] 28)).alloc (.cells #[.int .i64 0] 3)).alloc (.cells #[.int .i64 0, .slice none 0 0] 41)).heap.size = w7.heap.size + 3 := by simp
  have HB78 := hide hb78
  have HS8 := hide hS8
  have HL8 := hide hL8
  have HZ8 := hide hz8
  clear hb78 hS8 hL8 hz8
  unfold fltC
  gi_upto_region 8 with fail
  generalize ((w7.alloc (.cells #[.int .i64 0, .int .i64 0] 28)).alloc (.cells #[.int .i64 0] 3)).alloc (.cells #[.int .i64 0, .slice none 0 0] 41) = w8 at *
  have hD8 := hD7.below HB78.out hD7.lt
  have hbw8 := hbw7.trans (HB78.out.mono hbw7.size)
  have b0 := hD8.cell 0
  simp at b0
  have hlD8 := hD8.lt
  gi_wp2_with fail
  refine ⟨trivial, (callsIn_wide.2 (notesOf_any ao bs.length cap _)).mono ?_⟩
  rintro e w9 ⟨rfl, rfl⟩
  gi_wp2_with fail
  have hb89 := below_alloc' w8 (.cells #[.slice ao bs.length cap] 42)
  have hB9 : Bk (w8.alloc (.cells #[.slice ao bs.length cap] 42)) w8.heap.size 42 #[.slice ao bs.length cap] := Bk.new _ _ _
  have hz89 : (w8.alloc (.cells #[.slice ao bs.length cap] 42)).heap.size = w8.heap.size + 1 := by simp
  generalize hw9 : w8.alloc (.cells #[.slice ao bs.length cap] 42) = w9 at *
  have hS9 := HS8.out.below hb89 HS8.out.lt
  have hL9 := HL8.out.below hb89 HL8.out.lt
  have hz8 := HZ8.out
  have hpv : ∀ a l c, Value.slice ao bs.length cap = .slice (some a) l c → 0 < (bc bs).length → a.block < w.heap.size := by
    intro a l c e hp
    simp only [Value.slice.injEq] at e
    obtain ⟨rfl, _, _⟩ := e
    obtain ⟨b, off, cap', hv, _, _, hb, _⟩ := hv.pos hp
    simp only [Value.slice.injEq, Option.some.injEq] at hv
    rw [hv.1]
    exact hb
  have hbw9 := hbw8.trans (hb89.mono hbw8.size)
  have hcB := hB9.cell 0
  simp at hcB
  have hwz := hbw7.size
  refine wpIn_rangeFunc_st2 (α := Nx) rfl (by omega) (gf := 104) (lb := #[.pointer (some ⟨w8.heap.size, 0, none⟩)]) rfl trivial (enters_of Try.func104 (by kernel_rfl) rfl)
    (notesOf1_stops (5 - 1) (by omega) w8.heap.size ao cap bs (fun k => k = w7.heap.size + 1 ∨ k = w7.heap.size + 1 + 1) _ hcB (hv.below hbw9) (by omega) (fun a l c e hp => by have := hpv a l c e hp; omega) (fun k hk => by omega))
    (fun h k => kpX_t h k) (kpX_b _) (fun _ => rfl)
    (fun pre g W => g = none ∧ ∃ lu, Bk W (w7.heap.size + 1) 3 #[.int .i64 (sizX pre)] ∧ Bk W (w7.heap.size + 1 + 1) 41 #[.int .i64 (lasX pre), lu] ∧ lu.oneCell' = true ∧ Below (w7.heap.size + 1) w9 W)
    (fun _ _ _ _ => False) ?hI (fun _ _ _ _ _ _ h _ _ => h) ⟨rfl, .slice none 0 0, hS9, hL9, rfl, Below.refl _ _⟩ (fun s g A h k e => by rw [h.1] at e; cases e) ?hround ?hdone (fun _ _ _ _ _ _ _ _ h _ => h.elim)
  case hI =>
    rintro s g A A' row ⟨rfl, lu, h1, h2, h3, h4⟩ hg hr
    exact ⟨rfl, lu, h1.grown hg (fun e => by have := hr _ e.symm; omega), h2.grown hg (fun e => by have := hr _ e.symm; omega), h3, h4.grown hg (by have := h4.size; omega) (fun k e => by have := hr _ e; omega)⟩
  case hround =>
    rintro l pre ⟨xe, ⟨xs, xc⟩, xv⟩ g W ⟨rfl, lu, h1, h2, h3, h4⟩ ⟨_, hx2, hx3, hx4⟩ hsz
    simp only at hx2 hx3 hx4
    obtain ⟨xo, xcap, rfl, hx5, hx6⟩ := hx2.shape
    simp only [encX]
    simp (config := { decide := true }) only [List.zip_toArray, List.zip_cons_cons, List.zip_nil_right, List.foldl_toArray, List.foldl_cons, List.foldl_nil, List.setIfInBounds_toArray, List.set_cons_succ, List.set_cons_zero]
    gi_wp2_with fail
    have hbA := below_alloc' W (.cells #[.int .i64 xs, .slice xo xc.length xcap] 41)
    have hNx := Bk.new W 41 #[.int .i64 xs, .slice xo xc.length xcap]
    refine ⟨keepsFrom_below hbA, kpX_below hbA, ⟨trivial, lu, h1.below hbA h1.lt, h2.below hbA h2.lt, h3, h4.trans (hbA.mono (by have := h1.lt; omega))⟩, ?_⟩
    rintro l' W2 hrl ⟨_, lu2, q1, q2, q3, q4⟩
    have hN2 : Bk W2 W.heap.size 41 #[.int .i64 xs, .slice xo xc.length xcap] := (hrl.2 W.heap.size (.inr (by omega)) hNx.lt).trans hNx
    have hlt2 := hN2.lt
    have hltS := q1.lt
    have hltL := q2.lt
    have n0 := hN2.cell 0
    have n1 := hN2.cell 1
    have s0 := q1.cell 0
    have s1 := q1.frozen 0
    have l0 := q2.cell 0
    have l1 := q2.cell 1
    have l2 := q2.frozen 0
    have l3 := q2.frozen 1
    simp at n0 n1 s0 l0 l1
    have Q1 := hide q1
    have Q2 := hide q2
    have Q4 := hide q4
    clear hbA hNx hrl hN2 q1 q2 q4 h1 h2 h4 hS9 hL9 hB9 hD8 hb89 hw9
    gi_wp2_with fail
    gi_region
    all_goals
      gi_wp2_with fail
      first
        | exact (fun (h : Wr2 w9 W2 w9.heap.size (w7.heap.size + 1) (w7.heap.size + 1 + 1) 3 41 (.int .i64 xe) (.int .i64 xs) (.slice xo xc.length xcap) _) => ⟨⟨h.1.size, h.1.same⟩, ⟨h.2.1.1, h.2.1.2⟩, none, rfl, .slice xo xc.length xcap, by rw [sizX_snoc]; exact h.2.2.1, by rw [lasX_snoc]; exact h.2.2.2.1, rfl, ⟨h.2.2.2.2.os, h.2.2.2.2.tape, h.2.2.2.2.output, h.2.2.2.2.size, h.2.2.2.2.block⟩⟩) (wr2_a _ _ _ Q1.out Q2.out Q4.out (by omega) (by omega))
        | exact (fun (h : Wr2 w9 W2 w9.heap.size (w7.heap.size + 1) (w7.heap.size + 1 + 1) 3 41 (.int .i64 xe) (.int .i64 xs) (.slice xo xc.length xcap) _) => ⟨⟨h.1.size, h.1.same⟩, ⟨h.2.1.1, h.2.1.2⟩, none, rfl, .slice xo xc.length xcap, by rw [sizX_snoc]; exact h.2.2.1, by rw [lasX_snoc]; exact h.2.2.2.1, rfl, ⟨h.2.2.2.2.os, h.2.2.2.2.tape, h.2.2.2.2.output, h.2.2.2.2.size, h.2.2.2.2.block⟩⟩) (wr2_b _ _ _ Q1.out Q2.out Q4.out (by omega) (by omega))
  case hdone =>
    rintro D xs g W hD1 hD2 hSx ⟨rfl, lu, h1, h2, h3, h4⟩ hK
    rw [sizX_all hSx] at h1
    rw [lasX_all hSx] at h2
    have hsl := sizeR_le bs
    obtain ⟨hl1, hl2⟩ := lastR_range bs
    have hb7W : Below w7.heap.size w7 W := (HB78.out.trans (hb89.mono (by omega))).trans (h4.mono (by omega))
    have hDW := hD7.below hb7W hD7.lt
    have hNW := hN7.below hb7W hN7.lt
    have hRDW := hRD7.below hb7W hRD7.lt
    have hRFW := hRF7.below hb7W hRF7.lt
    have hbwW := hbw7.trans (hb7W.mono hwz)
    have hrW := hr7.below hb7W
    clear h4 hb7W hD7 hN7 hRD7 hRF7 hr7 hS9 hL9 hB9 hD8 hb89 hw9 HB78 HS8 HL8 hcB hSx
    have d0 := hRDW.cell 0
    have d1 := hRDW.cell 1
    have d2 := hRDW.frozen 0
    have d3 := hRDW.frozen 1
    have g0 := hRFW.cell 0
    have g1 := hRFW.cell 1
    have g2 := hRFW.frozen 0
    have g3 := hRFW.frozen 1
    have z0 := h1.cell 0
    have y0 := h2.cell 0
    have y1 := h2.cell 1
    have n0 := hNW.cell 0
    have n1 := hNW.cell 1
    have e0 := hDW.cell 0
    have e1 := hDW.cell 1
    simp at d0 d1 g0 g1 z0 y0 y1 n0 n1 e0 e1
    have hlD9 := hRDW.lt
    have hlF9 := hRFW.lt
    have hlS9 := h1.lt
    have hlL9 := h2.lt
    by_cases hsz : sizeR bs < bs.length
    case pos =>
      have HE := hide (HLS2.out (.inl hsz))
      gi_wp2_with fail
      refine ⟨trivial, ?_⟩
      gi_wp2_with fail
      obtain ⟨hKX, hfX⟩ := fin5 (X := (((W.setCell ⟨w.heap.size + 1 + 1, 0, none⟩ (.slice none 0 0)).setCell ⟨w.heap.size + 1 + 1, 1, none⟩ (.int .i64 0)).setCell ⟨w.heap.size + 1 + 1 + 1, 0, none⟩ (.int .i64 11)).setCell ⟨w.heap.size + 1 + 1 + 1, 1, none⟩ (.int .i64 0)) hRDW hRFW (by omega) (by omega) (by omega) hbwW hK (.inl rfl) ⟨rfl, rfl, rfl⟩
      obtain ⟨hf1, hf2, hf3, _⟩ := hfX (.deferred none)
      refine ⟨by simp, .inl ⟨_, _, rfl, run_takeDeferred hKX, ?_⟩⟩
      generalize ((((W.setCell ⟨w.heap.size + 1 + 1, 0, none⟩ (.slice none 0 0)).setCell ⟨w.heap.size + 1 + 1, 1, none⟩ (.int .i64 0)).setCell ⟨w.heap.size + 1 + 1 + 1, 0, none⟩ (.int .i64 11)).setCell ⟨w.heap.size + 1 + 1 + 1, 1, none⟩ (.int .i64 0)).putObj D (.deferred none) = WF at *
      have k0 := hf1.cell 0
      have k1 := hf1.cell 1
      have k2 := hf2.cell 0
      have k3 := hf2.cell 1
      simp at k0 k1 k2 k3
      exact ⟨.tuple #[dsk (.slice none 0 0) 0, fltC (11, 0)], by simp [results, Try.results32, go_sem, dsk, fltC, k0, k1, k2, k3], .slice none 0 0, by rw [HE.out]; rfl, by rw [HE.out]; exact Rd.nil _, hf3, New.nil _⟩
    have hse : sizeR bs = bs.length := by omega
    have hse2 : ((sizeR bs : Nat) : Int) = (bs.length : Int) := by rw [hse]
    rw [hse2] at z0
    clear hse2
    gi_wp2_with fail
    refine ⟨trivial, (callsIn_wide.2 (follows_any (lastR bs) s lu (.slice uo cs.length ucap) _ ⟨by omega, by omega⟩)).mono ?_⟩
    rintro e WB ⟨rfl, hbB⟩
    have hDB := hDW.below hbB hDW.lt
    have hRDB := hRDW.below hbB hRDW.lt
    have hRFB := hRFW.below hbB hRFW.lt
    have hbwB := hbwW.trans (hbB.mono hbwW.size)
    have hrB := hrW.below hbB
    have hKB : WB.heap[D]? = some (.deferred (some [])) := (hbB.block D (Array.getElem?_eq_some_iff.1 hK).1).trans hK
    clear hK hrW hbwW hRFW hRDW hDW hNW h1 h2 hbB d0 d1 d2 d3 g0 g1 g2 g3 z0 y0 y1 n0 n1 e0 e1
    have d0 := hRDB.cell 0
    have d1 := hRDB.cell 1
    have d2 := hRDB.frozen 0
    have d3 := hRDB.frozen 1
    have g0 := hRFB.cell 0
    have g1 := hRFB.cell 1
    have g2 := hRFB.frozen 0
    have g3 := hRFB.frozen 1
    have e0 := hDB.cell 0
    have e1 := hDB.cell 1
    simp at d0 d1 g0 g1 e0 e1
    have hlDB := hRDB.lt
    have hlFB := hRFB.lt
    cases hfo : follB (lastR bs) s
    · have HE := hide (HLS2.out (.inr hfo))
      gi_wp2_with fail
      obtain ⟨hKX, hfX⟩ := fin5 (X := (((WB.setCell ⟨w.heap.size + 1 + 1, 0, none⟩ (.slice none 0 0)).setCell ⟨w.heap.size + 1 + 1, 1, none⟩ (.int .i64 0)).setCell ⟨w.heap.size + 1 + 1 + 1, 0, none⟩ (.int .i64 11)).setCell ⟨w.heap.size + 1 + 1 + 1, 1, none⟩ (.int .i64 0)) hRDB hRFB (by omega) (by omega) (by omega) hbwB hKB (.inl rfl) ⟨rfl, rfl, rfl⟩
      obtain ⟨hf1, hf2, hf3, _⟩ := hfX (.deferred none)
      refine ⟨by simp, .inl ⟨_, _, rfl, run_takeDeferred hKX, ?_⟩⟩
      generalize ((((WB.setCell ⟨w.heap.size + 1 + 1, 0, none⟩ (.slice none 0 0)).setCell ⟨w.heap.size + 1 + 1, 1, none⟩ (.int .i64 0)).setCell ⟨w.heap.size + 1 + 1 + 1, 0, none⟩ (.int .i64 11)).setCell ⟨w.heap.size + 1 + 1 + 1, 1, none⟩ (.int .i64 0)).putObj D (.deferred none) = WF at *
      have k0 := hf1.cell 0
      have k1 := hf1.cell 1
      have k2 := hf2.cell 0
      have k3 := hf2.cell 1
      simp at k0 k1 k2 k3
      exact ⟨.tuple #[dsk (.slice none 0 0) 0, fltC (11, 0)], by simp [results, Try.results32, go_sem, dsk, fltC, k0, k1, k2, k3], .slice none 0 0, by rw [HE.out]; rfl, by rw [HE.out]; exact Rd.nil _, hf3, New.nil _⟩
    have hno : ¬ (sizeR bs < bs.length ∨ follB (lastR bs) s = false) := by rw [hfo]; simp; omega
    have HAP : Hid (appendR bs k (framed YB) = ((logD bs k s cs).1, (logD bs k s cs).2.1, (logD bs k s cs).2.2.1) ∧ (logD bs k s cs).2.2.2 = 0) := hide (by
      have hyb := HYB.out
      subst hyb
      by_cases hm : 60000 < bs.length + (framed (noteB s cs)).length
      · rw [HLM2.out hno hm, appendR_much HC.out hm]; exact ⟨rfl, rfl⟩
      · rw [HLO2.out hno hm, appendR_ok HC.out hm]; exact ⟨rfl, rfl⟩)
    have HVB := hide (hv.below hbwB)
    have HRB := hide hrB
    have HBW := hide hbwB
    have hpy : ∀ a l c, Value.slice yo YB.length yc = .slice (some a) l c → 0 < (bc YB).length → a.block < WB.heap.size := by
      intro a l c e hp
      simp only [Value.slice.injEq] at e
      obtain ⟨rfl, _, _⟩ := e
      obtain ⟨b, off, cap', hv, _, _, hb, _⟩ := hrB.pos hp
      simp only [Value.slice.injEq, Option.some.injEq] at hv
      rw [hv.1]
      exact hb
    have HPY := hide hpy
    have HRD := hide hRDB
    have HRF := hide hRFB
    have HDB := hide hDB
    have HK := hide hKB
    clear hpy hrB HLS2 HLM2 HLO2 HYB hno hfo hRDB hRFB hKB hDB hsl
    gi_wp2_with fail
    refine wpIn_quiet ?_
    gi_region_with (first
      | (refine ⟨trivial, (callsIn_wide.2 (AppendFrame_any (.slice none 0 0) _ [] YB WB.heap.size _ (World.ownsRow_nil _ _ _ _) (by exact Nat.le_refl _) (by exact HRB.out) (by exact HPY.out) (by simp) (by omega))).mono ?_⟩; rintro e WC ⟨vC, rfl, hoC, hbC⟩; rw [List.nil_append] at hoC; have hbC1 : Below WB.heap.size WB WC := ⟨hbC.os, hbC.tape, hbC.output, hbC.size, hbC.block⟩; have hDC := HDB.out.below hbC1 HDB.out.lt; have c0 := hDC.cell 0; have c1 := hDC.cell 1; simp at c0 c1; clear hDC)
      | (refine ⟨trivial, (callsIn_wide.2 (Append_any (.slice ao bs.length cap) bs k vC (framed YB) _ (by exact HVB.out.below hbC1) (Rd.ofOwns hoC))).mono ?_⟩; rintro e WE ⟨vE, rfl, hrE, hbE, hnE⟩; obtain ⟨eo, ec, hev, _, _⟩ := hrE.shape; rw [bc_length] at hev; subst hev; have hbE1 := hbC1.trans (hbE.mono hbC1.size); have hRDE := HRD.out.below hbE1 HRD.out.lt; have hRFE := HRF.out.below hbE1 HRF.out.lt; have d0 := hRDE.cell 0; have d1 := hRDE.cell 1; have d2 := hRDE.frozen 0; have d3 := hRDE.frozen 1; have g0 := hRFE.cell 0; have g1 := hRFE.cell 1; have g2 := hRFE.frozen 0; have g3 := hRFE.frozen 1; simp at d0 d1 g0 g1; have hlDE := hRDE.lt; have hlFE := hRFE.lt; unfold dsk flt))
    all_goals
      gi_wp2_with fail
      have hbwE := HBW.out.trans (hbE1.mono HBW.out.size)
      have hKE : WE.heap[D]? = some (.deferred (some [])) := (hbE1.block D (Array.getElem?_eq_some_iff.1 HK.out).1).trans HK.out
      have hDlt := (Array.getElem?_eq_some_iff.1 HK.out).1
      obtain ⟨hA1, hA2⟩ := HAP.out
      rw [hA1] at hrE hnE ⊢
      generalize logD bs k s cs = LD at *
      obtain ⟨lb, lk, lc, la⟩ := LD
      simp only at hA2 hrE hnE ⊢
      subst hA2
      have hkp : kpX (fun k => k = w.heap.size + 1 + 1 ∨ k = w.heap.size + 1 + 1 + 1) none WE ((((WE.setCell ⟨w.heap.size + 1 + 1, 0, none⟩ (.slice eo lb.length ec)).setCell ⟨w.heap.size + 1 + 1, 1, none⟩ (.int .i64 lk)).setCell ⟨w.heap.size + 1 + 1 + 1, 0, none⟩ (.int .i64 lc)).setCell ⟨w.heap.size + 1 + 1 + 1, 1, none⟩ (.int .i64 0)) := ((((kpX_below (Below.refl _ _)).setC 0 _ (.inl rfl)).setC 1 _ (.inl rfl)).setC 0 _ (.inr rfl)).setC 1 _ (.inr rfl)
      obtain ⟨hKX, hfX⟩ := fin5 (X := (((WE.setCell ⟨w.heap.size + 1 + 1, 0, none⟩ (.slice eo lb.length ec)).setCell ⟨w.heap.size + 1 + 1, 1, none⟩ (.int .i64 lk)).setCell ⟨w.heap.size + 1 + 1 + 1, 0, none⟩ (.int .i64 lc)).setCell ⟨w.heap.size + 1 + 1 + 1, 1, none⟩ (.int .i64 0)) hRDE hRFE (by omega) (by omega) (by omega) hbwE hKE (.inl rfl) ⟨rfl, rfl, rfl⟩
      obtain ⟨hf1, hf2, hf3, _⟩ := hfX (.deferred none)
      have hkp2 := kpX_t hkp (kpX_b _ none _ D _ (.deferred none) hKX rfl)
      refine ⟨by simp, .inl ⟨_, _, rfl, run_takeDeferred hKX, ?_⟩⟩
      generalize ((((WE.setCell ⟨w.heap.size + 1 + 1, 0, none⟩ (.slice eo lb.length ec)).setCell ⟨w.heap.size + 1 + 1, 1, none⟩ (.int .i64 lk)).setCell ⟨w.heap.size + 1 + 1 + 1, 0, none⟩ (.int .i64 lc)).setCell ⟨w.heap.size + 1 + 1 + 1, 1, none⟩ (.int .i64 0)).putObj D (.deferred none) = WF at *
      have k0 := hf1.cell 0
      have k1 := hf1.cell 1
      have k2 := hf2.cell 0
      have k3 := hf2.cell 1
      simp at k0 k1 k2 k3
      have hzC := hbC1.size
      exact ⟨.tuple #[dsk (.slice eo lb.length ec) lk, fltC (lc, 0)], by simp [results, Try.results32, go_sem, dsk, fltC, k0, k1, k2, k3], .slice eo lb.length ec, rfl, hkp2.rd hrE (fun a l c e hp => ⟨by have := hnE a l c e; omega, by simp⟩), hf3, hnE.mono (by omega)⟩

end Go.Proofs.Ytdodajalejfbiad

/-
  The walk over wal.Replay.
-/
namespace Go.Proofs.Ytdodajalejfbiad
open Go.RowKit Go.Shelf
attribute [local go_sem] Oper.semAt_some

theorem wpListIn_append_one2E {F : Fence} {nF : Nat} {P : Program} {w : World} {q : Int} {u : Value} {ops : Array Oper} {rest : List Oper} {o : Oper} {a : Act} {Q : Exit → Act → World → Prop} {s x : Operand} {t : TypeId} {base : Nat} {e : TypeId} {z : Value} {bytes : Nat}
    {v : Value} {n : Nat} {cs : List (Int × Value)} (hu : u.oneCell' = true)
    (hown : w.ownsRow base e 2 v n (nn cs))
    (ht : P.underlying t = some (.slice e)) (hinf : (P.info? e).map (fun i => (i.zero, i.size, i.bytes)) = some (some z, 2, bytes)) (hzs : z.cells.size = 2)
    (hgd : o.guard = none) (ho : o.op = .call { callee := .builtin .append, args := #[s, x], argTypes := #[t, t] })
    (hs : a.eval s = v) (hx : a.eval x = .slice (some ⟨w.heap.size, 0, none⟩) 1 1)
    (h63 : n ≤ 100000000) (hbytes : bytes ≤ 64) (hbase : base ≤ w.heap.size)
    (h : ∀ v' w', w'.ownsRow base e 2 v' (n + 1) (nn (cs ++ [(q, u)])) → Below base w w' → Ext w w' v v' → wpListIn F nF P ops Q rest (a.put o.dst v') w') : wpListIn F nF P ops Q (o :: rest) a (w.alloc (.cells #[.int .i64 q, u] e)) := by
  obtain ⟨i, hi, hz, hsize, hby⟩ := info_parts hinf
  have hown1 := hown.alloc (.cells #[.int .i64 q, u] e)
  have hlt := hown1.lt
  have hbytes' : (n + 1) * bytes ≤ 1000000000 * 64 := Nat.mul_le_mul (by omega) hbytes
  obtain ⟨ao, cap, hvx, h2, h3, h4, h6, h5⟩ := Rd2.new w q u e hu
  simp only [Value.slice.injEq] at hvx
  obtain ⟨rfl, _, rfl⟩ := hvx
  refine wpListIn_append_own_at (w := w.alloc (.cells #[.int .i64 q, u] e)) hgd s x t ho base e i z 2 bytes ht hi hz hsize hby hzs (by decide) v n (nn cs) hs hown1 _ 1 1 (nn [(q, u)]) hx (nn_length _) (h5 _ rfl) (nn_one h6) (by simp [maxLen]; omega) (by omega) (by simp; omega) ?_
  intro v' w' ho' hg' _ hat
  rw [← nn_append] at ho'
  exact h v' w' ho' (((Below.refl _ _).alloc hbase _).trans ((Below.refl _ _).grown hg' (by simp; omega) (fun k hk => (hlt k hk).1))) ((Ext.alloc _ _ _).trans ⟨hg', hat.imp id fun e k hk => by rw [e] at hk; simp at hk; simp; omega⟩)

theorem rdC_same {w w' : World} {v : Value} {cs : List Cl} (h : RdC w v cs) (hs : ∀ a l c, v = .slice (some a) l c → 0 < cs.length → w'.heap[a.block]? = w.heap[a.block]?) : RdC w' v cs := by
  obtain ⟨ao, cap, hv, h1, h2, h3, h4⟩ := h
  refine ⟨ao, cap, hv, h1, h2, h3, fun a ha j u hu => ?_⟩
  have hc := h4 a ha j u hu
  have hb : (a.add j).block = a.block := by unfold Addr.add; split <;> rfl
  have hl := (List.getElem?_eq_some_iff.1 hu).1
  rw [cc_length] at hl
  rw [← hc]
  exact World.cell?_of_block (by rw [hb]; exact hs a _ _ (by rw [hv, ha]) (by omega))

theorem owns_same {w w' : World} {base : Nat} {e : TypeId} {size : Nat} {v : Value} {n : Nat} {xs : List Value} (h : w.ownsRow base e size v n xs) (hs : ∀ k, v.ownBlock = some k → w'.heap[k]? = w.heap[k]?) : w'.ownsRow base e size v n xs := by
  refine ⟨h.1, ?_⟩
  rcases h.2 with hn | ⟨g, cap, cur, rfl, hg, hh, r⟩
  · exact .inl hn
  · exact .inr ⟨g, cap, cur, rfl, hg, by rw [hs g (by simp [Value.ownBlock])]; exact hh, r⟩

theorem ntO_same {w w' : World} {r : Value} {ps : List (Int × Value)} {ns : List Nt} {B : Nat} (h : NtO w r ps ns) (hN : ∀ p ∈ ps, New B p.2) (hs : ∀ k, B ≤ k → k < w.heap.size → w'.heap[k]? = w.heap[k]?) : NtO w' r ps ns := by
  obtain ⟨⟨h1, h2⟩, h4⟩ := h
  refine ⟨⟨h1, fun i p n hp hn => ⟨(h2 i p n hp hn).1, rdC_same (h2 i p n hp hn).2 (fun a l c e hl => hs _ (hN p (List.mem_of_getElem? hp) a l c e) ?_)⟩⟩, h4⟩
  obtain ⟨ao, cap, hv, _, _, _, h7⟩ := (h2 i p n hp hn).2
  rw [e] at hv
  simp only [Value.slice.injEq] at hv
  obtain ⟨rfl, _, _⟩ := hv
  have hc := h7 a rfl 0 ((cc n.cells)[0]'(by rw [cc_length]; omega)) (by simp)
  have hlt := World.block_lt_of_cell? w _ hc
  have hb : (a.add 0).block = a.block := by unfold Addr.add; split <;> rfl
  rw [hb] at hlt
  exact hlt

/-- What stands between the rounds. -/
def RpI (w9 : World) (zN : Nat) (pre : List Nx) (g : Option Nat) (W : World) : Prop :=
  ∃ vv ps, g = vv.ownBlock ∧ Bk W zN 62 #[vv] ∧ Bk W (zN + 1) 3 #[.int .i64 (sizX pre)] ∧ W.ownsRow (w9.heap.size + 5) 41 2 vv pre.length (nn ps) ∧ NtO W vv ps (pre.map (·.2.1)) ∧ (∀ p ∈ ps, New (w9.heap.size + 5) p.2) ∧ pre.length ≤ 1000 ∧ Below zN w9 W

theorem RpI.ownG {w9 : World} {zN : Nat} (hz : zN + 1 < w9.heap.size) : OwnG w9.heap.size (RpI w9 zN) := by
  rintro s g A A' row ⟨vv, ps, h1, h2, h3, h4, h5, h6, h7, h8⟩ hg hr
  refine ⟨vv, ps, h1, h2.grown hg (fun e => by have := hr _ e.symm; omega), h3.grown hg (fun e => by have := hr _ e.symm; omega), owns_same h4 (fun k hk => hg.block k (h4.lt k hk).2 (fun e => by have := hr _ e.symm; have := h4.lt k hk; omega)), ntO_same h5 h6 (fun k hk hl => hg.block k hl (fun e => by have := hr _ e.symm; omega)), h6, h7, h8.grown hg (by have := h2.lt; omega) (fun k e => by have := hr _ e; omega)⟩

/-- A note is put behind the others. -/
theorem RpI.step {w9 W2 w6 : World} {zN : Nat} {pre : List Nx} {x : Nx} {vv v6 : Value} {ps : List (Int × Value)} (hz : zN + 1 < w9.heap.size)
    (h2 : Bk W2 zN 62 #[vv]) (h3 : Bk W2 (zN + 1) 3 #[.int .i64 (sizX pre)]) (h4 : W2.ownsRow (w9.heap.size + 5) 41 2 vv pre.length (nn ps)) (h5 : NtO W2 vv ps (pre.map (·.2.1))) (h6 : ∀ p ∈ ps, New (w9.heap.size + 5) p.2) (h7 : pre.length < 1000) (h8 : Below zN w9 W2)
    (hx : RdC W2 x.2.2 x.2.1.cells) (hxn : New (w9.heap.size + 5) x.2.2) (hxo : Off vv x.2.2)
    (ho6 : w6.ownsRow (w9.heap.size + 5) 41 2 v6 (pre.length + 1) (nn (ps ++ [(x.2.1.seq, x.2.2)]))) (he6 : Ext W2 w6 vv v6) :
    KeepsFrom w9.heap.size W2 ((w6.setCell ⟨zN, 0, none⟩ v6).setCell ⟨zN + 1, 0, none⟩ (.int .i64 x.1)) ∧ kpX (fun k => k = zN ∨ k = zN + 1) vv.ownBlock W2 ((w6.setCell ⟨zN, 0, none⟩ v6).setCell ⟨zN + 1, 0, none⟩ (.int .i64 x.1)) ∧ ∃ g', RpI w9 zN (pre ++ [x]) g' ((w6.setCell ⟨zN, 0, none⟩ v6).setCell ⟨zN + 1, 0, none⟩ (.int .i64 x.1)) := by
  have hbk : ∀ k, vv.ownBlock = some k → ∃ o, W2.heap[k]? = some o ∧ o.isCells = true := fun k hk => by
    rcases h4.2 with ⟨rfl, _⟩ | ⟨g, cap, cur, rfl, hg, hh, r⟩
    · simp [Value.ownBlock] at hk
    · simp [Value.ownBlock] at hk
      subst hk
      exact ⟨_, hh, rfl⟩
  have hb2 : ∀ k, k < w9.heap.size + 5 → vv.ownBlock ≠ some k := fun k hk e => by have := h4.lt k e; omega
  have hb6 : ∀ k, k < w9.heap.size + 5 → v6.ownBlock ≠ some k := fun k hk e => by have := ho6.lt k e; omega
  have k6 : KeepsFrom w9.heap.size W2 w6 := ⟨he6.size, fun k o _ hk ho => by
    rw [he6.block (Array.getElem?_eq_some_iff.1 hk).1 (fun e => by obtain ⟨o', h', hc⟩ := hbk k e; rw [hk] at h'; cases h'; rw [ho] at hc; cases hc)]
    exact hk⟩
  have p6 : kpX (fun k => k = zN ∨ k = zN + 1) vv.ownBlock W2 w6 := ⟨he6.size, fun k o hk _ _ hg => by
    rw [he6.block (Array.getElem?_eq_some_iff.1 hk).1 hg]
    exact hk⟩
  have hl := h3.lt
  have h2a := (h2.ext he6 (hb2 _ (by omega)))
  have h3a := (h3.ext he6 (hb2 _ (by omega)))
  have hz6 := he6.size
  have hnt := (h5.snoc (n := x.2.1) hx hxo).ext he6
  have hnw : ∀ p ∈ ps ++ [(x.2.1.seq, x.2.2)], New (w9.heap.size + 5) p.2 := fun p hp => (List.mem_append.1 hp).elim (h6 p) (fun h => by simp at h; rw [h]; exact hxn)
  have hsame : ∀ k, k ≠ zN → k ≠ zN + 1 → ((w6.setCell ⟨zN, 0, none⟩ v6).setCell ⟨zN + 1, 0, none⟩ (.int .i64 x.1)).heap[k]? = w6.heap[k]? := fun k h h' => by
    rw [heap_setCell_other _ _ _ _ (by simp only; omega), heap_setCell_other _ _ _ _ (by simp only; omega)]
  refine ⟨keepsSet (keepsSet k6 0 _ (by omega)) 0 _ (by omega), (p6.setC 0 _ (.inl rfl)).setC 0 _ (.inr rfl), v6.ownBlock, v6, ps ++ [(x.2.1.seq, x.2.2)], rfl, (h2a.set 0 v6).othN (by simp only; omega) _, ?_, ?_, ?_, hnw, by simp; omega, ?_⟩
  · rw [sizX_snoc]
    exact (h3a.othN (by simp only; omega) v6).set 0 _
  · rw [List.length_append]
    exact owns_same ho6 (fun k hk => hsame k (fun e => by subst e; exact hb6 _ (by omega) hk) (fun e => by subst e; exact hb6 _ (by omega) hk))
  · rw [List.map_append]
    exact ntO_same hnt hnw (fun k hk _ => hsame k (by omega) (by omega))
  · exact belowSet (belowSet (h8.trans (he6.below (by omega) (fun k hk => by have := h4.lt k hk; omega))) (by omega) 0 _ (Nat.le_refl _)) (by simp; omega) 0 _ (by omega)

/-- What stands where it was too much. -/
def RpX (w : World) (c : Code) (pre : List Nx) (_ : Option Nat) (W : World) : Prop :=
  c = .ret ∧ pre.length = 1001 ∧ Bk W (w.heap.size + 1) 58 #[.slice none 0 0, .int .i64 0] ∧ Bk W (w.heap.size + 1 + 1) 62 #[.slice none 0 0] ∧ Bk W (w.heap.size + 1 + 1 + 1) 28 #[.int .i64 2, .int .i64 0] ∧ Below w.heap.size w W

theorem RpX.ownG {w w9 : World} (hz : w.heap.size + 4 ≤ w9.heap.size) (c : Code) : OwnG w9.heap.size (RpX w c) := by
  rintro s g A A' row ⟨h1, h2, h3, h4, h5, h6⟩ hg hr
  exact ⟨h1, h2, h3.grown hg (fun e => by have := hr _ e.symm; omega), h4.grown hg (fun e => by have := hr _ e.symm; omega), h5.grown hg (fun e => by have := hr _ e.symm; omega), h6.grown hg (by have := h5.lt; omega) (fun k e => by have := hr _ e; omega)⟩

/-- Three results are written. -/
theorem fin6 {W : World} {A : Nat} {t1 t2 t3 : TypeId} {x0 x1 y0 z0 z1 : Value} (a b c d e : Value) (h1 : Bk W A t1 #[x0, x1]) (h2 : Bk W (A + 1) t2 #[y0]) (h3 : Bk W (A + 1 + 1) t3 #[z0, z1]) :
    Bk (((((W.setCell ⟨A, 0, none⟩ a).setCell ⟨A, 1, none⟩ b).setCell ⟨A + 1, 0, none⟩ c).setCell ⟨A + 1 + 1, 0, none⟩ d).setCell ⟨A + 1 + 1, 1, none⟩ e) A t1 #[a, b] ∧
    Bk (((((W.setCell ⟨A, 0, none⟩ a).setCell ⟨A, 1, none⟩ b).setCell ⟨A + 1, 0, none⟩ c).setCell ⟨A + 1 + 1, 0, none⟩ d).setCell ⟨A + 1 + 1, 1, none⟩ e) (A + 1) t2 #[c] ∧
    Bk (((((W.setCell ⟨A, 0, none⟩ a).setCell ⟨A, 1, none⟩ b).setCell ⟨A + 1, 0, none⟩ c).setCell ⟨A + 1 + 1, 0, none⟩ d).setCell ⟨A + 1 + 1, 1, none⟩ e) (A + 1 + 1) t3 #[d, e] ∧
    (∀ k, (k < A ∨ A + 3 ≤ k) → (((((W.setCell ⟨A, 0, none⟩ a).setCell ⟨A, 1, none⟩ b).setCell ⟨A + 1, 0, none⟩ c).setCell ⟨A + 1 + 1, 0, none⟩ d).setCell ⟨A + 1 + 1, 1, none⟩ e).heap[k]? = W.heap[k]?) ∧
    Below A W (((((W.setCell ⟨A, 0, none⟩ a).setCell ⟨A, 1, none⟩ b).setCell ⟨A + 1, 0, none⟩ c).setCell ⟨A + 1 + 1, 0, none⟩ d).setCell ⟨A + 1 + 1, 1, none⟩ e) := by
  have hl := h3.lt
  refine ⟨(((h1.store2 a b).othN (by simp only; omega) c).othN (by simp only; omega) d).othN (by simp only; omega) e, ((((h2.othN (by simp only; omega) a).othN (by simp only; omega) b).set 0 c).othN (by simp only; omega) d).othN (by simp only; omega) e, (((h3.othN (by simp only; omega) a).othN (by simp only; omega) b).othN (by simp only; omega) c).store2 d e, fun k hk => ?_, ?_⟩
  · rw [heap_setCell_other _ _ _ _ (by simp only; omega), heap_setCell_other _ _ _ _ (by simp only; omega), heap_setCell_other _ _ _ _ (by simp only; omega), heap_setCell_other _ _ _ _ (by simp only; omega), heap_setCell_other _ _ _ _ (by simp only; omega)]
  · exact belowSet (belowSet (belowSet (belowSet (belowSet (Below.refl _ _) (by omega) 0 a (Nat.le_refl _)) (by simp; omega) 1 b (Nat.le_refl _)) (by simp; omega) 0 c (by omega)) (by simp; omega) 0 d (by omega)) (by simp; omega) 1 e (by omega)

end Go.Proofs.Ytdodajalejfbiad

/-
  The walk over wal.Replay: the function.
-/
namespace Go.Proofs.Ytdodajalejfbiad
open Go.RowKit Go.Shelf
attribute [local go_sem] Oper.semAt_some

theorem fin7 {W X : World} {A D : Nat} {t1 t2 t3 : TypeId} {a b c d e : Value} {o o' : Obj} (hD : A + 3 ≤ D) (hX : Bk X A t1 #[a, b] ∧ Bk X (A + 1) t2 #[c] ∧ Bk X (A + 1 + 1) t3 #[d, e] ∧ (∀ k, (k < A ∨ A + 3 ≤ k) → X.heap[k]? = W.heap[k]?) ∧ Below A W X) (hK : W.heap[D]? = some o) :
    X.drew.heap[D]? = some o ∧ Bk (X.drew.putObj D o') A t1 #[a, b] ∧ Bk (X.drew.putObj D o') (A + 1) t2 #[c] ∧ Bk (X.drew.putObj D o') (A + 1 + 1) t3 #[d, e] ∧ (∀ k, k ≠ D → (k < A ∨ A + 3 ≤ k) → (X.drew.putObj D o').heap[k]? = W.heap[k]?) ∧ Below A W (X.drew.putObj D o') := by
  obtain ⟨h1, h2, h3, h4, h5⟩ := hX
  refine ⟨(h4 D (.inr hD)).trans hK, (World.putObj_heap_other (by omega)).trans h1, (World.putObj_heap_other (by omega)).trans h2, (World.putObj_heap_other (by omega)).trans h3, fun k hk hk2 => (World.putObj_heap_other (by omega)).trans (h4 k hk2), ⟨h5.os, h5.tape, h5.output, by have := h5.size; simp; exact this, fun k hk => (World.putObj_heap_other (by omega)).trans (h5.block k hk)⟩⟩

theorem rd_same {w w' : World} {v : Value} {xs : List Value} (h : Rd w v xs) (hs : ∀ a l c, v = .slice (some a) l c → 0 < xs.length → w'.heap[a.block]? = w.heap[a.block]?) : Rd w' v xs := by
  obtain ⟨ao, cap, hv, h2, h3, h4, h5⟩ := h
  refine ⟨ao, cap, hv, h2, h3, h4, fun a ha j u hu => ?_⟩
  have hc := h5 a ha j u hu
  have hb : (a.add j).block = a.block := by unfold Addr.add; split <;> rfl
  have hl := (List.getElem?_eq_some_iff.1 hu).1
  rw [← hc]
  exact World.cell?_of_block (by rw [hb]; exact hs a _ _ (by rw [hv, ha]) (by omega))

set_option maxRecDepth 100000 in
set_option maxHeartbeats 4000000 in
theorem Replay_any (v : Value) (bs : List UInt8) (k : Int) (w : World) (hv : Rd w v (bc bs)) :
    Calls Try.prog 33 #[dsk v k] w fun e w' => ∃ v' u, e = .returned (.tuple #[dsk v' ((replD bs k).1.length : Nat), u, fltC ((replD bs k).2.2, 0)]) ∧ Rd w' v' (bc (replD bs k).1) ∧ RdN w' u (replD bs k).2.1 ∧ Below w.heap.size w w' ∧ New w.heap.size v' := by
  obtain ⟨ao, cap, hvv, hc1, hc2⟩ := hv.shape
  rw [bc_length] at hc1 hvv
  subst hvv
  unfold maxLen at hc2
  unfold dsk
  refine (callsIn_wide (n := 5)).1 ?_
  refine callsIn_of_wp_marks Try.func33 rfl trivial ?_ rfl
  simp only [Try.ntmps33, List.size_toArray, List.length_cons, List.length_nil, Nat.reduceAdd, Nat.reduceSub, Array.replicate_succ, Array.replicate_zero, List.push_toArray, List.append_toArray, List.nil_append, List.cons_append]
  gi_wp2_with fail
  obtain ⟨hD4, hRD4, hRN4, hRF4, hb4, hz4⟩ := four_new w 58 58 62 28 #[.slice ao bs.length cap, .int .i64 k] #[.slice none 0 0, .int .i64 0] #[.slice none 0 0] #[.int .i64 0, .int .i64 0]
  generalize (((w.alloc (.cells #[.slice ao bs.length cap, .int .i64 k] 58)).alloc (.cells #[.slice none 0 0, .int .i64 0] 58)).alloc (.cells #[.slice none 0 0] 62)).alloc (.cells #[.int .i64 0, .int .i64 0] 28) = w4 at *
  refine ⟨trivial, (callsIn_wide.2 (Check_any _ bs k _ (hv.below hb4))).mono ?_⟩
  rintro e w5 ⟨rfl, hb5⟩
  have hD5 := hD4.below hb5 hD4.lt
  have hRD5 := hRD4.below hb5 hRD4.lt
  have hRN5 := hRN4.below hb5 hRN4.lt
  have hRF5 := hRF4.below hb5 hRF4.lt
  have hbw5 := hb4.trans (hb5.mono (by omega))
  have hz5 := hb5.size
  have HZ4 := hide hz4
  clear hD4 hRD4 hRN4 hRF4 hb4 hb5 hz4
  have HLB := hide (@replD_bad bs k)
  have HLM := hide (@replD_many bs k)
  have HLO := hide (@replD_ok bs k)
  have d0 := hRD5.cell 0
  have d1 := hRD5.cell 1
  have d2 := hRD5.frozen 0
  have d3 := hRD5.frozen 1
  have m0 := hRN5.cell 0
  have m1 := hRN5.frozen 0
  have g0 := hRF5.cell 0
  have g1 := hRF5.cell 1
  have g2 := hRF5.frozen 0
  have g3 := hRF5.frozen 1
  have hlD := hRD5.lt
  have hlN := hRN5.lt
  have hlF := hRF5.lt
  simp at d0 d1 m0 g0 g1
  by_cases hc : checkR bs k = 0
  case neg =>
    have HE := hide (HLB.out hc)
    clear HLB HLM HLO
    generalize checkR bs k = cx at *
    have hcb : (cx == 0) = false := beq_eq_false_iff_ne.2 hc
    have hcb2 : (cx != 0) = true := by simp [hc]
    unfold flt
    gi_wp2_with fail
    gi_region
    all_goals
      gi_wp2_with fail
      exact ⟨.tuple #[dsk (.slice none 0 0) 0, .slice none 0 0, fltC (cx, 0)], by simp [results, Try.results33, go_sem, dsk, fltC, d0, d1, m0, g0, g1, hlD, hlN, hlF], .slice none 0 0, .slice none 0 0, by rw [HE.out]; rfl, by rw [HE.out]; exact Rd.nil _, by rw [HE.out]; exact RdN.nil _, by go_grown, New.nil _⟩
  rw [hc]
  have HLM1 := hide (fun h => HLM.out hc h)
  have HLO1 := hide (fun h => HLO.out hc h)
  obtain ⟨hk1, hk2, hk3⟩ := checkR_zero hc
  have HC := hide hc
  clear HLB HLM HLO hc d0 d1 d2 d3 m0 m1 g0 g1 g2 g3
  have hb58 : Below w5.heap.size w5 (((w5.alloc (.cells #[.int .i64 0, .int .i64 0] 28)).alloc (.cells #[.slice none 0 0] 62)).alloc (.cells #[.int .i64 0] 3)) := ((below_alloc' _ _).alloc (by simp) _).alloc (by simp; omega) _
  have hN8 : Bk (((w5.alloc (.cells #[.int .i64 0, .int .i64 0] 28)).alloc (.cells #[.slice none 0 0] 62)).alloc (.cells #[.int .i64 0] 3)) (w5.heap.size + 1) 62 #[.slice none 0 0] := (Bk.new2 w5 _ _ _).below (below_alloc' _ _) (by simp)
  have hS8 : Bk (((w5.alloc (.cells #[.int .i64 0, .int .i64 0] 28)).alloc (.cells #[.slice none 0 0] 62)).alloc (.cells #[.int .i64 0] 3)) (w5.heap.size + 1 + 1) 3 #[.int .i64 0] := by
    have h := Bk.new2 (w5.alloc (.cells #[.int .i64 0, .int .i64 0] 28)) (.cells #[.slice none 0 0] 62) 3 #[.int .i64 0]
    rw [World.size_alloc] at h
    exact h
  have hz8 : (((w5.alloc (.cells #[.int .i64 0, .int .i64 0] 28)).alloc (.cells #[.slice none 0 0] 62)).alloc (.cells #[.int .i64 0] 3)).heap.size = w5.heap.size + 3 := by simp
  have HB58 := hide hb58
  have HS8 := hide hS8
  have HN8 := hide hN8
  have HZ8 := hide hz8
  clear hb58 hS8 hN8 hz8
  unfold flt
  gi_upto_region 6 with fail
  generalize ((w5.alloc (.cells #[.int .i64 0, .int .i64 0] 28)).alloc (.cells #[.slice none 0 0] 62)).alloc (.cells #[.int .i64 0] 3) = w8 at *
  have hD8 := hD5.below HB58.out hD5.lt
  have hRD8 := hRD5.below HB58.out hRD5.lt
  have hRN8 := hRN5.below HB58.out hRN5.lt
  have hRF8 := hRF5.below HB58.out hRF5.lt
  have hbw8 := hbw5.trans (HB58.out.mono hbw5.size)
  have b0 := hD8.cell 0
  simp at b0
  have hlD8 := hD8.lt
  have hwz := hbw5.size
  gi_wp2_with fail
  refine ⟨trivial, (callsIn_wide.2 (notesOf_any ao bs.length cap _)).mono ?_⟩
  rintro e w9 ⟨rfl, rfl⟩
  gi_wp2_with fail
  have hb89 := below_alloc' w8 (.cells #[.slice ao bs.length cap] 42)
  have hB9 : Bk (w8.alloc (.cells #[.slice ao bs.length cap] 42)) w8.heap.size 42 #[.slice ao bs.length cap] := Bk.new _ _ _
  have hz89 : (w8.alloc (.cells #[.slice ao bs.length cap] 42)).heap.size = w8.heap.size + 1 := by simp
  generalize hw9 : w8.alloc (.cells #[.slice ao bs.length cap] 42) = w9 at *
  have hS9 := HS8.out.below hb89 HS8.out.lt
  have hN9 := HN8.out.below hb89 HN8.out.lt
  have hD9 := hD8.below hb89 hD8.lt
  have hRD9 := hRD8.below hb89 hRD8.lt
  have hRN9 := hRN8.below hb89 hRN8.lt
  have hRF9 := hRF8.below hb89 hRF8.lt
  have hz8 := HZ8.out
  have hpv : ∀ a l c, Value.slice ao bs.length cap = .slice (some a) l c → 0 < (bc bs).length → a.block < w.heap.size := by
    intro a l c e hp
    simp only [Value.slice.injEq] at e
    obtain ⟨rfl, _, _⟩ := e
    obtain ⟨b, off, cap', hv, _, _, hb, _⟩ := hv.pos hp
    simp only [Value.slice.injEq, Option.some.injEq] at hv
    rw [hv.1]
    exact hb
  have hbw9 := hbw8.trans (hb89.mono hbw8.size)
  have hcB := hB9.cell 0
  simp at hcB
  have hz59 : w5.heap.size + 1 + 1 < w9.heap.size := by omega
  have hzw5 : w.heap.size + 4 ≤ w5.heap.size := by have := HZ4.out; omega
  clear hz8 hz89
  refine wpIn_rangeFunc_st2 (α := Nx) rfl (by omega) (gf := 104) (lb := #[.pointer (some ⟨w8.heap.size, 0, none⟩)]) rfl trivial (enters_of Try.func104 (by kernel_rfl) rfl)
    (notesOf1_stops (5 - 1) (by omega) w8.heap.size ao cap bs (fun k => k = w5.heap.size + 1 ∨ k = w5.heap.size + 1 + 1) _ hcB (hv.below hbw9) (by omega) (fun a l c e hp => by have := hpv a l c e hp; omega) (fun k hk => by omega))
    (fun h k => kpX_t h k) (kpX_b _) (fun _ => rfl)
    (RpI w9 (w5.heap.size + 1)) (RpX w) (RpI.ownG hz59) (RpX.ownG (by omega)) ⟨.slice none 0 0, [], rfl, hN9, hS9, World.ownsRow_nil _ _ _ _, NtO.nil _ _, by simp, by simp, Below.refl _ _⟩
    (fun s g A h k e => by obtain ⟨vv, ps, h1, _, _, h4, _⟩ := h; exact h4.lt k (h1 ▸ e)) ?hround ?hdone ?hstop
  case hround =>
    rintro l pre ⟨xe, ⟨xs, xc⟩, xv⟩ g W hI ⟨_, hx2, hx3, hx4⟩ hsz
    simp only at hx2 hx3 hx4
    obtain ⟨xo, xcap, rfl, hx5, hx6⟩ := hx2.shape
    simp only [encX]
    simp (config := { decide := true }) only [List.zip_toArray, List.zip_cons_cons, List.zip_nil_right, List.foldl_toArray, List.foldl_cons, List.foldl_nil, List.setIfInBounds_toArray, List.set_cons_succ, List.set_cons_zero]
    have HI := hide hI
    clear hI
    gi_wp2_with fail
    have hbA := below_alloc' W (.cells #[.int .i64 xs, .slice xo xc.length xcap] 41)
    have hNx := Bk.new W 41 #[.int .i64 xs, .slice xo xc.length xcap]
    refine ⟨keepsFrom_below hbA, kpX_below hbA, (RpI.ownG hz59).alloc _ HI.out, ?_⟩
    rintro l' W2 hrl hI2
    obtain ⟨vv, ps, rfl, q1, q2, q4, q5, q6, q7, q8⟩ := hI2
    have hN2 : Bk W2 W.heap.size 41 #[.int .i64 xs, .slice xo xc.length xcap] := (hrl.2 W.heap.size (.inr (by omega)) hNx.lt).trans hNx
    have hx2a : RdC W2 (.slice xo xc.length xcap) xc := rdC_same (hx2.below hbA) (fun a l c e hl => hrl.2 _ (.inr (hx3 a l c e)) (by
      obtain ⟨ao', cap', hv', _, _, _, h7⟩ := hx2
      rw [e] at hv'
      simp only [Value.slice.injEq] at hv'
      obtain ⟨rfl, _, _⟩ := hv'
      have hc := h7 a rfl 0 ((cc xc)[0]'(by rw [cc_length]; omega)) (by simp)
      have hlt := World.block_lt_of_cell? W _ hc
      have hb : (a.add 0).block = a.block := by unfold Addr.add; split <;> rfl
      rw [hb] at hlt
      simp
      omega))
    have hoff : Off vv (.slice xo xc.length xcap) := fun a l c e _ hg => hx4 _ hg a l c e rfl
    obtain ⟨oo, ocap, hvo⟩ := owns_shape2 q4
    subst hvo
    have hlt2 := hN2.lt
    have hltS := q1.lt
    have hltL := q2.lt
    have n0 := hN2.cell 0
    have n1 := hN2.cell 1
    have s0 := q1.cell 0
    have s1 := q1.frozen 0
    simp at n0 n1 s0
    by_cases hfull : pre.length = 1000
    case pos =>
      have hbwW : Below w.heap.size w W2 := hbw9.trans (q8.mono (by omega))
      have hRD2 := hRD9.below q8 (by omega)
      have hRN2 := hRN9.below q8 (by omega)
      have hRF2 := hRF9.below q8 (by omega)
      have d0 := hRD2.cell 0
      have d1 := hRD2.cell 1
      have d2 := hRD2.frozen 0
      have d3 := hRD2.frozen 1
      have m0 := hRN2.cell 0
      have m1 := hRN2.frozen 0
      have g0 := hRF2.cell 0
      have g1 := hRF2.cell 1
      have g2 := hRF2.frozen 0
      have g3 := hRF2.frozen 1
      simp at d0 d1 m0 g0 g1
      have hlD2 := hRD2.lt
      have hlN2 := hRN2.lt
      have hlF2 := hRF2.lt
      have HF := hide (fin6 (.slice none 0 0) (.int .i64 0) (.slice none 0 0) (.int .i64 2) (.int .i64 0) hRD2 hRN2 hRF2)
      have HBW := hide hbwW
      have hfl : ((pre.length : Nat) : Int) = 1000 := by omega
      clear hbwW hRD2 hRN2 hRF2 q5 q6 hx2a hx2 hoff
      gi_wp2_with fail
      obtain ⟨f1, f2, f3, f4, f5⟩ := HF.out
      refine ⟨keepsSet (keepsSet (keepsSet (keepsSet (keepsSet (KeepsFrom.refl _ _) 0 _ (by omega)) 1 _ (by omega)) 0 _ (by omega)) 0 _ (by omega)) 1 _ (by omega), none, rfl, by simp [hfull], f1, f2, f3, HBW.out.trans (f5.mono (by omega))⟩
    have hne : ((pre.length : Nat) : Int) ≠ 1000 := by omega
    have hl8 : pre.length ≤ 100000000 := by omega
    have hb8 : w9.heap.size + 5 ≤ W2.heap.size := by have := hrl.1; simp at this; omega
    have HST := hide (fun v6 w6 => @RpI.step w9 W2 w6 (w5.heap.size + 1) pre (xe, ⟨xs, xc⟩, .slice xo xc.length xcap) (.slice oo pre.length ocap) v6 ps hz59 q1 q2 q4 q5 q6 (by omega) q8 hx2a hx3 hoff)
    have Q1 := hide q1
    have Q2 := hide q2
    have s2 := q2.cell 0
    have s3 := q2.frozen 0
    simp at s2
    clear q1 q2 q5 q6 q8 hx2a hx2 hoff hN2 hrl hNx hbA hbw9 hRD9 hRN9 hRF9 hS9 hN9 hD9 hB9 hb89 hw9 hcB
    gi_wp2_with (gi_at_builtin; go_must (refine wpListIn_append_one2E (q := xs) rfl q4 Try.underlying62 Try.infoN41 rfl rfl rfl rfl rfl hl8 (by decide) hb8 ?_); intro v6 w6 ho6 hb6 he6; obtain ⟨o6, c6, hv6⟩ := owns_shape2 ho6; subst hv6; have hq1 := Q1.out.ext he6 (fun e => by have := q4.lt _ e; omega); have hq2 := Q2.out.ext he6 (fun e => by have := q4.lt _ e; omega); have t0 := hq1.cell 0; have t1 := hq1.frozen 0; have t2 := hq2.cell 0; have t3 := hq2.frozen 0; simp at t0 t2; have hlt6 := hq2.lt)
    exact HST.out _ w6 ho6 he6
  case hdone =>
    rintro D xs g W hD1 hD2 hSx ⟨vv, ps, rfl, q1, q2, q4, q5, q6, q7, q8⟩ hK
    have hsz := sizX_all hSx
    rw [hsz] at q2
    have hsl := sizeR_le bs
    have hlen : xs.length = (notesR bs).length := by rw [notesR, ← hSx]; simp
    have hns : xs.map (·.2.1) = notesR bs := by rw [notesR, ← hSx]; simp [prj, Function.comp_def]
    have HE := hide (HLO1.out (by omega))
    rw [hns] at q5
    have HTR := hide (trimR_ok (k := k) HC.out hsl)
    have hbwW : Below w.heap.size w W := hbw9.trans (q8.mono (by omega))
    have hDW := hD9.below q8 (by omega)
    have hRDW := hRD9.below q8 (by omega)
    have hRNW := hRN9.below q8 (by omega)
    have hRFW := hRF9.below q8 (by omega)
    have q7' : (notesR bs).length ≤ 1000 := by omega
    rw [hlen] at q4
    obtain ⟨oo, ocap, hvo⟩ := owns_shape2 q4
    subst hvo
    clear hlen q7
    have e0 := hDW.cell 0
    have e1 := hDW.cell 1
    have z0 := q2.cell 0
    simp at e0 e1 z0
    clear q8 hSx hns hsz HLM1 HLO1 hRD9 hRN9 hRF9 hS9 hN9 hD9 hB9 hb89 hw9 hcB hRD5 hRN5 hRF5 hD5 hRD8 hRN8 hRF8 hD8
    gi_wp2_with fail
    refine ⟨trivial, (callsIn_wide.2 (Trim_any _ bs k (sizeR bs : Nat) _ (hv.below hbwW))).mono ?_⟩
    rw [HTR.out]
    rintro e WT ⟨vT, rfl, hrT, hbT, hnT⟩
    simp only at hrT hnT ⊢
    obtain ⟨tO, tc, htv, _, _⟩ := hrT.shape
    have htl : (bs.take (sizeR bs)).length = sizeR bs := by rw [List.length_take]; omega
    rw [bc_length, htl] at htv
    subst htv
    have hRDT := hRDW.below hbT hRDW.lt
    have hRNT := hRNW.below hbT hRNW.lt
    have hRFT := hRFW.below hbT hRFW.lt
    have hqT := q1.below hbT q1.lt
    have hbwT := hbwW.trans (hbT.mono hbwW.size)
    have hoT := owns_below q4 hbT
    have hnoT := ntO_same q5 q6 (fun k _ hl => hbT.block k hl)
    have hKT : WT.heap[D]? = some (.deferred (some [])) := (hbT.block D (Array.getElem?_eq_some_iff.1 hK).1).trans hK
    have hzT := hbT.size
    have hDlt := (Array.getElem?_eq_some_iff.1 hK).1
    have hltN := q1.lt
    clear hK q1 q2 q4 q5 hbT hRDW hRNW hRFW hDW hbwW e0 e1 z0
    have hb10 : Below WT.heap.size WT ((WT.alloc (.cells #[.slice tO (sizeR bs) tc, .int .i64 (sizeR bs : Nat)] 58)).alloc (.cells #[.int .i64 0, .int .i64 0] 28)) := (below_alloc' _ _).alloc (by simp) _
    have hX10 : Bk ((WT.alloc (.cells #[.slice tO (sizeR bs) tc, .int .i64 (sizeR bs : Nat)] 58)).alloc (.cells #[.int .i64 0, .int .i64 0] 28)) WT.heap.size 58 #[.slice tO (sizeR bs) tc, .int .i64 (sizeR bs : Nat)] := (Bk.new WT _ _).below (below_alloc' _ _) (by simp)
    have hF10 : Bk ((WT.alloc (.cells #[.slice tO (sizeR bs) tc, .int .i64 (sizeR bs : Nat)] 58)).alloc (.cells #[.int .i64 0, .int .i64 0] 28)) (WT.heap.size + 1) 28 #[.int .i64 0, .int .i64 0] := Bk.new2 WT _ _ _
    have HB10 := hide hb10
    have HX10 := hide hX10
    have HF10 := hide hF10
    clear hb10 hX10 hF10
    unfold dsk flt
    gi_upto_region 14 with fail
    generalize (WT.alloc (.cells #[.slice tO (sizeR bs) tc, .int .i64 (sizeR bs : Nat)] 58)).alloc (.cells #[.int .i64 0, .int .i64 0] 28) = w10 at *
    have hRD := hRDT.below HB10.out hRDT.lt
    have hRN := hRNT.below HB10.out hRNT.lt
    have hRF := hRFT.below HB10.out hRFT.lt
    have hq10 := hqT.below HB10.out hqT.lt
    have hb10 := HB10.out
    have hKX : w10.heap[D]? = some (.deferred (some [])) := (hb10.block D (Array.getElem?_eq_some_iff.1 hKT).1).trans hKT
    have hr10 := hrT.below hb10
    have ho10 := owns_below hoT hb10
    have hn10 := ntO_same hnoT q6 (fun k _ hl => hb10.block k hl)
    have hbw10 := hbwT.trans (hb10.mono hbwT.size)
    have hz10 := hb10.size
    have HF := hide (fin6 (.slice tO (sizeR bs) tc) (.int .i64 (sizeR bs : Nat)) (.slice oo (notesR bs).length ocap) (.int .i64 0) (.int .i64 0) hRD hRN hRF)
    have x0 := HX10.out.cell 0
    have x1 := HX10.out.cell 1
    have y0 := HF10.out.cell 0
    have y1 := HF10.out.cell 1
    have u0 := hq10.cell 0
    have d0 := hRD.cell 0
    have d1 := hRD.cell 1
    have d2 := hRD.frozen 0
    have d3 := hRD.frozen 1
    have m0 := hRN.cell 0
    have m1 := hRN.frozen 0
    have g0 := hRF.cell 0
    have g1 := hRF.cell 1
    have g2 := hRF.frozen 0
    have g3 := hRF.frozen 1
    simp at x0 x1 y0 y1 u0 d0 d1 m0 g0 g1
    have hl1 := hRD.lt
    have hl2 := hRN.lt
    have hl3 := hRF.lt
    have hl4 := HX10.out.lt
    have hl5 := HF10.out.lt
    have hl6 := hq10.lt
    have HR10 := hide hr10
    have HO10 := hide ho10
    have HN10 := hide hn10
    have HBW := hide hbw10
    have HK := hide hKX
    have HQ6 := hide q6
    clear hr10 ho10 hn10 hbw10 hKX hRD hRN hRF hq10 hb10 hRDT hRNT hRFT hqT hbwT hoT hnoT hKT hrT q6
    gi_wp2_with fail
    gi_region
    all_goals
      gi_wp2_with fail
      obtain ⟨hKY, f1, f2, f3, f4, f5⟩ := fin7 (o' := .deferred none) (by omega) HF.out HK.out
      refine ⟨by simp, .inl ⟨_, _, rfl, run_takeDeferred hKY, ?_⟩⟩
      generalize World.putObj (((((w10.setCell ⟨w.heap.size + 1, 0, none⟩ (.slice tO (sizeR bs) tc)).setCell ⟨w.heap.size + 1, 1, none⟩ (.int .i64 (sizeR bs : Nat))).setCell ⟨w.heap.size + 1 + 1, 0, none⟩ (.slice oo (notesR bs).length ocap)).setCell ⟨w.heap.size + 1 + 1 + 1, 0, none⟩ (.int .i64 0)).setCell ⟨w.heap.size + 1 + 1 + 1, 1, none⟩ (.int .i64 0)).drew D (.deferred none) = WF at *
      clear hKY HF
      have k0 := f1.cell 0
      have k1 := f1.cell 1
      have k2 := f2.cell 0
      have k3 := f3.cell 0
      have k4 := f3.cell 1
      simp at k0 k1 k2 k3 k4
      have hoF := owns_same HO10.out (fun k hk => f4 k (by have := (HO10.out.lt k hk).1; omega) (.inr (by have := (HO10.out.lt k hk).1; omega)))
      have hnF := ntO_same HN10.out HQ6.out (fun k hk hl => f4 k (by omega) (.inr (by omega)))
      exact ⟨.tuple #[dsk (.slice tO (sizeR bs) tc) (sizeR bs : Nat), .slice oo (notesR bs).length ocap, fltC (0, 0)], by simp [results, Try.results33, go_sem, dsk, fltC, k0, k1, k2, k3, k4], .slice tO (sizeR bs) tc, .slice oo (notesR bs).length ocap, by rw [HE.out]; simp only [htl]; rfl, by rw [HE.out]; exact rd_same HR10.out (fun a l c e hp => f4 _ (by have := hnT a l c e; omega) (.inr (by have := hnT a l c e; omega))), by rw [HE.out]; exact hnF.rd hoF, HBW.out.trans (f5.mono (by omega)), hnT.mono (by omega)⟩
  case hstop =>
    rintro D c pre g W hD1 hD2 hSp ⟨rfl, h2, h3, h4, h5, h6⟩ hK
    have hmany : 1000 < (notesR bs).length := by
      have h := hSp.length_le
      rw [List.length_map] at h
      rw [notesR, List.length_map]
      omega
    have HE := hide (HLM1.out hmany)
    gi_wp2_with fail
    refine ⟨by simp, .inl ⟨_, _, rfl, run_takeDeferred hK, ?_⟩⟩
    have f1 : Bk (W.putObj D (.deferred none)) _ _ _ := (World.putObj_heap_other (by omega)).trans h3
    have f2 : Bk (W.putObj D (.deferred none)) _ _ _ := (World.putObj_heap_other (by omega)).trans h4
    have f3 : Bk (W.putObj D (.deferred none)) _ _ _ := (World.putObj_heap_other (by omega)).trans h5
    have f4 : Below w.heap.size w (W.putObj D (.deferred none)) := h6.trans ⟨rfl, rfl, rfl, by simp, fun k hk => World.putObj_heap_other (by omega)⟩
    generalize W.putObj D (.deferred none) = WF at *
    have k0 := f1.cell 0
    have k1 := f1.cell 1
    have k2 := f2.cell 0
    have k3 := f3.cell 0
    have k4 := f3.cell 1
    simp at k0 k1 k2 k3 k4
    exact ⟨.tuple #[dsk (.slice none 0 0) 0, .slice none 0 0, fltC (2, 0)], by simp [results, Try.results33, go_sem, dsk, fltC, k0, k1, k2, k3, k4], .slice none 0 0, .slice none 0 0, by rw [HE.out]; rfl, by rw [HE.out]; exact Rd.nil _, by rw [HE.out]; exact RdN.nil _, f4, New.nil _⟩

end Go.Proofs.Ytdodajalejfbiad

/-
  Notes and what is stored beside them: for the law WalCrash. Nothing of a program stands here.
-/
namespace Go.Proofs.Ytdodajalejfbiad
open Go.RowKit

theorem owns2_shape {w : World} {base : Nat} {e : TypeId} {size : Nat} {v : Value} {n : Nat} {xs : List Value} (h : w.ownsRow base e size v n xs) : ∃ ao cap, v = .slice ao n cap := by
  rcases h.2 with ⟨rfl, hn⟩ | ⟨g, cap, cur, rfl, _⟩
  · exact ⟨none, 0, by rw [hn]⟩
  · exact ⟨_, cap, rfl⟩

theorem RdL.hereW {w : World} {ao : Option Addr} {n cap k : Nat} {ls : List (List Cl)} {l : List Cl} (h : RdL w (.slice ao n cap) ls) (hl : ls[k]? = some l) :
    ∃ b off u, ao = some ⟨b, off, none⟩ ∧ b < w.heap.size ∧ w.cell? ⟨b, off + k, none⟩ = some u ∧ RdC w u l := by
  obtain ⟨vs, hr, hvl, _, hpc⟩ := h
  have hlt := (List.getElem?_eq_some_iff.1 hl).1
  obtain ⟨u, hu⟩ : ∃ u, vs[k]? = some u := ⟨_, List.getElem?_eq_getElem (by omega)⟩
  obtain ⟨b, off, cap', hv', _, _, hb, hcell⟩ := hr.pos (by omega)
  simp only [Value.slice.injEq] at hv'
  exact ⟨b, off, u, hv'.1, hb, hcell k u hu, hpc k u l hu hl⟩

theorem two_boxesC (w : World) (t1 t2 : TypeId) (a b : Array Value) :
    Bk ((w.alloc (.cells a t1)).alloc (.cells b t2)) w.heap.size t1 a ∧ Bk ((w.alloc (.cells a t1)).alloc (.cells b t2)) (w.heap.size + 1) t2 b ∧ Below w.heap.size w ((w.alloc (.cells a t1)).alloc (.cells b t2)) :=
  ⟨(Bk.new w _ _).below (below_alloc' _ _) (by simp), Bk.new2 w _ _ _, (below_alloc' _ _).alloc (by simp) _⟩

/-- A block that holds no row. -/
theorem off_past {w : World} {base : Nat} {e : TypeId} {size : Nat} {v : Value} {n : Nat} {xs : List Value} (h : w.ownsRow base e size v n xs) {B : Nat} (hB : w.heap.size ≤ B) : v.ownBlock ≠ some B := fun e => by
  have := (h.lt B e).2
  omega

theorem off_low {w : World} {base : Nat} {e : TypeId} {size : Nat} {v : Value} {n : Nat} {xs : List Value} (h : w.ownsRow base e size v n xs) {B : Nat} (hB : B < base) : v.ownBlock ≠ some B := fun e => by
  have := (h.lt B e).1
  omega

/-- What is new lies off a row that was there. -/
theorem Off.ofNew {w : World} {base : Nat} {e : TypeId} {size : Nat} {v : Value} {n : Nat} {xs : List Value} (h : w.ownsRow base e size v n xs) {u : Value} {B : Nat} (hu : New B u) (hB : w.heap.size ≤ B) : Off v u := fun a l c hv _ => off_past h (Nat.le_trans hB (hu a l c hv))

theorem RdC.setT {w : World} {v : Value} {cs : List Cl} (h : RdC w v cs) {B : Nat} {t : TypeId} {x y : Value} (hB : Bk w B t #[x, y]) (j : Nat) (u : Value) : RdC (w.setCell ⟨B, j, none⟩ u) v cs := by
  refine rdC_same h fun a l c hv hl => heap_setCell_other w _ _ _ ?_
  rw [hv] at h
  obtain ⟨d, r, rfl⟩ := List.exists_cons_of_length_pos hl
  obtain ⟨b, off, e, _, hat⟩ := h.hereD (i := 0) (c := d) rfl
  simp only [Option.some.injEq] at e
  subst e
  simp only
  intro e
  subst e
  have h2 := hat.c2
  rw [hB.cell] at h2
  simp at h2

theorem Rd2.setT {w : World} {v : Value} {ps : List (Int × Value)} {ns : List Nt} (h : Rd2 w v ps) (hp : NtP w ps ns) {B : Nat} {t : TypeId} {x : Value} {z : Int} (hB : Bk w B t #[x, .int .i64 z]) (k : Nat) (u : Value) : Rd2 (w.setCell ⟨B, k, none⟩ u) v ps := by
  obtain ⟨ao, cap, hv, h1, h2, hat⟩ := h.at
  obtain ⟨ao', cap', hv', h1', h2', h3, h5, h4⟩ := h
  rw [hv] at hv'
  simp only [Value.slice.injEq] at hv'
  obtain ⟨rfl, _, rfl⟩ := hv'
  refine ⟨ao, cap, hv, h1, h2, h3, h5, fun a ha j y hy => ?_⟩
  have hl := (List.getElem?_eq_some_iff.1 hy).1
  rw [nn_length] at hl
  obtain ⟨b, off, e, _, c0, c1⟩ := hat 0 (by omega)
  have hs : ∃ o' n' c', ps[0].2 = .slice o' n' c' := by
    obtain ⟨hpl, hpp⟩ := hp
    have hr := (hpp 0 ps[0] (ns[0]'(by omega)) (List.getElem?_eq_getElem _) (List.getElem?_eq_getElem _)).2
    obtain ⟨o', c', e', _⟩ := hr
    exact ⟨o', _, c', e'⟩
  obtain ⟨o', n', c', es⟩ := hs
  rw [es] at c1
  have hne : b ≠ B := by
    intro e2
    subst e2
    rw [hB.cell] at c1
    rcases Nat.eq_zero_or_pos off with h0 | h0
    · subst h0
      simp at c1
    · rw [Array.getElem?_eq_none (by simp; omega)] at c1
      cases c1
  rw [e] at ha
  cases ha
  rw [World.cell?_setCell_far _ _ _ _ (by simp only [Addr.add_lit]; exact fun e => hne e.symm)]
  exact h4 _ e j y hy

theorem NtP.setT {w : World} {ps : List (Int × Value)} {ns : List Nt} (h : NtP w ps ns) {B : Nat} {t : TypeId} {x y : Value} (hB : Bk w B t #[x, y]) (k : Nat) (u : Value) : NtP (w.setCell ⟨B, k, none⟩ u) ps ns :=
  ⟨h.1, fun i p n hp hn => ⟨(h.2 i p n hp hn).1, (h.2 i p n hp hn).2.setT hB k u⟩⟩

/-- Notes beside a disk or a fault that is stored to. -/
theorem RdN.setT {w : World} {v : Value} {ns : List Nt} (h : RdN w v ns) {B : Nat} {t : TypeId} {x : Value} {z : Int} (hB : Bk w B t #[x, .int .i64 z]) (k : Nat) (u : Value) : RdN (w.setCell ⟨B, k, none⟩ u) v ns := by
  obtain ⟨ps, h1, h2⟩ := h
  exact ⟨ps, h1.setT h2 hB k u, h2.setT hB k u⟩

/-- Both places of the block. -/
theorem RdN.setT2 {w : World} {v : Value} {ns : List Nt} (h : RdN w v ns) {B : Nat} {t : TypeId} {x : Value} {z : Int} (hB : Bk w B t #[x, .int .i64 z]) (u : Value) (q : Int) : RdN ((w.setCell ⟨B, 0, none⟩ u).setCell ⟨B, 1, none⟩ (.int .i64 q)) v ns := by
  have hB2 : Bk (w.setCell ⟨B, 0, none⟩ u) B t #[u, .int .i64 z] := by
    have := hB.set 0 u
    simpa using this
  exact (h.setT hB 0 u).setT hB2 1 _

theorem Bk.sets {w : World} {B : Nat} {t : TypeId} {x y : Value} (hB : Bk w B t #[x, y]) (u q : Value) : Bk ((w.setCell ⟨B, 0, none⟩ u).setCell ⟨B, 1, none⟩ q) B t #[u, q] := by
  have := (hB.set 0 u).set 1 q
  simpa using this

theorem Bk.far2 {w : World} {B C : Nat} {t : TypeId} {xs : Array Value} (h : Bk w B t xs) (hne : B ≠ C) (u q : Value) : Bk ((w.setCell ⟨C, 0, none⟩ u).setCell ⟨C, 1, none⟩ q) B t xs := by
  unfold Bk
  rw [heap_setCell_other _ _ _ _ (by exact hne), heap_setCell_other _ _ _ _ (by exact hne)]
  exact h

theorem Rd.new2 {w : World} {v : Value} {xs : List Value} {B C : Nat} (h : Rd w v xs) (hn : New B v) (hC : C < B) (u q : Value) : Rd ((w.setCell ⟨C, 0, none⟩ u).setCell ⟨C, 1, none⟩ q) v xs := (h.setNew hn (by exact hC) u).setNew hn (by exact hC) q

theorem owns_low2 {w : World} {base : Nat} {e : TypeId} {size : Nat} {v : Value} {n : Nat} {xs : List Value} (h : w.ownsRow base e size v n xs) {C : Nat} (hC : v.ownBlock ≠ some C) (u q : Value) : ((w.setCell ⟨C, 0, none⟩ u).setCell ⟨C, 1, none⟩ q).ownsRow base e size v n xs := by
  refine ⟨h.1, ?_⟩
  rcases h.2 with hn | ⟨g, cap, cur, rfl, hb, hh, r⟩
  · exact .inl hn
  · have hg : g ≠ C := fun e => hC (by rw [← e]; rfl)
    exact .inr ⟨g, cap, cur, rfl, hb, by rw [heap_setCell_other _ _ _ _ (by exact hg), heap_setCell_other _ _ _ _ (by exact hg)]; exact hh, r⟩

theorem below_store2 {B C : Nat} {w w' : World} (h : Below B w w') (hC : B ≤ C) (u q : Value) : Below B w ((w'.setCell ⟨C, 0, none⟩ u).setCell ⟨C, 1, none⟩ q) := (h.setCell (by exact hC) u).setCell (by exact hC) q

theorem size2 (w : World) (C : Nat) (u q : Value) : ((w.setCell ⟨C, 0, none⟩ u).setCell ⟨C, 1, none⟩ q).heap.size = w.heap.size := by simp

theorem RdN.ofRow {w w0 : World} {base n : Nat} {e : TypeId} {v : Value} {ps : List (Int × Value)} {ns : List Nt} (ho : w.ownsRow base e 2 v n (nn ps)) (hp : NtP w0 ps ns) (hb : Below w0.heap.size w0 w) : RdN w v ns := ⟨ps, Rd2.ofOwns ho hp.one, hp.below hb⟩

theorem run_append_rd2E {P : Program} {w : World} {t ty : TypeId} {base : Nat} {e : TypeId} {z : Value} {bytes : Nat}
    {v : Value} {n : Nat} {cs : List (Int × Value)} {vx : Value} {news : List (Int × Value)}
    (hown : w.ownsRow base e 2 v n (nn cs)) (hrd : Rd2 w vx news)
    (ht : P.underlying t = some (.slice e)) (hinf : (P.info? e).map (fun i => (i.zero, i.size, i.bytes)) = some (some z, 2, bytes)) (hzs : z.cells.size = 2)
    (h63 : n + news.length ≤ 1000000000) (hbytes : bytes ≤ 64) (hbase : base ≤ w.heap.size) :
    ∃ v' w', (Builtin.append_ #[t, t] ty #[v, vx]).run P w = .ok v' w' ∧ w'.ownsRow base e 2 v' (n + news.length) (nn (cs ++ news)) ∧ Below base w w' ∧ Ext w w' v v' := by
  obtain ⟨i, hi, hz, hsize, hby⟩ := info_parts hinf
  have hlt := hown.lt
  have hbytes' : (n + news.length) * bytes ≤ 1000000000 * 64 := Nat.mul_le_mul h63 hbytes
  obtain ⟨ao, cap, hvx, h2, h3, h4, h6, h5⟩ := hrd
  subst hvx
  cases ao with
  | none =>
    have hc := h4 rfl
    have hnews : news = [] := List.eq_nil_of_length_eq_zero (by omega)
    subst hnews
    subst hc
    exact ⟨v, w, run_append_owned_none w base t ty e i 2 ht hi v n _ hown, by simpa using hown, Below.refl _ _, Ext.refl _ _⟩
  | some ad =>
    obtain ⟨v', w', hr, ho', hg', _, hat⟩ := run_append_own_at (P := P) w base t ty e i z 2 bytes ht hi hz hsize hby hzs (by decide) v n (nn cs) hown ad news.length cap (nn news) (nn_length _) (h5 ad rfl) (nn_one h6) (by simp [maxLen]; omega) (by omega) hbase
    rw [← nn_append] at ho'
    exact ⟨v', w', hr, ho', (Below.refl _ _).grown hg' hbase (fun k hk => (hlt k hk).1), hg', hat.imp id fun e k hk => by rw [e] at hk; simp at hk; omega⟩

/-- An append of notes as a step of a region that draws its order. -/
theorem step_append_rd2E {P : Program} {w : World} {ops : Array Oper} {o : Oper} {a : Act} {K : Act → World → Prop} {Q : Exit → Act → World → Prop} {E : Prop} {s x : Operand} {t : TypeId} {base : Nat} {e : TypeId} {z : Value} {bytes : Nat}
    {v : Value} {n : Nat} {cs : List (Int × Value)} {vx : Value} {news : List (Int × Value)}
    (hown : w.ownsRow base e 2 v n (nn cs)) (hrd : Rd2 w vx news)
    (ht : P.underlying t = some (.slice e)) (hinf : (P.info? e).map (fun i => (i.zero, i.size, i.bytes)) = some (some z, 2, bytes)) (hzs : z.cells.size = 2)
    (hw : Region.wanted o (yielded ops a.tmps) = true) (ho : o.op = .call { callee := .builtin .append, args := #[s, x], argTypes := #[t, t] })
    (hs : a.eval s = v) (hx : a.eval x = vx)
    (h63 : n + news.length ≤ 1000000000) (hbytes : bytes ≤ 64) (hbase : base ≤ w.heap.size)
    (h : ∀ v' w', w'.ownsRow base e 2 v' (n + news.length) (nn (cs ++ news)) → Below base w w' → Ext w w' v v' → K (a.put o.dst v') w') :
    if Region.wanted o (yielded ops a.tmps) = true then Oper.wp P o a w K Q else E := by
  rw [if_pos hw]
  obtain ⟨v', w', hr, h2, h3, h4⟩ := run_append_rd2E (ty := o.type) hown hrd ht hinf hzs h63 hbytes hbase
  unfold Oper.wp execOp
  simp only [ho, resolve, invoke, builtin, Sem.run_bind, Sem.run_pure, Result.andThen_ok, List.map_toArray, List.map_cons, List.map_nil, hs, hx, hr]
  exact h v' w' h2 h3 h4

/-- What stands behind a Crash: its disk, its fault in a block of its own, the notes. -/
def CrCut (w1 : World) (t tD tN : TypeId) (o : Value) (n : Nat) (ps : List (Int × Value)) (G : List UInt8) (k : Int) (zF : Nat) (wy : World) : Prop :=
  ∃ ao cap, Bk wy zF t #[.int .i64 0, .int .i64 0] ∧ Bk wy w1.heap.size tD #[.slice ao G.length cap, .int .i64 k] ∧ Rd wy (.slice ao G.length cap) (bc G) ∧ wy.ownsRow (w1.heap.size + 1) tN 2 o n (nn ps) ∧ w1.heap.size < zF ∧ o.ownBlock ≠ some zF ∧ Below w1.heap.size w1 wy

theorem crA {w1 wr w3 : World} {t tD tN : TypeId} {o x y : Value} {n m : Nat} {ps : List (Int × Value)} {G : List UInt8} {k : Int} {ao : Option Addr} {cap : Nat}
    (hown : wr.ownsRow (w1.heap.size + 1) tN 2 o n (nn ps)) (hb : Below wr.heap.size wr w3) (hD : Bk wr w1.heap.size tD #[x, y]) (hbel : Below w1.heap.size w1 wr) (hF : Bk w3 wr.heap.size t #[.int .i64 0, .int .i64 0]) (hr : Rd w3 (.slice ao m cap) (bc G)) (hm : m = G.length) (hn : New (wr.heap.size + 1) (.slice ao m cap)) :
    CrCut w1 t tD tN o n ps G k wr.heap.size ((((w3.setCell ⟨w1.heap.size, 0, none⟩ (.slice ao m cap)).setCell ⟨w1.heap.size, 1, none⟩ (.int .i64 k)).setCell ⟨wr.heap.size, 0, none⟩ (.int .i64 0)).setCell ⟨wr.heap.size, 1, none⟩ (.int .i64 0)) := by
  subst hm
  have hlt := hD.lt
  have hne : w1.heap.size ≠ wr.heap.size := by omega
  exact ⟨ao, cap, (hF.far2 (fun e => hne e.symm) _ _).sets _ _, ((hD.below hb hlt).sets _ _).far2 hne _ _, (hr.new2 hn (by omega) _ _).new2 hn (by omega) _ _, owns_low2 (owns_low2 (owns_below hown hb) (off_low hown (by omega)) _ _) (off_past hown (Nat.le_refl _)) _ _, hlt, off_past hown (Nat.le_refl _), below_store2 (below_store2 (hbel.trans (hb.mono hbel.size)) (Nat.le_refl _) _ _) (by omega) _ _⟩

theorem crB {w1 wr w3 : World} {t tD tN : TypeId} {o x y : Value} {n m : Nat} {ps : List (Int × Value)} {G : List UInt8} {k : Int} {ao : Option Addr} {cap : Nat}
    (hown : wr.ownsRow (w1.heap.size + 1) tN 2 o n (nn ps)) (hb : Below wr.heap.size wr w3) (hD : Bk wr w1.heap.size tD #[x, y]) (hbel : Below w1.heap.size w1 wr) (hr : Rd w3 (.slice ao m cap) (bc G)) (hm : m = G.length) (hn : New wr.heap.size (.slice ao m cap)) :
    CrCut w1 t tD tN o n ps G k w3.heap.size (((w3.setCell ⟨w1.heap.size, 0, none⟩ (.slice ao m cap)).setCell ⟨w1.heap.size, 1, none⟩ (.int .i64 k)).alloc (.cells #[.int .i64 0, .int .i64 0] t)) := by
  subst hm
  have hlt := hD.lt
  have hz := hb.size
  have hF := Bk.new ((w3.setCell ⟨w1.heap.size, 0, none⟩ (.slice ao G.length cap)).setCell ⟨w1.heap.size, 1, none⟩ (.int .i64 k)) t #[.int .i64 0, .int .i64 0]
  rw [size2] at hF
  exact ⟨ao, cap, hF, ((hD.below hb hlt).sets _ _).below (below_alloc' _ _) (by rw [size2]; omega), (hr.new2 hn (by omega) _ _).below (below_alloc' _ _), (owns_low2 (owns_below hown hb) (off_low hown (by omega)) _ _).alloc _, by omega, off_past hown hz, (below_store2 (hbel.trans (hb.mono hbel.size)) (Nat.le_refl _) _ _).alloc (by rw [size2]; omega) _⟩

theorem RdN.cap {w : World} {ao : Option Addr} {n cap : Nat} {ns : List Nt} (h : RdN w (.slice ao n cap) ns) : n ≤ cap ∧ cap ≤ 9223372036854775807 := by
  obtain ⟨_, _, hv, h1, h2⟩ := h.shape
  simp only [Value.slice.injEq] at hv
  obtain ⟨_, rfl, rfl⟩ := hv
  unfold maxLen at h2
  exact ⟨h1, by omega⟩

theorem RdN.first {w : World} {ao : Option Addr} {n cap hi : Nat} {ns : List Nt} (h : RdN w (.slice ao n cap) ns) (h1 : hi ≤ n) : RdN w (.slice ao hi cap) (ns.take hi) := by
  obtain ⟨ps, ⟨ao', cap', hv, h2, h3, h4, h5, h6⟩, hp⟩ := h
  simp only [Value.slice.injEq] at hv
  obtain ⟨rfl, rfl, rfl⟩ := hv
  have hl : (ps.take hi).length = hi := by rw [List.length_take]; omega
  refine ⟨ps.take hi, ⟨ao, cap, by rw [hl], by omega, h3, h4, fun p hp => h5 p (List.mem_of_mem_take hp), fun a ha j u hu => h6 a ha j u ?_⟩, by have := hp.piece 0 hi; simpa using this⟩
  rw [← nn_take, List.getElem?_take] at hu
  split at hu
  · exact hu
  · cases hu

theorem RdC.setT2 {w : World} {v : Value} {cs : List Cl} (h : RdC w v cs) {B : Nat} {t : TypeId} {x y : Value} (hB : Bk w B t #[x, y]) (u q : Value) : RdC ((w.setCell ⟨B, 0, none⟩ u).setCell ⟨B, 1, none⟩ q) v cs := by
  have hB2 : Bk (w.setCell ⟨B, 0, none⟩ u) B t #[u, y] := by
    have := hB.set 0 u
    simpa using this
  exact (h.setT hB 0 u).setT hB2 1 _

/-- What was there lies off a row that is new. -/
theorem Off.ofOld {w w' : World} {v r : Value} {cs : List Cl} {e : TypeId} {size n : Nat} {xs : List Value} (h : RdC w v cs) (ho : w'.ownsRow w.heap.size e size r n xs) : Off r v := by
  intro a l c hv hl hg
  obtain ⟨ao, cap, hv', h1, h2, h3, h4⟩ := h
  rw [hv] at hv'
  simp only [Value.slice.injEq] at hv'
  obtain ⟨rfl, rfl, rfl⟩ := hv'
  have hpos : 0 < (cc cs).length := by rw [cc_length]; omega
  have hc := h4 a rfl 0 (cc cs)[0] (by simp)
  have hlt := World.block_lt_of_cell? w _ hc
  have hb : (a.add 0).block = a.block := by unfold Addr.add; split <;> rfl
  have := (ho.lt _ hg).1
  omega

/-- Notes that one was appended to. -/
theorem RdN.joined1 {w W w' : World} {r r' u : Value} {ps : List (Int × Value)} {ns : List Nt} {s : Int} {cs : List Cl} {base m n : Nat} {e e' : TypeId} {xs : List Value} (hno : NtO W r ps ns) (he : Ext W w' r r') (ho' : w'.ownsRow base e 2 r' m (nn (ps ++ [(s, u)]))) (ho : W.ownsRow w.heap.size e' 2 r n xs) (hu : RdC w u cs) (hb : Below w.heap.size w W) : RdN w' r' (ns ++ [⟨s, cs⟩]) :=
  ((NtO.snoc (n := ⟨s, cs⟩) hno (hu.below hb) (Off.ofOld hu ho)).ext he).rd ho'

end Go.Proofs.Ytdodajalejfbiad
