/-
  Texts joined: RangeOwn, WalI1, WalL1, WalL2, WalL3, LawLogs.
-/
import Derived.Test.YtdodajalejfbiadMWalLogs14
import Derived.RangeFuncNested
import Derived.RangeFuncBound
import Derived.RangeFuncCalls
import Derived.RangeFuncLeaves
import Derived.Shelf.Abstract
import Derived.Shelf.RegionOpen
import Derived.WalkKit
import Derived.OwnWalkIn
import Derived.TacticsInMore
import Derived.LoopNIn
import Derived.LoopIn
import Derived.Sort.CutIn
import Derived.Stop.RegionWithIn
import Derived.Maps.OwnIn
/-
  A range over a function whose iterator keeps cells of its own, and whose body keeps a row of its own: the caller's law. Nothing of a program stands here.
-/
namespace Go.Proofs.Ytdodajalejfbiad
open Go.RowKit Go.Shelf

variable {F : Fence} {n : Nat} {P : Program}

/-- What the caller says abides the iterator's own two blocks. -/
def AbI {α : Type} (B : Nat) (J : List α → Option Nat → World → Prop) : Prop :=
  ∀ s g A A' row, J s g A → A.grownBy A' row → (∀ r, row = some r → r = B + 1 ∨ r = B + 2) → J s g A'

/-- The contract of an iterator that lays two blocks of its own behind the first. -/
def SeqG {α : Type} (F : Fence) (n : Nat) (P : Program) (gf : Nat) (lb : Array Value) (encs : α → Array Value) (Ok : List α → α → Option Nat → World → Prop) (Kp : Option Nat → World → World → Prop) (S Sp : List α → Prop) (w : World) : Prop :=
  ∀ (l : Nat) (J Jx : List α → Option Nat → World → Prop) (W : World), Below w.heap.size w W → W.heap.size = w.heap.size + 2 → AbI W.heap.size J → AbI W.heap.size Jx →
    (∀ s g A, J s g A → ∀ k, g = some k → W.heap.size + 3 ≤ k ∧ k < A.heap.size) →
    (∀ pre x g A, J pre g A → Ok pre x g A → W.heap.size + 3 ≤ A.heap.size → YieldAt F (n - 1) P l (encs x) A fun e A' =>
      (e = .returned (.bool true) ∧ (∃ g', J (pre ++ [x]) g' A') ∧ Kp g A A') ∨ (e = .returned (.bool false) ∧ ∃ g', Jx (pre ++ [x]) g' A')) →
    J [] none W →
    CallsIn F n P gf (#[.func (.yield l) #[] #[]] ++ lb) W fun e W' => (∃ v, e = .returned v) ∧ ((∃ xs g, S xs ∧ J xs g W') ∨ (∃ pre g, Sp pre ∧ Jx pre g W'))

/-- What the caller says abides the five blocks that the loop and the iterator lay. -/
def OwnG {α : Type} (B : Nat) (I : List α → Option Nat → World → Prop) : Prop :=
  ∀ s g A A' row, I s g A → A.grownBy A' row → (∀ r, row = some r → B ≤ r ∧ r < B + 5) → I s g A'

theorem OwnG.putObj {α : Type} {B : Nat} {I : List α → Option Nat → World → Prop} (h : OwnG B I) {s : List α} {g : Option Nat} {W : World} {l : Nat} (o' : Obj) (hs : I s g W) (hB : B ≤ l) (hB2 : l < B + 5) : I s g (W.putObj l o') :=
  h s g W _ (some l) hs (grownBy_putObj' W l o') (fun r e => by cases e; exact ⟨hB, hB2⟩)
theorem OwnG.alloc {α : Type} {B : Nat} {I : List α → Option Nat → World → Prop} (h : OwnG B I) {s : List α} {g : Option Nat} {W : World} (o : Obj) (hs : I s g W) : I s g (W.alloc o) :=
  h s g W _ none hs (World.grownBy_alloc W o none) (fun r e => by cases e)

/-- How the body of a round may be left. -/
def ownPostS {α : Type} (B : Nat) (Kp : Option Nat → World → World → Prop) (I : List α → Option Nat → World → Prop) (Ix : Code → List α → Option Nat → World → Prop) (xs : List α) (g : Option Nat) (W : World) : Exit → Act → World → Prop
  | .normal, _, W' => KeepsFrom B W W' ∧ Kp g W W' ∧ ∃ g', I xs g' W'
  | .ret, _, W' => KeepsFrom B W W' ∧ ∃ g', Ix .ret xs g' W'
  | .exit id, _, W' => KeepsFrom B W W' ∧ ∃ g', Ix (.exit id) xs g' W'
  | .goto t, _, W' => KeepsFrom B W W' ∧ ∃ g', Ix (.goto t) xs g' W'
  | .panic _, _, _ => False
  | .outgrown, _, _ => False

theorem wpIn_rangeFunc_st {α : Type} {g : Operand} {ps : Array Tmp} {assign body : Code} {Q : Exit → Act → World → Prop} {a : Act} {w : World}
    (hro : F.round = none) (h1 : 1 ≤ n) {gf : Nat} {lb : Array Value} (hg : a.eval g = .func (.func gf) #[] lb) (hFg : F.fn gf) (eg : ∀ args w, (callFunc gf args).run P w = .ok (.enter gf args) w)
    {encs : α → Array Value} {Ok : List α → α → Option Nat → World → Prop} {Kp : Option Nat → World → World → Prop} {S Sp : List α → Prop} (hseq : SeqG F (n - 1) P gf lb encs Ok Kp S Sp w)
    (hKt : ∀ {g : Option Nat} {A B C : World}, Kp g A B → Kp g B C → Kp g A C) (hKb : ∀ (g : Option Nat) (W : World) (l : Nat) (o o' : Obj), W.heap[l]? = some o → o.isCells = false → Kp g W (W.putObj l o')) (hps : ∀ x, (encs x).size = ps.size)
    (I : List α → Option Nat → World → Prop) (Ix : Code → List α → Option Nat → World → Prop) (hI : OwnG w.heap.size I) (hIx : ∀ c, OwnG w.heap.size (Ix c)) (h0 : I [] none w)
    (hgI : ∀ s g A, I s g A → ∀ k, g = some k → w.heap.size + 5 ≤ k ∧ k < A.heap.size)
    (Ax : List α → α → Option Nat → Act → World → Prop) (hAx : ∀ pre x g a' W l o', w.heap.size ≤ l → l < w.heap.size + 5 → Ax pre x g a' W → Ax pre x g a' (W.putObj l o'))
    (hassign : ∀ (l : Nat) (pre : List α) (x : α) (g : Option Nat) (W : World) (K : Act → World → Prop), I pre g W → Ok pre x g W → w.heap.size + 5 ≤ W.heap.size → (∀ a' W', KeepsFrom w.heap.size W W' → Kp g W W' → I pre g W' → Ax pre x g a' W' → K a' W') →
      assign.wpIn (F.inRound l) (n - 1 - 1) P (Exit.then K (fun _ _ _ => False)) { tmps := (ps.zip (encs x)).foldl (fun t (p, v) => t.setIfInBounds p v) a.tmps, defers := [] } W)
    (hbody : ∀ (l : Nat) (pre : List α) (x : α) (g : Option Nat) (a' : Act) (W : World), I pre g W → Ax pre x g a' W → body.wpIn (F.inRound l) (n - 1 - 1) P (ownPostS w.heap.size Kp I Ix (pre ++ [x]) g W) a' W)
    (hdone : ∀ (D : Nat) (xs : List α) (g : Option Nat) (W : World), w.heap.size ≤ D → D < w.heap.size + 5 → S xs → I xs g W → W.heap[D]? = some (.deferred (some [])) → Q .normal { a with defers := { target := .collected D, args := #[] } :: a.defers } W)
    (hstop : ∀ (D : Nat) (c : Code) (pre : List α) (g : Option Nat) (W : World), w.heap.size ≤ D → D < w.heap.size + 5 → Sp pre → Ix c pre g W → W.heap[D]? = some (.deferred (some [])) → c.wpIn F n P Q { a with defers := { target := .collected D, args := #[] } :: a.defers } W) :
    (Code.rangeFunc g ps assign body).wpIn F n P Q a w := by
  refine wpIn_rangeFunc ?_
  intro fn hfn
  rw [hro]
  obtain ⟨rec, hrec⟩ : ∃ rec : LoopState → Option Code → Loop, rec = fun st pe => { state := st, pending := pe, fn, tmps := a.tmps, params := ps, assign, body, defers := w.heap.size } := ⟨_, rfl⟩
  obtain ⟨W1, hW1⟩ : ∃ W1, (w.alloc (.deferred (some []))).alloc (.loop (rec .ready none)) = W1 := ⟨_, rfl⟩
  have hL1 : W1.heap[w.heap.size + 1]? = some (.loop (rec .ready none)) := by
    rw [← hW1]; have := World.alloc_heap_new (w.alloc (.deferred (some []))) (.loop (rec .ready none)); rwa [World.size_alloc] at this
  have hK1 : W1.heap[w.heap.size]? = some (.deferred (some [])) := by
    rw [← hW1]; exact (Below.heap_alloc _ _ _ (by simp)).trans (World.alloc_heap_new w _)
  have hI1 : I [] none W1 := by rw [← hW1]; exact hI.alloc _ (hI.alloc _ h0)
  have hb1 : Below w.heap.size w W1 := by
    rw [← hW1]; exact ((Below.refl _ w).alloc (Nat.le_refl _) _).alloc (by simp) _
  have hz1 : W1.heap.size = w.heap.size + 2 := by rw [← hW1]; simp
  refine ⟨w.heap.size + 1, [{ target := .collected w.heap.size, args := #[] }], W1, { target := .fn (.func gf) lb, args := #[.func (.yield (w.heap.size + 1)) #[] #[]] }, W1, gf,
    #[.func (.yield (w.heap.size + 1)) #[] #[]] ++ lb, W1, ?_, ?_, ?_, ?_, fun _ => h1, ?_⟩
  · rw [← hW1, hrec]; exact run_enterLoop_outer _ _ _ _ _
  · simp only [resolve, hg]
    simp [go_sem]
  · intro f' hf'; simp [Target.leads] at hf'; subst hf'; exact hFg
  · simp [invoke, go_sem, eg]
  · have hbk : ∀ {A A' : World} {row : Option Nat} {k : Nat} {o : Obj}, A.grownBy A' row → (∀ r, row = some r → r = W1.heap.size + 1 ∨ r = W1.heap.size + 2) → k < w.heap.size + 2 → A.heap[k]? = some o → A'.heap[k]? = some o := fun hg' hr hk ho => by
      rw [hg'.block _ (Array.getElem?_eq_some_iff.1 ho).1 (fun e => by have := hr _ e.symm; omega)]
      exact ho
    refine (hseq (w.heap.size + 1)
      (fun pre g W => I pre g W ∧ W.heap[w.heap.size + 1]? = some (.loop (rec .ready none)) ∧ W.heap[w.heap.size]? = some (.deferred (some [])))
      (fun pre g W => ∃ c, Ix c pre g W ∧ W.heap[w.heap.size + 1]? = some (.loop (rec .done (some c))) ∧ W.heap[w.heap.size]? = some (.deferred (some [])))
      W1 hb1 hz1
      (fun s g A B row hs hg' hr => ⟨hI s g A B row hs.1 hg' (fun r e => by have := hr r e; omega), hbk hg' hr (by omega) hs.2.1, hbk hg' hr (by omega) hs.2.2⟩)
      (fun s g A B row hs hg' hr => by
        obtain ⟨c, hc, hl, hk⟩ := hs
        exact ⟨c, hIx c s g A B row hc hg' (fun r e => by have := hr r e; omega), hbk hg' hr (by omega) hl, hbk hg' hr (by omega) hk⟩)
      (fun s g A hs k e => by have := hgI s g A hs.1 k e; omega)
      ?_ ⟨hI1, hL1, hK1⟩).mono ?_
    · rintro pre x g W ⟨hi, hl, hk⟩ hok hsz
      have hy := run_yield (P := P) (args := encs x) hl (by rw [hrec]; exact hps x)
      rw [hrec] at hy
      refine ⟨fn, _, assign, body, hy, roundIn_of_wpIn hfn (hassign _ pre x g W _ hi hok (by omega) ?_)⟩
      clear hy
      intro a' Wa hkfa hkpa hia hax
      replace hl := hkfa.same _ _ (by omega) hl rfl
      replace hk := hkfa.same _ _ (Nat.le_refl _) hk rfl
      have hlt : w.heap.size + 1 < Wa.heap.size := (Array.getElem?_eq_some_iff.1 hl).1
      refine ⟨_, run_beginRound hl (by rw [hrec]), ?_⟩
      have hl2 : (Wa.putObj (w.heap.size + 1) (.loop { rec .ready none with state := .busy })).heap[w.heap.size + 1]? = some (.loop { rec .ready none with state := .busy }) := World.putObj_heap_same hlt
      have hk2 : (Wa.putObj (w.heap.size + 1) (.loop { rec .ready none with state := .busy })).heap[w.heap.size]? = some (.deferred (some [])) := (World.putObj_heap_other (by omega)).trans hk
      have hw2 : Kp g Wa (Wa.putObj (w.heap.size + 1) (.loop { rec .ready none with state := .busy })) := hKb _ _ _ _ _ hl rfl
      refine wpIn_mono (hbody _ pre x g a' _ (hI.putObj _ hia (by omega) (by omega)) (hAx _ _ _ _ _ _ _ (by omega) (by omega) hax)) ?_
      have fin : ∀ (jump : Option Code) (W3 : World), KeepsFrom w.heap.size (Wa.putObj (w.heap.size + 1) (.loop { rec .ready none with state := .busy })) W3 →
          (Instr.endRound (w.heap.size + 1) jump).run P W3 = .ok (.bool jump.isNone) (W3.putObj (w.heap.size + 1) (.loop (rec (if jump.isNone then .ready else .done) jump))) ∧
          W3.heap[w.heap.size + 1]? = some (.loop { rec .ready none with state := .busy }) ∧
          (W3.putObj (w.heap.size + 1) (.loop (rec (if jump.isNone then .ready else .done) jump))).heap[w.heap.size + 1]? = some (.loop (rec (if jump.isNone then .ready else .done) jump)) ∧
          (W3.putObj (w.heap.size + 1) (.loop (rec (if jump.isNone then .ready else .done) jump))).heap[w.heap.size]? = some (.deferred (some [])) := fun jump W3 hk3 => by
        have hl3 := hk3.same _ _ (by omega) hl2 rfl
        have := run_endRound (P := P) jump hl3
        rw [hrec] at this ⊢
        exact ⟨this, by rw [hrec] at hl3; exact hl3, World.putObj_heap_same (Array.getElem?_eq_some_iff.1 hl3).1, (World.putObj_heap_other (by omega)).trans (hk3.same _ _ (Nat.le_refl _) hk2 rfl)⟩
      rintro e a3 W3 hp
      cases e with
      | normal =>
        obtain ⟨hk3, hkp3, g', hi3⟩ := hp
        obtain ⟨hr, hl3, hl4, hk4⟩ := fin none W3 hk3
        exact ⟨_, _, hr, .inl ⟨rfl, ⟨g', hI.putObj _ hi3 (by omega) (by omega), hl4, hk4⟩, hKt hkpa (hKt (hKt hw2 hkp3) (hKb _ _ _ _ _ hl3 rfl))⟩⟩
      | ret =>
        obtain ⟨hk3, g', hi3⟩ := hp
        obtain ⟨hr, hl3, hl4, hk4⟩ := fin (some .ret) W3 hk3
        exact ⟨_, _, hr, .inr ⟨rfl, g', .ret, (hIx _).putObj _ hi3 (by omega) (by omega), hl4, hk4⟩⟩
      | exit id =>
        obtain ⟨hk3, g', hi3⟩ := hp
        obtain ⟨hr, hl3, hl4, hk4⟩ := fin (some (.exit id)) W3 hk3
        exact ⟨_, _, hr, .inr ⟨rfl, g', .exit id, (hIx _).putObj _ hi3 (by omega) (by omega), hl4, hk4⟩⟩
      | goto t =>
        obtain ⟨hk3, g', hi3⟩ := hp
        obtain ⟨hr, hl3, hl4, hk4⟩ := fin (some (.goto t)) W3 hk3
        exact ⟨_, _, hr, .inr ⟨rfl, g', .goto t, (hIx _).putObj _ hi3 (by omega) (by omega), hl4, hk4⟩⟩
      | panic ch => exact hp.elim
      | outgrown => exact hp.elim
    · rintro e W2 ⟨⟨v, rfl⟩, (⟨xs, g', hS, hi, hl, hk⟩ | ⟨pre, g', hSp, c, hi, hl, hk⟩)⟩
      · exact ⟨none, _, by have := run_endLoop (P := P) hl (by rw [hrec]; simp); rw [hrec] at this; exact this, hdone _ xs g' _ (Nat.le_refl _) (by omega) hS (hI.putObj _ hi (by omega) (by omega)) ((World.putObj_heap_other (by omega)).trans hk)⟩
      · exact ⟨some c, _, by have := run_endLoop (P := P) hl (by rw [hrec]; simp); rw [hrec] at this; exact this, hstop _ c pre g' _ (Nat.le_refl _) (by omega) hSp ((hIx c).putObj _ hi (by omega) (by omega)) ((World.putObj_heap_other (by omega)).trans hk)⟩

/-- All but the five blocks as it was. -/
def Rl (B : Nat) (A A' : World) : Prop := A.heap.size ≤ A'.heap.size ∧ ∀ k, (k < B ∨ B + 5 ≤ k) → k < A.heap.size → A'.heap[k]? = A.heap[k]?
theorem Rl.refl (B : Nat) (A : World) : Rl B A A := ⟨Nat.le_refl _, fun _ _ _ => rfl⟩
theorem Rl.put {B : Nat} {A A' : World} {l : Nat} {o : Obj} (h1 : B ≤ l) (h2 : l < B + 5) (h : Rl B (A.putObj l o) A') : Rl B A A' :=
  ⟨by have := h.1; simp at this; exact this, fun k hk hA => by
    rw [h.2 k hk (by simpa using hA)]
    exact World.putObj_heap_other (by omega)⟩

/-- The same, assignment and body in one. -/
theorem wpIn_rangeFunc_st2 {α : Type} {g : Operand} {ps : Array Tmp} {assign body : Code} {Q : Exit → Act → World → Prop} {a : Act} {w : World}
    (hro : F.round = none) (h1 : 1 ≤ n) {gf : Nat} {lb : Array Value} (hg : a.eval g = .func (.func gf) #[] lb) (hFg : F.fn gf) (eg : ∀ args w, (callFunc gf args).run P w = .ok (.enter gf args) w)
    {encs : α → Array Value} {Ok : List α → α → Option Nat → World → Prop} {Kp : Option Nat → World → World → Prop} {S Sp : List α → Prop} (hseq : SeqG F (n - 1) P gf lb encs Ok Kp S Sp w)
    (hKt : ∀ {g : Option Nat} {A B C : World}, Kp g A B → Kp g B C → Kp g A C) (hKb : ∀ (g : Option Nat) (W : World) (l : Nat) (o o' : Obj), W.heap[l]? = some o → o.isCells = false → Kp g W (W.putObj l o')) (hps : ∀ x, (encs x).size = ps.size)
    (I : List α → Option Nat → World → Prop) (Ix : Code → List α → Option Nat → World → Prop) (hI : OwnG w.heap.size I) (hIx : ∀ c, OwnG w.heap.size (Ix c)) (h0 : I [] none w)
    (hgI : ∀ s g A, I s g A → ∀ k, g = some k → w.heap.size + 5 ≤ k ∧ k < A.heap.size)
    (hround : ∀ (l : Nat) (pre : List α) (x : α) (g : Option Nat) (W : World), I pre g W → Ok pre x g W → w.heap.size + 5 ≤ W.heap.size →
      assign.wpIn (F.inRound l) (n - 1 - 1) P (Exit.then (fun a' W' => KeepsFrom w.heap.size W W' ∧ Kp g W W' ∧ I pre g W' ∧ ∀ (l' : Nat) W'', Rl w.heap.size W' W'' → I pre g W'' → body.wpIn (F.inRound l') (n - 1 - 1) P (ownPostS w.heap.size Kp I Ix (pre ++ [x]) g W'') a' W'') (fun _ _ _ => False)) { tmps := (ps.zip (encs x)).foldl (fun t (p, v) => t.setIfInBounds p v) a.tmps, defers := [] } W)
    (hdone : ∀ (D : Nat) (xs : List α) (g : Option Nat) (W : World), w.heap.size ≤ D → D < w.heap.size + 5 → S xs → I xs g W → W.heap[D]? = some (.deferred (some [])) → Q .normal { a with defers := { target := .collected D, args := #[] } :: a.defers } W)
    (hstop : ∀ (D : Nat) (c : Code) (pre : List α) (g : Option Nat) (W : World), w.heap.size ≤ D → D < w.heap.size + 5 → Sp pre → Ix c pre g W → W.heap[D]? = some (.deferred (some [])) → c.wpIn F n P Q { a with defers := { target := .collected D, args := #[] } :: a.defers } W) :
    (Code.rangeFunc g ps assign body).wpIn F n P Q a w := by
  refine wpIn_rangeFunc_st hro h1 hg hFg eg hseq (fun h k => hKt h k) hKb hps I Ix hI hIx h0 hgI
    (fun pre x g a' A => ∀ (l' : Nat) A', Rl w.heap.size A A' → I pre g A' → body.wpIn (F.inRound l') (n - 1 - 1) P (ownPostS w.heap.size Kp I Ix (pre ++ [x]) g A') a' A')
    (fun pre x g a' W l o' hl hl2 h l' A' hr hi => h l' A' (hr.put hl hl2) hi) ?_ (fun l pre x g a' W hi h => h l W (Rl.refl _ _) hi) hdone hstop
  intro l pre x g W K hi hok hsz hK
  refine wpIn_mono (hround l pre x g W hi hok hsz) ?_
  intro e a' W' h
  cases e with
  | normal => exact hK a' W' h.1 h.2.1 h.2.2.1 h.2.2.2
  | _ => exact h.elim

end Go.Proofs.Ytdodajalejfbiad

/-
  The iterator over a log's notes: its contract.
-/
namespace Go.Proofs.Ytdodajalejfbiad
open Go.RowKit Go.Shelf
attribute [local go_sem] Oper.semAt_some

/-- What comes: a note's end, the note, and where its cells lie. -/
abbrev Nx := Nat × Nt × Value
def prj (x : Nx) : Nat × Nt := (x.1, x.2.1)
def encX (x : Nx) : Array Value := #[.int .i64 x.1, .agg #[.int .i64 x.2.1.seq, x.2.2]]

/-- What is known of what comes. -/
def okX (B : Nat) (bs : List UInt8) (pre : List Nx) (x : Nx) (g : Option Nat) (A : World) : Prop :=
  (pre ++ [x]).map prj <+: logR bs ∧ RdC A x.2.2 x.2.1.cells ∧ New (B + 5) x.2.2 ∧ (∀ k, g = some k → ∀ a l c, x.2.2 = .slice (some a) l c → a.block ≠ k)

/-- What a round keeps. -/
def kpX (bx : Nat → Prop) (g : Option Nat) (A A' : World) : Prop :=
  A.heap.size ≤ A'.heap.size ∧ ∀ k o, A.heap[k]? = some o → o.isCells = true → ¬ bx k → g ≠ some k → A'.heap[k]? = some o

theorem kpX_t {bx : Nat → Prop} {g : Option Nat} {A B C : World} (h : kpX bx g A B) (k : kpX bx g B C) : kpX bx g A C :=
  ⟨Nat.le_trans h.1 k.1, fun i o hi ho hb hg => k.2 i o (h.2 i o hi ho hb hg) ho hb hg⟩
theorem kpX_b (bx : Nat → Prop) (g : Option Nat) (W : World) (l : Nat) (o o' : Obj) (h : W.heap[l]? = some o) (ho : o.isCells = false) : kpX bx g W (W.putObj l o') :=
  ⟨by simp, fun k q hk hq _ _ => by
    rw [World.putObj_heap_other (fun e => by subst e; rw [h] at hk; cases hk; rw [ho] at hq; cases hq)]
    exact hk⟩
theorem kpX_below {bx : Nat → Prop} {g : Option Nat} {A A' : World} (h : Below A.heap.size A A') : kpX bx g A A' :=
  ⟨h.size, fun k o hk _ _ _ => by rw [h.block k (Array.getElem?_eq_some_iff.1 hk).1]; exact hk⟩

theorem kpX.bk {bx : Nat → Prop} {g : Option Nat} {A A' : World} (h : kpX bx g A A') {B : Nat} {t : TypeId} {xs : Array Value} (hb : Bk A B t xs) (h1 : ¬ bx B) (h2 : g ≠ some B) : Bk A' B t xs := h.2 B _ hb rfl h1 h2
theorem kpX.cell {bx : Nat → Prop} {g : Option Nat} {A A' : World} (h : kpX bx g A A') {p : Addr} {u : Value} (hc : A.cell? p = some u) (h1 : ¬ bx p.block) (h2 : g ≠ some p.block) : A'.cell? p = some u := by
  obtain ⟨o, ho, hcl⟩ := cells_of_cell hc
  rw [← hc]
  exact World.cell?_of_block ((h.2 _ _ ho hcl h1 h2).trans ho.symm)
theorem kpX.rd {bx : Nat → Prop} {g : Option Nat} {A A' : World} (h : kpX bx g A A') {v : Value} {xs : List Value} (hr : Rd A v xs) (h1 : ∀ a l c, v = .slice (some a) l c → 0 < xs.length → ¬ bx a.block ∧ g ≠ some a.block) : Rd A' v xs := by
  obtain ⟨ao, cap, hv, h2, h3, h4, h5⟩ := hr
  refine ⟨ao, cap, hv, h2, h3, h4, fun a ha j u hu => ?_⟩
  have hb : (a.add j).block = a.block := by unfold Addr.add; split <;> rfl
  have hl := (List.getElem?_eq_some_iff.1 hu).1
  obtain ⟨q1, q2⟩ := h1 a _ _ (by rw [hv, ha]) (by omega)
  exact h.cell (h5 a ha j u hu) (by rw [hb]; exact q1) (by rw [hb]; exact q2)

/-- Where the reader stands. -/
def kOf (R : Nat) (W : World) : Nat := match W.cell? ⟨R, 1, none⟩ with | some (.int _ z) => z.toNat | _ => 0
theorem kOf_rdr {R : Nat} {W : World} {t : TypeId} {v : Value} {k : Nat} (h : RdrT W t R v k) : kOf R W = k := by
  unfold kOf
  rw [h.facts.2.1]
  simp

theorem two9 {e : Ending} {A B : Prop} (h : (e = .returned (.bool true) ∧ A) ∨ (e = .returned (.bool false) ∧ B)) : ∃ b : Bool, e = .returned (.bool b) ∧ ((b = true ∧ A) ∨ (b = false ∧ B)) := by
  rcases h with ⟨h1, h2⟩ | ⟨h1, h2⟩
  · exact ⟨true, h1, .inl ⟨rfl, h2⟩⟩
  · exact ⟨false, h1, .inr ⟨rfl, h2⟩⟩

set_option maxRecDepth 100000 in
set_option maxHeartbeats 4000000 in
theorem notesOf1_stops (n : Nat) (hn : 2 ≤ n) (Bb : Nat) (ao : Option Addr) (cap : Nat) (bs : List UInt8) (bx : Nat → Prop) (w : World) (hB : w.cell? ⟨Bb, 0, none⟩ = some (.slice ao bs.length cap)) (hrd : Rd w (.slice ao bs.length cap) (bc bs)) (hbl : bs.length ≤ 60000)
    (hbv : ∀ a l c, Value.slice ao bs.length cap = .slice (some a) l c → 0 < (bc bs).length → ¬ bx a.block) (hbw : ∀ k, bx k → k < w.heap.size) :
    SeqG Fence.wide n Try.prog 104 #[.pointer (some ⟨Bb, 0, none⟩)] encX (okX w.heap.size bs) (kpX bx) (fun xs => xs.map prj = logR bs) (fun pre => pre.map prj <+: logR bs) w := by
  intro l J Jx W hbW hzW hJ hJx hg hY h0
  have hBW := cell_belowC hB hbW
  have hrW := hrd.below hbW
  have hblW : Bb < W.heap.size := World.block_lt_of_cell? W _ hBW
  have hpW : ∀ a l c, Value.slice ao bs.length cap = .slice (some a) l c → 0 < (bc bs).length → a.block < w.heap.size := by
    intro a l c e hp
    simp only [Value.slice.injEq] at e
    obtain ⟨rfl, _, _⟩ := e
    obtain ⟨b, off, cap', hv, _, _, hb, _⟩ := hrd.pos hp
    simp only [Value.slice.injEq, Option.some.injEq] at hv
    rw [hv.1]
    exact hb
  have HPW := hide hpW
  have HBV := hide hbv
  have HBW := hide hbw
  have HY := hide hY
  have HG := hide hg
  have HJ := hide hJ
  have HJX := hide hJx
  have HZW := hide hzW
  clear hpW hbv hbw hY hg hJ hJx hB hrd hzW
  refine callsIn_of_wp Try.func104 rfl trivial ?_ rfl
  simp only [Try.ntmps104, List.size_toArray, List.length_cons, List.length_nil, Nat.reduceAdd, Nat.reduceSub, Array.replicate_succ, Array.replicate_zero, List.push_toArray, List.append_toArray, List.nil_append, List.cons_append]
  gi_wp2_with fail
  refine ⟨trivial, fun _ => by omega, (callsIn_wide.2 (ReaderOf_any ao bs.length cap _)).mono ?_⟩
  rintro e w1 ⟨rfl, hb1, hz1⟩
  have hb2 : Below W.heap.size W ((w1.alloc (.cells #[.slice ao bs.length cap, .int .i64 0] 104)).alloc (.cells #[.int .i64 0, .slice none 0 0] 41)) := (hb1.alloc (by omega) _).alloc (by simp; omega) _
  have hR2 : RdrT ((w1.alloc (.cells #[.slice ao bs.length cap, .int .i64 0] 104)).alloc (.cells #[.int .i64 0, .slice none 0 0] 41)) 104 w1.heap.size (.slice ao bs.length cap) (0 : Nat) := (Below.heap_alloc _ _ _ (by simp)).trans (heap_alloc_new w1 _)
  have hL2 : Bk ((w1.alloc (.cells #[.slice ao bs.length cap, .int .i64 0] 104)).alloc (.cells #[.int .i64 0, .slice none 0 0] 41)) (w1.heap.size + 1) 41 #[.int .i64 0, .slice none 0 0] := Bk.new2 w1 _ _ _
  have hz2 : ((w1.alloc (.cells #[.slice ao bs.length cap, .int .i64 0] 104)).alloc (.cells #[.int .i64 0, .slice none 0 0] 41)).heap.size = W.heap.size + 3 := by simp [hz1]
  have HB2 := hide hb2
  have HR2 := hide hR2
  have HL2 := hide hL2
  have HZ2 := hide hz2
  clear hb2 hR2 hL2 hz2
  gi_wp2_with fail
  generalize (w1.alloc (.cells #[.slice ao bs.length cap, .int .i64 0] 104)).alloc (.cells #[.int .i64 0, .slice none 0 0] 41) = w2 at *
  have hb2 := HB2.out
  have hR2 := HR2.out
  have hL2 := HL2.out
  have hz2 := HZ2.out
  rw [hz1] at hR2 hL2
  clear HB2 HR2 HL2 HZ2 hb1 hz1
  have hJ2 : J [] none w2 := HJ.out [] none W w2 none h0 ⟨hb2.os, hb2.tape, hb2.output, hb2.size, fun k hk _ => hb2.block k hk⟩ (fun r e => by cases e)
  have hr2 := hrW.below hb2
  clear h0 hBW hrW hb2
  gi_loopw [5] (fun _ wr => ∃ (pre : List Nx) (g : Option Nat) (k f : Nat) (ls : Int) (lu : Value), J pre g wr ∧ RdrT wr 104 (W.heap.size + 1) (.slice ao bs.length cap) k ∧ Bk wr (W.heap.size + 1 + 1) 41 #[.int .i64 ls, lu] ∧ lu.oneCell' = true ∧ k ≤ bs.length ∧ pre.map prj ++ logGo (f + 1) (bs.drop k) ls k = logR bs ∧ bs.length ≤ k + f ∧ 0 ≤ ls ∧ ls ≤ 1000000000 ∧ W.heap.size + 3 ≤ wr.heap.size ∧ Rd wr (.slice ao bs.length cap) (bc bs))
    (fun _ wr => bs.length + 1 - kOf (W.heap.size + 1) wr)
  case atStart => exact ⟨[], none, 0, bs.length, 0, .slice none 0 0, hJ2, hR2, hL2, rfl, by omega, rfl, by omega, by omega, by omega, by omega, hr2⟩
  case round =>
    clear hJ2 hR2 hL2 hr2 hz2
    obtain ⟨pre, g, k, f, ls, lu, hJr, hRr, hLr, hlu, hk, hlog, hf, hl0, hl1, hzr, hrr⟩ := hrel
    have HLOG := hide hlog
    have HK0 := hide (kOf_rdr hRr)
    have HGK := hide (HG.out pre g wr hJr)
    clear hlog
    gi_wp2_with fail
    refine ⟨trivial, fun _ => by omega, (callsIn_wide.2 (Frame_any _ (W.heap.size + 1) _ bs k _ hrr (fun a l c e hp => by have := HPW.out a l c e hp; have := HZW.out; omega) hRr hk (by omega))).mono ?_⟩
    rintro e w3 hfr
    cases hfa : frameAt (bs.drop k) with
    | none =>
      rw [hfa] at hfr
      obtain ⟨rfl, hR3, hg3⟩ := hfr
      have HE := hide (@logGo_end f k (bs.drop k) ls hfa)
      have hJ3 : J pre g w3 := HJ.out pre g wr w3 (some (W.heap.size + 1)) hJr hg3 (fun r e => by cases e; exact .inl rfl)
      clear hfa hR3 hg3 hRr hLr hrr
      gi_wp2_with fail
      refine bodyPost_ret (results_none rfl _ _ _) rfl ⟨⟨_, rfl⟩, .inl ⟨pre, g, by rw [← HLOG.out, HE.out, List.append_nil], hJ3⟩⟩
    | some body =>
      rw [hfa] at hfr
      obtain ⟨uo, uc, rfl, hu3, hub, hR3, hg3⟩ := hfr
      have hfl := frameAt_len hfa
      rw [List.length_drop] at hfl
      have hJ3 : J pre g w3 := HJ.out pre g wr w3 (some (W.heap.size + 1)) hJr hg3 (fun r e => by cases e; exact .inl rfl)
      have hL3 := hLr.grown hg3 (by simp)
      have hr3 := hrr.grownT hg3 (fun a l c e hp => by have := HPW.out a l c e hp; have := HZW.out; omega)
      have hz3 : W.heap.size + 3 ≤ w3.heap.size := Nat.le_trans hzr hg3.size
      have HGK3 := hide (HG.out pre g w3 hJ3)
      have HSTOP := hide (@logGo_stop f k (bs.drop k) body ls hfa)
      have HSTEP := hide (@logGo_step f k (bs.drop k) body ls hfa)
      clear hfa hRr hLr hrr hg3 hJr HGK hub
      gi_wp2_with fail
      refine ⟨trivial, fun _ => by omega, (callsIn_wide.2 (WRead_any _ body _ hu3)).mono ?_⟩
      rintro e w4 ⟨v4, rfl, hr4c, hb4, hn4⟩
      have hJ4 : J pre g w4 := HJ.out pre g w3 w4 none hJ3 ⟨hb4.os, hb4.tape, hb4.output, hb4.size, fun k hk _ => hb4.block k hk⟩ (fun r e => by cases e)
      have hL4 := hL3.below hb4 hL3.lt
      have hr4 := hr3.below hb4
      have hR4 : RdrT w4 104 (W.heap.size + 1) (.slice ao bs.length cap) (k + (body.length + 6) : Nat) := (hb4.block _ (by omega)).trans hR3
      have hz4 := hb4.size
      have HCS := hide (readN_cases body)
      generalize readN body = RN at *
      obtain ⟨⟨s, cs⟩, fx, fy⟩ := RN
      simp only at hr4c HSTOP HSTEP HCS ⊢
      obtain ⟨vo4, vc4, hv4, _, _⟩ := hr4c.shape
      subst hv4
      have hoff4 : ∀ kk, g = some kk → ∀ a l c, Value.slice vo4 cs.length vc4 = .slice (some a) l c → a.block ≠ kk := fun kk hkk a l c e => by
        have h1 := hn4 a l c e
        have h2 := (HGK3.out kk hkk).2
        omega
      have hnn4 : New (w.heap.size + 5) (.slice vo4 cs.length vc4) := hn4.mono (by have := HZW.out; omega)
      have HOFF := hide hoff4
      clear hL3 hr3 hR3 hJ3 hb4 hn4 hu3 hoff4
      have hb46 : Below w4.heap.size w4 ((w4.alloc (.cells #[.int .i64 s, .slice vo4 cs.length vc4] 41)).alloc (.cells #[.int .i64 fx, .int .i64 fy] 28)) := (below_alloc' _ _).alloc (by simp) _
      have hN6 : Bk ((w4.alloc (.cells #[.int .i64 s, .slice vo4 cs.length vc4] 41)).alloc (.cells #[.int .i64 fx, .int .i64 fy] 28)) w4.heap.size 41 #[.int .i64 s, .slice vo4 cs.length vc4] := (Bk.new w4 _ _).below (below_alloc' _ _) (by simp)
      have hF6 : Bk ((w4.alloc (.cells #[.int .i64 s, .slice vo4 cs.length vc4] 41)).alloc (.cells #[.int .i64 fx, .int .i64 fy] 28)) (w4.heap.size + 1) 28 #[.int .i64 fx, .int .i64 fy] := Bk.new2 w4 _ _ _
      have HB46 := hide hb46
      have HN6 := hide hN6
      have HF6 := hide hF6
      clear hb46 hN6 hF6
      unfold ntA fltC
      gi_upto_region 5 with fail
      generalize (w4.alloc (.cells #[.int .i64 s, .slice vo4 cs.length vc4] 41)).alloc (.cells #[.int .i64 fx, .int .i64 fy] 28) = w6 at *
      have hb46 := HB46.out
      have hN6 := HN6.out
      have hF6 := HF6.out
      have hJ6 : J pre g w6 := HJ.out pre g w4 w6 none hJ4 ⟨hb46.os, hb46.tape, hb46.output, hb46.size, fun k hk _ => hb46.block k hk⟩ (fun r e => by cases e)
      have hL6 := hL4.below hb46 hL4.lt
      have hr6 := hr4.below hb46
      have hR6 : RdrT w6 104 (W.heap.size + 1) (.slice ao bs.length cap) (k + (body.length + 6) : Nat) := (hb46.block _ (by omega)).trans hR4
      have hc6 := hr4c.below hb46
      have hz6 := hb46.size
      have hgN : g ≠ some w4.heap.size := fun e => by have := (HGK3.out _ e).2; omega
      clear HB46 HN6 HF6 hL4 hr4 hR4 hJ4 hr4c hb46
      have f0 := hF6.cell 0
      have f1 := hF6.cell 1
      have n0 := hN6.cell 0
      have n1 := hN6.cell 1
      have l0 := hL6.cell 0
      have l1 := hL6.cell 1
      simp at f0 f1 n0 n1 l0 l1
      by_cases hx : fx = 0
      case neg =>
        have HE := hide (HSTOP.out (fun h => hx h.1))
        have hcb : (fx == 0) = false := beq_eq_false_iff_ne.2 hx
        have hcb2 : (fx != 0) = true := by simp [hx]
        gi_wp2_with fail
        refine ⟨trivial, ?_⟩
        gi_wp2_with fail
        refine bodyPost_ret (results_none rfl _ _ _) rfl ⟨⟨_, rfl⟩, .inl ⟨pre, g, by rw [← HLOG.out, HE.out, List.append_nil], hJ6⟩⟩
      subst hx
      obtain ⟨hfy, hnf⟩ : fy = 0 ∧ (noteF s cs).1 = 0 := by
        rcases HCS.out with h | ⟨h1, h2⟩
        · exact absurd rfl h.1
        · exact ⟨by simpa using h1, h2⟩
      subst hfy
      obtain ⟨_, hs1, hs2, _, _, _⟩ := noteF_zero hnf
      clear HCS hnf
      gi_wp2_with fail
      refine ⟨trivial, fun _ => by omega, (callsIn_wide.2 (follows_any ls s lu (.slice vo4 cs.length vc4) _ ⟨by omega, by omega⟩)).mono ?_⟩
      rintro e w7 ⟨rfl, hb7⟩
      have hJ7 : J pre g w7 := HJ.out pre g w6 w7 none hJ6 ⟨hb7.os, hb7.tape, hb7.output, hb7.size, fun k hk _ => hb7.block k hk⟩ (fun r e => by cases e)
      have hN7 := hN6.below hb7 hN6.lt
      have hL7 := hL6.below hb7 hL6.lt
      have hr7 := hr6.below hb7
      have hR7 : RdrT w7 104 (W.heap.size + 1) (.slice ao bs.length cap) (k + (body.length + 6) : Nat) := (hb7.block _ (by omega)).trans hR6
      have hc7 := hc6.below hb7
      have hz7 := hb7.size
      clear f0 f1 n0 n1 l0 l1 hJ6 hN6 hL6 hr6 hR6 hc6 hF6 hb7
      cases hfo : follB ls s
      · have HE := hide (HSTOP.out (by simp [hfo]))
        gi_wp2_with fail
        refine bodyPost_ret (results_none rfl _ _ _) rfl ⟨⟨_, rfl⟩, .inl ⟨pre, g, by rw [← HLOG.out, HE.out, List.append_nil], hJ7⟩⟩
      · have HS := hide (HSTEP.out (by first | rfl | trivial) (by first | exact hfo | rfl))
        have HLG : Hid (pre.map prj ++ (k + (body.length + 6), (⟨s, cs⟩ : Nt)) :: logGo f ((bs.drop k).drop (body.length + 6)) s (k + (body.length + 6)) = logR bs) := hide (by rw [← HS.out]; exact HLOG.out)
        clear HSTOP HSTEP HLOG HS hfo
        have hJ8 : J pre g w7.drew := HJ.out pre g w7 w7.drew none hJ7 ⟨rfl, rfl, rfl, Nat.le_refl _, fun _ _ _ => rfl⟩ (fun r e => by cases e)
        have hok : okX w.heap.size bs pre (k + (body.length + 6), ⟨s, cs⟩, .slice vo4 cs.length vc4) g w7.drew := ⟨⟨_, by
          have := HLG.out
          rw [List.map_append, List.append_assoc]
          exact this⟩, hc7, hnn4, HOFF.out⟩
        obtain ⟨fn, tmps, assign, body9, hy, hRo⟩ := HY.out pre (k + (body.length + 6), ⟨s, cs⟩, .slice vo4 cs.length vc4) g w7.drew hJ8 hok (by show W.heap.size + 3 ≤ w7.heap.size; omega)
        dsimp only [encX] at hy
        rw [show (((k + (body.length + 6) : Nat)) : Int) = (k : Int) + ((body.length : Int) + 6) by push_cast; rfl] at hy
        have n0 := hN7.cell 0
        have n1 := hN7.cell 1
        simp at n0 n1
        have HRD7 := hide hR7
        gi_wp2_with fail
        gi_region_with (first
          | (refine ⟨trivial, fun _ => by omega, ?_⟩; refine (callsIn_wide.2 (At_any _ _ _ _ _ (by exact HRD7.out))).mono ?_; rintro e w8 ⟨rfl, rfl⟩)
          | (refine ⟨fun _ => by omega, hRo.mono ?_⟩; rintro e W9 hr9; obtain ⟨b9, rfl, hb9⟩ := two9 hr9))
        all_goals
          have hzW := HZW.out
          have hlow : ∀ kk, w.heap.size ≤ kk → ¬ bx kk := fun kk hkk h => by have := HBW.out _ h; omega
          rcases hb9 with ⟨rfl, ⟨g', hJ9⟩, hk9⟩ | ⟨rfl, g', hJx9⟩
          · have hgl : ∀ kk, kk < W.heap.size + 3 → g ≠ some kk := fun kk hkk e => by have := (HGK3.out kk e).1; omega
            have hN9 := hk9.bk (B := w4.heap.size) hN7 (hlow _ (by omega)) hgN
            have hL9 := hk9.bk (B := W.heap.size + 1 + 1) hL7 (hlow _ (by omega)) (hgl _ (by omega))
            have hR9 : RdrT W9 104 (W.heap.size + 1) (.slice ao bs.length cap) (k + (body.length + 6) : Nat) := hk9.2 _ _ HRD7.out rfl (hlow _ (by omega)) (hgl _ (by omega))
            have hr9 := hk9.rd (v := .slice ao bs.length cap) (xs := bc bs) hr7 (fun a l c e hp => ⟨HBV.out a l c e hp, hgl _ (by have := HPW.out a l c e hp; omega)⟩)
            have hz9 : w7.heap.size ≤ W9.heap.size := hk9.1
            have HL9 := hide hL9
            have HR9 := hide hR9
            have HRR9 := hide hr9
            have HJ9 := hide hJ9
            clear n0 n1 hy hRo
            have n0 := hN9.cell 0
            have n1 := hN9.cell 1
            have l0 := hL9.cell 0
            have l1 := hL9.cell 1
            have l2 := hL9.frozen 0
            have l3 := hL9.frozen 1
            have hlL := hL9.lt
            simp at n0 n1 l0 l1
            clear hJ7 hJ8 hok hN7 hL7 hr7 hR7 hc7 hN9 hL9 hR9 hr9 hJ9 hk9 hzW
            gi_wp2_with fail
            go_roundw
            case rel =>
              have hzW := HZW.out
              obtain ⟨f', rfl⟩ : ∃ f', f = f' + 1 := ⟨f - 1, by omega⟩
              refine ⟨pre ++ [(k + (body.length + 6), ⟨s, cs⟩, .slice vo4 cs.length vc4)], g', k + (body.length + 6), f', s, .slice vo4 cs.length vc4, ?_, ?_, HL9.out.store2 _ _, rfl, by omega, ?_, by omega, by omega, by omega, ?_, ?_⟩
              · exact HJ.out _ _ W9 _ (some (W.heap.size + 1 + 1)) HJ9.out (grownT_trans (grownT_set W9 _ 0 _) (grownT_set _ _ 1 _)) (fun r e => by cases e; right; rfl)
              · exact (HR9.out.other (by simp only; omega) _).other (by simp only; omega) _
              · rw [← List.drop_drop, List.map_append, List.append_assoc]
                exact HLG.out
              · simp; omega
              · exact HRR9.out.grownT (grownT_trans (grownT_set W9 _ 0 _) (grownT_set _ _ 1 _)) (fun a l c e hp => by have := HPW.out a l c e hp; omega)
            case measure =>
              have hR10 := (HR9.out.other (p := ⟨W.heap.size + 1 + 1, 0, none⟩) (by simp only; omega) (.int .i64 s)).other (p := ⟨W.heap.size + 1 + 1, 1, none⟩) (by simp only; omega) (.slice vo4 cs.length vc4)
              rw [kOf_rdr hR10, HK0.out]
              omega
          · gi_wp2_with fail
            exact bodyPost_ret (results_none rfl _ _ _) rfl ⟨⟨_, rfl⟩, .inr ⟨_, hok.1, g', hJx9⟩⟩

end Go.Proofs.Ytdodajalejfbiad

/-
  The walk over wal.Log.
-/
namespace Go.Proofs.Ytdodajalejfbiad
open Go.RowKit Go.Shelf
attribute [local go_sem] Oper.semAt_some

set_option maxRecDepth 100000 in
set_option maxHeartbeats 400000 in
theorem notesOf_any (ao : Option Addr) (m c : Nat) (w : World) :
    Calls Try.prog 76 #[.slice ao m c] w fun e w' => e = .returned (.func (.func 104) #[] #[.pointer (some ⟨w.heap.size, 0, none⟩)]) ∧ w' = w.alloc (.cells #[.slice ao m c] 42) := by
  go_enter Try.func76, Try.ntmps76
  go_wp2_with fail
  go_ret
  exact ⟨rfl, rfl⟩

/-- Four blocks that a call lays first. -/
theorem four_new (w : World) (t1 t2 t3 t4 : TypeId) (a b c d : Array Value) :
    Bk ((((w.alloc (.cells a t1)).alloc (.cells b t2)).alloc (.cells c t3)).alloc (.cells d t4)) w.heap.size t1 a ∧ Bk ((((w.alloc (.cells a t1)).alloc (.cells b t2)).alloc (.cells c t3)).alloc (.cells d t4)) (w.heap.size + 1) t2 b ∧
    Bk ((((w.alloc (.cells a t1)).alloc (.cells b t2)).alloc (.cells c t3)).alloc (.cells d t4)) (w.heap.size + 1 + 1) t3 c ∧ Bk ((((w.alloc (.cells a t1)).alloc (.cells b t2)).alloc (.cells c t3)).alloc (.cells d t4)) (w.heap.size + 1 + 1 + 1) t4 d ∧
    Below w.heap.size w ((((w.alloc (.cells a t1)).alloc (.cells b t2)).alloc (.cells c t3)).alloc (.cells d t4)) ∧ ((((w.alloc (.cells a t1)).alloc (.cells b t2)).alloc (.cells c t3)).alloc (.cells d t4)).heap.size = w.heap.size + 4 := by
  refine ⟨?_, ?_, ?_, ?_, ?_, by simp⟩
  · exact (((Bk.new w t1 a).below (below_alloc' _ _) (by simp)).below (below_alloc' _ _) (by simp <;> omega)).below (below_alloc' _ _) (by simp <;> omega)
  · exact ((Bk.new2 w _ t2 b).below (below_alloc' _ _) (by simp)).below (below_alloc' _ _) (by simp <;> omega)
  · have h := (Bk.new2 (w.alloc (.cells a t1)) (.cells b t2) t3 c).below (below_alloc' _ (.cells d t4)) (by simp)
    rw [World.size_alloc] at h
    exact h
  · have h := Bk.new2 ((w.alloc (.cells a t1)).alloc (.cells b t2)) (.cells c t3) t4 d
    simp only [World.size_alloc] at h
    exact h
  · exact ((((Below.refl _ w).alloc (Nat.le_refl _) _).alloc (by simp) _).alloc (by simp <;> omega) _).alloc (by simp <;> omega) _

/-- Where the notes that have come end, and the last one's number. -/
def sizX (pre : List Nx) : Nat := ((pre.map prj).map (·.1)).getLastD 0
def lasX (pre : List Nx) : Int := ((pre.map prj).map (fun p => p.2.seq)).getLastD 0
theorem sizX_snoc (pre : List Nx) (x : Nx) : sizX (pre ++ [x]) = x.1 := by simp [sizX, prj]
theorem lasX_snoc (pre : List Nx) (x : Nx) : lasX (pre ++ [x]) = x.2.1.seq := by simp [lasX, prj]
theorem sizX_all {xs : List Nx} {bs : List UInt8} (h : xs.map prj = logR bs) : sizX xs = sizeR bs := by rw [sizX, h, sizeR]
theorem lasX_all {xs : List Nx} {bs : List UInt8} (h : xs.map prj = logR bs) : lasX xs = lastR bs := by rw [lasX, h, lastR]

theorem logGo_fine : ∀ (f : Nat) (bs : List UInt8) (last : Int) (k : Nat), ∀ p ∈ logGo f bs last k, (noteF p.2.seq p.2.cells).1 = 0
  | 0, _, _, _, p, h => by simp [logGo] at h
  | f + 1, bs, last, k, p, h => by
    cases h1 : frameAt bs with
    | none => rw [logGo_end h1] at h; simp at h
    | some body =>
      by_cases h3 : (readN body).2.1 = 0 ∧ follB last (readN body).1.seq = true
      · rw [logGo_step h1 h3.1 h3.2, List.mem_cons] at h
        rcases h with rfl | h
        · rcases readN_cases body with h4 | h4
          · exact absurd h3.1 h4.1
          · exact h4.2
        · exact logGo_fine f _ _ _ p h
      · rw [logGo_stop h1 h3] at h; simp at h

theorem lastR_range (bs : List UInt8) : 0 ≤ lastR bs ∧ lastR bs ≤ 1000000000 := by
  rw [lastR, List.getLastD_eq_getLast?]
  cases h : ((logR bs).map (fun p => p.2.seq)).getLast? with
  | none => simp
  | some s =>
    have hm := List.mem_of_getLast? h
    obtain ⟨p, hp, rfl⟩ := List.mem_map.1 hm
    obtain ⟨_, h1, h2, _⟩ := noteF_zero (logGo_fine _ _ _ _ p hp)
    simp only [Option.getD_some]
    omega

theorem keepsFrom_below {B : Nat} {W W' : World} (h : Below W.heap.size W W') : KeepsFrom B W W' :=
  ⟨h.size, fun k o _ hk _ => by rw [h.block k (Array.getElem?_eq_some_iff.1 hk).1]; exact hk⟩

theorem keepsSet {B : Nat} {W X : World} (h : KeepsFrom B W X) {R : Nat} (j : Nat) (u : Value) (hR : R < B) : KeepsFrom B W (X.setCell ⟨R, j, none⟩ u) :=
  h.trans (KeepsFrom.of_grownBy (grownT_set X R j u) (fun k e => by cases e; exact hR))
theorem kpX.setC {bx : Nat → Prop} {g : Option Nat} {W X : World} (h : kpX bx g W X) {R : Nat} (j : Nat) (u : Value) (hR : bx R) : kpX bx g W (X.setCell ⟨R, j, none⟩ u) :=
  kpX_t h ⟨by simp, fun k o hk _ hb _ => by
    rw [heap_setCell_other X _ k u (fun e => hb (by rw [e]; exact hR))]
    exact hk⟩
theorem belowSet {B : Nat} {w X : World} (h : Below B w X) (hB : B ≤ X.heap.size) {R : Nat} (j : Nat) (u : Value) (hR : B ≤ R) : Below B w (X.setCell ⟨R, j, none⟩ u) :=
  h.grown (grownT_set X R j u) hB (fun k e => by cases e; exact hR)

/-- A variable and a note are written, in whatever order. -/
def Wr2 (w9 W2 : World) (B S L : Nat) (tI tN : TypeId) (x y z : Value) (X : World) : Prop :=
  KeepsFrom B W2 X ∧ kpX (fun k => k = S ∨ k = L) none W2 X ∧ Bk X S tI #[x] ∧ Bk X L tN #[y, z] ∧ Below S w9 X
theorem wr2_a {w9 W2 : World} {B S L : Nat} {tI tN : TypeId} {x0 y0 z0 : Value} (x y z : Value) (h1 : Bk W2 S tI #[x0]) (h2 : Bk W2 L tN #[y0, z0]) (h4 : Below S w9 W2) (hSL : S < L) (hLB : L < B) :
    Wr2 w9 W2 B S L tI tN x y z (((W2.setCell ⟨S, 0, none⟩ x).setCell ⟨L, 0, none⟩ y).setCell ⟨L, 1, none⟩ z) := by
  have hs := h1.lt
  refine ⟨keepsSet (keepsSet (keepsSet (KeepsFrom.refl _ _) 0 x (by omega)) 0 y hLB) 1 z hLB, (((kpX_below (Below.refl _ _)).setC 0 x (.inl rfl)).setC 0 y (.inr rfl)).setC 1 z (.inr rfl), ((h1.set 0 x).othN (by simp only; omega) y).othN (by simp only; omega) z, (h2.othN (by simp only; omega) x).store2 y z, belowSet (belowSet (belowSet h4 (by omega) 0 x (Nat.le_refl _)) (by simp; omega) 0 y (by omega)) (by simp; omega) 1 z (by omega)⟩
theorem wr2_b {w9 W2 : World} {B S L : Nat} {tI tN : TypeId} {x0 y0 z0 : Value} (x y z : Value) (h1 : Bk W2 S tI #[x0]) (h2 : Bk W2 L tN #[y0, z0]) (h4 : Below S w9 W2) (hSL : S < L) (hLB : L < B) :
    Wr2 w9 W2 B S L tI tN x y z (((W2.setCell ⟨L, 0, none⟩ y).setCell ⟨L, 1, none⟩ z).setCell ⟨S, 0, none⟩ x) := by
  have hs := h1.lt
  refine ⟨keepsSet (keepsSet (keepsSet (KeepsFrom.refl _ _) 0 y hLB) 1 z hLB) 0 x (by omega), (((kpX_below (Below.refl _ _)).setC 0 y (.inr rfl)).setC 1 z (.inr rfl)).setC 0 x (.inl rfl), ((h1.othN (by simp only; omega) y).othN (by simp only; omega) z).set 0 x, (h2.store2 y z).othN (by simp only; omega) x, belowSet (belowSet (belowSet h4 (by omega) 0 y (by omega)) (by simp; omega) 1 z (by omega)) (by simp; omega) 0 x (Nat.le_refl _)⟩

theorem wpIn_quiet {F : Fence} {n : Nat} {P : Program} {K : Act → World → Prop} {Q : Exit → Act → World → Prop} {c : Code} {a : Act} {w : World} (h : c.wpIn F n P (Exit.then K (fun _ _ _ => False)) a w) : c.wpIn F n P (Exit.then K Q) a w :=
  wpIn_mono h (fun e a w h => by cases e <;> first | exact h | exact h.elim)

/-- The results are written, and the mark is taken. -/
theorem fin5 {w W X : World} {A B D : Nat} {t u : TypeId} {x0 x1 y0 y1 a b c d : Value} {o : Obj} (h1 : Bk W A t #[x0, x1]) (h2 : Bk W B u #[y0, y1]) (hAB : A < B) (hw : w.heap.size ≤ A) (hBD : B < D) (hb : Below w.heap.size w W) (hK : W.heap[D]? = some o)
    (hX : X.heap = ((((W.setCell ⟨A, 0, none⟩ a).setCell ⟨A, 1, none⟩ b).setCell ⟨B, 0, none⟩ c).setCell ⟨B, 1, none⟩ d).heap ∨ X.heap = ((((W.setCell ⟨B, 0, none⟩ c).setCell ⟨B, 1, none⟩ d).setCell ⟨A, 0, none⟩ a).setCell ⟨A, 1, none⟩ b).heap) (hos : X.os = W.os ∧ X.tape = W.tape ∧ X.output = W.output) :
    X.heap[D]? = some o ∧ ∀ o', Bk (X.putObj D o') A t #[a, b] ∧ Bk (X.putObj D o') B u #[c, d] ∧ Below w.heap.size w (X.putObj D o') ∧ Below w.heap.size W (X.putObj D o') := by
  have hl := h2.lt
  have key : X.heap[D]? = some o ∧ Bk X A t #[a, b] ∧ Bk X B u #[c, d] ∧ W.heap.size ≤ X.heap.size ∧ ∀ k, k < w.heap.size → X.heap[k]? = W.heap[k]? := by
    rcases hX with hX | hX
    · unfold Bk
      rw [hX]
      refine ⟨?_, ((h1.store2 a b).othN (by simp only; omega) c).othN (by simp only; omega) d, ((h2.othN (by simp only; omega) a).othN (by simp only; omega) b).store2 c d, by simp, fun k hk => ?_⟩
      · rw [heap_setCell_other _ _ _ _ (by simp only; omega), heap_setCell_other _ _ _ _ (by simp only; omega), heap_setCell_other _ _ _ _ (by simp only; omega), heap_setCell_other _ _ _ _ (by simp only; omega), hK]
      · rw [heap_setCell_other _ _ _ _ (by simp only; omega), heap_setCell_other _ _ _ _ (by simp only; omega), heap_setCell_other _ _ _ _ (by simp only; omega), heap_setCell_other _ _ _ _ (by simp only; omega)]
    · unfold Bk
      rw [hX]
      refine ⟨?_, ((h1.othN (by simp only; omega) c).othN (by simp only; omega) d).store2 a b, ((h2.store2 c d).othN (by simp only; omega) a).othN (by simp only; omega) b, by simp, fun k hk => ?_⟩
      · rw [heap_setCell_other _ _ _ _ (by simp only; omega), heap_setCell_other _ _ _ _ (by simp only; omega), heap_setCell_other _ _ _ _ (by simp only; omega), heap_setCell_other _ _ _ _ (by simp only; omega), hK]
      · rw [heap_setCell_other _ _ _ _ (by simp only; omega), heap_setCell_other _ _ _ _ (by simp only; omega), heap_setCell_other _ _ _ _ (by simp only; omega), heap_setCell_other _ _ _ _ (by simp only; omega)]
  obtain ⟨k1, k2, k3, k4, k5⟩ := key
  refine ⟨k1, fun o' => ?_⟩
  have hW : Below w.heap.size W (X.putObj D o') := ⟨hos.1, hos.2.1, hos.2.2, by simp; exact k4, fun k hk => (World.putObj_heap_other (by omega)).trans (k5 k hk)⟩
  exact ⟨(World.putObj_heap_other (by omega)).trans k2, (World.putObj_heap_other (by omega)).trans k3, hb.trans hW, hW⟩

set_option maxRecDepth 100000 in
set_option maxHeartbeats 4000000 in
theorem Log_any (v u : Value) (bs : List UInt8) (k s : Int) (cs : List Cl) (w : World) (hv : Rd w v (bc bs)) (hu : RdC w u cs) :
    Calls Try.prog 32 #[dsk v k, ntA s u] w fun e w' => ∃ v', e = .returned (.tuple #[dsk v' (logD bs k s cs).2.1, fltC (logD bs k s cs).2.2]) ∧ Rd w' v' (bc (logD bs k s cs).1) ∧ Below w.heap.size w w' ∧ New w.heap.size v' := by
  obtain ⟨ao, cap, hvv, hc1, hc2⟩ := hv.shape
  rw [bc_length] at hc1 hvv
  subst hvv
  unfold maxLen at hc2
  obtain ⟨uo, ucap, huu, hd1, hd2⟩ := hu.shape
  subst huu
  unfold maxLen at hd2
  unfold dsk ntA
  refine (callsIn_wide (n := 5)).1 ?_
  refine callsIn_of_wp_marks Try.func32 rfl trivial ?_ rfl
  simp only [Try.ntmps32, List.size_toArray, List.length_cons, List.length_nil, Nat.reduceAdd, Nat.reduceSub, Array.replicate_succ, Array.replicate_zero, List.push_toArray, List.append_toArray, List.nil_append, List.cons_append]
  gi_wp2_with fail
  obtain ⟨hD4, hN4, hRD4, hRF4, hb4, hz4⟩ := four_new w 58 41 58 28 #[.slice ao bs.length cap, .int .i64 k] #[.int .i64 s, .slice uo cs.length ucap] #[.slice none 0 0, .int .i64 0] #[.int .i64 0, .int .i64 0]
  generalize (((w.alloc (.cells #[.slice ao bs.length cap, .int .i64 k] 58)).alloc (.cells #[.int .i64 s, .slice uo cs.length ucap] 41)).alloc (.cells #[.slice none 0 0, .int .i64 0] 58)).alloc (.cells #[.int .i64 0, .int .i64 0] 28) = w4 at *
  refine ⟨trivial, (callsIn_wide.2 (Check_any _ bs k _ (hv.below hb4))).mono ?_⟩
  rintro e w5 ⟨rfl, hb5⟩
  have hD5 := hD4.below hb5 hD4.lt
  have hN5 := hN4.below hb5 hN4.lt
  have hRD5 := hRD4.below hb5 hRD4.lt
  have hRF5 := hRF4.below hb5 hRF4.lt
  have hbw5 := hb4.trans (hb5.mono (by omega))
  have hz5 := hb5.size
  have HZ4 := hide hz4
  clear hD4 hN4 hRD4 hRF4 hb4 hb5 hz4
  have HLB := hide (@logD_bad bs k s cs)
  have HLN := hide (@logD_note bs k s cs)
  have HLS := hide (@logD_state bs k s cs)
  have HLM := hide (@logD_much bs k s cs)
  have HLO := hide (@logD_ok bs k s cs)
  have d0 := hRD5.cell 0
  have d1 := hRD5.cell 1
  have d2 := hRD5.frozen 0
  have d3 := hRD5.frozen 1
  have g0 := hRF5.cell 0
  have g1 := hRF5.cell 1
  have g2 := hRF5.frozen 0
  have g3 := hRF5.frozen 1
  have hlD := hRD5.lt
  have hlF := hRF5.lt
  have n0 := hN5.cell 0
  have n1 := hN5.cell 1
  simp at d0 d1 g0 g1 n0 n1
  by_cases hc : checkR bs k = 0
  case neg =>
    have HE := hide (HLB.out hc)
    clear HLB HLN HLS HLM HLO
    generalize checkR bs k = cx at *
    have hcb : (cx == 0) = false := beq_eq_false_iff_ne.2 hc
    have hcb2 : (cx != 0) = true := by simp [hc]
    unfold flt
    gi_wp2_with fail
    gi_region
    all_goals
      gi_wp2_with fail
      exact ⟨.tuple #[dsk (.slice none 0 0) 0, fltC (cx, 0)], by simp [results, Try.results32, go_sem, dsk, fltC, d0, d1, g0, g1, hlD, hlF], .slice none 0 0, by rw [HE.out]; rfl, by rw [HE.out]; exact Rd.nil _, by go_grown, New.nil _⟩
  rw [hc]
  have HLN1 := hide (fun h => HLN.out hc h)
  have HLS1 := hide (fun h => HLS.out hc h)
  have HLM1 := hide (fun h => HLM.out hc h)
  have HLO1 := hide (fun h => HLO.out hc h)
  obtain ⟨hk1, hk2, hk3⟩ := checkR_zero hc
  have HC := hide hc
  clear HLB HLN HLS HLM HLO hc
  unfold flt
  gi_upto_region 4 with fail
  have hbA := below_alloc' w5 (.cells #[.int .i64 0, .int .i64 0] 28)
  have hD6 := hD5.below hbA hD5.lt
  have hN6 := hN5.below hbA hN5.lt
  have hRD6 := hRD5.below hbA hRD5.lt
  have hRF6 := hRF5.below hbA hRF5.lt
  have hbw6 := hbw5.trans (hbA.mono hbw5.size)
  have hz6 : w5.heap.size < (w5.alloc (.cells #[.int .i64 0, .int .i64 0] 28)).heap.size := by simp
  generalize w5.alloc (.cells #[.int .i64 0, .int .i64 0] 28) = w6 at *
  clear hbA hD5 hN5 hRD5 hRF5 hbw5 d0 d1 d2 d3 g0 g1 g2 g3 n0 n1 hlD hlF
  have n0 := hN6.cell 0
  have n1 := hN6.cell 1
  simp at n0 n1
  gi_wp2_with fail
  refine ⟨trivial, (callsIn_wide.2 (WWrite_any s _ cs _ (hu.below hbw6))).mono ?_⟩
  rintro e w7 ⟨v7, rfl, hr7, hb7, hn7⟩
  have hD7 := hD6.below hb7 hD6.lt
  have hN7 := hN6.below hb7 hN6.lt
  have hRD7 := hRD6.below hb7 hRD6.lt
  have hRF7 := hRF6.below hb7 hRF6.lt
  have hbw7 := hbw6.trans (hb7.mono hbw6.size)
  have hz7 := hb7.size
  clear hD6 hN6 hRD6 hRF6 hbw6 hb7 n0 n1
  have d0 := hRD7.cell 0
  have d1 := hRD7.cell 1
  have d2 := hRD7.frozen 0
  have d3 := hRD7.frozen 1
  have g0 := hRF7.cell 0
  have g1 := hRF7.cell 1
  have g2 := hRF7.frozen 0
  have g3 := hRF7.frozen 1
  have hlD := hRD7.lt
  have hlF := hRF7.lt
  simp at d0 d1 g0 g1
  have HWB : Hid ((noteF s cs).1 ≠ 0 → writeN s cs = ([], noteF s cs)) := hide (fun h => by rw [writeN, if_neg h])
  have HWO : Hid ((noteF s cs).1 = 0 → writeN s cs = (noteB s cs, (0, 0))) := hide (fun h => by rw [writeN, if_pos h])
  generalize writeN s cs = WN at *
  obtain ⟨YB, fx, fy⟩ := WN
  simp only at hr7 HWB HWO ⊢
  obtain ⟨yo, yc, hyv, _, _⟩ := hr7.shape
  rw [bc_length] at hyv
  subst hyv
  by_cases hnf : (noteF s cs).1 = 0
  case neg =>
    have e9 := HWB.out hnf
    have HE := hide (HLN1.out hnf)
    clear HLN1 HLS1 HLM1 HLO1 HWB HWO
    generalize noteF s cs = NF at *
    obtain ⟨nx, ny⟩ := NF
    simp only [Prod.mk.injEq] at e9
    obtain ⟨rfl, rfl, rfl⟩ := e9
    simp only at hnf
    have hcb : (fx == 0) = false := beq_eq_false_iff_ne.2 hnf
    have hcb2 : (fx != 0) = true := by simp [hnf]
    unfold fltC
    gi_wp2_with fail
    gi_region
    all_goals
      gi_wp2_with fail
      exact ⟨.tuple #[dsk (.slice none 0 0) 0, fltC (fx, fy)], by simp [results, Try.results32, go_sem, dsk, fltC, d0, d1, g0, g1, hlD, hlF], .slice none 0 0, by rw [HE.out]; rfl, by rw [HE.out]; exact Rd.nil _, by go_grown, New.nil _⟩
  have e9 := HWO.out hnf
  simp only [Prod.mk.injEq] at e9
  obtain ⟨hyb, rfl, rfl⟩ := e9
  have HYB := hide hyb
  have hnb := noteB_len hnf
  rw [← hyb] at hnb
  obtain ⟨_, hs1, hs2, _, _, _⟩ := noteF_zero hnf
  have HLS2 := hide (HLS1.out hnf)
  have HLM2 := hide (HLM1.out hnf)
  have HLO2 := hide (HLO1.out hnf)
  clear HLN1 HLS1 HLM1 HLO1 HWB HWO hyb d0 d1 d2 d3 g0 g1 g2 g3
  have hb78 : Below w7.heap.size w7 (((w7.alloc (.cells #[.int .i64 0, .int .i64 0] 28)).alloc (.cells #[.int .i64 0] 3)).alloc (.cells #[.int .i64 0, .slice none 0 0] 41)) := ((below_alloc' _ _).alloc (by simp) _).alloc (by simp; omega) _
  have hS8 : Bk (((w7.alloc (.cells #[.int .i64 0, .int .i64 0] 28)).alloc (.cells #[.int .i64 0] 3)).alloc (.cells #[.int .i64 0, .slice none 0 0] 41)) (w7.heap.size + 1) 3 #[.int .i64 0] := (Bk.new2 w7 _ _ _).below (below_alloc' _ _) (by simp)
  have hL8 : Bk (((w7.alloc (.cells #[.int .i64 0, .int .i64 0] 28)).alloc (.cells #[.int .i64 0] 3)).alloc (.cells #[.int .i64 0, .slice none 0 0] 41)) (w7.heap.size + 1 + 1) 41 #[.int .i64 0, .slice none 0 0] := by
    have h := Bk.new2 (w7.alloc (.cells #[.int .i64 0, .int .i64 0] 28)) (.cells #[.int .i64 0] 3) 41 #[.int .i64 0, .slice none 0 0]
    rw [World.size_alloc] at h
    exact h
  have hz8 : (((w7.alloc (.cells #[.int .i64 0, .int .i64 0] 28)).alloc (.cells #[.int .i64 0] 3)).alloc (.cells #[.int .i64 0, .slice none 0 0] 41)).heap.size = w7.heap.size + 3 := by simp
  have HB78 := hide hb78
  have HS8 := hide hS8
  have HL8 := hide hL8
  have HZ8 := hide hz8
  clear hb78 hS8 hL8 hz8
  unfold fltC
  gi_upto_region 8 with fail
  generalize ((w7.alloc (.cells #[.int .i64 0, .int .i64 0] 28)).alloc (.cells #[.int .i64 0] 3)).alloc (.cells #[.int .i64 0, .slice none 0 0] 41) = w8 at *
  have hD8 := hD7.below HB78.out hD7.lt
  have hbw8 := hbw7.trans (HB78.out.mono hbw7.size)
  have b0 := hD8.cell 0
  simp at b0
  have hlD8 := hD8.lt
  gi_wp2_with fail
  refine ⟨trivial, (callsIn_wide.2 (notesOf_any ao bs.length cap _)).mono ?_⟩
  rintro e w9 ⟨rfl, rfl⟩
  gi_wp2_with fail
  have hb89 := below_alloc' w8 (.cells #[.slice ao bs.length cap] 42)
  have hB9 : Bk (w8.alloc (.cells #[.slice ao bs.length cap] 42)) w8.heap.size 42 #[.slice ao bs.length cap] := Bk.new _ _ _
  have hz89 : (w8.alloc (.cells #[.slice ao bs.length cap] 42)).heap.size = w8.heap.size + 1 := by simp
  generalize hw9 : w8.alloc (.cells #[.slice ao bs.length cap] 42) = w9 at *
  have hS9 := HS8.out.below hb89 HS8.out.lt
  have hL9 := HL8.out.below hb89 HL8.out.lt
  have hz8 := HZ8.out
  have hpv : ∀ a l c, Value.slice ao bs.length cap = .slice (some a) l c → 0 < (bc bs).length → a.block < w.heap.size := by
    intro a l c e hp
    simp only [Value.slice.injEq] at e
    obtain ⟨rfl, _, _⟩ := e
    obtain ⟨b, off, cap', hv, _, _, hb, _⟩ := hv.pos hp
    simp only [Value.slice.injEq, Option.some.injEq] at hv
    rw [hv.1]
    exact hb
  have hbw9 := hbw8.trans (hb89.mono hbw8.size)
  have hcB := hB9.cell 0
  simp at hcB
  have hwz := hbw7.size
  refine wpIn_rangeFunc_st2 (α := Nx) rfl (by omega) (gf := 104) (lb := #[.pointer (some ⟨w8.heap.size, 0, none⟩)]) rfl trivial (enters_of Try.func104 (by kernel_rfl) rfl)
    (notesOf1_stops (5 - 1) (by omega) w8.heap.size ao cap bs (fun k => k = w7.heap.size + 1 ∨ k = w7.heap.size + 1 + 1) _ hcB (hv.below hbw9) (by omega) (fun a l c e hp => by have := hpv a l c e hp; omega) (fun k hk => by omega))
    (fun h k => kpX_t h k) (kpX_b _) (fun _ => rfl)
    (fun pre g W => g = none ∧ ∃ lu, Bk W (w7.heap.size + 1) 3 #[.int .i64 (sizX pre)] ∧ Bk W (w7.heap.size + 1 + 1) 41 #[.int .i64 (lasX pre), lu] ∧ lu.oneCell' = true ∧ Below (w7.heap.size + 1) w9 W)
    (fun _ _ _ _ => False) ?hI (fun _ _ _ _ _ _ h _ _ => h) ⟨rfl, .slice none 0 0, hS9, hL9, rfl, Below.refl _ _⟩ (fun s g A h k e => by rw [h.1] at e; cases e) ?hround ?hdone (fun _ _ _ _ _ _ _ _ h _ => h.elim)
  case hI =>
    rintro s g A A' row ⟨rfl, lu, h1, h2, h3, h4⟩ hg hr
    exact ⟨rfl, lu, h1.grown hg (fun e => by have := hr _ e.symm; omega), h2.grown hg (fun e => by have := hr _ e.symm; omega), h3, h4.grown hg (by have := h4.size; omega) (fun k e => by have := hr _ e; omega)⟩
  case hround =>
    rintro l pre ⟨xe, ⟨xs, xc⟩, xv⟩ g W ⟨rfl, lu, h1, h2, h3, h4⟩ ⟨_, hx2, hx3, hx4⟩ hsz
    simp only at hx2 hx3 hx4
    obtain ⟨xo, xcap, rfl, hx5, hx6⟩ := hx2.shape
    simp only [encX]
    simp (config := { decide := true }) only [List.zip_toArray, List.zip_cons_cons, List.zip_nil_right, List.foldl_toArray, List.foldl_cons, List.foldl_nil, List.setIfInBounds_toArray, List.set_cons_succ, List.set_cons_zero]
    gi_wp2_with fail
    have hbA := below_alloc' W (.cells #[.int .i64 xs, .slice xo xc.length xcap] 41)
    have hNx := Bk.new W 41 #[.int .i64 xs, .slice xo xc.length xcap]
    refine ⟨keepsFrom_below hbA, kpX_below hbA, ⟨trivial, lu, h1.below hbA h1.lt, h2.below hbA h2.lt, h3, h4.trans (hbA.mono (by have := h1.lt; omega))⟩, ?_⟩
    rintro l' W2 hrl ⟨_, lu2, q1, q2, q3, q4⟩
    have hN2 : Bk W2 W.heap.size 41 #[.int .i64 xs, .slice xo xc.length xcap] := (hrl.2 W.heap.size (.inr (by omega)) hNx.lt).trans hNx
    have hlt2 := hN2.lt
    have hltS := q1.lt
    have hltL := q2.lt
    have n0 := hN2.cell 0
    have n1 := hN2.cell 1
    have s0 := q1.cell 0
    have s1 := q1.frozen 0
    have l0 := q2.cell 0
    have l1 := q2.cell 1
    have l2 := q2.frozen 0
    have l3 := q2.frozen 1
    simp at n0 n1 s0 l0 l1
    have Q1 := hide q1
    have Q2 := hide q2
    have Q4 := hide q4
    clear hbA hNx hrl hN2 q1 q2 q4 h1 h2 h4 hS9 hL9 hB9 hD8 hb89 hw9
    gi_wp2_with fail
    gi_region
    all_goals
      gi_wp2_with fail
      first
        | exact (fun (h : Wr2 w9 W2 w9.heap.size (w7.heap.size + 1) (w7.heap.size + 1 + 1) 3 41 (.int .i64 xe) (.int .i64 xs) (.slice xo xc.length xcap) _) => ⟨⟨h.1.size, h.1.same⟩, ⟨h.2.1.1, h.2.1.2⟩, none, rfl, .slice xo xc.length xcap, by rw [sizX_snoc]; exact h.2.2.1, by rw [lasX_snoc]; exact h.2.2.2.1, rfl, ⟨h.2.2.2.2.os, h.2.2.2.2.tape, h.2.2.2.2.output, h.2.2.2.2.size, h.2.2.2.2.block⟩⟩) (wr2_a _ _ _ Q1.out Q2.out Q4.out (by omega) (by omega))
        | exact (fun (h : Wr2 w9 W2 w9.heap.size (w7.heap.size + 1) (w7.heap.size + 1 + 1) 3 41 (.int .i64 xe) (.int .i64 xs) (.slice xo xc.length xcap) _) => ⟨⟨h.1.size, h.1.same⟩, ⟨h.2.1.1, h.2.1.2⟩, none, rfl, .slice xo xc.length xcap, by rw [sizX_snoc]; exact h.2.2.1, by rw [lasX_snoc]; exact h.2.2.2.1, rfl, ⟨h.2.2.2.2.os, h.2.2.2.2.tape, h.2.2.2.2.output, h.2.2.2.2.size, h.2.2.2.2.block⟩⟩) (wr2_b _ _ _ Q1.out Q2.out Q4.out (by omega) (by omega))
  case hdone =>
    rintro D xs g W hD1 hD2 hSx ⟨rfl, lu, h1, h2, h3, h4⟩ hK
    rw [sizX_all hSx] at h1
    rw [lasX_all hSx] at h2
    have hsl := sizeR_le bs
    obtain ⟨hl1, hl2⟩ := lastR_range bs
    have hb7W : Below w7.heap.size w7 W := (HB78.out.trans (hb89.mono (by omega))).trans (h4.mono (by omega))
    have hDW := hD7.below hb7W hD7.lt
    have hNW := hN7.below hb7W hN7.lt
    have hRDW := hRD7.below hb7W hRD7.lt
    have hRFW := hRF7.below hb7W hRF7.lt
    have hbwW := hbw7.trans (hb7W.mono hwz)
    have hrW := hr7.below hb7W
    clear h4 hb7W hD7 hN7 hRD7 hRF7 hr7 hS9 hL9 hB9 hD8 hb89 hw9 HB78 HS8 HL8 hcB hSx
    have d0 := hRDW.cell 0
    have d1 := hRDW.cell 1
    have d2 := hRDW.frozen 0
    have d3 := hRDW.frozen 1
    have g0 := hRFW.cell 0
    have g1 := hRFW.cell 1
    have g2 := hRFW.frozen 0
    have g3 := hRFW.frozen 1
    have z0 := h1.cell 0
    have y0 := h2.cell 0
    have y1 := h2.cell 1
    have n0 := hNW.cell 0
    have n1 := hNW.cell 1
    have e0 := hDW.cell 0
    have e1 := hDW.cell 1
    simp at d0 d1 g0 g1 z0 y0 y1 n0 n1 e0 e1
    have hlD9 := hRDW.lt
    have hlF9 := hRFW.lt
    have hlS9 := h1.lt
    have hlL9 := h2.lt
    by_cases hsz : sizeR bs < bs.length
    case pos =>
      have HE := hide (HLS2.out (.inl hsz))
      gi_wp2_with fail
      refine ⟨trivial, ?_⟩
      gi_wp2_with fail
      obtain ⟨hKX, hfX⟩ := fin5 (X := (((W.setCell ⟨w.heap.size + 1 + 1, 0, none⟩ (.slice none 0 0)).setCell ⟨w.heap.size + 1 + 1, 1, none⟩ (.int .i64 0)).setCell ⟨w.heap.size + 1 + 1 + 1, 0, none⟩ (.int .i64 11)).setCell ⟨w.heap.size + 1 + 1 + 1, 1, none⟩ (.int .i64 0)) hRDW hRFW (by omega) (by omega) (by omega) hbwW hK (.inl rfl) ⟨rfl, rfl, rfl⟩
      obtain ⟨hf1, hf2, hf3, _⟩ := hfX (.deferred none)
      refine ⟨by simp, .inl ⟨_, _, rfl, run_takeDeferred hKX, ?_⟩⟩
      generalize ((((W.setCell ⟨w.heap.size + 1 + 1, 0, none⟩ (.slice none 0 0)).setCell ⟨w.heap.size + 1 + 1, 1, none⟩ (.int .i64 0)).setCell ⟨w.heap.size + 1 + 1 + 1, 0, none⟩ (.int .i64 11)).setCell ⟨w.heap.size + 1 + 1 + 1, 1, none⟩ (.int .i64 0)).putObj D (.deferred none) = WF at *
      have k0 := hf1.cell 0
      have k1 := hf1.cell 1
      have k2 := hf2.cell 0
      have k3 := hf2.cell 1
      simp at k0 k1 k2 k3
      exact ⟨.tuple #[dsk (.slice none 0 0) 0, fltC (11, 0)], by simp [results, Try.results32, go_sem, dsk, fltC, k0, k1, k2, k3], .slice none 0 0, by rw [HE.out]; rfl, by rw [HE.out]; exact Rd.nil _, hf3, New.nil _⟩
    have hse : sizeR bs = bs.length := by omega
    have hse2 : ((sizeR bs : Nat) : Int) = (bs.length : Int) := by rw [hse]
    rw [hse2] at z0
    clear hse2
    gi_wp2_with fail
    refine ⟨trivial, (callsIn_wide.2 (follows_any (lastR bs) s lu (.slice uo cs.length ucap) _ ⟨by omega, by omega⟩)).mono ?_⟩
    rintro e WB ⟨rfl, hbB⟩
    have hDB := hDW.below hbB hDW.lt
    have hRDB := hRDW.below hbB hRDW.lt
    have hRFB := hRFW.below hbB hRFW.lt
    have hbwB := hbwW.trans (hbB.mono hbwW.size)
    have hrB := hrW.below hbB
    have hKB : WB.heap[D]? = some (.deferred (some [])) := (hbB.block D (Array.getElem?_eq_some_iff.1 hK).1).trans hK
    clear hK hrW hbwW hRFW hRDW hDW hNW h1 h2 hbB d0 d1 d2 d3 g0 g1 g2 g3 z0 y0 y1 n0 n1 e0 e1
    have d0 := hRDB.cell 0
    have d1 := hRDB.cell 1
    have d2 := hRDB.frozen 0
    have d3 := hRDB.frozen 1
    have g0 := hRFB.cell 0
    have g1 := hRFB.cell 1
    have g2 := hRFB.frozen 0
    have g3 := hRFB.frozen 1
    have e0 := hDB.cell 0
    have e1 := hDB.cell 1
    simp at d0 d1 g0 g1 e0 e1
    have hlDB := hRDB.lt
    have hlFB := hRFB.lt
    cases hfo : follB (lastR bs) s
    · have HE := hide (HLS2.out (.inr hfo))
      gi_wp2_with fail
      obtain ⟨hKX, hfX⟩ := fin5 (X := (((WB.setCell ⟨w.heap.size + 1 + 1, 0, none⟩ (.slice none 0 0)).setCell ⟨w.heap.size + 1 + 1, 1, none⟩ (.int .i64 0)).setCell ⟨w.heap.size + 1 + 1 + 1, 0, none⟩ (.int .i64 11)).setCell ⟨w.heap.size + 1 + 1 + 1, 1, none⟩ (.int .i64 0)) hRDB hRFB (by omega) (by omega) (by omega) hbwB hKB (.inl rfl) ⟨rfl, rfl, rfl⟩
      obtain ⟨hf1, hf2, hf3, _⟩ := hfX (.deferred none)
      refine ⟨by simp, .inl ⟨_, _, rfl, run_takeDeferred hKX, ?_⟩⟩
      generalize ((((WB.setCell ⟨w.heap.size + 1 + 1, 0, none⟩ (.slice none 0 0)).setCell ⟨w.heap.size + 1 + 1, 1, none⟩ (.int .i64 0)).setCell ⟨w.heap.size + 1 + 1 + 1, 0, none⟩ (.int .i64 11)).setCell ⟨w.heap.size + 1 + 1 + 1, 1, none⟩ (.int .i64 0)).putObj D (.deferred none) = WF at *
      have k0 := hf1.cell 0
      have k1 := hf1.cell 1
      have k2 := hf2.cell 0
      have k3 := hf2.cell 1
      simp at k0 k1 k2 k3
      exact ⟨.tuple #[dsk (.slice none 0 0) 0, fltC (11, 0)], by simp [results, Try.results32, go_sem, dsk, fltC, k0, k1, k2, k3], .slice none 0 0, by rw [HE.out]; rfl, by rw [HE.out]; exact Rd.nil _, hf3, New.nil _⟩
    have hno : ¬ (sizeR bs < bs.length ∨ follB (lastR bs) s = false) := by rw [hfo]; simp; omega
    have HAP : Hid (appendR bs k (framed YB) = ((logD bs k s cs).1, (logD bs k s cs).2.1, (logD bs k s cs).2.2.1) ∧ (logD bs k s cs).2.2.2 = 0) := hide (by
      have hyb := HYB.out
      subst hyb
      by_cases hm : 60000 < bs.length + (framed (noteB s cs)).length
      · rw [HLM2.out hno hm, appendR_much HC.out hm]; exact ⟨rfl, rfl⟩
      · rw [HLO2.out hno hm, appendR_ok HC.out hm]; exact ⟨rfl, rfl⟩)
    have HVB := hide (hv.below hbwB)
    have HRB := hide hrB
    have HBW := hide hbwB
    have hpy : ∀ a l c, Value.slice yo YB.length yc = .slice (some a) l c → 0 < (bc YB).length → a.block < WB.heap.size := by
      intro a l c e hp
      simp only [Value.slice.injEq] at e
      obtain ⟨rfl, _, _⟩ := e
      obtain ⟨b, off, cap', hv, _, _, hb, _⟩ := hrB.pos hp
      simp only [Value.slice.injEq, Option.some.injEq] at hv
      rw [hv.1]
      exact hb
    have HPY := hide hpy
    have HRD := hide hRDB
    have HRF := hide hRFB
    have HDB := hide hDB
    have HK := hide hKB
    clear hpy hrB HLS2 HLM2 HLO2 HYB hno hfo hRDB hRFB hKB hDB hsl
    gi_wp2_with fail
    refine wpIn_quiet ?_
    gi_region_with (first
      | (refine ⟨trivial, (callsIn_wide.2 (AppendFrame_any (.slice none 0 0) _ [] YB WB.heap.size _ (World.ownsRow_nil _ _ _ _) (by exact Nat.le_refl _) (by exact HRB.out) (by exact HPY.out) (by simp) (by omega))).mono ?_⟩; rintro e WC ⟨vC, rfl, hoC, hbC⟩; rw [List.nil_append] at hoC; have hbC1 : Below WB.heap.size WB WC := ⟨hbC.os, hbC.tape, hbC.output, hbC.size, hbC.block⟩; have hDC := HDB.out.below hbC1 HDB.out.lt; have c0 := hDC.cell 0; have c1 := hDC.cell 1; simp at c0 c1; clear hDC)
      | (refine ⟨trivial, (callsIn_wide.2 (Append_any (.slice ao bs.length cap) bs k vC (framed YB) _ (by exact HVB.out.below hbC1) (Rd.ofOwns hoC))).mono ?_⟩; rintro e WE ⟨vE, rfl, hrE, hbE, hnE⟩; obtain ⟨eo, ec, hev, _, _⟩ := hrE.shape; rw [bc_length] at hev; subst hev; have hbE1 := hbC1.trans (hbE.mono hbC1.size); have hRDE := HRD.out.below hbE1 HRD.out.lt; have hRFE := HRF.out.below hbE1 HRF.out.lt; have d0 := hRDE.cell 0; have d1 := hRDE.cell 1; have d2 := hRDE.frozen 0; have d3 := hRDE.frozen 1; have g0 := hRFE.cell 0; have g1 := hRFE.cell 1; have g2 := hRFE.frozen 0; have g3 := hRFE.frozen 1; simp at d0 d1 g0 g1; have hlDE := hRDE.lt; have hlFE := hRFE.lt; unfold dsk flt))
    all_goals
      gi_wp2_with fail
      have hbwE := HBW.out.trans (hbE1.mono HBW.out.size)
      have hKE : WE.heap[D]? = some (.deferred (some [])) := (hbE1.block D (Array.getElem?_eq_some_iff.1 HK.out).1).trans HK.out
      have hDlt := (Array.getElem?_eq_some_iff.1 HK.out).1
      obtain ⟨hA1, hA2⟩ := HAP.out
      rw [hA1] at hrE hnE ⊢
      generalize logD bs k s cs = LD at *
      obtain ⟨lb, lk, lc, la⟩ := LD
      simp only at hA2 hrE hnE ⊢
      subst hA2
      have hkp : kpX (fun k => k = w.heap.size + 1 + 1 ∨ k = w.heap.size + 1 + 1 + 1) none WE ((((WE.setCell ⟨w.heap.size + 1 + 1, 0, none⟩ (.slice eo lb.length ec)).setCell ⟨w.heap.size + 1 + 1, 1, none⟩ (.int .i64 lk)).setCell ⟨w.heap.size + 1 + 1 + 1, 0, none⟩ (.int .i64 lc)).setCell ⟨w.heap.size + 1 + 1 + 1, 1, none⟩ (.int .i64 0)) := ((((kpX_below (Below.refl _ _)).setC 0 _ (.inl rfl)).setC 1 _ (.inl rfl)).setC 0 _ (.inr rfl)).setC 1 _ (.inr rfl)
      obtain ⟨hKX, hfX⟩ := fin5 (X := (((WE.setCell ⟨w.heap.size + 1 + 1, 0, none⟩ (.slice eo lb.length ec)).setCell ⟨w.heap.size + 1 + 1, 1, none⟩ (.int .i64 lk)).setCell ⟨w.heap.size + 1 + 1 + 1, 0, none⟩ (.int .i64 lc)).setCell ⟨w.heap.size + 1 + 1 + 1, 1, none⟩ (.int .i64 0)) hRDE hRFE (by omega) (by omega) (by omega) hbwE hKE (.inl rfl) ⟨rfl, rfl, rfl⟩
      obtain ⟨hf1, hf2, hf3, _⟩ := hfX (.deferred none)
      have hkp2 := kpX_t hkp (kpX_b _ none _ D _ (.deferred none) hKX rfl)
      refine ⟨by simp, .inl ⟨_, _, rfl, run_takeDeferred hKX, ?_⟩⟩
      generalize ((((WE.setCell ⟨w.heap.size + 1 + 1, 0, none⟩ (.slice eo lb.length ec)).setCell ⟨w.heap.size + 1 + 1, 1, none⟩ (.int .i64 lk)).setCell ⟨w.heap.size + 1 + 1 + 1, 0, none⟩ (.int .i64 lc)).setCell ⟨w.heap.size + 1 + 1 + 1, 1, none⟩ (.int .i64 0)).putObj D (.deferred none) = WF at *
      have k0 := hf1.cell 0
      have k1 := hf1.cell 1
      have k2 := hf2.cell 0
      have k3 := hf2.cell 1
      simp at k0 k1 k2 k3
      have hzC := hbC1.size
      exact ⟨.tuple #[dsk (.slice eo lb.length ec) lk, fltC (lc, 0)], by simp [results, Try.results32, go_sem, dsk, fltC, k0, k1, k2, k3], .slice eo lb.length ec, rfl, hkp2.rd hrE (fun a l c e hp => ⟨by have := hnE a l c e; omega, by simp⟩), hf3, hnE.mono (by omega)⟩

end Go.Proofs.Ytdodajalejfbiad

/-
  The walk over wal.Replay.
-/
namespace Go.Proofs.Ytdodajalejfbiad
open Go.RowKit Go.Shelf
attribute [local go_sem] Oper.semAt_some

theorem wpListIn_append_one2E {F : Fence} {nF : Nat} {P : Program} {w : World} {q : Int} {u : Value} {ops : Array Oper} {rest : List Oper} {o : Oper} {a : Act} {Q : Exit → Act → World → Prop} {s x : Operand} {t : TypeId} {base : Nat} {e : TypeId} {z : Value} {bytes : Nat}
    {v : Value} {n : Nat} {cs : List (Int × Value)} (hu : u.oneCell' = true)
    (hown : w.ownsRow base e 2 v n (nn cs))
    (ht : P.underlying t = some (.slice e)) (hinf : (P.info? e).map (fun i => (i.zero, i.size, i.bytes)) = some (some z, 2, bytes)) (hzs : z.cells.size = 2)
    (hgd : o.guard = none) (ho : o.op = .call { callee := .builtin .append, args := #[s, x], argTypes := #[t, t] })
    (hs : a.eval s = v) (hx : a.eval x = .slice (some ⟨w.heap.size, 0, none⟩) 1 1)
    (h63 : n ≤ 100000000) (hbytes : bytes ≤ 64) (hbase : base ≤ w.heap.size)
    (h : ∀ v' w', w'.ownsRow base e 2 v' (n + 1) (nn (cs ++ [(q, u)])) → Below base w w' → Ext w w' v v' → wpListIn F nF P ops Q rest (a.put o.dst v') w') : wpListIn F nF P ops Q (o :: rest) a (w.alloc (.cells #[.int .i64 q, u] e)) := by
  obtain ⟨i, hi, hz, hsize, hby⟩ := info_parts hinf
  have hown1 := hown.alloc (.cells #[.int .i64 q, u] e)
  have hlt := hown1.lt
  have hbytes' : (n + 1) * bytes ≤ 1000000000 * 64 := Nat.mul_le_mul (by omega) hbytes
  obtain ⟨ao, cap, hvx, h2, h3, h4, h6, h5⟩ := Rd2.new w q u e hu
  simp only [Value.slice.injEq] at hvx
  obtain ⟨rfl, _, rfl⟩ := hvx
  refine wpListIn_append_own_at (w := w.alloc (.cells #[.int .i64 q, u] e)) hgd s x t ho base e i z 2 bytes ht hi hz hsize hby hzs (by decide) v n (nn cs) hs hown1 _ 1 1 (nn [(q, u)]) hx (nn_length _) (h5 _ rfl) (nn_one h6) (by simp [maxLen]; omega) (by omega) (by simp; omega) ?_
  intro v' w' ho' hg' _ hat
  rw [← nn_append] at ho'
  exact h v' w' ho' (((Below.refl _ _).alloc hbase _).trans ((Below.refl _ _).grown hg' (by simp; omega) (fun k hk => (hlt k hk).1))) ((Ext.alloc _ _ _).trans ⟨hg', hat.imp id fun e k hk => by rw [e] at hk; simp at hk; simp; omega⟩)

theorem rdC_same {w w' : World} {v : Value} {cs : List Cl} (h : RdC w v cs) (hs : ∀ a l c, v = .slice (some a) l c → 0 < cs.length → w'.heap[a.block]? = w.heap[a.block]?) : RdC w' v cs := by
  obtain ⟨ao, cap, hv, h1, h2, h3, h4⟩ := h
  refine ⟨ao, cap, hv, h1, h2, h3, fun a ha j u hu => ?_⟩
  have hc := h4 a ha j u hu
  have hb : (a.add j).block = a.block := by unfold Addr.add; split <;> rfl
  have hl := (List.getElem?_eq_some_iff.1 hu).1
  rw [cc_length] at hl
  rw [← hc]
  exact World.cell?_of_block (by rw [hb]; exact hs a _ _ (by rw [hv, ha]) (by omega))

theorem owns_same {w w' : World} {base : Nat} {e : TypeId} {size : Nat} {v : Value} {n : Nat} {xs : List Value} (h : w.ownsRow base e size v n xs) (hs : ∀ k, v.ownBlock = some k → w'.heap[k]? = w.heap[k]?) : w'.ownsRow base e size v n xs := by
  refine ⟨h.1, ?_⟩
  rcases h.2 with hn | ⟨g, cap, cur, rfl, hg, hh, r⟩
  · exact .inl hn
  · exact .inr ⟨g, cap, cur, rfl, hg, by rw [hs g (by simp [Value.ownBlock])]; exact hh, r⟩

theorem ntO_same {w w' : World} {r : Value} {ps : List (Int × Value)} {ns : List Nt} {B : Nat} (h : NtO w r ps ns) (hN : ∀ p ∈ ps, New B p.2) (hs : ∀ k, B ≤ k → k < w.heap.size → w'.heap[k]? = w.heap[k]?) : NtO w' r ps ns := by
  obtain ⟨⟨h1, h2⟩, h4⟩ := h
  refine ⟨⟨h1, fun i p n hp hn => ⟨(h2 i p n hp hn).1, rdC_same (h2 i p n hp hn).2 (fun a l c e hl => hs _ (hN p (List.mem_of_getElem? hp) a l c e) ?_)⟩⟩, h4⟩
  obtain ⟨ao, cap, hv, _, _, _, h7⟩ := (h2 i p n hp hn).2
  rw [e] at hv
  simp only [Value.slice.injEq] at hv
  obtain ⟨rfl, _, _⟩ := hv
  have hc := h7 a rfl 0 ((cc n.cells)[0]'(by rw [cc_length]; omega)) (by simp)
  have hlt := World.block_lt_of_cell? w _ hc
  have hb : (a.add 0).block = a.block := by unfold Addr.add; split <;> rfl
  rw [hb] at hlt
  exact hlt

/-- What stands between the rounds. -/
def RpI (w9 : World) (zN : Nat) (pre : List Nx) (g : Option Nat) (W : World) : Prop :=
  ∃ vv ps, g = vv.ownBlock ∧ Bk W zN 62 #[vv] ∧ Bk W (zN + 1) 3 #[.int .i64 (sizX pre)] ∧ W.ownsRow (w9.heap.size + 5) 41 2 vv pre.length (nn ps) ∧ NtO W vv ps (pre.map (·.2.1)) ∧ (∀ p ∈ ps, New (w9.heap.size + 5) p.2) ∧ pre.length ≤ 1000 ∧ Below zN w9 W

theorem RpI.ownG {w9 : World} {zN : Nat} (hz : zN + 1 < w9.heap.size) : OwnG w9.heap.size (RpI w9 zN) := by
  rintro s g A A' row ⟨vv, ps, h1, h2, h3, h4, h5, h6, h7, h8⟩ hg hr
  refine ⟨vv, ps, h1, h2.grown hg (fun e => by have := hr _ e.symm; omega), h3.grown hg (fun e => by have := hr _ e.symm; omega), owns_same h4 (fun k hk => hg.block k (h4.lt k hk).2 (fun e => by have := hr _ e.symm; have := h4.lt k hk; omega)), ntO_same h5 h6 (fun k hk hl => hg.block k hl (fun e => by have := hr _ e.symm; omega)), h6, h7, h8.grown hg (by have := h2.lt; omega) (fun k e => by have := hr _ e; omega)⟩

/-- A note is put behind the others. -/
theorem RpI.step {w9 W2 w6 : World} {zN : Nat} {pre : List Nx} {x : Nx} {vv v6 : Value} {ps : List (Int × Value)} (hz : zN + 1 < w9.heap.size)
    (h2 : Bk W2 zN 62 #[vv]) (h3 : Bk W2 (zN + 1) 3 #[.int .i64 (sizX pre)]) (h4 : W2.ownsRow (w9.heap.size + 5) 41 2 vv pre.length (nn ps)) (h5 : NtO W2 vv ps (pre.map (·.2.1))) (h6 : ∀ p ∈ ps, New (w9.heap.size + 5) p.2) (h7 : pre.length < 1000) (h8 : Below zN w9 W2)
    (hx : RdC W2 x.2.2 x.2.1.cells) (hxn : New (w9.heap.size + 5) x.2.2) (hxo : Off vv x.2.2)
    (ho6 : w6.ownsRow (w9.heap.size + 5) 41 2 v6 (pre.length + 1) (nn (ps ++ [(x.2.1.seq, x.2.2)]))) (he6 : Ext W2 w6 vv v6) :
    KeepsFrom w9.heap.size W2 ((w6.setCell ⟨zN, 0, none⟩ v6).setCell ⟨zN + 1, 0, none⟩ (.int .i64 x.1)) ∧ kpX (fun k => k = zN ∨ k = zN + 1) vv.ownBlock W2 ((w6.setCell ⟨zN, 0, none⟩ v6).setCell ⟨zN + 1, 0, none⟩ (.int .i64 x.1)) ∧ ∃ g', RpI w9 zN (pre ++ [x]) g' ((w6.setCell ⟨zN, 0, none⟩ v6).setCell ⟨zN + 1, 0, none⟩ (.int .i64 x.1)) := by
  have hbk : ∀ k, vv.ownBlock = some k → ∃ o, W2.heap[k]? = some o ∧ o.isCells = true := fun k hk => by
    rcases h4.2 with ⟨rfl, _⟩ | ⟨g, cap, cur, rfl, hg, hh, r⟩
    · simp [Value.ownBlock] at hk
    · simp [Value.ownBlock] at hk
      subst hk
      exact ⟨_, hh, rfl⟩
  have hb2 : ∀ k, k < w9.heap.size + 5 → vv.ownBlock ≠ some k := fun k hk e => by have := h4.lt k e; omega
  have hb6 : ∀ k, k < w9.heap.size + 5 → v6.ownBlock ≠ some k := fun k hk e => by have := ho6.lt k e; omega
  have k6 : KeepsFrom w9.heap.size W2 w6 := ⟨he6.size, fun k o _ hk ho => by
    rw [he6.block (Array.getElem?_eq_some_iff.1 hk).1 (fun e => by obtain ⟨o', h', hc⟩ := hbk k e; rw [hk] at h'; cases h'; rw [ho] at hc; cases hc)]
    exact hk⟩
  have p6 : kpX (fun k => k = zN ∨ k = zN + 1) vv.ownBlock W2 w6 := ⟨he6.size, fun k o hk _ _ hg => by
    rw [he6.block (Array.getElem?_eq_some_iff.1 hk).1 hg]
    exact hk⟩
  have hl := h3.lt
  have h2a := (h2.ext he6 (hb2 _ (by omega)))
  have h3a := (h3.ext he6 (hb2 _ (by omega)))
  have hz6 := he6.size
  have hnt := (h5.snoc (n := x.2.1) hx hxo).ext he6
  have hnw : ∀ p ∈ ps ++ [(x.2.1.seq, x.2.2)], New (w9.heap.size + 5) p.2 := fun p hp => (List.mem_append.1 hp).elim (h6 p) (fun h => by simp at h; rw [h]; exact hxn)
  have hsame : ∀ k, k ≠ zN → k ≠ zN + 1 → ((w6.setCell ⟨zN, 0, none⟩ v6).setCell ⟨zN + 1, 0, none⟩ (.int .i64 x.1)).heap[k]? = w6.heap[k]? := fun k h h' => by
    rw [heap_setCell_other _ _ _ _ (by simp only; omega), heap_setCell_other _ _ _ _ (by simp only; omega)]
  refine ⟨keepsSet (keepsSet k6 0 _ (by omega)) 0 _ (by omega), (p6.setC 0 _ (.inl rfl)).setC 0 _ (.inr rfl), v6.ownBlock, v6, ps ++ [(x.2.1.seq, x.2.2)], rfl, (h2a.set 0 v6).othN (by simp only; omega) _, ?_, ?_, ?_, hnw, by simp; omega, ?_⟩
  · rw [sizX_snoc]
    exact (h3a.othN (by simp only; omega) v6).set 0 _
  · rw [List.length_append]
    exact owns_same ho6 (fun k hk => hsame k (fun e => by subst e; exact hb6 _ (by omega) hk) (fun e => by subst e; exact hb6 _ (by omega) hk))
  · rw [List.map_append]
    exact ntO_same hnt hnw (fun k hk _ => hsame k (by omega) (by omega))
  · exact belowSet (belowSet (h8.trans (he6.below (by omega) (fun k hk => by have := h4.lt k hk; omega))) (by omega) 0 _ (Nat.le_refl _)) (by simp; omega) 0 _ (by omega)

/-- What stands where it was too much. -/
def RpX (w : World) (c : Code) (pre : List Nx) (_ : Option Nat) (W : World) : Prop :=
  c = .ret ∧ pre.length = 1001 ∧ Bk W (w.heap.size + 1) 58 #[.slice none 0 0, .int .i64 0] ∧ Bk W (w.heap.size + 1 + 1) 62 #[.slice none 0 0] ∧ Bk W (w.heap.size + 1 + 1 + 1) 28 #[.int .i64 2, .int .i64 0] ∧ Below w.heap.size w W

theorem RpX.ownG {w w9 : World} (hz : w.heap.size + 4 ≤ w9.heap.size) (c : Code) : OwnG w9.heap.size (RpX w c) := by
  rintro s g A A' row ⟨h1, h2, h3, h4, h5, h6⟩ hg hr
  exact ⟨h1, h2, h3.grown hg (fun e => by have := hr _ e.symm; omega), h4.grown hg (fun e => by have := hr _ e.symm; omega), h5.grown hg (fun e => by have := hr _ e.symm; omega), h6.grown hg (by have := h5.lt; omega) (fun k e => by have := hr _ e; omega)⟩

/-- Three results are written. -/
theorem fin6 {W : World} {A : Nat} {t1 t2 t3 : TypeId} {x0 x1 y0 z0 z1 : Value} (a b c d e : Value) (h1 : Bk W A t1 #[x0, x1]) (h2 : Bk W (A + 1) t2 #[y0]) (h3 : Bk W (A + 1 + 1) t3 #[z0, z1]) :
    Bk (((((W.setCell ⟨A, 0, none⟩ a).setCell ⟨A, 1, none⟩ b).setCell ⟨A + 1, 0, none⟩ c).setCell ⟨A + 1 + 1, 0, none⟩ d).setCell ⟨A + 1 + 1, 1, none⟩ e) A t1 #[a, b] ∧
    Bk (((((W.setCell ⟨A, 0, none⟩ a).setCell ⟨A, 1, none⟩ b).setCell ⟨A + 1, 0, none⟩ c).setCell ⟨A + 1 + 1, 0, none⟩ d).setCell ⟨A + 1 + 1, 1, none⟩ e) (A + 1) t2 #[c] ∧
    Bk (((((W.setCell ⟨A, 0, none⟩ a).setCell ⟨A, 1, none⟩ b).setCell ⟨A + 1, 0, none⟩ c).setCell ⟨A + 1 + 1, 0, none⟩ d).setCell ⟨A + 1 + 1, 1, none⟩ e) (A + 1 + 1) t3 #[d, e] ∧
    (∀ k, (k < A ∨ A + 3 ≤ k) → (((((W.setCell ⟨A, 0, none⟩ a).setCell ⟨A, 1, none⟩ b).setCell ⟨A + 1, 0, none⟩ c).setCell ⟨A + 1 + 1, 0, none⟩ d).setCell ⟨A + 1 + 1, 1, none⟩ e).heap[k]? = W.heap[k]?) ∧
    Below A W (((((W.setCell ⟨A, 0, none⟩ a).setCell ⟨A, 1, none⟩ b).setCell ⟨A + 1, 0, none⟩ c).setCell ⟨A + 1 + 1, 0, none⟩ d).setCell ⟨A + 1 + 1, 1, none⟩ e) := by
  have hl := h3.lt
  refine ⟨(((h1.store2 a b).othN (by simp only; omega) c).othN (by simp only; omega) d).othN (by simp only; omega) e, ((((h2.othN (by simp only; omega) a).othN (by simp only; omega) b).set 0 c).othN (by simp only; omega) d).othN (by simp only; omega) e, (((h3.othN (by simp only; omega) a).othN (by simp only; omega) b).othN (by simp only; omega) c).store2 d e, fun k hk => ?_, ?_⟩
  · rw [heap_setCell_other _ _ _ _ (by simp only; omega), heap_setCell_other _ _ _ _ (by simp only; omega), heap_setCell_other _ _ _ _ (by simp only; omega), heap_setCell_other _ _ _ _ (by simp only; omega), heap_setCell_other _ _ _ _ (by simp only; omega)]
  · exact belowSet (belowSet (belowSet (belowSet (belowSet (Below.refl _ _) (by omega) 0 a (Nat.le_refl _)) (by simp; omega) 1 b (Nat.le_refl _)) (by simp; omega) 0 c (by omega)) (by simp; omega) 0 d (by omega)) (by simp; omega) 1 e (by omega)

end Go.Proofs.Ytdodajalejfbiad

/-
  The walk over wal.Replay: the function.
-/
namespace Go.Proofs.Ytdodajalejfbiad
open Go.RowKit Go.Shelf
attribute [local go_sem] Oper.semAt_some

theorem fin7 {W X : World} {A D : Nat} {t1 t2 t3 : TypeId} {a b c d e : Value} {o o' : Obj} (hD : A + 3 ≤ D) (hX : Bk X A t1 #[a, b] ∧ Bk X (A + 1) t2 #[c] ∧ Bk X (A + 1 + 1) t3 #[d, e] ∧ (∀ k, (k < A ∨ A + 3 ≤ k) → X.heap[k]? = W.heap[k]?) ∧ Below A W X) (hK : W.heap[D]? = some o) :
    X.drew.heap[D]? = some o ∧ Bk (X.drew.putObj D o') A t1 #[a, b] ∧ Bk (X.drew.putObj D o') (A + 1) t2 #[c] ∧ Bk (X.drew.putObj D o') (A + 1 + 1) t3 #[d, e] ∧ (∀ k, k ≠ D → (k < A ∨ A + 3 ≤ k) → (X.drew.putObj D o').heap[k]? = W.heap[k]?) ∧ Below A W (X.drew.putObj D o') := by
  obtain ⟨h1, h2, h3, h4, h5⟩ := hX
  refine ⟨(h4 D (.inr hD)).trans hK, (World.putObj_heap_other (by omega)).trans h1, (World.putObj_heap_other (by omega)).trans h2, (World.putObj_heap_other (by omega)).trans h3, fun k hk hk2 => (World.putObj_heap_other (by omega)).trans (h4 k hk2), ⟨h5.os, h5.tape, h5.output, by have := h5.size; simp; exact this, fun k hk => (World.putObj_heap_other (by omega)).trans (h5.block k hk)⟩⟩

theorem rd_same {w w' : World} {v : Value} {xs : List Value} (h : Rd w v xs) (hs : ∀ a l c, v = .slice (some a) l c → 0 < xs.length → w'.heap[a.block]? = w.heap[a.block]?) : Rd w' v xs := by
  obtain ⟨ao, cap, hv, h2, h3, h4, h5⟩ := h
  refine ⟨ao, cap, hv, h2, h3, h4, fun a ha j u hu => ?_⟩
  have hc := h5 a ha j u hu
  have hb : (a.add j).block = a.block := by unfold Addr.add; split <;> rfl
  have hl := (List.getElem?_eq_some_iff.1 hu).1
  rw [← hc]
  exact World.cell?_of_block (by rw [hb]; exact hs a _ _ (by rw [hv, ha]) (by omega))

set_option maxRecDepth 100000 in
set_option maxHeartbeats 4000000 in
theorem Replay_any (v : Value) (bs : List UInt8) (k : Int) (w : World) (hv : Rd w v (bc bs)) :
    Calls Try.prog 33 #[dsk v k] w fun e w' => ∃ v' u, e = .returned (.tuple #[dsk v' ((replD bs k).1.length : Nat), u, fltC ((replD bs k).2.2, 0)]) ∧ Rd w' v' (bc (replD bs k).1) ∧ RdN w' u (replD bs k).2.1 ∧ Below w.heap.size w w' ∧ New w.heap.size v' := by
  obtain ⟨ao, cap, hvv, hc1, hc2⟩ := hv.shape
  rw [bc_length] at hc1 hvv
  subst hvv
  unfold maxLen at hc2
  unfold dsk
  refine (callsIn_wide (n := 5)).1 ?_
  refine callsIn_of_wp_marks Try.func33 rfl trivial ?_ rfl
  simp only [Try.ntmps33, List.size_toArray, List.length_cons, List.length_nil, Nat.reduceAdd, Nat.reduceSub, Array.replicate_succ, Array.replicate_zero, List.push_toArray, List.append_toArray, List.nil_append, List.cons_append]
  gi_wp2_with fail
  obtain ⟨hD4, hRD4, hRN4, hRF4, hb4, hz4⟩ := four_new w 58 58 62 28 #[.slice ao bs.length cap, .int .i64 k] #[.slice none 0 0, .int .i64 0] #[.slice none 0 0] #[.int .i64 0, .int .i64 0]
  generalize (((w.alloc (.cells #[.slice ao bs.length cap, .int .i64 k] 58)).alloc (.cells #[.slice none 0 0, .int .i64 0] 58)).alloc (.cells #[.slice none 0 0] 62)).alloc (.cells #[.int .i64 0, .int .i64 0] 28) = w4 at *
  refine ⟨trivial, (callsIn_wide.2 (Check_any _ bs k _ (hv.below hb4))).mono ?_⟩
  rintro e w5 ⟨rfl, hb5⟩
  have hD5 := hD4.below hb5 hD4.lt
  have hRD5 := hRD4.below hb5 hRD4.lt
  have hRN5 := hRN4.below hb5 hRN4.lt
  have hRF5 := hRF4.below hb5 hRF4.lt
  have hbw5 := hb4.trans (hb5.mono (by omega))
  have hz5 := hb5.size
  have HZ4 := hide hz4
  clear hD4 hRD4 hRN4 hRF4 hb4 hb5 hz4
  have HLB := hide (@replD_bad bs k)
  have HLM := hide (@replD_many bs k)
  have HLO := hide (@replD_ok bs k)
  have d0 := hRD5.cell 0
  have d1 := hRD5.cell 1
  have d2 := hRD5.frozen 0
  have d3 := hRD5.frozen 1
  have m0 := hRN5.cell 0
  have m1 := hRN5.frozen 0
  have g0 := hRF5.cell 0
  have g1 := hRF5.cell 1
  have g2 := hRF5.frozen 0
  have g3 := hRF5.frozen 1
  have hlD := hRD5.lt
  have hlN := hRN5.lt
  have hlF := hRF5.lt
  simp at d0 d1 m0 g0 g1
  by_cases hc : checkR bs k = 0
  case neg =>
    have HE := hide (HLB.out hc)
    clear HLB HLM HLO
    generalize checkR bs k = cx at *
    have hcb : (cx == 0) = false := beq_eq_false_iff_ne.2 hc
    have hcb2 : (cx != 0) = true := by simp [hc]
    unfold flt
    gi_wp2_with fail
    gi_region
    all_goals
      gi_wp2_with fail
      exact ⟨.tuple #[dsk (.slice none 0 0) 0, .slice none 0 0, fltC (cx, 0)], by simp [results, Try.results33, go_sem, dsk, fltC, d0, d1, m0, g0, g1, hlD, hlN, hlF], .slice none 0 0, .slice none 0 0, by rw [HE.out]; rfl, by rw [HE.out]; exact Rd.nil _, by rw [HE.out]; exact RdN.nil _, by go_grown, New.nil _⟩
  rw [hc]
  have HLM1 := hide (fun h => HLM.out hc h)
  have HLO1 := hide (fun h => HLO.out hc h)
  obtain ⟨hk1, hk2, hk3⟩ := checkR_zero hc
  have HC := hide hc
  clear HLB HLM HLO hc d0 d1 d2 d3 m0 m1 g0 g1 g2 g3
  have hb58 : Below w5.heap.size w5 (((w5.alloc (.cells #[.int .i64 0, .int .i64 0] 28)).alloc (.cells #[.slice none 0 0] 62)).alloc (.cells #[.int .i64 0] 3)) := ((below_alloc' _ _).alloc (by simp) _).alloc (by simp; omega) _
  have hN8 : Bk (((w5.alloc (.cells #[.int .i64 0, .int .i64 0] 28)).alloc (.cells #[.slice none 0 0] 62)).alloc (.cells #[.int .i64 0] 3)) (w5.heap.size + 1) 62 #[.slice none 0 0] := (Bk.new2 w5 _ _ _).below (below_alloc' _ _) (by simp)
  have hS8 : Bk (((w5.alloc (.cells #[.int .i64 0, .int .i64 0] 28)).alloc (.cells #[.slice none 0 0] 62)).alloc (.cells #[.int .i64 0] 3)) (w5.heap.size + 1 + 1) 3 #[.int .i64 0] := by
    have h := Bk.new2 (w5.alloc (.cells #[.int .i64 0, .int .i64 0] 28)) (.cells #[.slice none 0 0] 62) 3 #[.int .i64 0]
    rw [World.size_alloc] at h
    exact h
  have hz8 : (((w5.alloc (.cells #[.int .i64 0, .int .i64 0] 28)).alloc (.cells #[.slice none 0 0] 62)).alloc (.cells #[.int .i64 0] 3)).heap.size = w5.heap.size + 3 := by simp
  have HB58 := hide hb58
  have HS8 := hide hS8
  have HN8 := hide hN8
  have HZ8 := hide hz8
  clear hb58 hS8 hN8 hz8
  unfold flt
  gi_upto_region 6 with fail
  generalize ((w5.alloc (.cells #[.int .i64 0, .int .i64 0] 28)).alloc (.cells #[.slice none 0 0] 62)).alloc (.cells #[.int .i64 0] 3) = w8 at *
  have hD8 := hD5.below HB58.out hD5.lt
  have hRD8 := hRD5.below HB58.out hRD5.lt
  have hRN8 := hRN5.below HB58.out hRN5.lt
  have hRF8 := hRF5.below HB58.out hRF5.lt
  have hbw8 := hbw5.trans (HB58.out.mono hbw5.size)
  have b0 := hD8.cell 0
  simp at b0
  have hlD8 := hD8.lt
  have hwz := hbw5.size
  gi_wp2_with fail
  refine ⟨trivial, (callsIn_wide.2 (notesOf_any ao bs.length cap _)).mono ?_⟩
  rintro e w9 ⟨rfl, rfl⟩
  gi_wp2_with fail
  have hb89 := below_alloc' w8 (.cells #[.slice ao bs.length cap] 42)
  have hB9 : Bk (w8.alloc (.cells #[.slice ao bs.length cap] 42)) w8.heap.size 42 #[.slice ao bs.length cap] := Bk.new _ _ _
  have hz89 : (w8.alloc (.cells #[.slice ao bs.length cap] 42)).heap.size = w8.heap.size + 1 := by simp
  generalize hw9 : w8.alloc (.cells #[.slice ao bs.length cap] 42) = w9 at *
  have hS9 := HS8.out.below hb89 HS8.out.lt
  have hN9 := HN8.out.below hb89 HN8.out.lt
  have hD9 := hD8.below hb89 hD8.lt
  have hRD9 := hRD8.below hb89 hRD8.lt
  have hRN9 := hRN8.below hb89 hRN8.lt
  have hRF9 := hRF8.below hb89 hRF8.lt
  have hz8 := HZ8.out
  have hpv : ∀ a l c, Value.slice ao bs.length cap = .slice (some a) l c → 0 < (bc bs).length → a.block < w.heap.size := by
    intro a l c e hp
    simp only [Value.slice.injEq] at e
    obtain ⟨rfl, _, _⟩ := e
    obtain ⟨b, off, cap', hv, _, _, hb, _⟩ := hv.pos hp
    simp only [Value.slice.injEq, Option.some.injEq] at hv
    rw [hv.1]
    exact hb
  have hbw9 := hbw8.trans (hb89.mono hbw8.size)
  have hcB := hB9.cell 0
  simp at hcB
  have hz59 : w5.heap.size + 1 + 1 < w9.heap.size := by omega
  have hzw5 : w.heap.size + 4 ≤ w5.heap.size := by have := HZ4.out; omega
  clear hz8 hz89
  refine wpIn_rangeFunc_st2 (α := Nx) rfl (by omega) (gf := 104) (lb := #[.pointer (some ⟨w8.heap.size, 0, none⟩)]) rfl trivial (enters_of Try.func104 (by kernel_rfl) rfl)
    (notesOf1_stops (5 - 1) (by omega) w8.heap.size ao cap bs (fun k => k = w5.heap.size + 1 ∨ k = w5.heap.size + 1 + 1) _ hcB (hv.below hbw9) (by omega) (fun a l c e hp => by have := hpv a l c e hp; omega) (fun k hk => by omega))
    (fun h k => kpX_t h k) (kpX_b _) (fun _ => rfl)
    (RpI w9 (w5.heap.size + 1)) (RpX w) (RpI.ownG hz59) (RpX.ownG (by omega)) ⟨.slice none 0 0, [], rfl, hN9, hS9, World.ownsRow_nil _ _ _ _, NtO.nil _ _, by simp, by simp, Below.refl _ _⟩
    (fun s g A h k e => by obtain ⟨vv, ps, h1, _, _, h4, _⟩ := h; exact h4.lt k (h1 ▸ e)) ?hround ?hdone ?hstop
  case hround =>
    rintro l pre ⟨xe, ⟨xs, xc⟩, xv⟩ g W hI ⟨_, hx2, hx3, hx4⟩ hsz
    simp only at hx2 hx3 hx4
    obtain ⟨xo, xcap, rfl, hx5, hx6⟩ := hx2.shape
    simp only [encX]
    simp (config := { decide := true }) only [List.zip_toArray, List.zip_cons_cons, List.zip_nil_right, List.foldl_toArray, List.foldl_cons, List.foldl_nil, List.setIfInBounds_toArray, List.set_cons_succ, List.set_cons_zero]
    have HI := hide hI
    clear hI
    gi_wp2_with fail
    have hbA := below_alloc' W (.cells #[.int .i64 xs, .slice xo xc.length xcap] 41)
    have hNx := Bk.new W 41 #[.int .i64 xs, .slice xo xc.length xcap]
    refine ⟨keepsFrom_below hbA, kpX_below hbA, (RpI.ownG hz59).alloc _ HI.out, ?_⟩
    rintro l' W2 hrl hI2
    obtain ⟨vv, ps, rfl, q1, q2, q4, q5, q6, q7, q8⟩ := hI2
    have hN2 : Bk W2 W.heap.size 41 #[.int .i64 xs, .slice xo xc.length xcap] := (hrl.2 W.heap.size (.inr (by omega)) hNx.lt).trans hNx
    have hx2a : RdC W2 (.slice xo xc.length xcap) xc := rdC_same (hx2.below hbA) (fun a l c e hl => hrl.2 _ (.inr (hx3 a l c e)) (by
      obtain ⟨ao', cap', hv', _, _, _, h7⟩ := hx2
      rw [e] at hv'
      simp only [Value.slice.injEq] at hv'
      obtain ⟨rfl, _, _⟩ := hv'
      have hc := h7 a rfl 0 ((cc xc)[0]'(by rw [cc_length]; omega)) (by simp)
      have hlt := World.block_lt_of_cell? W _ hc
      have hb : (a.add 0).block = a.block := by unfold Addr.add; split <;> rfl
      rw [hb] at hlt
      simp
      omega))
    have hoff : Off vv (.slice xo xc.length xcap) := fun a l c e _ hg => hx4 _ hg a l c e rfl
    obtain ⟨oo, ocap, hvo⟩ := owns_shape2 q4
    subst hvo
    have hlt2 := hN2.lt
    have hltS := q1.lt
    have hltL := q2.lt
    have n0 := hN2.cell 0
    have n1 := hN2.cell 1
    have s0 := q1.cell 0
    have s1 := q1.frozen 0
    simp at n0 n1 s0
    by_cases hfull : pre.length = 1000
    case pos =>
      have hbwW : Below w.heap.size w W2 := hbw9.trans (q8.mono (by omega))
      have hRD2 := hRD9.below q8 (by omega)
      have hRN2 := hRN9.below q8 (by omega)
      have hRF2 := hRF9.below q8 (by omega)
      have d0 := hRD2.cell 0
      have d1 := hRD2.cell 1
      have d2 := hRD2.frozen 0
      have d3 := hRD2.frozen 1
      have m0 := hRN2.cell 0
      have m1 := hRN2.frozen 0
      have g0 := hRF2.cell 0
      have g1 := hRF2.cell 1
      have g2 := hRF2.frozen 0
      have g3 := hRF2.frozen 1
      simp at d0 d1 m0 g0 g1
      have hlD2 := hRD2.lt
      have hlN2 := hRN2.lt
      have hlF2 := hRF2.lt
      have HF := hide (fin6 (.slice none 0 0) (.int .i64 0) (.slice none 0 0) (.int .i64 2) (.int .i64 0) hRD2 hRN2 hRF2)
      have HBW := hide hbwW
      have hfl : ((pre.length : Nat) : Int) = 1000 := by omega
      clear hbwW hRD2 hRN2 hRF2 q5 q6 hx2a hx2 hoff
      gi_wp2_with fail
      obtain ⟨f1, f2, f3, f4, f5⟩ := HF.out
      refine ⟨keepsSet (keepsSet (keepsSet (keepsSet (keepsSet (KeepsFrom.refl _ _) 0 _ (by omega)) 1 _ (by omega)) 0 _ (by omega)) 0 _ (by omega)) 1 _ (by omega), none, rfl, by simp [hfull], f1, f2, f3, HBW.out.trans (f5.mono (by omega))⟩
    have hne : ((pre.length : Nat) : Int) ≠ 1000 := by omega
    have hl8 : pre.length ≤ 100000000 := by omega
    have hb8 : w9.heap.size + 5 ≤ W2.heap.size := by have := hrl.1; simp at this; omega
    have HST := hide (fun v6 w6 => @RpI.step w9 W2 w6 (w5.heap.size + 1) pre (xe, ⟨xs, xc⟩, .slice xo xc.length xcap) (.slice oo pre.length ocap) v6 ps hz59 q1 q2 q4 q5 q6 (by omega) q8 hx2a hx3 hoff)
    have Q1 := hide q1
    have Q2 := hide q2
    have s2 := q2.cell 0
    have s3 := q2.frozen 0
    simp at s2
    clear q1 q2 q5 q6 q8 hx2a hx2 hoff hN2 hrl hNx hbA hbw9 hRD9 hRN9 hRF9 hS9 hN9 hD9 hB9 hb89 hw9 hcB
    gi_wp2_with (gi_at_builtin; go_must (refine wpListIn_append_one2E (q := xs) rfl q4 Try.underlying62 Try.infoN41 rfl rfl rfl rfl rfl hl8 (by decide) hb8 ?_); intro v6 w6 ho6 hb6 he6; obtain ⟨o6, c6, hv6⟩ := owns_shape2 ho6; subst hv6; have hq1 := Q1.out.ext he6 (fun e => by have := q4.lt _ e; omega); have hq2 := Q2.out.ext he6 (fun e => by have := q4.lt _ e; omega); have t0 := hq1.cell 0; have t1 := hq1.frozen 0; have t2 := hq2.cell 0; have t3 := hq2.frozen 0; simp at t0 t2; have hlt6 := hq2.lt)
    exact HST.out _ w6 ho6 he6
  case hdone =>
    rintro D xs g W hD1 hD2 hSx ⟨vv, ps, rfl, q1, q2, q4, q5, q6, q7, q8⟩ hK
    have hsz := sizX_all hSx
    rw [hsz] at q2
    have hsl := sizeR_le bs
    have hlen : xs.length = (notesR bs).length := by rw [notesR, ← hSx]; simp
    have hns : xs.map (·.2.1) = notesR bs := by rw [notesR, ← hSx]; simp [prj, Function.comp_def]
    have HE := hide (HLO1.out (by omega))
    rw [hns] at q5
    have HTR := hide (trimR_ok (k := k) HC.out hsl)
    have hbwW : Below w.heap.size w W := hbw9.trans (q8.mono (by omega))
    have hDW := hD9.below q8 (by omega)
    have hRDW := hRD9.below q8 (by omega)
    have hRNW := hRN9.below q8 (by omega)
    have hRFW := hRF9.below q8 (by omega)
    have q7' : (notesR bs).length ≤ 1000 := by omega
    rw [hlen] at q4
    obtain ⟨oo, ocap, hvo⟩ := owns_shape2 q4
    subst hvo
    clear hlen q7
    have e0 := hDW.cell 0
    have e1 := hDW.cell 1
    have z0 := q2.cell 0
    simp at e0 e1 z0
    clear q8 hSx hns hsz HLM1 HLO1 hRD9 hRN9 hRF9 hS9 hN9 hD9 hB9 hb89 hw9 hcB hRD5 hRN5 hRF5 hD5 hRD8 hRN8 hRF8 hD8
    gi_wp2_with fail
    refine ⟨trivial, (callsIn_wide.2 (Trim_any _ bs k (sizeR bs : Nat) _ (hv.below hbwW))).mono ?_⟩
    rw [HTR.out]
    rintro e WT ⟨vT, rfl, hrT, hbT, hnT⟩
    simp only at hrT hnT ⊢
    obtain ⟨tO, tc, htv, _, _⟩ := hrT.shape
    have htl : (bs.take (sizeR bs)).length = sizeR bs := by rw [List.length_take]; omega
    rw [bc_length, htl] at htv
    subst htv
    have hRDT := hRDW.below hbT hRDW.lt
    have hRNT := hRNW.below hbT hRNW.lt
    have hRFT := hRFW.below hbT hRFW.lt
    have hqT := q1.below hbT q1.lt
    have hbwT := hbwW.trans (hbT.mono hbwW.size)
    have hoT := owns_below q4 hbT
    have hnoT := ntO_same q5 q6 (fun k _ hl => hbT.block k hl)
    have hKT : WT.heap[D]? = some (.deferred (some [])) := (hbT.block D (Array.getElem?_eq_some_iff.1 hK).1).trans hK
    have hzT := hbT.size
    have hDlt := (Array.getElem?_eq_some_iff.1 hK).1
    have hltN := q1.lt
    clear hK q1 q2 q4 q5 hbT hRDW hRNW hRFW hDW hbwW e0 e1 z0
    have hb10 : Below WT.heap.size WT ((WT.alloc (.cells #[.slice tO (sizeR bs) tc, .int .i64 (sizeR bs : Nat)] 58)).alloc (.cells #[.int .i64 0, .int .i64 0] 28)) := (below_alloc' _ _).alloc (by simp) _
    have hX10 : Bk ((WT.alloc (.cells #[.slice tO (sizeR bs) tc, .int .i64 (sizeR bs : Nat)] 58)).alloc (.cells #[.int .i64 0, .int .i64 0] 28)) WT.heap.size 58 #[.slice tO (sizeR bs) tc, .int .i64 (sizeR bs : Nat)] := (Bk.new WT _ _).below (below_alloc' _ _) (by simp)
    have hF10 : Bk ((WT.alloc (.cells #[.slice tO (sizeR bs) tc, .int .i64 (sizeR bs : Nat)] 58)).alloc (.cells #[.int .i64 0, .int .i64 0] 28)) (WT.heap.size + 1) 28 #[.int .i64 0, .int .i64 0] := Bk.new2 WT _ _ _
    have HB10 := hide hb10
    have HX10 := hide hX10
    have HF10 := hide hF10
    clear hb10 hX10 hF10
    unfold dsk flt
    gi_upto_region 14 with fail
    generalize (WT.alloc (.cells #[.slice tO (sizeR bs) tc, .int .i64 (sizeR bs : Nat)] 58)).alloc (.cells #[.int .i64 0, .int .i64 0] 28) = w10 at *
    have hRD := hRDT.below HB10.out hRDT.lt
    have hRN := hRNT.below HB10.out hRNT.lt
    have hRF := hRFT.below HB10.out hRFT.lt
    have hq10 := hqT.below HB10.out hqT.lt
    have hb10 := HB10.out
    have hKX : w10.heap[D]? = some (.deferred (some [])) := (hb10.block D (Array.getElem?_eq_some_iff.1 hKT).1).trans hKT
    have hr10 := hrT.below hb10
    have ho10 := owns_below hoT hb10
    have hn10 := ntO_same hnoT q6 (fun k _ hl => hb10.block k hl)
    have hbw10 := hbwT.trans (hb10.mono hbwT.size)
    have hz10 := hb10.size
    have HF := hide (fin6 (.slice tO (sizeR bs) tc) (.int .i64 (sizeR bs : Nat)) (.slice oo (notesR bs).length ocap) (.int .i64 0) (.int .i64 0) hRD hRN hRF)
    have x0 := HX10.out.cell 0
    have x1 := HX10.out.cell 1
    have y0 := HF10.out.cell 0
    have y1 := HF10.out.cell 1
    have u0 := hq10.cell 0
    have d0 := hRD.cell 0
    have d1 := hRD.cell 1
    have d2 := hRD.frozen 0
    have d3 := hRD.frozen 1
    have m0 := hRN.cell 0
    have m1 := hRN.frozen 0
    have g0 := hRF.cell 0
    have g1 := hRF.cell 1
    have g2 := hRF.frozen 0
    have g3 := hRF.frozen 1
    simp at x0 x1 y0 y1 u0 d0 d1 m0 g0 g1
    have hl1 := hRD.lt
    have hl2 := hRN.lt
    have hl3 := hRF.lt
    have hl4 := HX10.out.lt
    have hl5 := HF10.out.lt
    have hl6 := hq10.lt
    have HR10 := hide hr10
    have HO10 := hide ho10
    have HN10 := hide hn10
    have HBW := hide hbw10
    have HK := hide hKX
    have HQ6 := hide q6
    clear hr10 ho10 hn10 hbw10 hKX hRD hRN hRF hq10 hb10 hRDT hRNT hRFT hqT hbwT hoT hnoT hKT hrT q6
    gi_wp2_with fail
    gi_region
    all_goals
      gi_wp2_with fail
      obtain ⟨hKY, f1, f2, f3, f4, f5⟩ := fin7 (o' := .deferred none) (by omega) HF.out HK.out
      refine ⟨by simp, .inl ⟨_, _, rfl, run_takeDeferred hKY, ?_⟩⟩
      generalize World.putObj (((((w10.setCell ⟨w.heap.size + 1, 0, none⟩ (.slice tO (sizeR bs) tc)).setCell ⟨w.heap.size + 1, 1, none⟩ (.int .i64 (sizeR bs : Nat))).setCell ⟨w.heap.size + 1 + 1, 0, none⟩ (.slice oo (notesR bs).length ocap)).setCell ⟨w.heap.size + 1 + 1 + 1, 0, none⟩ (.int .i64 0)).setCell ⟨w.heap.size + 1 + 1 + 1, 1, none⟩ (.int .i64 0)).drew D (.deferred none) = WF at *
      clear hKY HF
      have k0 := f1.cell 0
      have k1 := f1.cell 1
      have k2 := f2.cell 0
      have k3 := f3.cell 0
      have k4 := f3.cell 1
      simp at k0 k1 k2 k3 k4
      have hoF := owns_same HO10.out (fun k hk => f4 k (by have := (HO10.out.lt k hk).1; omega) (.inr (by have := (HO10.out.lt k hk).1; omega)))
      have hnF := ntO_same HN10.out HQ6.out (fun k hk hl => f4 k (by omega) (.inr (by omega)))
      exact ⟨.tuple #[dsk (.slice tO (sizeR bs) tc) (sizeR bs : Nat), .slice oo (notesR bs).length ocap, fltC (0, 0)], by simp [results, Try.results33, go_sem, dsk, fltC, k0, k1, k2, k3, k4], .slice tO (sizeR bs) tc, .slice oo (notesR bs).length ocap, by rw [HE.out]; simp only [htl]; rfl, by rw [HE.out]; exact rd_same HR10.out (fun a l c e hp => f4 _ (by have := hnT a l c e; omega) (.inr (by have := hnT a l c e; omega))), by rw [HE.out]; exact hnF.rd hoF, HBW.out.trans (f5.mono (by omega)), hnT.mono (by omega)⟩
  case hstop =>
    rintro D c pre g W hD1 hD2 hSp ⟨rfl, h2, h3, h4, h5, h6⟩ hK
    have hmany : 1000 < (notesR bs).length := by
      have h := hSp.length_le
      rw [List.length_map] at h
      rw [notesR, List.length_map]
      omega
    have HE := hide (HLM1.out hmany)
    gi_wp2_with fail
    refine ⟨by simp, .inl ⟨_, _, rfl, run_takeDeferred hK, ?_⟩⟩
    have f1 : Bk (W.putObj D (.deferred none)) _ _ _ := (World.putObj_heap_other (by omega)).trans h3
    have f2 : Bk (W.putObj D (.deferred none)) _ _ _ := (World.putObj_heap_other (by omega)).trans h4
    have f3 : Bk (W.putObj D (.deferred none)) _ _ _ := (World.putObj_heap_other (by omega)).trans h5
    have f4 : Below w.heap.size w (W.putObj D (.deferred none)) := h6.trans ⟨rfl, rfl, rfl, by simp, fun k hk => World.putObj_heap_other (by omega)⟩
    generalize W.putObj D (.deferred none) = WF at *
    have k0 := f1.cell 0
    have k1 := f1.cell 1
    have k2 := f2.cell 0
    have k3 := f3.cell 0
    have k4 := f3.cell 1
    simp at k0 k1 k2 k3 k4
    exact ⟨.tuple #[dsk (.slice none 0 0) 0, .slice none 0 0, fltC (2, 0)], by simp [results, Try.results33, go_sem, dsk, fltC, k0, k1, k2, k3, k4], .slice none 0 0, .slice none 0 0, by rw [HE.out]; rfl, by rw [HE.out]; exact Rd.nil _, by rw [HE.out]; exact RdN.nil _, f4, New.nil _⟩

end Go.Proofs.Ytdodajalejfbiad

/-
  The walk over the law WalLogs.
-/
namespace Go.Proofs.Ytdodajalejfbiad
open Go.RowKit

theorem two_boxes (w : World) (t1 t2 : TypeId) (a b : Array Value) :
    Bk ((w.alloc (.cells a t1)).alloc (.cells b t2)) w.heap.size t1 a ∧ Bk ((w.alloc (.cells a t1)).alloc (.cells b t2)) (w.heap.size + 1) t2 b ∧ Below w.heap.size w ((w.alloc (.cells a t1)).alloc (.cells b t2)) :=
  ⟨(Bk.new w _ _).below (below_alloc' _ _) (by simp), Bk.new2 w _ _ _, (below_alloc' _ _).alloc (by simp) _⟩

set_option maxRecDepth 100000 in
set_option maxHeartbeats 4000000 in
theorem walLogs_any (u : Value) (k : Int) (s : Int) (v : Value) (bs : List UInt8) (cs : List Cl) (w : World) (hu : Rd w u (bc bs)) (hk : -9223372036854775808 ≤ k ∧ k ≤ 9223372036854775807) (hv : RdC w v cs) (hs : -9223372036854775808 ≤ s ∧ s ≤ 9223372036854775807) :
    Calls Try.prog 6 #[dsk u k, ntA s v] w fun e w' => e = .returned (.bool true) ∧ Below w.heap.size w w' := by
  obtain ⟨ao, cap, hvv, hc1, hc2⟩ := hv.shape
  subst hvv
  unfold maxLen at hc2
  obtain ⟨uo, ucap, huu, hd1, hd2⟩ := hu.shape
  rw [bc_length] at hd1 huu
  subst huu
  unfold maxLen at hd2
  unfold dsk ntA
  go_enter Try.func6, Try.ntmps6
  go_wp2_with fail
  obtain ⟨hD, hN, hbw⟩ := two_boxes w 58 41 #[.slice uo bs.length ucap, .int .i64 k] #[.int .i64 s, .slice ao cs.length cap]
  generalize (w.alloc (.cells #[.slice uo bs.length ucap, .int .i64 k] 58)).alloc (.cells #[.int .i64 s, .slice ao cs.length cap] 41) = w0 at *
  refine (walBegun_any _).mono ?_
  rintro e w1 ⟨rfl, hb1⟩
  have hD_1 := hD.below hb1 hD.lt
  have hN_1 := hN.below hb1 hN.lt
  have hbw_1 := hbw.trans (hb1.mono hbw.size)
  clear hD hN hbw hb1
  have d0 := hD_1.cell 0
  have d1 := hD_1.cell 1
  have dl := hD_1.lt
  have m0 := hN_1.cell 0
  have m1 := hN_1.cell 1
  have ml := hN_1.lt
  simp at d0 d1 m0 m1
  cases hmany : manyB cs.length
  case true =>
    go_wp2_with fail
    refine (many_any _ _).mono ?_
    rintro e w2 ⟨rfl, rfl⟩
    rw [hmany]
    go_wp2_with fail
    go_ret
    exact ⟨rfl, hbw_1⟩
  have hl2 := manyB_leN hmany
  have hl3 : cs.length ≤ 1000000 := by omega
  by_cases hbig : 100000 < bs.length
  · have hbg : (100000 : Int) < (bs.length : Int) := by omega
    go_wp2_with fail
    refine (many_any _ _).mono ?_
    rintro e w2 ⟨rfl, rfl⟩
    rw [hmany]
    go_wp2_with fail
    go_ret
    exact ⟨rfl, hbw_1⟩
  have hbg : (bs.length : Int) ≤ 100000 := by omega
  go_wp2_with fail
  refine (many_any _ _).mono ?_
  rintro e w2 ⟨rfl, rfl⟩
  rw [hmany]
  clear hmany
  go_wp2_with fail
  refine (ownDisk_any _ bs k _ (hu.below hbw_1) (by omega)).mono ?_
  rintro e w3 ⟨vx, rfl, hx, hb3, _⟩
  obtain ⟨xo, xcap, hvx, _, _⟩ := hx.shape
  rw [bc_length] at hvx
  subst hvx
  have hD_2 := hD_1.below hb3 hD_1.lt
  have hN_2 := hN_1.below hb3 hN_1.lt
  have hbw_2 := hbw_1.trans (hb3.mono hbw_1.size)
  clear hD_1 hN_1 hbw_1 hb3 d0 d1 m0 m1 dl ml
  unfold dsk
  go_upto_region 6 with fail
  have hbA := below_alloc' w3 (.cells #[.slice xo bs.length xcap, .int .i64 k] 58)
  have hX := Bk.new w3 58 #[.slice xo bs.length xcap, .int .i64 k]
  generalize w3.alloc (.cells #[.slice xo bs.length xcap, .int .i64 k] 58) = w4 at *
  have hD_3 := hD_2.below hbA hD_2.lt
  have hN_3 := hN_2.below hbA hN_2.lt
  have hbw_3 := hbw_2.trans (hbA.mono hbw_2.size)
  have hx_3 := hx.below hbA
  clear hD_2 hN_2 hbw_2 hx hbA
  generalize w3.heap.size = zX at *
  have m0 := hN_3.cell 0
  have m1 := hN_3.cell 1
  have ml := hN_3.lt
  simp at m0 m1
  go_wp2_with fail
  refine (ownNote_any s _ cs _ (hv.below hbw_3) hl3).mono ?_
  rintro e w5 ⟨vy, rfl, hy, hb5, _⟩
  obtain ⟨yo, ycap, hvy, _, _⟩ := hy.shape
  subst hvy
  have hD_4 := hD_3.below hb5 hD_3.lt
  have hN_4 := hN_3.below hb5 hN_3.lt
  have hbw_4 := hbw_3.trans (hb5.mono hbw_3.size)
  have hx_4 := hx_3.below hb5
  have hX_4 := hX.below hb5 hX.lt
  clear hD_3 hN_3 hbw_3 hx_3 hX hb5 m0 m1 ml
  unfold ntA
  go_upto_region 7 with fail
  have hbA := below_alloc' w5 (.cells #[.int .i64 s, .slice yo cs.length ycap] 41)
  have hY := Bk.new w5 41 #[.int .i64 s, .slice yo cs.length ycap]
  generalize w5.alloc (.cells #[.int .i64 s, .slice yo cs.length ycap] 41) = w6 at *
  have hD_5 := hD_4.below hbA hD_4.lt
  have hN_5 := hN_4.below hbA hN_4.lt
  have hbw_5 := hbw_4.trans (hbA.mono hbw_4.size)
  have hx_5 := hx_4.below hbA
  have hX_5 := hX_4.below hbA hX_4.lt
  have hy_5 := hy.below hbA
  clear hD_4 hN_4 hbw_4 hx_4 hX_4 hy hbA
  generalize w5.heap.size = zY at *
  have x0 := hX_5.cell 0
  have x1 := hX_5.cell 1
  have xl := hX_5.lt
  have y0 := hY.cell 0
  have y1 := hY.cell 1
  have yl := hY.lt
  simp at x0 x1 y0 y1
  go_wp2_with fail
  refine (Log_any _ _ bs k s cs _ hx_5 hy_5).mono ?_
  rintro e w7 ⟨ve, rfl, he, hb7, _⟩
  generalize hLD : logD bs k s cs = LD at *
  have HLD := hide hLD
  clear hLD
  obtain ⟨eb, ek, ec, ea⟩ := LD
  simp only at he ⊢
  obtain ⟨eo, ecap, hve, _, _⟩ := he.shape
  rw [bc_length] at hve
  subst hve
  have hD_6 := hD_5.below hb7 hD_5.lt
  have hN_6 := hN_5.below hb7 hN_5.lt
  have hbw_6 := hbw_5.trans (hb7.mono hbw_5.size)
  have hx_6 := hx_5.below hb7
  have hX_6 := hX_5.below hb7 hX_5.lt
  have hy_6 := hy_5.below hb7
  have hY_6 := hY.below hb7 hY.lt
  clear hD_5 hN_5 hbw_5 hx_5 hX_5 hy_5 hY hb7 x0 x1 y0 y1 xl yl
  unfold dsk fltC
  obtain ⟨hE, hF, hbA⟩ := two_boxes w7 58 28 #[.slice eo eb.length ecap, .int .i64 ek] #[.int .i64 ec, .int .i64 ea]
  have HE := hide hE
  have HF := hide hF
  have HBA := hide hbA
  clear hE hF hbA
  go_upto_region 8 with fail
  generalize (w7.alloc (.cells #[.slice eo eb.length ecap, .int .i64 ek] 58)).alloc (.cells #[.int .i64 ec, .int .i64 ea] 28) = w8 at *
  have hE := HE.out
  have hF := HF.out
  have hbA := HBA.out
  clear HE HF HBA
  have hD_7 := hD_6.below hbA hD_6.lt
  have hN_7 := hN_6.below hbA hN_6.lt
  have hbw_7 := hbw_6.trans (hbA.mono hbw_6.size)
  have hx_7 := hx_6.below hbA
  have hX_7 := hX_6.below hbA hX_6.lt
  have hy_7 := hy_6.below hbA
  have hY_7 := hY_6.below hbA hY_6.lt
  have he_7 := he.below hbA
  clear hD_6 hN_6 hbw_6 hx_6 hX_6 hy_6 hY_6 he hbA
  generalize w7.heap.size = zE at *
  have x0 := hX_7.cell 0
  have x1 := hX_7.cell 1
  have xl := hX_7.lt
  simp at x0 x1
  go_wp2_with fail
  refine (Replay_any _ bs k _ hx_7).mono ?_
  rintro e w9 ⟨vz, vl, rfl, hz, hl, hb9, _⟩
  generalize hRD : replD bs k = RD at *
  have HRD := hide hRD
  clear hRD
  obtain ⟨zb, zn, zc⟩ := RD
  simp only at hz hl ⊢
  obtain ⟨zo, zcap, hvz, _, _⟩ := hz.shape
  rw [bc_length] at hvz
  subst hvz
  obtain ⟨lo, lcap, hvl, hl4, hl5⟩ := hl.shape
  subst hvl
  have hD_8 := hD_7.below hb9 hD_7.lt
  have hN_8 := hN_7.below hb9 hN_7.lt
  have hbw_8 := hbw_7.trans (hb9.mono hbw_7.size)
  have hx_8 := hx_7.below hb9
  have hX_8 := hX_7.below hb9 hX_7.lt
  have hy_8 := hy_7.below hb9
  have hY_8 := hY_7.below hb9 hY_7.lt
  have he_8 := he_7.below hb9
  have hE_8 := hE.below hb9 hE.lt
  have hF_8 := hF.below hb9 hF.lt
  clear hD_7 hN_7 hbw_7 hx_7 hX_7 hy_7 hY_7 he_7 hE hF hb9 x0 x1 xl
  unfold dsk fltC
  obtain ⟨hZ, hG, hbA⟩ := two_boxes w9 58 28 #[.slice zo zb.length zcap, .int .i64 (zb.length : Nat)] #[.int .i64 zc, .int .i64 0]
  have HZ := hide hZ
  have HG := hide hG
  have HBA := hide hbA
  clear hZ hG hbA
  go_upto_region 9 with fail
  generalize (w9.alloc (.cells #[.slice zo zb.length zcap, .int .i64 (zb.length : Nat)] 58)).alloc (.cells #[.int .i64 zc, .int .i64 0] 28) = w10 at *
  have hZ := HZ.out
  have hG := HG.out
  have hbA := HBA.out
  clear HZ HG HBA
  have hD_9 := hD_8.below hbA hD_8.lt
  have hN_9 := hN_8.below hbA hN_8.lt
  have hbw_9 := hbw_8.trans (hbA.mono hbw_8.size)
  have hx_9 := hx_8.below hbA
  have hX_9 := hX_8.below hbA hX_8.lt
  have hy_9 := hy_8.below hbA
  have hY_9 := hY_8.below hbA hY_8.lt
  have he_9 := he_8.below hbA
  have hE_9 := hE_8.below hbA hE_8.lt
  have hF_9 := hF_8.below hbA hF_8.lt
  have hz_9 := hz.below hbA
  have hl_9 := hl.below hbA
  clear hD_8 hN_8 hbw_8 hx_8 hX_8 hy_8 hY_8 he_8 hE_8 hF_8 hz hl hbA
  generalize w9.heap.size = zZ at *
  have x0 := hX_9.cell 0
  have x1 := hX_9.cell 1
  have xl := hX_9.lt
  have d0 := hD_9.cell 0
  have d1 := hD_9.cell 1
  have dl := hD_9.lt
  simp at x0 x1 d0 d1
  go_wp2_with fail
  refine (SameDisk_any _ _ bs bs k k _ hx_9 (hu.below hbw_9)).mono ?_
  rintro e w11 ⟨rfl, hb11⟩
  have hbb : (k == k && bs == bs) = true := by simp
  rw [hbb]
  clear hbb
  have hD_10 := hD_9.below hb11 hD_9.lt
  have hN_10 := hN_9.below hb11 hN_9.lt
  have hbw_10 := hbw_9.trans (hb11.mono hbw_9.size)
  have hx_10 := hx_9.below hb11
  have hX_10 := hX_9.below hb11 hX_9.lt
  have hy_10 := hy_9.below hb11
  have hY_10 := hY_9.below hb11 hY_9.lt
  have he_10 := he_9.below hb11
  have hE_10 := hE_9.below hb11 hE_9.lt
  have hF_10 := hF_9.below hb11 hF_9.lt
  have hz_10 := hz_9.below hb11
  have hl_10 := hl_9.below hb11
  have hZ_10 := hZ.below hb11 hZ.lt
  have hG_10 := hG.below hb11 hG.lt
  clear hD_9 hN_9 hbw_9 hx_9 hX_9 hy_9 hY_9 he_9 hE_9 hF_9 hz_9 hl_9 hZ hG hb11 x0 x1 d0 d1 xl dl
  have y0 := hY_10.cell 0
  have y1 := hY_10.cell 1
  have yl := hY_10.lt
  have m0 := hN_10.cell 0
  have m1 := hN_10.cell 1
  have ml := hN_10.lt
  simp at y0 y1 m0 m1
  go_wp2_with fail
  refine (SameNote_any s _ _ cs _ hy_10 (hv.below hbw_10)).mono ?_
  rintro e w12 ⟨rfl, hb12⟩
  have hD_11 := hD_10.below hb12 hD_10.lt
  have hN_11 := hN_10.below hb12 hN_10.lt
  have hbw_11 := hbw_10.trans (hb12.mono hbw_10.size)
  have hx_11 := hx_10.below hb12
  have hX_11 := hX_10.below hb12 hX_10.lt
  have hy_11 := hy_10.below hb12
  have hY_11 := hY_10.below hb12 hY_10.lt
  have he_11 := he_10.below hb12
  have hE_11 := hE_10.below hb12 hE_10.lt
  have hF_11 := hF_10.below hb12 hF_10.lt
  have hz_11 := hz_10.below hb12
  have hl_11 := hl_10.below hb12
  have hZ_11 := hZ_10.below hb12 hZ_10.lt
  have hG_11 := hG_10.below hb12 hG_10.lt
  clear hD_10 hN_10 hbw_10 hx_10 hX_10 hy_10 hY_10 he_10 hE_10 hF_10 hz_10 hl_10 hZ_10 hG_10 hb12 y0 y1 m0 m1 yl ml
  have d0 := hD_11.cell 0
  have d1 := hD_11.cell 1
  have dl := hD_11.lt
  simp at d0 d1
  go_wp2_with fail
  refine (DiskFault_any _ bs k _ (hu.below hbw_11)).mono ?_
  rintro e w13 ⟨rfl, hb13⟩
  generalize hCK : checkR bs k = ck at *
  have HCK := hide hCK
  clear hCK
  have hD_12 := hD_11.below hb13 hD_11.lt
  have hN_12 := hN_11.below hb13 hN_11.lt
  have hbw_12 := hbw_11.trans (hb13.mono hbw_11.size)
  have hx_12 := hx_11.below hb13
  have hX_12 := hX_11.below hb13 hX_11.lt
  have hy_12 := hy_11.below hb13
  have hY_12 := hY_11.below hb13 hY_11.lt
  have he_12 := he_11.below hb13
  have hE_12 := hE_11.below hb13 hE_11.lt
  have hF_12 := hF_11.below hb13 hF_11.lt
  have hz_12 := hz_11.below hb13
  have hl_12 := hl_11.below hb13
  have hZ_12 := hZ_11.below hb13 hZ_11.lt
  have hG_12 := hG_11.below hb13 hG_11.lt
  clear hD_11 hN_11 hbw_11 hx_11 hX_11 hy_11 hY_11 he_11 hE_11 hF_11 hz_11 hl_11 hZ_11 hG_11 hb13 d0 d1 dl
  unfold flt
  go_upto_region 12 with fail
  have hbA := below_alloc' w13 (.cells #[.int .i64 ck, .int .i64 0] 28)
  have hW := Bk.new w13 28 #[.int .i64 ck, .int .i64 0]
  generalize w13.alloc (.cells #[.int .i64 ck, .int .i64 0] 28) = w14 at *
  have hD_13 := hD_12.below hbA hD_12.lt
  have hN_13 := hN_12.below hbA hN_12.lt
  have hbw_13 := hbw_12.trans (hbA.mono hbw_12.size)
  have hx_13 := hx_12.below hbA
  have hX_13 := hX_12.below hbA hX_12.lt
  have hy_13 := hy_12.below hbA
  have hY_13 := hY_12.below hbA hY_12.lt
  have he_13 := he_12.below hbA
  have hE_13 := hE_12.below hbA hE_12.lt
  have hF_13 := hF_12.below hbA hF_12.lt
  have hz_13 := hz_12.below hbA
  have hl_13 := hl_12.below hbA
  have hZ_13 := hZ_12.below hbA hZ_12.lt
  have hG_13 := hG_12.below hbA hG_12.lt
  clear hD_12 hN_12 hbw_12 hx_12 hX_12 hy_12 hY_12 he_12 hE_12 hF_12 hz_12 hl_12 hZ_12 hG_12 hbA
  generalize w13.heap.size = zW at *
  have q0 := hW.cell 0
  have q1 := hW.cell 1
  have ql := hW.lt
  have f0 := hF_13.cell 0
  have f1 := hF_13.cell 1
  have fl := hF_13.lt
  have g0 := hG_13.cell 0
  have g1 := hG_13.cell 1
  have gl := hG_13.lt
  have e0 := hE_13.cell 0
  have e1 := hE_13.cell 1
  have el := hE_13.lt
  simp at q0 q1 f0 f1 g0 g1 e0 e1
  by_cases hck : ck = 0
  case neg =>
    obtain ⟨rfl, rfl, rfl, rfl⟩ : eb = [] ∧ ek = 0 ∧ ec = ck ∧ ea = 0 := by have h := HLD.out; rw [logD_bad (by rw [HCK.out]; exact hck), HCK.out] at h; simp only [Prod.mk.injEq] at h; exact ⟨h.1.symm, h.2.1.symm, h.2.2.1.symm, h.2.2.2.symm⟩
    obtain ⟨rfl, rfl, rfl⟩ : zb = [] ∧ zn = [] ∧ zc = ec := by have h := HRD.out; rw [replD_bad (by rw [HCK.out]; exact hck), HCK.out] at h; simp only [Prod.mk.injEq] at h; exact ⟨h.1.symm, h.2.1.symm, h.2.2.symm⟩
    have hcb : (zc == 0) = false := beq_eq_false_iff_ne.2 hck
    have hcb2 : (zc != 0) = true := by simp [hck]
    go_wp2_with fail
    refine (SameDisk_any _ _ [] [] 0 0 _ he_13 (Rd.nil _)).mono ?_
    rintro e wA ⟨rfl, hbA⟩
    have hD_14 := hD_13.below hbA hD_13.lt
    have hN_14 := hN_13.below hbA hN_13.lt
    have hbw_14 := hbw_13.trans (hbA.mono hbw_13.size)
    have hx_14 := hx_13.below hbA
    have hX_14 := hX_13.below hbA hX_13.lt
    have hy_14 := hy_13.below hbA
    have hY_14 := hY_13.below hbA hY_13.lt
    have he_14 := he_13.below hbA
    have hE_14 := hE_13.below hbA hE_13.lt
    have hF_14 := hF_13.below hbA hF_13.lt
    have hz_14 := hz_13.below hbA
    have hl_14 := hl_13.below hbA
    have hZ_14 := hZ_13.below hbA hZ_13.lt
    have hG_14 := hG_13.below hbA hG_13.lt
    have hW_14 := hW.below hbA hW.lt
    clear hD_13 hN_13 hbw_13 hx_13 hX_13 hy_13 hY_13 he_13 hE_13 hF_13 hz_13 hl_13 hZ_13 hG_13 hW hbA q0 q1 f0 f1 g0 g1 e0 e1 ql fl gl el
    have z0 := hZ_14.cell 0
    have z1 := hZ_14.cell 1
    have zl := hZ_14.lt
    simp at z0 z1
    go_wp2_with fail
    refine (SameDisk_any _ _ [] [] 0 0 _ hz_14 (Rd.nil _)).mono ?_
    rintro e wB ⟨rfl, hbB⟩
    go_wp2_with fail
    go_ret
    exact ⟨rfl, hbw_14.trans (hbB.mono hbw_14.size)⟩
  subst hck
  obtain ⟨hk1, hk2, hk3⟩ := checkR_zero HCK.out
  clear q0 q1 f0 f1 g0 g1 e0 e1 ql fl gl el
  clear hX_13
  clear hx_13
  clear hY_13
  clear hy_13
  have d0 := hD_13.cell 0
  have d1 := hD_13.cell 1
  have dl := hD_13.lt
  have q0 := hW.cell 0
  have q1 := hW.cell 1
  have ql := hW.lt
  simp at d0 d1 q0 q1
  go_wp2_with fail
  refine (Logged_any _ bs _ (hu.below hbw_13) hk1).mono ?_
  rintro e w15 ⟨vn, rfl, hn, hb15⟩
  obtain ⟨no, ncap, hvn, hn4, hn5⟩ := hn.shape
  subst hvn
  unfold maxLen at hn5
  have hD_24 := hD_13.below hb15 hD_13.lt
  have hN_24 := hN_13.below hb15 hN_13.lt
  have hbw_24 := hbw_13.trans (hb15.mono hbw_13.size)
  have he_24 := he_13.below hb15
  have hE_24 := hE_13.below hb15 hE_13.lt
  have hF_24 := hF_13.below hb15 hF_13.lt
  have hz_24 := hz_13.below hb15
  have hl_24 := hl_13.below hb15
  have hZ_24 := hZ_13.below hb15 hZ_13.lt
  have hG_24 := hG_13.below hb15 hG_13.lt
  have hW_24 := hW.below hb15 hW.lt
  clear hD_13 hN_13 hbw_13 he_13 hE_13 hF_13 hz_13 hl_13 hZ_13 hG_13 hW hb15 d0 d1 q0 q1 dl ql
  clear hW_24
  have m0 := hN_24.cell 0
  have m1 := hN_24.cell 1
  have ml := hN_24.lt
  simp at m0 m1
  go_wp2_with fail
  refine (NoteFault_any s _ cs _ (hv.below hbw_24)).mono ?_
  rintro e w16 ⟨rfl, hb16⟩
  generalize hNF : noteF s cs = NF at *
  have HNF := hide hNF
  clear hNF
  obtain ⟨nx, ny⟩ := NF
  have hD_25 := hD_24.below hb16 hD_24.lt
  have hN_25 := hN_24.below hb16 hN_24.lt
  have hbw_25 := hbw_24.trans (hb16.mono hbw_24.size)
  have he_25 := he_24.below hb16
  have hE_25 := hE_24.below hb16 hE_24.lt
  have hF_25 := hF_24.below hb16 hF_24.lt
  have hz_25 := hz_24.below hb16
  have hl_25 := hl_24.below hb16
  have hZ_25 := hZ_24.below hb16 hZ_24.lt
  have hG_25 := hG_24.below hb16 hG_24.lt
  have hn_25 := hn.below hb16
  clear hD_24 hN_24 hbw_24 he_24 hE_24 hF_24 hz_24 hl_24 hZ_24 hG_24 hn hb16 m0 m1 ml
  unfold fltC
  obtain ⟨hV, hP, hbA⟩ := two_boxes w16 28 42 #[.int .i64 nx, .int .i64 ny] #[.slice none 0 0]
  have HV := hide hV
  have HP := hide hP
  have HBA := hide hbA
  clear hV hP hbA
  go_upto_if 93 with fail
  generalize (w16.alloc (.cells #[.int .i64 nx, .int .i64 ny] 28)).alloc (.cells #[.slice none 0 0] 42) = w17 at *
  generalize hzV : w16.heap.size = zV at *
  have HZV := hide hzV
  clear hzV
  go_cut [] (fun wc => ∃ (fv : Value) (fr : List UInt8), Bk wc zV 28 #[.int .i64 ec, .int .i64 ea] ∧ Bk wc (zV + 1) 42 #[fv] ∧ Rd wc fv (bc fr) ∧ (ec = 0 → eb = bs ++ fr ∧ ek = k ∧ ea = 0) ∧ (ec ≠ 0 → eb = [] ∧ ek = 0) ∧ fr.length ≤ 70000 ∧ Below zV w16 wc)
  case first =>
    have hV := HV.out
    have hP := HP.out
    have hbA := HBA.out
    have hzA := hP.lt
    have hbA6 : Below zV w16 w17 := hbA
    clear HV HP HBA
    by_cases hnx : nx = 0
    case neg =>
      have hE := HLD.out
      rw [logD_note HCK.out (by rw [HNF.out]; exact hnx), HNF.out] at hE
      simp only [Prod.mk.injEq] at hE
      obtain ⟨rfl, rfl, rfl, rfl⟩ := hE
      have hnb : (nx == 0) = false := beq_eq_false_iff_ne.2 hnx
      go_wp2_with fail
      go_meet
      case rel => exact ⟨.slice none 0 0, [], hV, hP, Rd.nil _, (by intro h; exact absurd h hnx), (by first | simp | exact fun _ => ⟨rfl, rfl⟩), by simp, hbA6⟩
    subst hnx
    obtain ⟨hz0, hs1, hs2, hl0, hl20, hck2⟩ := noteF_zero (s := s) (cs := cs) (by rw [HNF.out])
    have hny : ny = 0 := by rw [HNF.out] at hz0; simpa using hz0
    subst hny
    have hnl := noteB_len (s := s) (cs := cs) (by rw [HNF.out])
    have HCO : Hid (∀ c ∈ cs, codeC c = 0) := hide (fun c hc => fine_code (by rw [hck2]) hc)
    have hl9 : cs.length ≤ 1000 := by omega
    obtain ⟨m, rfl⟩ : ∃ m : Nat, s = (m : Int) := ⟨s.toNat, by omega⟩
    have hm9 : m ≤ 1000000000 := by omega
    have hnz : (noteF (m : Int) cs).1 = 0 := by rw [HNF.out]
    have HNZ := hide hnz
    clear hnz hz0 hck2
    have hzz1 : zV ≤ w16.heap.size := by have := HZV.out; omega
    have hzz2 : w16.heap.size ≤ zV := by have := HZV.out; omega
    have HD16 := hide hD_25
    have HN16 := hide hN_25
    have Hn16 := hide hn_25
    have HBW16 := hide hbw_25
    clear hD_25 hN_25 hbw_25 he_25 hE_25 hF_25 hz_25 hl_25 hZ_25 hG_25 hn_25
    have hDA := HD16.out.below hbA6 (by have := HD16.out.lt; omega)
    have hNA := HN16.out.below hbA6 (by have := HN16.out.lt; omega)
    have hbwA := HBW16.out.trans (hbA6.mono (by have := HBW16.out.size; omega))
    have m0 := hNA.cell 0
    have m1 := hNA.cell 1
    simp at m0 m1
    have hnl2 := hNA.lt
    go_wp2_with fail
    refine (NoteBytes_any m _ cs _ (hv.below hbwA) hm9 HCO.out hl9).mono ?_
    rintro e w18 ⟨v18, rfl, hr18, hb18, _⟩
    have hPB := hP.below hb18 hP.lt
    have hVB := hV.below hb18 hV.lt
    have hbB6 := hbA6.trans (hb18.mono (by omega))
    clear m0 m1 hDA hNA hP hV hbwA
    go_wp2_with fail
    refine (Framed_any _ (noteB m cs) _ hr18 (by omega)).mono ?_
    rintro e w19 ⟨v19, rfl, hr19, hb19, hn19⟩
    obtain ⟨fo, fcap, hfv, _, _⟩ := hr19.shape
    rw [bc_length] at hfv
    subst hfv
    have hfl := framed_length (noteB m cs)
    generalize hFR : framed (noteB m cs) = FR at *
    have HFR := hide hFR
    have hfl2 : FR.length ≤ 7000 := by omega
    clear hFR hfl
    have hPC := hPB.below hb19 hPB.lt
    have hVC := hVB.below hb19 hVB.lt
    have hz18 := hb18.size
    have hz19 := hb19.size
    have hbC6 := hbB6.trans (hb19.mono (by omega))
    clear hPB hVB hbB6 hr18
    have p0 := hPC.cell 0
    have p1 := hPC.frozen 0
    have pl := hPC.lt
    simp at p0
    go_upto_region 19 with fail
    have hPE := hPC.set 0 (.slice fo FR.length fcap)
    have hVE := hVC.othN (p := ⟨zV + 1, 0, none⟩) (by simp) (.slice fo FR.length fcap)
    have hrE := hr19.setNew hn19 (p := ⟨zV + 1, 0, none⟩) (by simp only; omega) (.slice fo FR.length fcap)
    have hbE6 := belowSet hbC6 (by omega) 0 (.slice fo FR.length fcap) (R := zV + 1) (by omega)
    simp at hPE
    generalize w19.setCell ⟨zV + 1, 0, none⟩ (.slice fo FR.length fcap) = w20 at *
    have hDE := HD16.out.below hbE6 (by have := HD16.out.lt; omega)
    have hNE := HN16.out.below hbE6 (by have := HN16.out.lt; omega)
    clear p0 p1 pl hPC hVC hbC6 hr19
    have p0 := hPE.cell 0
    have pl := hPE.lt
    have d0 := hDE.cell 0
    have dl := hDE.lt
    have m0 := hNE.cell 0
    have ml := hNE.lt
    have e0 := hVE.cell 0
    have e1 := hVE.cell 1
    have e2 := hVE.frozen 0
    have e3 := hVE.frozen 1
    have el := hVE.lt
    simp at p0 d0 m0 e0 e1
    have hsr := sizeR_le bs
    obtain ⟨hr1, hr2⟩ := lastR_range bs
    have HLAST := hide (lastR_eq bs)
    have HPE := hide hPE
    have HVE := hide hVE
    have HRE := hide hrE
    have HBE6 := hide hbE6
    clear hPE hVE hrE hDE hNE hbE6
    by_cases hse : sizeR bs = bs.length
    case neg =>
      have hE := HLD.out
      rw [logD_state HCK.out HNZ.out (.inl (by omega))] at hE
      simp only [Prod.mk.injEq] at hE
      obtain ⟨rfl, rfl, rfl, rfl⟩ := hE
      have hb1 : (((sizeR bs : Nat) : Int) != (bs.length : Int)) = true := by simp; omega
      have hb2 : (sizeR bs != bs.length) = true := by simp [hse]
      go_wp2_with fail
      go_quiet (fail)
      go_wp2_with fail
      refine (FC_any 11 0 _).mono ?_
      rintro e wF ⟨rfl, hbF⟩
      have hbF1 : Below w20.heap.size w20 wF := ⟨hbF.os, hbF.tape, hbF.output, hbF.size, hbF.block⟩
      have hVF := HVE.out.below hbF1 HVE.out.lt
      have hPF := HPE.out.below hbF1 HPE.out.lt
      have hrF := HRE.out.below hbF1
      have hbF6 := HBE6.out.trans (hbF1.mono (by omega))
      have hbFs := hbF1.size
      have k0 := hVF.cell 0
      have k1 := hVF.cell 1
      have k2 := hVF.frozen 0
      have k3 := hVF.frozen 1
      have kl := hVF.lt
      simp at k0 k1
      unfold fltC
      go_wp2_with fail
      go_meet
      case rel => exact ⟨.slice fo FR.length fcap, FR, hVF.store2 _ _, (hPF.othN (by simp) _).othN (by simp) _, (hrF.setNew hn19 (by simp only; omega) _).setNew hn19 (by simp only; omega) _, (by first | simp | exact fun h => absurd h (by decide)), (by first | simp | exact fun _ => ⟨rfl, rfl⟩), by omega, belowSet (belowSet hbF6 (by omega) 0 _ (Nat.le_refl _)) (by simp; omega) 1 _ (Nat.le_refl _)⟩
    have hb1 : (((sizeR bs : Nat) : Int) != (bs.length : Int)) = false := by simp [hse]
    have hb2 : (sizeR bs != bs.length) = false := by simp [hse]
    have HSE := hide hse
    clear hse
    by_cases hno : (notesR bs).length = 0
    · have hl9z : notesR bs = [] := List.eq_nil_of_length_eq_zero hno
      have HNO : Hid (¬ (sizeR bs < bs.length ∨ follB (lastR bs) (m : Int) = false)) := hide (by have h1 := HSE.out; have h2 := HLAST.out; rw [hl9z] at h2; rw [h2, h1]; simp [follB])
      have hnd : decide (0 < (notesR bs).length) = false := decide_eq_false (by omega)
      have hnd2 : decide ((0 : Int) < ((notesR bs).length : Nat)) = false := decide_eq_false (by omega)
      clear hno hl9z
      go_wp2_with fail
      go_quiet (fail)
      by_cases hmuch : 60000 < bs.length + FR.length
      · have hE := HLD.out
        rw [logD_much HCK.out HNZ.out HNO.out (by rw [HFR.out]; exact hmuch)] at hE
        simp only [Prod.mk.injEq] at hE
        obtain ⟨rfl, rfl, rfl, rfl⟩ := hE
        have hmi : (60000 : Int) < (bs.length : Int) + (FR.length : Int) := by omega
        go_wp2_with fail
        refine (FC_any 9 0 _).mono ?_
        rintro e wF ⟨rfl, hbF⟩
        have hbF1 : Below w20.heap.size w20 wF := ⟨hbF.os, hbF.tape, hbF.output, hbF.size, hbF.block⟩
        have hVF := HVE.out.below hbF1 HVE.out.lt
        have hPF := HPE.out.below hbF1 HPE.out.lt
        have hrF := HRE.out.below hbF1
        have hbF6 := HBE6.out.trans (hbF1.mono (by omega))
        have hbFs := hbF1.size
        have k0 := hVF.cell 0
        have k1 := hVF.cell 1
        have k2 := hVF.frozen 0
        have k3 := hVF.frozen 1
        have kl := hVF.lt
        simp at k0 k1
        unfold fltC
        go_wp2_with fail
        go_meet
        case rel => exact ⟨.slice fo FR.length fcap, FR, hVF.store2 _ _, (hPF.othN (by simp) _).othN (by simp) _, (hrF.setNew hn19 (by simp only; omega) _).setNew hn19 (by simp only; omega) _, (by first | simp | exact fun h => absurd h (by decide)), (by first | simp | exact fun _ => ⟨rfl, rfl⟩), by omega, belowSet (belowSet hbF6 (by omega) 0 _ (Nat.le_refl _)) (by simp; omega) 1 _ (Nat.le_refl _)⟩
      · have hE := HLD.out
        rw [logD_ok HCK.out HNZ.out HNO.out (by rw [HFR.out]; exact hmuch), HFR.out] at hE
        simp only [Prod.mk.injEq] at hE
        obtain ⟨rfl, rfl, rfl, rfl⟩ := hE
        have hmi : ¬ (60000 : Int) < (bs.length : Int) + (FR.length : Int) := by omega
        go_wp2_with fail
        go_meet
        case rel => exact ⟨.slice fo FR.length fcap, FR, HVE.out, HPE.out, HRE.out, (by first | simp | exact fun _ => ⟨rfl, rfl, rfl⟩), (by first | simp | exact fun h => absurd rfl h), by omega, ⟨HBE6.out.os, HBE6.out.tape, HBE6.out.output, HBE6.out.size, HBE6.out.block⟩⟩
    · obtain ⟨j, hj⟩ : ∃ j, (notesR bs).length = j + 1 := ⟨(notesR bs).length - 1, by omega⟩
      obtain ⟨x9, hx9⟩ : ∃ x9, (notesR bs)[j]? = some x9 := ⟨_, List.getElem?_eq_getElem (by omega)⟩
      have hlst : lastR bs = x9.seq := by rw [HLAST.out, List.getLastD_eq_getLast?, List.getLast?_map, List.getLast?_eq_getElem?, hj, Nat.add_sub_cancel, hx9]; rfl
      obtain ⟨b9, o9, y9, hno9, hb9, c0, _, _⟩ := Hn16.out.hereD hx9
      subst hno9
      rw [← hlst] at c0
      have c1 : w20.cell? ⟨b9, o9 + j * 2, none⟩ = some (.int .i64 (lastR bs)) := by rw [HBE6.out.cell (by simp only; omega)]; exact c0
      have hl1 : 1 ≤ x9.seq := by
        have hm1 := List.mem_of_getElem? hx9
        rw [notesR] at hm1
        obtain ⟨p9, hp9, rfl⟩ := List.mem_map.1 hm1
        exact (noteF_zero (logGo_fine _ _ _ _ p9 hp9)).2.1
      rw [← hlst] at hl1
      have hnd : decide ((j : Int) + 1 > 0) = true := decide_eq_true (by omega)
      have hnd2 : decide ((0 : Int) < (j : Int) + 1) = true := decide_eq_true (by omega)
      have hj1 : (0 : Int) ≤ (j : Int) + 1 - 1 := by omega
      have hj2 : (j : Int) + 1 - 1 < (j : Int) + 1 := by omega
      have hjj : (j : Int) + 1 - 1 = (j : Int) := by omega
      have hwc : IntKind.i64.wrap ((m : Int) - 1) = (m : Int) - 1 := by rw [IntKind.wrap_i64]; omega
      rw [hj] at hn4 ⊢
      have HJ := hide hj
      clear hj
      clear hx9 c0 hno hlst
      by_cases hfo : lastR bs = (m : Int) - 1
      · have HNO : Hid (¬ (sizeR bs < bs.length ∨ follB (lastR bs) (m : Int) = false)) := hide (by have h1 := HSE.out; rw [h1]; simp [follB]; omega)
        have hcb : (lastR bs == (m : Int) - 1) = true := by simp [hfo]
        have hcb2 : (lastR bs != (m : Int) - 1) = false := by simp [hfo]
        go_wp2_with fail
        go_quiet (fail)
        by_cases hmuch : 60000 < bs.length + FR.length
        · have hE := HLD.out
          rw [logD_much HCK.out HNZ.out HNO.out (by rw [HFR.out]; exact hmuch)] at hE
          simp only [Prod.mk.injEq] at hE
          obtain ⟨rfl, rfl, rfl, rfl⟩ := hE
          have hmi : (60000 : Int) < (bs.length : Int) + (FR.length : Int) := by omega
          go_wp2_with fail
          refine (FC_any 9 0 _).mono ?_
          rintro e wF ⟨rfl, hbF⟩
          have hbF1 : Below w20.heap.size w20 wF := ⟨hbF.os, hbF.tape, hbF.output, hbF.size, hbF.block⟩
          have hVF := HVE.out.below hbF1 HVE.out.lt
          have hPF := HPE.out.below hbF1 HPE.out.lt
          have hrF := HRE.out.below hbF1
          have hbF6 := HBE6.out.trans (hbF1.mono (by omega))
          have hbFs := hbF1.size
          have k0 := hVF.cell 0
          have k1 := hVF.cell 1
          have k2 := hVF.frozen 0
          have k3 := hVF.frozen 1
          have kl := hVF.lt
          simp at k0 k1
          unfold fltC
          go_wp2_with fail
          rw [← HJ.out]
          go_meet
          case rel => exact ⟨.slice fo FR.length fcap, FR, hVF.store2 _ _, (hPF.othN (by simp) _).othN (by simp) _, (hrF.setNew hn19 (by simp only; omega) _).setNew hn19 (by simp only; omega) _, (by first | simp | exact fun h => absurd h (by decide)), (by first | simp | exact fun _ => ⟨rfl, rfl⟩), by omega, belowSet (belowSet hbF6 (by omega) 0 _ (Nat.le_refl _)) (by simp; omega) 1 _ (Nat.le_refl _)⟩
        · have hE := HLD.out
          rw [logD_ok HCK.out HNZ.out HNO.out (by rw [HFR.out]; exact hmuch), HFR.out] at hE
          simp only [Prod.mk.injEq] at hE
          obtain ⟨rfl, rfl, rfl, rfl⟩ := hE
          have hmi : ¬ (60000 : Int) < (bs.length : Int) + (FR.length : Int) := by omega
          go_wp2_with fail
          rw [← HJ.out]
          go_meet
          case rel => exact ⟨.slice fo FR.length fcap, FR, HVE.out, HPE.out, HRE.out, (by first | simp | exact fun _ => ⟨rfl, rfl, rfl⟩), (by first | simp | exact fun h => absurd rfl h), by omega, ⟨HBE6.out.os, HBE6.out.tape, HBE6.out.output, HBE6.out.size, HBE6.out.block⟩⟩
      · have hE := HLD.out
        rw [logD_state HCK.out HNZ.out (.inr (by simp [follB]; omega))] at hE
        simp only [Prod.mk.injEq] at hE
        obtain ⟨rfl, rfl, rfl, rfl⟩ := hE
        have hcb : (lastR bs == (m : Int) - 1) = false := by simp [hfo]
        have hcb2 : (lastR bs != (m : Int) - 1) = true := by simp [hfo]
        go_wp2_with fail
        go_quiet (fail)
        go_wp2_with fail
        refine (FC_any 11 0 _).mono ?_
        rintro e wF ⟨rfl, hbF⟩
        have hbF1 : Below w20.heap.size w20 wF := ⟨hbF.os, hbF.tape, hbF.output, hbF.size, hbF.block⟩
        have hVF := HVE.out.below hbF1 HVE.out.lt
        have hPF := HPE.out.below hbF1 HPE.out.lt
        have hrF := HRE.out.below hbF1
        have hbF6 := HBE6.out.trans (hbF1.mono (by omega))
        have hbFs := hbF1.size
        have k0 := hVF.cell 0
        have k1 := hVF.cell 1
        have k2 := hVF.frozen 0
        have k3 := hVF.frozen 1
        have kl := hVF.lt
        simp at k0 k1
        unfold fltC
        go_wp2_with fail
        rw [← HJ.out]
        go_meet
        case rel => exact ⟨.slice fo FR.length fcap, FR, hVF.store2 _ _, (hPF.othN (by simp) _).othN (by simp) _, (hrF.setNew hn19 (by simp only; omega) _).setNew hn19 (by simp only; omega) _, (by first | simp | exact fun h => absurd h (by decide)), (by first | simp | exact fun _ => ⟨rfl, rfl⟩), by omega, belowSet (belowSet hbF6 (by omega) 0 _ (Nat.le_refl _)) (by simp; omega) 1 _ (Nat.le_refl _)⟩
  case rest =>
    clear HV HP HBA
    obtain ⟨fv, fr, hV, hP, hfr, hok, hbad, hfl, hbc⟩ := hcut
    rename World => wc
    have hbd : Below w16.heap.size w16 wc := by rw [HZV.out]; exact hbc
    have hzz1 : zV ≤ w16.heap.size := by have := HZV.out; omega
    have HOK := hide hok
    have HBAD := hide hbad
    clear hok hbad hbc
    have hD_30 := hD_25.below hbd hD_25.lt
    have hN_30 := hN_25.below hbd hN_25.lt
    have hE_30 := hE_25.below hbd hE_25.lt
    have hF_30 := hF_25.below hbd hF_25.lt
    have hZ_30 := hZ_25.below hbd hZ_25.lt
    have hG_30 := hG_25.below hbd hG_25.lt
    have he_30 := he_25.below hbd
    have hz_30 := hz_25.below hbd
    have hl_30 := hl_25.below hbd
    have hn_30 := hn_25.below hbd
    have hbw_30 := hbw_25.trans (hbd.mono hbw_25.size)
    clear hD_25 hN_25 hE_25 hF_25 hZ_25 hG_25 he_25 hz_25 hl_25 hn_25 hbw_25 hbd
    have d0 := hD_30.cell 0
    have d1 := hD_30.cell 1
    have dl := hD_30.lt
    have e0 := hE_30.cell 0
    have e1 := hE_30.cell 1
    have el := hE_30.lt
    have f0 := hF_30.cell 0
    have f1 := hF_30.cell 1
    have fl := hF_30.lt
    have v0 := hV.cell 0
    have v1 := hV.cell 1
    have vl := hV.lt
    simp at d0 d1 e0 e1 f0 f1 v0 v1
    have HP := hide hP
    have HFR := hide hfr
    clear hP hfr
    go_wp2_with fail
    refine (diskAsL_true _ _ _ eb ek ec ea _ he_30 HBAD.out (fun h0 W hW => ?_)).mono ?_
    · obtain ⟨rfl, rfl, _⟩ := HOK.out h0
      exact Logs1_any _ _ _ fv bs fr ek W (by exact hD_30.below hW hD_30.lt) (by rw [(HP.out.below hW HP.out.lt).cell 0]; rfl) (hu.below (hbw_30.trans (hW.mono hbw_30.size))) (HFR.out.below hW) (by omega)
    rintro e w31 ⟨rfl, hb31⟩
    have hD_31 := hD_30.below hb31 hD_30.lt
    have hZ_31 := hZ_30.below hb31 hZ_30.lt
    have hG_31 := hG_30.below hb31 hG_30.lt
    have hz_31 := hz_30.below hb31
    have hl_31 := hl_30.below hb31
    have hn_31 := hn_30.below hb31
    have hbw_31 := hbw_30.trans (hb31.mono hbw_30.size)
    clear hD_30 hN_30 hE_30 hF_30 hZ_30 hG_30 he_30 hz_30 hl_30 hn_30 hbw_30 hb31 hV HP HFR d0 d1 dl e0 e1 el f0 f1 fl v0 v1 vl
    have d0 := hD_31.cell 0
    have d1 := hD_31.cell 1
    have dl := hD_31.lt
    have z0 := hZ_31.cell 0
    have z1 := hZ_31.cell 1
    have zl := hZ_31.lt
    have g0 := hG_31.cell 0
    have g1 := hG_31.cell 1
    have gl := hG_31.lt
    simp at d0 d1 z0 z1 g0 g1
    have hsr := sizeR_le bs
    by_cases hmn : 1000 < (notesR bs).length
    · obtain ⟨rfl, rfl, rfl⟩ : zb = [] ∧ zn = [] ∧ zc = 2 := by have h := HRD.out; rw [replD_many HCK.out hmn] at h; simp only [Prod.mk.injEq] at h; exact ⟨h.1.symm, h.2.1.symm, h.2.2.symm⟩
      have hmi : (1000 : Int) < ((notesR bs).length : Nat) := by omega
      have hkeep : ∀ W, Below w31.heap.size w31 W → W.cell? ⟨zZ + 1, 0, none⟩ = some (.int .i64 2) ∧ W.cell? ⟨zZ + 1, 1, none⟩ = some (.int .i64 0) ∧ W.cell? ⟨zZ, 0, none⟩ = some (.slice zo 0 zcap) ∧ W.cell? ⟨zZ, 1, none⟩ = some (.int .i64 0) :=
        fun W h => ⟨(hG_31.below h hG_31.lt).cell 0, (hG_31.below h hG_31.lt).cell 1, (hZ_31.below h hZ_31.lt).cell 0, (hZ_31.below h hZ_31.lt).cell 1⟩
      have HKEEP := hide hkeep
      have HZZ := hide (show ∀ W, Below w31.heap.size w31 W → Rd W (.slice zo 0 zcap) (bc []) from fun W h => hz_31.below h)
      have HBW := hide (show ∀ W, Below w31.heap.size w31 W → Below w.heap.size w W from fun W h => hbw_31.trans (h.mono hbw_31.size))
      clear hkeep hD_31 hZ_31 hG_31 hz_31 hl_31 hn_31 hbw_31
      go_upto_region 26 with fail
      go_region_held3 (fun W => W.cell? ⟨zZ + 1, 0, none⟩ = some (.int .i64 2) ∧ W.cell? ⟨zZ + 1, 1, none⟩ = some (.int .i64 0) ∧ W.cell? ⟨zZ, 0, none⟩ = some (.slice zo 0 zcap) ∧ W.cell? ⟨zZ, 1, none⟩ = some (.int .i64 0)) (exact HKEEP.out _ (by go_grown)) (first
        | (go_at_call 34; refine (SameDisk_any _ _ [] [] 0 0 _ (by exact HZZ.out _ (by go_grown)) (Rd.nil _)).mono ?_; rintro e w33 ⟨rfl, hb33⟩; have hb3133 : Below w31.heap.size w31 w33 := Below.trans (by go_grown) (hb33.mono (by simp)); have hz33 := hb3133.size)
        | (go_at_call 38; refine (F_any 2 0 _).mono ?_; rintro e w32 ⟨rfl, rfl⟩; simp only [flt]))
      all_goals
        go_wp2_with fail
        go_ret
        exact ⟨by simp, HBW.out _ hb3133⟩
    · have hrr : zb = bs.take (sizeR bs) ∧ zn = notesR bs ∧ zc = 0 := by have h := HRD.out; rw [replD_ok HCK.out hmn] at h; simp only [Prod.mk.injEq] at h; exact ⟨h.1.symm, h.2.1.symm, h.2.2.symm⟩
      obtain ⟨hrr1, hrr2, rfl⟩ := hrr
      subst hrr2
      have hzl : zb.length = sizeR bs := by rw [hrr1, List.length_take]; omega
      have HR1 := hide hrr1
      rw [hzl] at z0 z1 hZ_31 hz_31
      rw [hrr1] at hz_31
      clear hrr1 hzl HR1
      have hmi : ¬ (1000 : Int) < ((notesR bs).length : Nat) := by omega
      have hs8 := run_slice_upto (P := Try.prog) Try.underlying42 (by kernel_rfl) Try.info5 uo bs.length ucap (sizeR bs) (sizeR bs : Int) rfl (by omega)
      have hV8 := (hu.below hbw_31).upto (hi := sizeR bs) hsr
      rw [show (bc bs).take (sizeR bs) = bc (bs.take (sizeR bs)) by simp [bc, List.map_take]] at hV8
      generalize Go.sliced uo 0 (sizeR bs) ucap 1 = V8 at hs8 hV8
      obtain ⟨vo8, vc8, hv8, _, _⟩ := hV8.shape
      rw [bc_length, show (bs.take (sizeR bs)).length = sizeR bs by rw [List.length_take]; omega] at hv8
      subst hv8
      have hkeep : ∀ W, Below w31.heap.size w31 W → W.cell? ⟨zZ + 1, 0, none⟩ = some (.int .i64 0) ∧ W.cell? ⟨w.heap.size, 0, none⟩ = some (.slice uo bs.length ucap) ∧ W.cell? ⟨zZ, 0, none⟩ = some (.slice zo (sizeR bs) zcap) ∧ W.cell? ⟨zZ, 1, none⟩ = some (.int .i64 (sizeR bs : Nat)) :=
        fun W h => ⟨(hG_31.below h hG_31.lt).cell 0, (hD_31.below h hD_31.lt).cell 0, (hZ_31.below h hZ_31.lt).cell 0, (hZ_31.below h hZ_31.lt).cell 1⟩
      have HKEEP := hide hkeep
      have HZZ := hide (show ∀ W, Below w31.heap.size w31 W → Rd W (.slice zo (sizeR bs) zcap) (bc (bs.take (sizeR bs))) ∧ Rd W (.slice vo8 (sizeR bs) vc8) (bc (bs.take (sizeR bs))) ∧ RdN W (.slice lo (notesR bs).length lcap) (notesR bs) ∧ RdN W (.slice no (notesR bs).length ncap) (notesR bs) from fun W h => ⟨hz_31.below h, hV8.below h, hl_31.below h, hn_31.below h⟩)
      have HBW := hide (show ∀ W, Below w31.heap.size w31 W → Below w.heap.size w W from fun W h => hbw_31.trans (h.mono hbw_31.size))
      clear hkeep hD_31 hZ_31 hG_31 hz_31 hl_31 hn_31 hbw_31 hV8
      go_upto_region 27 with fail
      go_region_held3 (fun W => W.cell? ⟨zZ + 1, 0, none⟩ = some (.int .i64 0) ∧ W.cell? ⟨w.heap.size, 0, none⟩ = some (.slice uo bs.length ucap) ∧ W.cell? ⟨zZ, 0, none⟩ = some (.slice zo (sizeR bs) zcap) ∧ W.cell? ⟨zZ, 1, none⟩ = some (.int .i64 (sizeR bs : Nat))) (exact HKEEP.out _ (by go_grown)) (first
        | (go_at_call 34; refine (SameDisk_any _ _ (bs.take (sizeR bs)) (bs.take (sizeR bs)) (sizeR bs : Nat) (sizeR bs : Nat) _ (by exact (HZZ.out _ (hb3132.trans (by go_grown))).1) (by exact (HZZ.out _ (hb3132.trans (by go_grown))).2.1)).mono ?_; rintro e w33 ⟨rfl, hb33⟩; have hb3133 : Below w31.heap.size w31 w33 := hb3132.trans (Below.trans (by go_grown) (hb33.mono hz32)); have hz33 := hb3133.size)
        | (go_at_call 41; refine (SameNotes_any _ _ (notesR bs) _ (by exact (HZZ.out _ (by go_grown)).2.2.1) (by exact (HZZ.out _ (by go_grown)).2.2.2)).mono ?_; rintro e w32 ⟨rfl, hb32⟩; have hb3132 : Below w31.heap.size w31 w32 := Below.trans (by go_grown) hb32; have hz32 := hb3132.size))
      all_goals
        go_wp2_with fail
        go_ret
        exact ⟨by simp, HBW.out _ hb3133⟩

end Go.Proofs.Ytdodajalejfbiad
