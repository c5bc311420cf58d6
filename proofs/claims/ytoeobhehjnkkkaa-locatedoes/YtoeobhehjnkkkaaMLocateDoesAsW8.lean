/-
  Texts joined: AsW8.
-/
import Derived.Test.YtoeobhehjnkkkaaMLocateDoesAsW7
/-
  Stores into places of hosts and slots of a board of one's own; turnOff.
-/
namespace Go.Proofs.Ytoeobhehjnkkkaa
open Go.RowKit Go.Maps
set_option linter.unusedVariables false

/-- A row of one's own as a block. -/
theorem owns_blk {α : Type} {K : Nat} {E : En α K} {w : World} {base : Nat} {e : TypeId} {g n cap : Nat} {cs : List α} (h : w.ownsRow base e K (.slice (some ⟨g, 0, none⟩) n cap) n (E.vs cs)) :
    ∃ cur, Blk w g e cur ∧ cs.length = n ∧ n * K ≤ cur.size := by
  rcases h.2 with ⟨hq, _⟩ | ⟨g', cap', cur, hv, hb, hg, hnc, hcm, hcs, htake⟩
  · cases hq
  · simp only [Value.slice.injEq, Option.some.injEq, Addr.mk.injEq] at hv
    obtain ⟨⟨rfl, -, -⟩, -, rfl⟩ := hv
    refine ⟨cur, hg, ?_, ?_⟩
    · have h0 := h.1
      rw [vs_length] at h0
      exact Nat.eq_of_mul_eq_mul_right E.pos h0
    · rw [hcs]
      exact Nat.mul_le_mul_right _ hnc

theorem run_store_field {α : Type} {K : Nat} {E : En α K} {P : Program} {w : World} {ty : TypeId} {base : Nat} {e : TypeId} {g n cap j k : Nat} {cs : List α} {c c' : α} {q : IntKind} {m : Int}
    (hown : w.ownsRow base e K (.slice (some ⟨g, 0, none⟩) n cap) n (E.vs cs)) (hj : cs[j]? = some c) (hk : k < K) (hu : E.v c' = (E.v c).set k (.int q m)) (hi : (P.info? ty).map (·.size) = some 1) :
    ∃ w', (Instr.storeAt ty (.pointer (some ⟨g, j * K + k, none⟩)) (.int q m)).run P w = .ok () w' ∧ w'.ownsRow base e K (.slice (some ⟨g, 0, none⟩) n cap) n (E.vs (cs.set j c')) ∧ w.grownBy w' (some g) := by
  obtain ⟨cur, hB, hl, hz⟩ := owns_blk hown
  have hjl : j < n := by rw [← hl]; exact (List.getElem?_eq_some_iff.1 hj).1
  have hlt : j * K + k < cur.size := by
    have : (j + 1) * K ≤ n * K := Nat.mul_le_mul_right _ hjl
    rw [Nat.add_mul, Nat.one_mul] at this
    omega
  exact ⟨_, run_storeAt_int hB hlt hi, owns_setField hown hj hk hu, grown_setCell w g _ _⟩

theorem run_store_fieldB {α : Type} {K : Nat} {E : En α K} {P : Program} {w : World} {ty : TypeId} {base : Nat} {e : TypeId} {g n cap j k : Nat} {cs : List α} {c c' : α} {m : Bool}
    (hown : w.ownsRow base e K (.slice (some ⟨g, 0, none⟩) n cap) n (E.vs cs)) (hj : cs[j]? = some c) (hk : k < K) (hu : E.v c' = (E.v c).set k (.bool m)) (hi : (P.info? ty).map (·.size) = some 1) :
    ∃ w', (Instr.storeAt ty (.pointer (some ⟨g, j * K + k, none⟩)) (.bool m)).run P w = .ok () w' ∧ w'.ownsRow base e K (.slice (some ⟨g, 0, none⟩) n cap) n (E.vs (cs.set j c')) ∧ w.grownBy w' (some g) := by
  obtain ⟨cur, hB, hl, hz⟩ := owns_blk hown
  have hjl : j < n := by rw [← hl]; exact (List.getElem?_eq_some_iff.1 hj).1
  have hlt : j * K + k < cur.size := by
    have : (j + 1) * K ≤ n * K := Nat.mul_le_mul_right _ hjl
    rw [Nat.add_mul, Nat.one_mul] at this
    omega
  exact ⟨_, run_storeAt_bool hB hlt hi, owns_setField hown hj hk hu, grown_setCell w g _ _⟩

/-- A number into a place of a structure of a row of one's own. -/
theorem wpList_store_field {α : Type} {K : Nat} {E : En α K} {P : Program} {ops : Array Oper} {rest : List Oper} {op : Oper} {a : Act} {w : World} {Q : Exit → Act → World → Prop} {ty : TypeId} {x y : Operand} {base : Nat} {e : TypeId} {g n cap j k off : Nat} {cs : List α} {c c' : α} {q : IntKind} {m : Int}
    (hown : w.ownsRow base e K (.slice (some ⟨g, 0, none⟩) n cap) n (E.vs cs)) (hj : cs[j]? = some c) (hk : k < K) (hu : E.v c' = (E.v c).set k (.int q m)) (hoff : off = j * K + k)
    (hgd : op.guard = none) (ho : op.op = .store ty x y) (hx : a.eval x = .pointer (some ⟨g, off, none⟩)) (hy : a.eval y = .int q m) (hi : (P.info? ty).map (·.size) = some 1)
    (h : ∀ w', w'.ownsRow base e K (.slice (some ⟨g, 0, none⟩) n cap) n (E.vs (cs.set j c')) → w.grownBy w' (some g) → wpList P ops Q rest (a.put op.dst undef) w') : wpList P ops Q (op :: rest) a w :=
  wpList_plain hgd fun _ hK => by
    subst hoff
    obtain ⟨w', hr, h1, h2⟩ := run_store_field (ty := ty) (P := P) hown hj hk hu hi
    unfold Oper.wp execOp
    simp only [ho, hx, hy, hr, Sem.run_bind, Sem.run_pure, Result.andThen_ok]
    exact hK _ _ (h w' h1 h2)

theorem wpList_store_fieldB {α : Type} {K : Nat} {E : En α K} {P : Program} {ops : Array Oper} {rest : List Oper} {op : Oper} {a : Act} {w : World} {Q : Exit → Act → World → Prop} {ty : TypeId} {x y : Operand} {base : Nat} {e : TypeId} {g n cap j k off : Nat} {cs : List α} {c c' : α} {m : Bool}
    (hown : w.ownsRow base e K (.slice (some ⟨g, 0, none⟩) n cap) n (E.vs cs)) (hj : cs[j]? = some c) (hk : k < K) (hu : E.v c' = (E.v c).set k (.bool m)) (hoff : off = j * K + k)
    (hgd : op.guard = none) (ho : op.op = .store ty x y) (hx : a.eval x = .pointer (some ⟨g, off, none⟩)) (hy : a.eval y = .bool m) (hi : (P.info? ty).map (·.size) = some 1)
    (h : ∀ w', w'.ownsRow base e K (.slice (some ⟨g, 0, none⟩) n cap) n (E.vs (cs.set j c')) → w.grownBy w' (some g) → wpList P ops Q rest (a.put op.dst undef) w') : wpList P ops Q (op :: rest) a w :=
  wpList_plain hgd fun _ hK => by
    subst hoff
    obtain ⟨w', hr, h1, h2⟩ := run_store_fieldB (ty := ty) (P := P) hown hj hk hu hi
    unfold Oper.wp execOp
    simp only [ho, hx, hy, hr, Sem.run_bind, Sem.run_pure, Result.andThen_ok]
    exact hK _ _ (h w' h1 h2)

/-- What a board's method leaves: whatever block is not the board's own ones. -/
structure KpB (w w' : World) (B : Nat) (hv sv : Value) : Prop where
  os : w'.os = w.os
  tape : w'.tape = w.tape
  output : w'.output = w.output
  size : w.heap.size ≤ w'.heap.size
  block : ∀ k, k < w.heap.size → k ≠ B → some k ≠ hv.ownBlock → some k ≠ sv.ownBlock → w'.heap[k]? = w.heap[k]?

theorem KpB.of_below {w w' : World} {B : Nat} {hv sv : Value} (h : Below w.heap.size w w') : KpB w w' B hv sv :=
  ⟨h.os, h.tape, h.output, h.size, fun k hk _ _ _ => h.block k hk⟩

theorem KpB.of_grown {w w' : World} {B : Nat} {hv sv : Value} {o : Option Nat} (h : w.grownBy w' o) (ho : o = some B ∨ o = hv.ownBlock ∨ o = sv.ownBlock) : KpB w w' B hv sv :=
  ⟨h.os, h.tape, h.output, h.size, fun k hk h1 h2 h3 => h.block k hk (fun q => by
    rcases ho with ho | ho | ho
    · rw [ho] at q; cases q; exact h1 rfl
    · rw [ho] at q; exact h2 q
    · rw [ho] at q; exact h3 q)⟩

/-- The slots are others. -/
theorem BdAt.slots {w w' : World} {base B : Nat} {b : Bd} {hv : Value} {g n cap : Nat} {sl : List Sl} (h : BdAt w base B b hv (.slice (some ⟨g, 0, none⟩) n cap)) (hg : w.grownBy w' (some g))
    (ho : w'.ownsRow base 46 6 (.slice (some ⟨g, 0, none⟩) n cap) sl.length (slE.vs sl)) (hn : n = b.sl.length) : BdAt w' base B { b with sl := sl } hv (.slice (some ⟨g, 0, none⟩) n cap) := by
  have h1 := h.slo
  rw [← hn] at h1
  obtain ⟨cur, hB, _, _⟩ := owns_blk h1
  exact ⟨h.blk.grown hg (fun q => owns_off h.slo h.blk (by decide) (by simp [Value.ownBlock]; simpa using q.symm)), owns_grownO h.hos hg (.inr (owns_off h.hos hB (by decide))), ho, h.low⟩

/-- The hosts are others. -/
theorem BdAt.hosts {w w' : World} {base B : Nat} {b : Bd} {sv : Value} {g n cap : Nat} {hs : List Ho} (h : BdAt w base B b (.slice (some ⟨g, 0, none⟩) n cap) sv) (hg : w.grownBy w' (some g))
    (ho : w'.ownsRow base 42 3 (.slice (some ⟨g, 0, none⟩) n cap) hs.length (hoE.vs hs)) (hn : n = b.hs.length) : BdAt w' base B { b with hs := hs } (.slice (some ⟨g, 0, none⟩) n cap) sv := by
  have h1 := h.hos
  rw [← hn] at h1
  obtain ⟨cur, hB, _, _⟩ := owns_blk h1
  exact ⟨h.blk.grown hg (fun q => owns_off h.hos h.blk (by decide) (by simp [Value.ownBlock]; simpa using q.symm)), ho, owns_grownO h.slo hg (.inr (owns_off h.slo hB (by decide))), h.low⟩

/-- Another block is written. -/
theorem BdAt.off {w w' : World} {base B f : Nat} {b : Bd} {hv sv : Value} {t : TypeId} {xs : Array Value} (h : BdAt w base B b hv sv) (hF : Blk w f t xs) (hg : w.grownBy w' (some f)) (h1 : t ≠ 80) (h2 : 42 ≠ t) (h3 : 46 ≠ t) : BdAt w' base B b hv sv := by
  refine ⟨h.blk.grown hg (fun q => ?_), owns_grownO h.hos hg (.inr (owns_off h.hos hF h2)), owns_grownO h.slo hg (.inr (owns_off h.slo hF h3)), h.low⟩
  simp only [Option.some.injEq] at q
  subst q
  have e1 := h.blk
  unfold Blk at e1 hF
  rw [e1] at hF
  simp only [Option.some.injEq, Obj.cells.injEq] at hF
  exact h1 hF.2.1.symm

/-- A slot that is taken from its host. -/
def offS (s : Sl) : Sl := { s with st := 0, ho := 0 }

set_option maxRecDepth 100000 in
set_option maxHeartbeats 1000000 in
theorem turnOff_any (base : Nat) (l : List Sl) (g cap k : Nat) (w : World) (h : w.ownsRow base 46 6 (.slice (some ⟨g, 0, none⟩) l.length cap) l.length (slE.vs l)) (hk : k < l.length) :
    Calls Try.prog 90 #[.pointer (some ⟨g, k * 6, none⟩)] w fun e w' => e = .returned (.tuple #[]) ∧ w'.ownsRow base 46 6 (.slice (some ⟨g, 0, none⟩) l.length cap) l.length (slE.vs (l.set k (offS (l.getD k zeroSl)))) ∧ w.grownBy w' (some g) := by
  obtain ⟨x, hx⟩ : ∃ x, l[k]? = some x := ⟨_, List.getElem?_eq_getElem hk⟩
  have hgd : l.getD k zeroSl = x := by rw [List.getD_eq_getElem?_getD, hx]; rfl
  have hx2 : (l.set k { x with st := 0 })[k]? = some { x with st := 0 } := by rw [List.getElem?_set_self (by omega)]
  have hss : (l.set k { x with st := 0 }).set k (offS x) = l.set k (offS x) := by rw [List.set_set]
  have H := hide h
  have HX := hide hx
  have HX2 := hide hx2
  have HSS := hide hss
  rw [hgd]
  clear h hx hx2 hss hgd
  go_enter Try.func90, Try.ntmps90
  go_wp2_with (first
    | (refine wpList_store_field (E := slE) (j := k) (k := 3) (c' := { x with st := 0 }) H.out HX.out (by decide) rfl rfl rfl rfl rfl rfl Try.sizeInt1 ?_; intro w1 ho1 hg1; have HO1 := hide ho1; have HG1 := hide hg1; clear ho1 hg1)
    | (refine wpList_store_field (E := slE) (j := k) (k := 4) (c' := offS x) HO1.out HX2.out (by decide) rfl rfl rfl rfl rfl rfl Try.sizeInt1 ?_; intro w2 ho2 hg2; rw [HSS.out] at ho2; have HO2 := hide ho2; have HG2 := hide hg2; clear ho2 hg2))
  exact bodyPost_end (v := .tuple #[]) (by simp [results, Try.results90, go_sem]) rfl ⟨rfl, HO2.out, grown_more HG1.out HG2.out (.inr rfl)⟩

end Go.Proofs.Ytoeobhehjnkkkaa
