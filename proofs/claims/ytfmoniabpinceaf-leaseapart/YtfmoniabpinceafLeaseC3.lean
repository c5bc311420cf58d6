/-
  The walks over the court: what deeds leave of it in memory; send.
-/
import Derived.Test.YtfmoniabpinceafLeaseC2
import Derived.Test.YtfmoniabpinceafLeaseMath5
namespace Go.Proofs.Ytfmoniabpinceaf
open Go.RowKit
set_option linter.unusedVariables false

theorem iE_vs (zs : List Int) : iE.vs zs = zs.map (Value.int .i64) := by
  induction zs with
  | nil => rfl
  | cons x r ih => rw [vs_cons, ih]; rfl

theorem iE_set (zs : List Int) (i : Nat) (x : Int) : (iE.vs zs).set i (.int .i64 x) = iE.vs (zs.set i x) := by
  rw [iE_vs, iE_vs, List.map_set]

theorem tE_set : ∀ (ts : List Tr) (i : Nat) (a b : Int), i < ts.length → ((tE.vs ts).set (i * 2) (.int .i64 a)).set (i * 2 + 1) (.int .i64 b) = tE.vs (ts.set i ⟨a, b⟩)
  | [], i, a, b, h => by simp at h
  | t :: r, 0, a, b, h => rfl
  | t :: r, i + 1, a, b, h => by
    have ih := tE_set r i a b (by simpa using h)
    have e : (i + 1) * 2 = i * 2 + 1 + 1 := by omega
    rw [List.set_cons_succ, vs_cons, vs_cons, ← ih, e]
    rfl

section
variable {w w' : World} {B : Nat} {span : Int} {c : Ct} {vc vt vw vr : Value}

theorem CtAt.ne_c (h : CtAt w B span c vc vt vw vr) : vc.ownBlock ≠ some B := owns_off h.cl h.blk (by decide)
theorem CtAt.ne_t (h : CtAt w B span c vc vt vw vr) : vt.ownBlock ≠ some B := owns_off h.tr h.blk (by decide)
theorem CtAt.ne_w (h : CtAt w B span c vc vt vw vr) : vw.ownBlock ≠ some B := owns_off h.ws h.blk (by decide)
theorem CtAt.ne_r (h : CtAt w B span c vc vt vw vr) : vr.ownBlock ≠ some B := owns_off h.rp h.blk (by decide)

/-- What a step of a court leaves as it was: what lies below its block; and whatever is of another type, but the clients' clocks. -/
structure FrC (B : Nat) (vc : Value) (w w' : World) : Prop where
  low : Below B w w'
  typ : ∀ k cs t f, w.heap[k]? = some (.cells cs t f) → t ≠ 116 → t ≠ 80 → t ≠ 105 → t ≠ 107 → some k ≠ vc.ownBlock → w'.heap[k]? = some (.cells cs t f)

theorem FrC.refl (B : Nat) (vc : Value) (w : World) : FrC B vc w w := ⟨Below.refl _ _, fun _ _ _ _ h _ _ _ _ _ => h⟩

theorem FrC.trans {B : Nat} {a b d : World} (h : FrC B vc a b) (k : FrC B vc b d) : FrC B vc a d :=
  ⟨h.low.trans k.low, fun j cs t f hj h1 h2 h3 h4 h5 => k.typ j cs t f (h.typ j cs t f hj h1 h2 h3 h4 h5) h1 h2 h3 h4 h5⟩

theorem FrC.later {B : Nat} {a b : World} (h : Below a.heap.size a b) (hB : B ≤ a.heap.size) : FrC B vc a b :=
  ⟨h.mono hB, fun j cs t f hj _ _ _ _ _ => by rw [h.block j (Array.getElem?_eq_some_iff.1 hj).1]; exact hj⟩

/-- A write into a block of the court's own types, or into the clients' clocks. -/
theorem FrC.set {B : Nat} {a b : World} (h : FrC B vc a b) {p : Addr} (hp : B ≤ p.block) {cs : Array Value} {t : TypeId} {f : Nat × Nat} (hb : b.heap[p.block]? = some (.cells cs t f)) (ht : t = 116 ∨ t = 80 ∨ t = 105 ∨ t = 107 ∨ some p.block = vc.ownBlock) (u : Value) : FrC B vc a (b.setCell p u) := by
  refine ⟨h.low.setCell hp u, fun j cs' t' f' hj h1 h2 h3 h4 h5 => ?_⟩
  have hj' := h.typ j cs' t' f' hj h1 h2 h3 h4 h5
  rw [heap_setCell_other b p j u ?_]
  · exact hj'
  · rintro rfl
    rw [hb] at hj'
    simp only [Option.some.injEq, Obj.cells.injEq] at hj'
    rcases ht with q | q | q | q | q
    · exact h1 (hj'.2.1.symm.trans q)
    · exact h2 (hj'.2.1.symm.trans q)
    · exact h3 (hj'.2.1.symm.trans q)
    · exact h4 (hj'.2.1.symm.trans q)
    · exact h5 q

/-- The wishes are other ones. -/
theorem CtAt.wish (h : CtAt w B span c vc vt vw vr) {v' : Value} {l : List Ws} {m : Nat} (hB : Blk w' B 116 (#[.int .i64 c.now, .int .i64 c.lease.hold, .int .i64 c.lease.ep, .int .i64 c.lease.til, vc, vt, vw, vr, .int .i64 span].setIfInBounds 6 v')) (ho : w'.ownsRow (B + 1) 105 3 v' m (wsE.vs l)) (hk : Kp2 w w' B vw.ownBlock) :
    CtAt w' B span { c with wishes := l } vc vt v' vr := by
  have hm := owns_len ho
  refine ⟨hB, hk.owns h.cl h.ne_c (owns_ne h.cl h.ws (by decide)), hk.owns h.tr h.ne_t (owns_ne h.tr h.ws (by decide)), ?_, hk.owns h.rp h.ne_r (owns_ne h.rp h.ws (by decide))⟩
  rw [hm]
  exact ho

theorem CtAt.reply (h : CtAt w B span c vc vt vw vr) {v' : Value} {l : List Rp} {m : Nat} (hB : Blk w' B 116 (#[.int .i64 c.now, .int .i64 c.lease.hold, .int .i64 c.lease.ep, .int .i64 c.lease.til, vc, vt, vw, vr, .int .i64 span].setIfInBounds 7 v')) (ho : w'.ownsRow (B + 1) 107 3 v' m (rpE.vs l)) (hk : Kp2 w w' B vr.ownBlock) :
    CtAt w' B span { c with replies := l } vc vt vw v' := by
  have hm := owns_len ho
  refine ⟨hB, hk.owns h.cl h.ne_c (owns_ne h.cl h.rp (by decide)), hk.owns h.tr h.ne_t (owns_ne h.tr h.rp (by decide)), hk.owns h.ws h.ne_w (owns_ne h.ws h.rp (by decide)), ?_⟩
  rw [hm]
  exact ho

theorem CtAt.keptW (h : CtAt w B span c vc vt vw vr) (hk : Kp2 w w' B vw.ownBlock) : FrC B vc w w' := by
  refine ⟨hk.below (Nat.le_of_lt h.blk.lt) (Nat.le_refl _) (fun k q => by have := (h.ws.lt k q).1; omega), fun j cs t f hj h1 h2 h3 h4 h5 => ?_⟩
  rw [hk.block j (Array.getElem?_eq_some_iff.1 hj).1 ?_ ?_]
  · exact hj
  · rintro rfl
    have := h.blk
    unfold Blk at this
    rw [hj] at this
    simp only [Option.some.injEq, Obj.cells.injEq] at this
    exact h1 this.2.1
  · intro q
    rcases h.ws.2 with ⟨e, _⟩ | ⟨g, cap, cur, e, _, hg, _⟩
    · rw [e] at q; simp [Value.ownBlock] at q
    · rw [e] at q
      simp only [Value.ownBlock, Option.some.injEq] at q
      rw [q, hg] at hj
      simp only [Option.some.injEq, Obj.cells.injEq] at hj
      exact h3 hj.2.1.symm

theorem CtAt.keptR (h : CtAt w B span c vc vt vw vr) (hk : Kp2 w w' B vr.ownBlock) : FrC B vc w w' := by
  refine ⟨hk.below (Nat.le_of_lt h.blk.lt) (Nat.le_refl _) (fun k q => by have := (h.rp.lt k q).1; omega), fun j cs t f hj h1 h2 h3 h4 h5 => ?_⟩
  rw [hk.block j (Array.getElem?_eq_some_iff.1 hj).1 ?_ ?_]
  · exact hj
  · rintro rfl
    have := h.blk
    unfold Blk at this
    rw [hj] at this
    simp only [Option.some.injEq, Obj.cells.injEq] at this
    exact h1 this.2.1
  · intro q
    rcases h.rp.2 with ⟨e, _⟩ | ⟨g, cap, cur, e, _, hg, _⟩
    · rw [e] at q; simp [Value.ownBlock] at q
    · rw [e] at q
      simp only [Value.ownBlock, Option.some.injEq] at q
      rw [q, hg] at hj
      simp only [Option.some.injEq, Obj.cells.injEq] at hj
      exact h4 hj.2.1.symm

/-- Writes into the court's own block, its clocks, its trusts. -/
theorem CtAt.frB (h : CtAt w B span c vc vt vw vr) (k : Nat) (u : Value) : FrC B vc w (w.setCell ⟨B, k, none⟩ u) := (FrC.refl B vc w).set (p := ⟨B, k, none⟩) (Nat.le_refl _) h.blk (.inl rfl) u

theorem CtAt.frLease (h : CtAt w B span c vc vt vw vr) (x y z : Value) : FrC B vc w (((w.setCell ⟨B, 1, none⟩ x).setCell ⟨B, 2, none⟩ y).setCell ⟨B, 3, none⟩ z) :=
  ((h.frB 1 x).set (p := ⟨B, 2, none⟩) (Nat.le_refl _) (h.blk.set 1 x) (.inl rfl) y).set (p := ⟨B, 3, none⟩) (Nat.le_refl _) ((h.blk.set 1 x).set 2 y) (.inl rfl) z

theorem CtAt.frC {g cap : Nat} (h : CtAt w B span c (.slice (some ⟨g, 0, none⟩) c.clocks.length cap) vt vw vr) (k : Nat) (u : Value) : FrC B (.slice (some ⟨g, 0, none⟩) c.clocks.length cap) w (w.setCell ⟨g, k, none⟩ u) := by
  rcases h.cl.2 with ⟨e, _⟩ | ⟨g', cap', cur, e, hb, hg, _⟩
  · cases e
  · simp only [Value.slice.injEq, Option.some.injEq, Addr.mk.injEq] at e
    obtain ⟨⟨rfl, -, -⟩, -, -⟩ := e
    exact (FrC.refl B _ w).set (p := ⟨g, k, none⟩) (show B ≤ g by omega) hg (.inr (.inr (.inr (.inr rfl)))) u

theorem CtAt.frT {g cap : Nat} (h : CtAt w B span c vc (.slice (some ⟨g, 0, none⟩) c.trusts.length cap) vw vr) (i j : Nat) (u v : Value) : FrC B vc w ((w.setCell ⟨g, i, none⟩ u).setCell ⟨g, j, none⟩ v) := by
  rcases h.tr.2 with ⟨e, _⟩ | ⟨g', cap', cur, e, hb, hg, _⟩
  · cases e
  · simp only [Value.slice.injEq, Option.some.injEq, Addr.mk.injEq] at e
    obtain ⟨⟨rfl, -, -⟩, -, -⟩ := e
    exact ((FrC.refl B vc w).set (p := ⟨g, i, none⟩) (show B ≤ g by omega) hg (.inr (.inl rfl)) u).set (p := ⟨g, j, none⟩) (show B ≤ g by omega) (heap_setCell_same w g i _ _ _ hg) (.inr (.inl rfl)) v

/-- The granter's clock. -/
theorem CtAt.setNow (h : CtAt w B span c vc vt vw vr) (x : Int) : CtAt (w.setCell ⟨B, 0, none⟩ (.int .i64 x)) B span { c with now := x } vc vt vw vr :=
  ⟨h.blk.set 0 (.int .i64 x), owns_setOther h.cl h.ne_c _, owns_setOther h.tr h.ne_t _, owns_setOther h.ws h.ne_w _, owns_setOther h.rp h.ne_r _⟩

/-- A client's clock. -/
theorem CtAt.setClock {g cap : Nat} (h : CtAt w B span c (.slice (some ⟨g, 0, none⟩) c.clocks.length cap) vt vw vr) (i : Nat) (x : Int) : CtAt (w.setCell ⟨g, i, none⟩ (.int .i64 x)) B span { c with clocks := c.clocks.set i x } (.slice (some ⟨g, 0, none⟩) c.clocks.length cap) vt vw vr := by
  have hB : B ≠ g := fun q => h.ne_c (by simp [Value.ownBlock, q])
  have off : ∀ {v : Value} {e : TypeId} {K n : Nat} {xs : List Value}, w.ownsRow (B + 1) e K v n xs → 3 ≠ e → v.ownBlock ≠ some g := by
    intro v e K n xs hv he q
    have := owns_ne h.cl hv he
    simp [Value.ownBlock] at this
    exact this (by rw [← q]; rfl)
  refine ⟨h.blk.other (p := ⟨g, i, none⟩) hB _, ?_, owns_setOther h.tr (p := ⟨g, i, none⟩) (off h.tr (by decide)) _, owns_setOther h.ws (p := ⟨g, i, none⟩) (off h.ws (by decide)) _, owns_setOther h.rp (p := ⟨g, i, none⟩) (off h.rp (by decide)) _⟩
  have := owns_setCell h.cl i (.int .i64 x)
  rw [iE_set] at this
  simpa using this

/-- A client's trust. -/
theorem CtAt.setTrust {g cap : Nat} (h : CtAt w B span c vc (.slice (some ⟨g, 0, none⟩) c.trusts.length cap) vw vr) {i : Nat} (hi : i < c.trusts.length) (a b : Int) : CtAt ((w.setCell ⟨g, i * 2, none⟩ (.int .i64 a)).setCell ⟨g, i * 2 + 1, none⟩ (.int .i64 b)) B span { c with trusts := c.trusts.set i ⟨a, b⟩ } vc (.slice (some ⟨g, 0, none⟩) c.trusts.length cap) vw vr := by
  have hB : B ≠ g := fun q => h.ne_t (by simp [Value.ownBlock, q])
  have off : ∀ {v : Value} {e : TypeId} {K n : Nat} {xs : List Value}, w.ownsRow (B + 1) e K v n xs → 80 ≠ e → v.ownBlock ≠ some g := by
    intro v e K n xs hv he q
    have := owns_ne h.tr hv he
    simp [Value.ownBlock] at this
    exact this (by rw [← q]; rfl)
  refine ⟨(h.blk.other (p := ⟨g, i * 2, none⟩) hB _).other (p := ⟨g, i * 2 + 1, none⟩) hB _, owns_setOther (owns_setOther h.cl (p := ⟨g, i * 2, none⟩) (off h.cl (by decide)) _) (p := ⟨g, i * 2 + 1, none⟩) (off h.cl (by decide)) _, ?_,
    owns_setOther (owns_setOther h.ws (p := ⟨g, i * 2, none⟩) (off h.ws (by decide)) _) (p := ⟨g, i * 2 + 1, none⟩) (off h.ws (by decide)) _, owns_setOther (owns_setOther h.rp (p := ⟨g, i * 2, none⟩) (off h.rp (by decide)) _) (p := ⟨g, i * 2 + 1, none⟩) (off h.rp (by decide)) _⟩
  have := owns_setCell (owns_setCell h.tr (i * 2) (.int .i64 a)) (i * 2 + 1) (.int .i64 b)
  rw [tE_set _ _ _ _ hi] at this
  simpa using this

/-- The lease. -/
theorem CtAt.setLease (h : CtAt w B span c vc vt vw vr) (l : Ls) : CtAt (((w.setCell ⟨B, 1, none⟩ (.int .i64 l.hold)).setCell ⟨B, 2, none⟩ (.int .i64 l.ep)).setCell ⟨B, 3, none⟩ (.int .i64 l.til)) B span { c with lease := l } vc vt vw vr := by
  have k : ∀ {v : Value} {e : TypeId} {K n : Nat} {xs : List Value}, w.ownsRow (B + 1) e K v n xs → v.ownBlock ≠ some B → (((w.setCell ⟨B, 1, none⟩ (.int .i64 l.hold)).setCell ⟨B, 2, none⟩ (.int .i64 l.ep)).setCell ⟨B, 3, none⟩ (.int .i64 l.til)).ownsRow (B + 1) e K v n xs :=
    fun hv hne => owns_setOther (owns_setOther (owns_setOther hv (p := ⟨B, 1, none⟩) hne _) (p := ⟨B, 2, none⟩) hne _) (p := ⟨B, 3, none⟩) hne _
  exact ⟨((h.blk.set 1 _).set 2 _).set 3 _, k h.cl h.ne_c, k h.tr h.ne_t, k h.ws h.ne_w, k h.rp h.ne_r⟩

/-- Where a client's clock and trust lie. -/
theorem CtAt.clockAt (h : CtAt w B span c vc vt vw vr) {i : Nat} {x : Int} (hi : c.clocks[i]? = some x) : ∃ g cap, vc = .slice (some ⟨g, 0, none⟩) c.clocks.length cap ∧ w.cell? ⟨g, i, none⟩ = some (.int .i64 x) ∧ w.frozen? ⟨g, i, none⟩ = false ∧ g < w.heap.size ∧ B < g := by
  have hl := (List.getElem?_eq_some_iff.1 hi).1
  obtain ⟨g, cap, cur, rfl, hb, hg, _⟩ := owns_pos h.cl (by omega)
  have hh := (RdG.ofOwns h.cl)
  obtain ⟨b, off, e, _, hat⟩ := hh.here hi
  simp only [Option.some.injEq, Addr.mk.injEq] at e
  obtain ⟨rfl, rfl, -⟩ := e
  have := hat 0 _ rfl
  rw [Nat.mul_one, Nat.zero_add, Nat.add_zero] at this
  exact ⟨g, cap, rfl, this, frozen_of_row _ _ _ _ _ hg, (Array.getElem?_eq_some_iff.1 hg).1, by omega⟩

theorem CtAt.trustAt (h : CtAt w B span c vc vt vw vr) {i : Nat} {t : Tr} (hi : c.trusts[i]? = some t) : ∃ g cap, vt = .slice (some ⟨g, 0, none⟩) c.trusts.length cap ∧ w.cell? ⟨g, i * 2, none⟩ = some (.int .i64 t.ep) ∧ w.cell? ⟨g, i * 2 + 1, none⟩ = some (.int .i64 t.til) ∧ w.frozen? ⟨g, i * 2, none⟩ = false ∧ w.frozen? ⟨g, i * 2 + 1, none⟩ = false ∧ g < w.heap.size ∧ B < g := by
  have hl := (List.getElem?_eq_some_iff.1 hi).1
  obtain ⟨g, cap, cur, rfl, hb, hg, _⟩ := owns_pos h.tr (by omega)
  have hh := (RdG.ofOwns h.tr)
  obtain ⟨b, off, e, _, hat⟩ := hh.here hi
  simp only [Option.some.injEq, Addr.mk.injEq] at e
  obtain ⟨rfl, rfl, -⟩ := e
  have h0 := hat 0 _ rfl
  have h1 := hat 1 _ rfl
  rw [Nat.zero_add, Nat.add_zero] at h0
  rw [Nat.zero_add] at h1
  exact ⟨g, cap, rfl, h0, h1, frozen_of_row _ _ _ _ _ hg, frozen_of_row _ _ _ _ _ hg, (Array.getElem?_eq_some_iff.1 hg).1, by omega⟩

end

set_option maxRecDepth 100000 in
set_option maxHeartbeats 4000000 in
theorem send_any (B : Nat) (span : Int) (c : Ct) (vc vt vw vr : Value) (i : Nat) (x : Int) (t : Tr) (w : World) (h : CtAt w B span c vc vt vw vr) (hx : c.clocks[i]? = some x) (hti : c.trusts[i]? = some t) (hw : c.wishes.length < 100) :
    Calls Try.prog 74 #[.pointer (some ⟨B, 0, none⟩), .int .i64 i] w fun e w' => e = .returned (.int .i64 0) ∧ FrC B vc w w' ∧ ∃ v', CtAt w' B span { c with wishes := c.wishes ++ [⟨i, x, if x < t.til then t.ep else 0⟩] } vc vt v' vr := by
  have HH := hide h
  have HW := hide hw
  obtain ⟨g, cap, rfl, c0, cz, cg, cB⟩ := h.clockAt hx
  obtain ⟨g2, cap2, rfl, t0, t1, tz0, tz1, tg, tB⟩ := h.trustAt hti
  have hi1 := (List.getElem?_eq_some_iff.1 hx).1
  have hi2 := (List.getElem?_eq_some_iff.1 hti).1
  have hk1 : (0 : Int) ≤ (i : Int) := by omega
  have hk2 : (i : Int) < (c.clocks.length : Int) := by omega
  have hk3 : (i : Int) < (c.trusts.length : Int) := by omega
  have b4 := h.blk.cell 4
  have b5 := h.blk.cell 5
  have bl := h.blk.lt
  simp at b4 b5
  clear h hx hti hi1 hi2 cz tz0 tz1 hw
  obtain ⟨te, tt⟩ := t
  simp only at t0 t1 ⊢
  by_cases hlt : x < tt
  · have HIF := hide (show (if x < tt then te else 0) = te from if_pos hlt)
    rw [HIF.out]
    have hA := below_alloc2 w (.cells #[.int .i64 i, .int .i64 x, .int .i64 te] 105) (.cells #[.int .i64 te, .int .i64 tt] 80)
    have hC := HH.out.below hA
    have HA := hide hA
    have HP := hide (putW_any B 6 116 _ vw c.wishes.length (B + 1) c.wishes ⟨i, x, te⟩ ((w.alloc (.cells #[.int .i64 i, .int .i64 x, .int .i64 te] 105)).alloc (.cells #[.int .i64 te, .int .i64 tt] 80)).drew hC.blk rfl (by decide) hC.ws (by have := hC.blk.lt; simp at this ⊢; omega) HW.out)
    have HC := hide hC
    clear hA hC
    go_enter Try.func74, Try.ntmps74
    go_upto_region 5 with fail
    go_region_with (go_at_call 79; refine HP.out.mono ?_; rintro e w9 ⟨v9, rfl, hB9, ho9, hk9⟩)
    all_goals
      go_wp2_with fail
      go_ret
      exact ⟨rfl, (FrC.later HA.out (Nat.le_of_lt bl)).trans (HC.out.keptW ⟨hk9.os, hk9.tape, hk9.output, hk9.size, hk9.block⟩), v9, HC.out.wish hB9 ho9 ⟨hk9.os, hk9.tape, hk9.output, hk9.size, hk9.block⟩⟩
  · have HIF := hide (show (if x < tt then te else 0) = 0 from if_neg hlt)
    rw [HIF.out]
    have hA := below_alloc2 w (.cells #[.int .i64 i, .int .i64 x, .int .i64 0] 105) (.cells #[.int .i64 te, .int .i64 tt] 80)
    have hC := HH.out.below hA
    have HA := hide hA
    have HP := hide (putW_any B 6 116 _ vw c.wishes.length (B + 1) c.wishes ⟨i, x, 0⟩ ((w.alloc (.cells #[.int .i64 i, .int .i64 x, .int .i64 0] 105)).alloc (.cells #[.int .i64 te, .int .i64 tt] 80)).drew hC.blk rfl (by decide) hC.ws (by have := hC.blk.lt; simp at this ⊢; omega) HW.out)
    have HC := hide hC
    clear hA hC
    go_enter Try.func74, Try.ntmps74
    go_upto_region 5 with fail
    go_region_with (go_at_call 79; refine HP.out.mono ?_; rintro e w9 ⟨v9, rfl, hB9, ho9, hk9⟩)
    all_goals
      go_wp2_with fail
      go_ret
      exact ⟨rfl, (FrC.later HA.out (Nat.le_of_lt bl)).trans (HC.out.keptW ⟨hk9.os, hk9.tape, hk9.output, hk9.size, hk9.block⟩), v9, HC.out.wish hB9 ho9 ⟨hk9.os, hk9.tape, hk9.output, hk9.size, hk9.block⟩⟩

set_option maxRecDepth 100000 in
set_option maxHeartbeats 4000000 in
theorem send_full (B : Nat) (span : Int) (c : Ct) (vc vt vw vr : Value) (i : Nat) (x : Int) (t : Tr) (w : World) (h : CtAt w B span c vc vt vw vr) (hx : c.clocks[i]? = some x) (hti : c.trusts[i]? = some t) (hw : c.wishes.length = 100) :
    Calls Try.prog 74 #[.pointer (some ⟨B, 0, none⟩), .int .i64 i] w fun e w' => e = .returned (.int .i64 9) ∧ FrC B vc w w' := by
  have HH := hide h
  have HW := hide hw
  obtain ⟨g, cap, rfl, c0, cz, cg, cB⟩ := h.clockAt hx
  obtain ⟨g2, cap2, rfl, t0, t1, tz0, tz1, tg, tB⟩ := h.trustAt hti
  have hi1 := (List.getElem?_eq_some_iff.1 hx).1
  have hi2 := (List.getElem?_eq_some_iff.1 hti).1
  have hk1 : (0 : Int) ≤ (i : Int) := by omega
  have hk2 : (i : Int) < (c.clocks.length : Int) := by omega
  have hk3 : (i : Int) < (c.trusts.length : Int) := by omega
  have b4 := h.blk.cell 4
  have b5 := h.blk.cell 5
  have bl := h.blk.lt
  simp at b4 b5
  clear h hx hti hi1 hi2 cz tz0 tz1 hw
  obtain ⟨te, tt⟩ := t
  simp only at t0 t1 ⊢
  by_cases hlt : x < tt
  · have HIF := hide (show (if x < tt then te else 0) = te from if_pos hlt)
    have hA := below_alloc2 w (.cells #[.int .i64 i, .int .i64 x, .int .i64 te] 105) (.cells #[.int .i64 te, .int .i64 tt] 80)
    have hC := HH.out.below hA
    have HA := hide hA
    obtain ⟨wo9, wc9, hv9⟩ := owns_shapeK hC.ws
    rw [HW.out] at hv9
    have HP := hide (putW_full B 6 116 _ wo9 wc9 ⟨i, x, te⟩ ((w.alloc (.cells #[.int .i64 i, .int .i64 x, .int .i64 te] 105)).alloc (.cells #[.int .i64 te, .int .i64 tt] 80)).drew hC.blk (by rw [hv9]; rfl))
    have HC := hide hC
    clear hA hC
    go_enter Try.func74, Try.ntmps74
    go_upto_region 5 with fail
    go_region_with (go_at_call 79; refine HP.out.mono ?_; rintro e w9 ⟨rfl, hb9⟩)
    all_goals
      go_wp2_with fail
      go_ret
      exact ⟨rfl, FrC.later (HA.out.trans (show Below w.heap.size ((w.alloc (.cells #[.int .i64 i, .int .i64 x, .int .i64 te] 105)).alloc (.cells #[.int .i64 te, .int .i64 tt] 80)) w9 from ⟨hb9.os, hb9.tape, hb9.output, hb9.size, fun k hk => hb9.block k (by simp; omega)⟩)) (Nat.le_of_lt bl)⟩
  · have HIF := hide (show (if x < tt then te else 0) = 0 from if_neg hlt)
    have hA := below_alloc2 w (.cells #[.int .i64 i, .int .i64 x, .int .i64 0] 105) (.cells #[.int .i64 te, .int .i64 tt] 80)
    have hC := HH.out.below hA
    have HA := hide hA
    obtain ⟨wo9, wc9, hv9⟩ := owns_shapeK hC.ws
    rw [HW.out] at hv9
    have HP := hide (putW_full B 6 116 _ wo9 wc9 ⟨i, x, 0⟩ ((w.alloc (.cells #[.int .i64 i, .int .i64 x, .int .i64 0] 105)).alloc (.cells #[.int .i64 te, .int .i64 tt] 80)).drew hC.blk (by rw [hv9]; rfl))
    have HC := hide hC
    clear hA hC
    go_enter Try.func74, Try.ntmps74
    go_upto_region 5 with fail
    go_region_with (go_at_call 79; refine HP.out.mono ?_; rintro e w9 ⟨rfl, hb9⟩)
    all_goals
      go_wp2_with fail
      go_ret
      exact ⟨rfl, FrC.later (HA.out.trans (show Below w.heap.size ((w.alloc (.cells #[.int .i64 i, .int .i64 x, .int .i64 0] 105)).alloc (.cells #[.int .i64 te, .int .i64 tt] 80)) w9 from ⟨hb9.os, hb9.tape, hb9.output, hb9.size, fun k hk => hb9.block k (by simp; omega)⟩)) (Nat.le_of_lt bl)⟩

end Go.Proofs.Ytfmoniabpinceaf
