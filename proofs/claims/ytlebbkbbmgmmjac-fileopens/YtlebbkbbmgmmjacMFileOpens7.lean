/-
  Texts joined: FileW9, FrameW4, TornMath, RefMath, RefW1, RefW2, RefW3.
-/
import Derived.Test.YtlebbkbbmgmmjacMFileOpens6
import Derived.Deep.RegionHeld3
/-
  The walks over file.opened and file.Open.
-/
namespace Go.Proofs.Ytlebbkbbmgmmjac
open Go.RowKit

set_option maxRecDepth 100000 in
set_option maxHeartbeats 400000 in
theorem Equal_any (u v : Value) (xs ys : List UInt8) (w : World) (h1 : Rd w u (bc xs)) (h2 : Rd w v (bc ys)) :
    Calls Try.prog 85 #[u, v] w fun e w' => e = .returned (.bool (xs == ys)) ∧ w' = w := by
  have c1 := run_string_of_rd (P := Try.prog) Try.underlying24 Try.underlying5 Try.underlying9 h1
  have c2 := run_string_of_rd (P := Try.prog) Try.underlying24 Try.underlying5 Try.underlying9 h2
  go_enter Try.func85, Try.ntmps85
  go_wp2_with fail
  go_ret
  exact ⟨rfl, rfl⟩

theorem rbR_fine {bl rows : List (List UInt8)} {cs : List Cl} (h : rbR bl rows = some cs) : cs.length ≤ 500 ∧ (checkC cs).1 = 0 := by
  unfold rbR at h
  split at h
  · cases h
  · split at h
    · split at h
      · simp only [Option.some.injEq] at h
        subst h
        exact ⟨by assumption, by assumption⟩
      · cases h
    · cases h

/-- The two result blocks of opened, and what is below. -/
structure Ow (w wr : World) : Prop where
  t : Bk wr w.heap.size 91 #[.slice none 0 0, .slice none 0 0, .slice none 0 0]
  f : Bk wr (w.heap.size + 1) 26 #[.int .i64 0, .int .i64 0]
  b : Below w.heap.size w wr

theorem Ow.below {w wr w' : World} (h : Ow w wr) (hb : Below wr.heap.size wr w') : Ow w w' :=
  ⟨h.t.below hb h.t.lt, h.f.below hb h.f.lt, h.b.trans (hb.mono h.b.size)⟩

theorem Ow.cells {w wr : World} (h : Ow w wr) : wr.cell? ⟨w.heap.size, 0, none⟩ = some (.slice none 0 0) ∧ wr.cell? ⟨w.heap.size, 1, none⟩ = some (.slice none 0 0) ∧ wr.cell? ⟨w.heap.size, 2, none⟩ = some (.slice none 0 0) ∧ wr.cell? ⟨w.heap.size + 1, 0, none⟩ = some (.int .i64 0) ∧ wr.cell? ⟨w.heap.size + 1, 1, none⟩ = some (.int .i64 0)
    ∧ wr.frozen? ⟨w.heap.size, 0, none⟩ = false ∧ wr.frozen? ⟨w.heap.size, 1, none⟩ = false ∧ wr.frozen? ⟨w.heap.size, 2, none⟩ = false ∧ wr.frozen? ⟨w.heap.size + 1, 0, none⟩ = false ∧ wr.frozen? ⟨w.heap.size + 1, 1, none⟩ = false ∧ w.heap.size + 1 < wr.heap.size :=
  ⟨h.t.cell 0, h.t.cell 1, h.t.cell 2, h.f.cell 0, h.f.cell 1, h.t.frozen 0, h.t.frozen 1, h.t.frozen 2, h.f.frozen 0, h.f.frozen 1, h.f.lt⟩

theorem Rd.notIn {w : World} {v : Value} {xs : List Value} {B : Nat} {t : TypeId} {arr : Array Value} (h : Rd w v xs) (hB : Bk w B t arr) (hne : ∀ u ∈ xs, u ∉ arr.toList) : ∀ a l c, v = .slice (some a) l c → 0 < xs.length → a.block ≠ B := by
  intro a l c hv hp e
  obtain ⟨ao, cap, hv', _, _, _, h4⟩ := h
  rw [hv] at hv'
  simp only [Value.slice.injEq] at hv'
  obtain ⟨rfl, _, _⟩ := hv'
  have hc := h4 a rfl 0 xs[0] (by simp)
  obtain ⟨b, o, rfl⟩ := add_spot hc
  simp only at e
  subst e
  rw [Addr.add_lit, hB.cell] at hc
  exact hne xs[0] (List.getElem_mem hp) (by rw [Array.mem_toList_iff]; exact Array.mem_of_getElem? hc)

theorem RdC.notIn {w : World} {v : Value} {cs : List Cl} {B : Nat} {t : TypeId} {arr : Array Value} (h : RdC w v cs) (hB : Bk w B t arr) (hs : ∀ s, Value.string s ∉ arr.toList) : ∀ a l c, v = .slice (some a) l c → 0 < cs.length → a.block ≠ B := by
  intro a l c hv hp e
  cases cs with
  | nil => simp at hp
  | cons d r =>
    rw [hv] at h
    obtain ⟨b, off, he, _, hat⟩ := h.hereD (i := 0) (c := d) rfl
    simp only [Option.some.injEq] at he
    rw [he] at e
    simp only at e
    subst e
    have hc := hat.c0
    rw [hB.cell] at hc
    exact hs d.row (by rw [Array.mem_toList_iff]; exact Array.mem_of_getElem? hc)

theorem RdC.grownT {w w' : World} {v : Value} {cs : List Cl} {R : Nat} (h : RdC w v cs) (hg : w.grownBy w' (some R)) (hR : ∀ a l c, v = .slice (some a) l c → 0 < cs.length → a.block ≠ R) : RdC w' v cs := by
  obtain ⟨ao, cap, hv, h1, h2, h3, h4⟩ := h
  refine ⟨ao, cap, hv, h1, h2, h3, fun a ha j u hu => ?_⟩
  have hc := h4 a ha j u hu
  refine hg.cell hc ?_
  subst ha
  have e : (a.add j).block = a.block := by unfold Addr.add; split <;> rfl
  rw [e]
  intro e
  refine hR a _ _ hv ?_ (by simpa using e)
  have := (List.getElem?_eq_some_iff.1 hu).1
  rw [cc_length] at this
  omega

/-- What the five stores leave. -/
theorem grown5 (w : World) (A B : Nat) (x y z p q : Value) : w.grownBy (((w.setCell ⟨A, 0, none⟩ x).setCell ⟨A, 1, none⟩ y).setCell ⟨A, 2, none⟩ z) (some A) ∧ (((w.setCell ⟨A, 0, none⟩ x).setCell ⟨A, 1, none⟩ y).setCell ⟨A, 2, none⟩ z).grownBy (((((w.setCell ⟨A, 0, none⟩ x).setCell ⟨A, 1, none⟩ y).setCell ⟨A, 2, none⟩ z).setCell ⟨B, 0, none⟩ p).setCell ⟨B, 1, none⟩ q) (some B) :=
  ⟨grownT_trans (grownT_trans (grownT_set _ _ _ _) (grownT_set _ _ _ _)) (grownT_set _ _ _ _), grownT_trans (grownT_set _ _ _ _) (grownT_set _ _ _ _)⟩

set_option maxRecDepth 100000 in
set_option maxHeartbeats 2000000 in
theorem opened_any (v : Value) (bs : List UInt8) (w : World) (hrd : Rd w v (bc bs)) :
    Calls Try.prog 56 #[v] w fun e w' => ∃ o1 n1 c1 o2 n2 c2 o3 n3 c3, e = .returned (.tuple #[.agg #[.slice o1 n1 c1, .slice o2 n2 c2, .slice o3 n3 c3], fltC (openF bs).2]) ∧ RdC w' (.slice o1 n1 c1) (openF bs).1.1 ∧ Rd w' (.slice o2 n2 c2) (sc (openF bs).1.2.1) ∧ Rd w' (.slice o3 n3 c3) (bc (openF bs).1.2.2) ∧ Below w.heap.size w w' := by
  obtain ⟨ao, cap, hv, hc1, hc2⟩ := hrd.shape
  rw [bc_length] at hc1 hv
  subst hv
  unfold maxLen at hc2
  have hO0 : Ow w ((w.alloc (.cells #[.slice none 0 0, .slice none 0 0, .slice none 0 0] 91)).alloc (.cells #[.int .i64 0, .int .i64 0] 26)) :=
    ⟨(Bk.new w _ _).below (below_alloc' _ _) (by simp), Bk.new2 w _ _ _, (below_alloc' _ _).trans ((below_alloc' _ _).mono (by simp))⟩
  by_cases hbig : 60000 < bs.length
  · have HE := hide (openF_big hbig)
    clear hO0
    go_enter Try.func56, Try.ntmps56
    go_wp2_with fail
    exact bodyPost_ret (v := .tuple #[.agg #[.slice none 0 0, .slice none 0 0, .slice none 0 0], fltC (8, 0)]) (by simp [results, Try.results56, go_sem, fltC]) rfl ⟨none, 0, 0, none, 0, 0, none, 0, 0, by rw [HE.out], by rw [HE.out]; exact RdC.nil _, by rw [HE.out]; exact Rd.nil _, by rw [HE.out]; exact Rd.nil _, by go_grown⟩
  have hsm : (bs.length : Int) ≤ 60000 := by omega
  have HBIG := hide hbig
  clear hbig
  go_enter Try.func56, Try.ntmps56
  go_wp2_with fail
  generalize (w.alloc (.cells #[.slice none 0 0, .slice none 0 0, .slice none 0 0] 91)).alloc (.cells #[.int .i64 0, .int .i64 0] 26) = wA at *
  refine (pieces_any _ bs _ (hrd.below hO0.b) (by omega)).mono ?_
  rintro e w1 ⟨hp, hb1⟩
  have hO1 := hO0.below hb1
  clear hO0
  cases hn : piecesR bs with
  | none =>
    rw [hn] at hp
    have HE := hide (openF_pieces HBIG.out hn)
    unfold piecesPost at hp
    subst hp
    obtain ⟨t0, t1, t2, f0, f1, z0, z1, z2, y0, y1, hlt⟩ := hO1.cells
    have hbw := hO1.b
    clear hn
    go_wp2_with fail
    exact bodyPost_ret (v := .tuple #[.agg #[.slice none 0 0, .slice none 0 0, .slice none 0 0], fltC (5, 0)]) (by simp [results, Try.results56, go_sem, fltC, t0, t1, t2, f0, f1]) rfl ⟨none, 0, 0, none, 0, 0, none, 0, 0, by rw [HE.out], by rw [HE.out]; exact RdC.nil _, by rw [HE.out]; exact Rd.nil _, by rw [HE.out]; exact Rd.nil _, by go_grown⟩
  | some p =>
    obtain ⟨bl, ix, bits⟩ := p
    rw [hn] at hp
    obtain ⟨v1, v2, v3, rfl, hB1, hI1, hF1⟩ := hp
    have hbn := piecesR_len hn
    have HN := hide hn
    clear hn
    go_wp2_with fail
    refine (readIndex_any _ _ ix bl _ hI1 hB1 (by omega)).mono ?_
    rintro e w2 ⟨hp, hb2⟩
    have hO2 := hO1.below hb2
    have hB2 := hB1.below hb2
    have hF2 := hF1.below hb2
    clear hO1 hB1 hF1 hI1
    cases hr : rixGo ix bl [] with
    | none =>
      rw [hr] at hp
      have HE := hide (openF_index HBIG.out HN.out hr)
      obtain ⟨v4, rfl⟩ := hp
      obtain ⟨t0, t1, t2, f0, f1, z0, z1, z2, y0, y1, hlt⟩ := hO2.cells
      have hbw := hO2.b
      clear hr
      go_wp2_with fail
      exact bodyPost_ret (v := .tuple #[.agg #[.slice none 0 0, .slice none 0 0, .slice none 0 0], fltC (5, 1)]) (by simp [results, Try.results56, go_sem, fltC, t0, t1, t2, f0, f1]) rfl ⟨none, 0, 0, none, 0, 0, none, 0, 0, by rw [HE.out], by rw [HE.out]; exact RdC.nil _, by rw [HE.out]; exact Rd.nil _, by rw [HE.out]; exact Rd.nil _, by go_grown⟩
    | some rows =>
      rw [hr] at hp
      obtain ⟨v4, rfl, hR2⟩ := hp
      have hrl := rixGo_len _ _ _ _ hr
      have HR := hide hr
      clear hr
      go_wp2_with fail
      refine (readBlocks_any _ _ bl rows _ hB2 hR2 (by simpa using hrl) (by omega)).mono ?_
      rintro e w3 ⟨hp, hb3⟩
      have hO3 := hO2.below hb3
      have hF3 := hF2.below hb3
      have hR3 := hR2.below hb3
      clear hO2 hB2 hF2 hR2 hrl
      cases hc : rbR bl rows with
      | none =>
        rw [hc] at hp
        have HE := hide (openF_blocks HBIG.out HN.out HR.out hc)
        obtain ⟨v5, rfl⟩ := hp
        obtain ⟨t0, t1, t2, f0, f1, z0, z1, z2, y0, y1, hlt⟩ := hO3.cells
        have hbw := hO3.b
        clear hc
        go_wp2_with fail
        exact bodyPost_ret (v := .tuple #[.agg #[.slice none 0 0, .slice none 0 0, .slice none 0 0], fltC (5, 2)]) (by simp [results, Try.results56, go_sem, fltC, t0, t1, t2, f0, f1]) rfl ⟨none, 0, 0, none, 0, 0, none, 0, 0, by rw [HE.out], by rw [HE.out]; exact RdC.nil _, by rw [HE.out]; exact Rd.nil _, by rw [HE.out]; exact Rd.nil _, by go_grown⟩
      | some cs =>
        rw [hc] at hp
        obtain ⟨v5, rfl, hC3⟩ := hp
        obtain ⟨hl5, hck⟩ := rbR_fine hc
        have HCC : Hid (∀ c ∈ cs, codeC c = 0) := hide (fun c h => fine_code hck h)
        have HEQ := hide (@openF_ok bs ix bits bl rows cs HBIG.out HN.out HR.out hc)
        have HNE := hide (@openF_filter bs ix bits bl rows cs HBIG.out HN.out HR.out hc)
        clear hc hck
        go_wp2_with fail
        refine (filterOf_any _ cs _ hC3 (by omega) (fun c h => by rw [ba_size]; have := (codeC_parts (HCC.out c h)).2.1; omega)).mono ?_
        rintro e w4 ⟨v6, rfl, hf4, hb4, _⟩
        have hO4 := hO3.below hb4
        have hF4 := hF3.below hb4
        have hR4 := hR3.below hb4
        have hC4 := hC3.below hb4
        clear hO3 hF3 hR3 hC3
        go_wp2_with fail
        refine (Equal_any _ _ bits (filtB cs) _ hF4 hf4).mono ?_
        rintro e w5 ⟨rfl, rfl⟩
        obtain ⟨t0, t1, t2, f0, f1, z0, z1, z2, y0, y1, hlt⟩ := hO4.cells
        have hbw := hO4.b
        obtain ⟨o1, c1, hv1, _, _⟩ := hC4.shape
        obtain ⟨o2, c2, hv2, _, _⟩ := hR4.shape
        obtain ⟨o3, c3, hv3, _, _⟩ := hF4.shape
        rw [sc_length] at hv2
        rw [bc_length] at hv3
        subst hv1 hv2 hv3
        by_cases hq : bits = filtB cs
        · have HE := hide (HEQ.out hq)
          have hqb : (bits == filtB cs) = true := beq_iff_eq.2 hq
          rw [hqb]
          clear hq hqb
          have nC1 := hC4.notIn hO4.t (fun s h => by simp at h)
          have nC2 := hC4.notIn hO4.f (fun s h => by simp at h)
          have nR1 := hR4.notIn hO4.t (fun u hu h => by simp only [sc, List.mem_map] at hu; obtain ⟨s, _, rfl⟩ := hu; simp at h)
          have nR2 := hR4.notIn hO4.f (fun u hu h => by simp only [sc, List.mem_map] at hu; obtain ⟨s, _, rfl⟩ := hu; simp at h)
          have nF1 := hF4.notIn hO4.t (fun u hu h => by simp only [bc, List.mem_map] at hu; obtain ⟨s, _, rfl⟩ := hu; simp at h)
          have nF2 := hF4.notIn hO4.f (fun u hu h => by simp only [bc, List.mem_map] at hu; obtain ⟨s, _, rfl⟩ := hu; simp at h)
          have HN1 := hide nC1
          have HN2 := hide nC2
          have HN3 := hide nR1
          have HN4 := hide nR2
          have HN5 := hide nF1
          have HN6 := hide nF2
          clear nC1 nC2 nR1 nR2 nF1 nF2
          go_wp2_with fail
          obtain ⟨g1, g2⟩ := grown5 w5 w.heap.size (w.heap.size + 1) (.slice o1 cs.length c1) (.slice o2 rows.length c2) (.slice o3 bits.length c3) (.int .i64 0) (.int .i64 0)
          exact bodyPost_ret (v := .tuple #[.agg #[.slice o1 cs.length c1, .slice o2 rows.length c2, .slice o3 bits.length c3], fltC (0, 0)]) (by simp [results, Try.results56, go_sem, fltC, t0, t1, t2, f0, f1]) rfl ⟨o1, _, c1, o2, _, c2, o3, _, c3, by rw [HE.out], by rw [HE.out]; exact (hC4.grownT g1 HN1.out).grownT g2 HN2.out, by rw [HE.out]; exact (hR4.grownT g1 HN3.out).grownT g2 HN4.out, by rw [HE.out]; exact (hF4.grownT g1 HN5.out).grownT g2 HN6.out, by go_grown⟩
        · have HE := hide (HNE.out hq)
          have hqb : (bits == filtB cs) = false := beq_eq_false_iff_ne.2 hq
          rw [hqb]
          clear hq hqb
          go_wp2_with fail
          exact bodyPost_ret (v := .tuple #[.agg #[.slice none 0 0, .slice none 0 0, .slice none 0 0], fltC (5, 3)]) (by simp [results, Try.results56, go_sem, fltC, t0, t1, t2, f0, f1]) rfl ⟨none, 0, 0, none, 0, 0, none, 0, 0, by rw [HE.out], by rw [HE.out]; exact RdC.nil _, by rw [HE.out]; exact Rd.nil _, by rw [HE.out]; exact Rd.nil _, by go_grown⟩

set_option maxRecDepth 100000 in
set_option maxHeartbeats 1000000 in
theorem FOpen_any (v : Value) (bs : List UInt8) (w : World) (hrd : Rd w v (bc bs)) :
    Calls Try.prog 17 #[v] w fun e w' => ∃ v', e = .returned (.tuple #[v', fltC (openF bs).2]) ∧ RdC w' v' (openF bs).1.1 ∧ Below w.heap.size w w' := by
  obtain ⟨ao, cap, hv, hc1, hc2⟩ := hrd.shape
  rw [bc_length] at hc1 hv
  subst hv
  have hR0 := Bk.new w 26 #[.int .i64 0, .int .i64 0]
  go_enter Try.func17, Try.ntmps17
  go_wp2_with fail
  refine (opened_any _ bs _ (hrd.alloc _)).mono ?_
  rintro e w1 ⟨o1, n1, c1, o2, n2, c2, o3, n3, c3, rfl, hC, _, _, hb1⟩
  have hR1 := hR0.below hb1 (by simp)
  have hbw1 : Below w.heap.size w w1 := (below_alloc' _ _).trans (hb1.mono (by simp))
  have hC1 := hC.notIn hR1 (fun s h => by simp at h)
  have HN := hide hC1
  clear hC1 hR0 hb1
  generalize hF : openF bs = F at *
  obtain ⟨⟨cs, rows, bits⟩, x, y⟩ := F
  have HF := hide hF
  clear hF
  simp only at hC ⊢
  unfold fltC
  have r0 := hR1.cell 0
  have r1 := hR1.cell 1
  have r2 := hR1.frozen 0
  have r3 := hR1.frozen 1
  have hlt := hR1.lt
  simp at r0 r1
  go_wp2_with fail
  go_region
  all_goals
    go_wp2_with fail
    have g1 := grownT_trans (grownT_set w1 w.heap.size 0 (.int .i64 x)) (grownT_set _ w.heap.size 1 (.int .i64 y))
    exact bodyPost_ret (v := .tuple #[.slice o1 n1 c1, fltC (x, y)]) (by simp [results, Try.results17, go_sem, fltC, r0, r1, hlt]) rfl ⟨_, by rw [HF.out], by rw [HF.out]; exact (((hC.grownT g1 HN.out).alloc _).alloc _).drew, by go_grown⟩

end Go.Proofs.Ytlebbkbbmgmmjac

/-
  The walk over wire.Open.
-/
namespace Go.Proofs.Ytlebbkbbmgmmjac
open Go.RowKit

theorem owns_base {w : World} {base base' : Nat} {e : TypeId} {size : Nat} {v : Value} {n : Nat} {xs : List Value} (h : w.ownsRow base' e size v n xs) (hb : base ≤ base') : w.ownsRow base e size v n xs := by
  refine ⟨h.1, ?_⟩
  rcases h.2 with hn | ⟨g, cap, cur, hv, hg, r⟩
  · exact .inl hn
  · exact .inr ⟨g, cap, cur, hv, Nat.le_trans hb hg, r⟩

/-- A list of bodies that lies, with all its bodies, in blocks from B on. -/
def RdBN (w : World) (B : Nat) (v : Value) (bb : List (List UInt8)) : Prop :=
  ∃ vs : List Value, Rd w v vs ∧ New B v ∧ vs.length = bb.length ∧ ∀ (i : Nat) (u : Value) (b : List UInt8), vs[i]? = some u → bb[i]? = some b → Rd w u (bc b) ∧ New B u

theorem RdBN.toB {w : World} {B : Nat} {v : Value} {bb : List (List UInt8)} (h : RdBN w B v bb) : RdB w v bb := by
  obtain ⟨vs, h1, _, h2, h3⟩ := h
  exact ⟨vs, h1, h2, fun i u b hu hb => (h3 i u b hu hb).1⟩

theorem RdBN.nil (w : World) (B : Nat) : RdBN w B (.slice none 0 0) [] := ⟨[], Rd.nil w, New.nil _, rfl, fun i u b hu => by simp at hu⟩
theorem RdBN.set {w : World} {B : Nat} {v : Value} {bb : List (List UInt8)} (h : RdBN w B v bb) {p : Addr} (hp : p.block < B) (x : Value) : RdBN (w.setCell p x) B v bb := by
  obtain ⟨vs, h1, hn, h2, h3⟩ := h
  exact ⟨vs, h1.setNew hn hp x, hn, h2, fun i u b hu hb => ⟨(h3 i u b hu hb).1.setNew (h3 i u b hu hb).2 hp x, (h3 i u b hu hb).2⟩⟩

theorem OwnB.news {w : World} {base : Nat} : ∀ {us : List Value} {bb : List (List UInt8)}, OwnB w base us bb → ∀ (i : Nat) (u : Value), us[i]? = some u → New base u
  | [], [], _, i, u, hu => by simp at hu
  | u0 :: us, b0 :: bb, h, 0, u, hu => by
    simp at hu
    subst hu
    exact New.owns h.1
  | u0 :: us, b0 :: bb, h, i + 1, u, hu => OwnB.news h.2 i u (by simpa using hu)
  | [], _ :: _, h, _, _, _ => by cases h
  | _ :: _, [], h, _, _, _ => by cases h

theorem rdBN_of {w : World} {base B : Nat} {v : Value} {us : List Value} {bb : List (List UInt8)} {e : TypeId} {n : Nat} (h : w.ownsRow base e 1 v n us) (hb : OwnB w base us bb) (hB : B ≤ base) : RdBN w B v bb :=
  ⟨us, Rd.ofOwns h, (New.owns h).mono hB, hb.length, fun i u b hu hb' => ⟨hb.get i u b hu hb', (hb.news i u hu).mono hB⟩⟩



end Go.Proofs.Ytlebbkbbmgmmjac

/-
  Frames that are cut off, and frames with one byte changed; plain mathematics.
-/
namespace Go.Proofs.Ytlebbkbbmgmmjac

def flatF (l : List (List UInt8)) : List UInt8 := l.flatMap framed
theorem flatF_cons (b : List UInt8) (l : List (List UInt8)) : flatF (b :: l) = framed b ++ flatF l := by simp [flatF]
theorem flatF_append (a b : List (List UInt8)) : flatF (a ++ b) = flatF a ++ flatF b := by simp [flatF]
theorem framesGo_of : ∀ (l : List (List UInt8)) (acc : List UInt8), acc.length + (flatF l).length ≤ 60000 → framesGo l acc = (acc ++ flatF l, 0, 0)
  | [], acc, _ => by simp [framesGo, flatF]
  | b :: l, acc, h => by
    rw [flatF_cons] at h ⊢
    rw [List.length_append, framed_length] at h
    rw [framesGo, if_neg (by omega), framesGo_of l _ (by rw [List.length_append, framed_length]; omega)]
    simp

theorem framesGo_much : ∀ (l : List (List UInt8)) (acc : List UInt8), acc.length ≤ 60000 → 60000 < acc.length + (flatF l).length → framesGo l acc = ([], 9, 0)
  | [], acc, h0, h => by simp [flatF] at h; omega
  | b :: l, acc, h0, h => by
    rw [flatF_cons, List.length_append, framed_length] at h
    rw [framesGo]
    split
    · rfl
    · exact framesGo_much l _ (by rw [List.length_append, framed_length]; omega) (by rw [List.length_append, framed_length]; omega)

theorem framesR_big {l : List (List UInt8)} (h : 1000 < l.length) : framesR l = ([], 2, 0) := by rw [framesR, if_pos h]
theorem framesR_much {l : List (List UInt8)} (h : ¬ 1000 < l.length) (h2 : 60000 < (flatF l).length) : framesR l = ([], 9, 0) := by
  rw [framesR, if_neg h, framesGo_much l [] (by simp) (by simpa using h2)]

theorem framesR_ok {l : List (List UInt8)} (h : ¬ 1000 < l.length) (h2 : ¬ 60000 < (flatF l).length) : framesR l = (flatF l, 0, 0) := by
  rw [framesR, if_neg h, framesGo_of l [] (by simp; omega)]
  simp

theorem framesR_zero {l : List (List UInt8)} (h : (framesR l).2.1 = 0) : l.length ≤ 1000 ∧ (flatF l).length ≤ 60000 ∧ framesR l = (flatF l, 0, 0) := by
  by_cases h1 : 1000 < l.length
  · rw [framesR_big h1] at h; simp at h
  · by_cases h2 : 60000 < (flatF l).length
    · rw [framesR_much h1 h2] at h; simp at h
    · exact ⟨by omega, by omega, framesR_ok h1 h2⟩

theorem flatF_mem : ∀ {l : List (List UInt8)} {b : List UInt8}, b ∈ l → b.length + 6 ≤ (flatF l).length
  | c :: l, b, h => by
    rw [flatF_cons, List.length_append, framed_length]
    rcases List.mem_cons.1 h with rfl | h
    · omega
    · have := flatF_mem h; omega

theorem head2_val (n : Nat) (h : n ≤ 65535) : (UInt8.ofNat (n / 256)).toNat * 256 + (UInt8.ofNat (n % 256)).toNat = n := by
  rw [u8_ofNat_toNat _ (by omega), u8_ofNat_toNat _ (by omega)]
  omega

/-- What decides of bytes with a body's length ahead. -/
theorem frameAt_of (body G : List UInt8) (hb : body.length ≤ 65535) (h0 : G[0]? = some (UInt8.ofNat (body.length / 256))) (h1 : G[1]? = some (UInt8.ofNat (body.length % 256))) :
    frameAt G = if G.length < 6 + body.length then none else if crc (G.take (2 + body.length)) ≠ beVal ((G.drop (2 + body.length)).take 4) then none else some ((G.drop 2).take body.length) :=
  frameAt_eq h0 h1 body.length (head2_val _ hb).symm

theorem framed_get0 (body r : List UInt8) : (framed body ++ r)[0]? = some (UInt8.ofNat (body.length / 256)) := by simp [framed, head2]
theorem framed_get1 (body r : List UInt8) : (framed body ++ r)[1]? = some (UInt8.ofNat (body.length % 256)) := by simp [framed, head2]
theorem framed_take (body r : List UInt8) : (framed body ++ r).take (2 + body.length) = head2 body.length ++ body := by
  have e : framed body ++ r = (head2 body.length ++ body) ++ (be4 (crc (head2 body.length ++ body)) ++ r) := by simp [framed]
  have l : (head2 body.length ++ body).length = 2 + body.length := by simp [head2]; omega
  rw [e, ← l, List.take_left]

theorem framed_drop (body r : List UInt8) : (framed body ++ r).drop (2 + body.length) = be4 (crc (head2 body.length ++ body)) ++ r := by
  have e : framed body ++ r = (head2 body.length ++ body) ++ (be4 (crc (head2 body.length ++ body)) ++ r) := by simp [framed]
  have l : (head2 body.length ++ body).length = 2 + body.length := by simp [head2]; omega
  rw [e, ← l, List.drop_left]

theorem framed_body (body r : List UInt8) : ((framed body ++ r).drop 2).take body.length = body := by
  have e : framed body ++ r = head2 body.length ++ (body ++ (be4 (crc (head2 body.length ++ body)) ++ r)) := by simp [framed]
  have l : (head2 body.length).length = 2 := rfl
  rw [e, ← l, List.drop_left, List.take_left]

theorem frameAt_framed (body r : List UInt8) (hb : body.length ≤ 65535) : frameAt (framed body ++ r) = some body := by
  rw [frameAt_of body _ hb (framed_get0 _ _) (framed_get1 _ _), if_neg (by rw [List.length_append, framed_length]; omega), framed_take, framed_drop]
  have e : (be4 (crc (head2 body.length ++ body)) ++ r).take 4 = be4 (crc (head2 body.length ++ body)) := by
    have l : (be4 (crc (head2 body.length ++ body))).length = 4 := rfl
    rw [← l, List.take_left]
  rw [e, beVal_be4 _ (crc_lt _), if_neg (by simp), framed_body]

theorem frameAt_cut (body r : List UInt8) (t : Nat) (hb : body.length ≤ 65535) (ht : t < body.length + 6) : frameAt ((framed body ++ r).take t) = none := by
  have hl : ((framed body ++ r).take t).length = t := by
    rw [List.length_take, List.length_append, framed_length]
    omega
  by_cases h6 : t < 6
  · exact frameAt_short (by omega)
  · rw [frameAt_of body _ hb, if_pos (by omega)]
    · rw [List.getElem?_take, if_pos (by omega)]; exact framed_get0 _ _
    · rw [List.getElem?_take, if_pos (by omega)]; exact framed_get1 _ _

theorem frameAt_set (body r : List UInt8) (j : Nat) (tb : UInt8) (hb : body.length ≤ 65535) (h2 : 2 ≤ j) (hj : j < body.length + 6) (hne : (framed body)[j]? ≠ some tb) : frameAt ((framed body).set j tb ++ r) = none := by
  have hfl := framed_length body
  have g0 : ((framed body).set j tb ++ r)[0]? = some (UInt8.ofNat (body.length / 256)) := by
    rw [List.getElem?_append_left (by rw [List.length_set]; omega), List.getElem?_set_ne (by omega)]
    have := framed_get0 body []
    rwa [List.append_nil] at this
  have g1 : ((framed body).set j tb ++ r)[1]? = some (UInt8.ofNat (body.length % 256)) := by
    rw [List.getElem?_append_left (by rw [List.length_set]; omega), List.getElem?_set_ne (by omega)]
    have := framed_get1 body []
    rwa [List.append_nil] at this
  rw [frameAt_of body _ hb g0 g1, if_neg (by rw [List.length_append, List.length_set, hfl]; omega), if_pos]
  have ft := framed_take body []
  have fd := framed_drop body []
  rw [List.append_nil] at ft fd
  rw [List.append_nil] at fd
  have e1 : ((framed body).set j tb ++ r).take (2 + body.length) = ((head2 body.length ++ body)).set j tb := by
    rw [List.take_append_of_le_length (by rw [List.length_set]; omega), List.take_set, ft]
  have e2 : (((framed body).set j tb ++ r).drop (2 + body.length)).take 4 = ((framed body).set j tb).drop (2 + body.length) := by
    rw [List.drop_append_of_le_length (by rw [List.length_set]; omega)]
    have l : (((framed body).set j tb).drop (2 + body.length)).length = 4 := by rw [List.length_drop, List.length_set]; omega
    rw [← l, List.take_left]
  rw [e1, e2]
  have lh : (head2 body.length ++ body).length = 2 + body.length := by simp [head2]; omega
  by_cases hjb : j < 2 + body.length
  · -- a byte of the body
    have e3 : ((framed body).set j tb).drop (2 + body.length) = be4 (crc (head2 body.length ++ body)) := by
      rw [List.drop_set, if_pos (by omega), fd]
    rw [e3, beVal_be4 _ (crc_lt _)]
    have hjl : j < (head2 body.length ++ body).length := by omega
    have hold : (head2 body.length ++ body)[j] ≠ tb := by
      intro e
      apply hne
      have h3 : (framed body)[j]? = (head2 body.length ++ body)[j]? := by
        rw [← ft, List.getElem?_take, if_pos (by omega)]
      rw [h3, List.getElem?_eq_getElem hjl, e]
    rw [List.set_eq_take_append_cons_drop, if_pos hjl]
    conv => rhs; rw [← List.take_append_drop j (head2 body.length ++ body), List.drop_eq_getElem_cons hjl]
    exact crc_one (fun e => hold e.symm)
  · -- a byte of the sum
    have e3 : (head2 body.length ++ body).set j tb = head2 body.length ++ body := by
      rw [List.set_eq_of_length_le (by omega)]
    have e4 : ((framed body).set j tb).drop (2 + body.length) = (be4 (crc (head2 body.length ++ body))).set (j - (2 + body.length)) tb := by
      rw [List.drop_set, if_neg (by omega), fd]
    rw [e3, e4]
    intro e
    have e5 : beVal (be4 (crc (head2 body.length ++ body))) = beVal ((be4 (crc (head2 body.length ++ body))).set (j - (2 + body.length)) tb) := by
      rw [beVal_be4 _ (crc_lt _)]; exact e
    have e6 := beVal_inj (by rw [List.length_set]) e5
    apply hne
    have h3 : (framed body)[j]? = (be4 (crc (head2 body.length ++ body)))[j - (2 + body.length)]? := by
      rw [← fd, List.getElem?_drop]
      congr 1
      omega
    rw [h3, e6, List.getElem?_set_self (by rw [be4_length]; omega)]

theorem openGo_flat (tail : List UInt8) (ht : frameAt tail = none) : ∀ (l : List (List UInt8)) (f k : Nat) (acc : List (List UInt8)), (∀ b ∈ l, b.length ≤ 65535) → l.length ≤ f → acc.length + l.length ≤ 1000 →
    openGo (f + 1) (flatF l ++ tail) acc k = (acc ++ l, ((k + (flatF l).length : Nat) : Int), 0)
  | [], f, k, acc, _, _, _ => by
    have e : flatF [] ++ tail = tail := rfl
    rw [e, openGo_end ht]
    simp [flatF]
  | b :: l, 0, _, _, _, h, _ => by simp at h
  | b :: l, f + 1, k, acc, hb, hf, hm => by
    simp only [List.length_cons] at hf hm
    rw [flatF_cons, List.append_assoc, openGo_step (frameAt_framed b _ (hb b (by simp))) (by omega), ← framed_length, List.drop_left, openGo_flat tail ht l f _ _ (fun x hx => hb x (by simp [hx])) (by omega) (by simp; omega)]
    simp [Nat.add_assoc]

theorem openR_flat (l : List (List UInt8)) (tail : List UInt8) (ht : frameAt tail = none) (hb : ∀ b ∈ l, b.length ≤ 65535) (hl : l.length ≤ 1000) (hlen : (flatF l ++ tail).length ≤ 60000) :
    openR (flatF l ++ tail) = (l, ((flatF l).length : Int), 0) := by
  have hll : l.length ≤ (flatF l).length := by
    clear hb hl hlen ht
    induction l with
    | nil => simp
    | cons b l ih => rw [flatF_cons, List.length_append, framed_length, List.length_cons]; omega
  rw [openR, if_neg (by omega), openGo_flat tail ht l _ 0 [] hb (by rw [List.length_append]; omega) (by simpa using hl)]
  simp

theorem flatF_snoc (l : List (List UInt8)) (k : Nat) (h : k < l.length) : flatF (l.take (k + 1)) = flatF (l.take k) ++ framed l[k] := by
  rw [List.take_succ_eq_append_getElem h, flatF_append]
  simp [flatF]

theorem flatF_split (l : List (List UInt8)) (k : Nat) : flatF l = flatF (l.take k) ++ flatF (l.drop k) := by
  rw [← flatF_append, List.take_append_drop]

/-- Cut off. -/
theorem torn_cut (l : List (List UInt8)) (cut k : Nat) (hl : l.length ≤ 1000) (hs : (flatF l).length ≤ 60000) (hc : cut ≤ (flatF l).length) (hk : k ≤ l.length) (hn : (flatF (l.take k)).length ≤ cut)
    (hend : ∀ h : k < l.length, cut < (flatF (l.take k)).length + l[k].length + 6) : openR ((flatF l).take cut) = (l.take k, ((flatF (l.take k)).length : Int), 0) := by
  have hb : ∀ b ∈ l, b.length ≤ 65535 := fun b hb => by have := flatF_mem hb; omega
  have e : (flatF l).take cut = flatF (l.take k) ++ (flatF (l.drop k)).take (cut - (flatF (l.take k)).length) := by
    conv => lhs; rw [flatF_split l k]
    rw [List.take_append, List.take_of_length_le hn]
  rw [e]
  refine openR_flat _ _ ?_ (fun b h => hb b (List.mem_of_mem_take h)) (by rw [List.length_take]; omega) ?_
  · by_cases hk2 : k < l.length
    · rw [drop_cons l k hk2, flatF_cons]
      exact frameAt_cut _ _ _ (hb _ (List.getElem_mem hk2)) (by have := hend hk2; omega)
    · rw [List.drop_eq_nil_of_le (by omega)]
      simp [flatF, frameAt]
  · rw [← e, List.length_take]; omega

/-- One byte changed. -/
theorem torn_set (l : List (List UInt8)) (i k : Nat) (tb : UInt8) (hl : l.length ≤ 1000) (hs : (flatF l).length ≤ 60000) (hk : k < l.length) (h2 : (flatF (l.take k)).length + 2 ≤ i) (h3 : i < (flatF (l.take k)).length + l[k].length + 6)
    (hne : (flatF l)[i]? ≠ some tb) : openR ((flatF l).set i tb) = (l.take k, ((flatF (l.take k)).length : Int), 0) := by
  have hb : ∀ b ∈ l, b.length ≤ 65535 := fun b hb => by have := flatF_mem hb; omega
  have e0 : flatF l = flatF (l.take k) ++ (framed l[k] ++ flatF (l.drop (k + 1))) := by
    rw [← flatF_cons, ← drop_cons l k hk]
    exact flatF_split l k
  have hfl := framed_length l[k]
  have e : (flatF l).set i tb = flatF (l.take k) ++ ((framed l[k]).set (i - (flatF (l.take k)).length) tb ++ flatF (l.drop (k + 1))) := by
    rw [e0, List.set_append_right _ _ (by omega), List.set_append_left _ _ (by omega)]
  have hne' : (framed l[k])[i - (flatF (l.take k)).length]? ≠ some tb := by
    intro h
    apply hne
    rw [e0, List.getElem?_append_right (by omega), List.getElem?_append_left (by omega), h]
  have hlen : ((flatF l).set i tb).length ≤ 60000 := by rw [List.length_set]; exact hs
  rw [e] at hlen ⊢
  exact openR_flat _ _ (frameAt_set _ _ _ _ (hb _ (List.getElem_mem hk)) (by omega) (by omega) hne') (fun b h => hb b (List.mem_of_mem_take h)) (by rw [List.length_take]; omega) hlen

end Go.Proofs.Ytlebbkbbmgmmjac

/-
  The document's way to read a number: by trying; plain mathematics.
-/
namespace Go.Proofs.Ytlebbkbbmgmmjac

/-- What bytes of seven bits each come to, the lowest first. -/
def valOf : List UInt8 → Nat
  | [] => 0
  | x :: r => x.toNat % 128 + 128 * valOf r

theorem valOf_lt : ∀ (l : List UInt8), valOf l < 128 ^ l.length
  | [] => by simp [valOf]
  | x :: r => by
    have := valOf_lt r
    simp only [valOf, List.length_cons, Nat.pow_succ]
    omega

theorem valOf_enc : ∀ (g n : Nat), n < 128 ^ (g + 1) → valOf (enc g n) = n
  | 0, n, h => by
    have h : n < 128 := by simpa using h
    rw [enc_small 0 n h]
    simp only [valOf]
    rw [u8_ofNat_toNat n (by omega)]
    omega
  | g + 1, n, h => by
    by_cases h1 : n < 128
    · rw [enc_small _ n h1]
      simp only [valOf]
      rw [u8_ofNat_toNat n (by omega)]
      omega
    · rw [enc_big g n (by omega)]
      simp only [valOf]
      rw [u8_ofNat_toNat _ (by omega), valOf_enc g (n / 128) (by rw [Nat.pow_succ] at h; omega)]
      omega

/-- Are the first k bytes a written number? -/
def okAt (bs : List UInt8) (k : Nat) : Prop := valOf (bs.take k) ≤ 1000000000 ∧ encN (valOf (bs.take k)) = bs.take k
theorem okAt_some {bs : List UInt8} {k : Nat} (h : okAt bs k) (hk : k ≤ bs.length) : numAt bs = some (valOf (bs.take k), k) := by
  have h1 := numAt_enc (valOf (bs.take k)) (bs.drop k) h.1
  have hl := congrArg List.length h.2
  rw [List.length_take, Nat.min_eq_left hk] at hl
  rw [hl, h.2, List.take_append_drop] at h1
  exact h1

theorem okAt_of {bs : List UInt8} {n k : Nat} (h : numAt bs = some (n, k)) : okAt bs k ∧ 1 ≤ k ∧ k ≤ 5 ∧ k ≤ bs.length := by
  have hb := numAt_back h
  have hl := numAt_len h
  have hv : valOf (encN n) = n := valOf_enc 9 n (by omega)
  have h5 : (encN n).length ≤ 5 := enc_len_pow 9 4 n (by omega)
  rw [← hb, List.length_take] at h5
  refine ⟨⟨?_, ?_⟩, by omega, by omega, hl.2.1⟩
  · rw [hb, hv]; exact hl.2.2
  · rw [hb, hv]

theorem numAt_none {bs : List UInt8} (h : ∀ k, 1 ≤ k → k ≤ 5 → k ≤ bs.length → ¬ okAt bs k) : numAt bs = none := by
  cases hn : numAt bs with
  | none => rfl
  | some p =>
    obtain ⟨n, k⟩ := p
    obtain ⟨h1, h2, h3, h4⟩ := okAt_of hn
    exact absurd h1 (h k h2 h3 h4)

theorem valOf_drop (l : List UInt8) (j : Nat) (h : j < l.length) : valOf (l.drop j) = valOf (l.drop (j + 1)) * 128 + l[j].toNat % 128 := by
  rw [drop_cons l j h, valOf]
  omega

theorem valOf_bound {l : List UInt8} (h : l.length ≤ 5) : valOf l < 34359738368 := by
  have h1 := valOf_lt l
  have h2 : 128 ^ l.length ≤ 128 ^ 5 := Nat.pow_le_pow_right (by decide) h
  have h3 : (128 : Nat) ^ 5 = 34359738368 := by decide
  omega

end Go.Proofs.Ytlebbkbbmgmmjac

/-
  The walks over the document's small comparisons.
-/
namespace Go.Proofs.Ytlebbkbbmgmmjac
open Go.RowKit

set_option maxRecDepth 100000 in
set_option maxHeartbeats 400000 in
theorem Same_any (u v : Value) (xs ys : List UInt8) (w : World) (h1 : Rd w u (bc xs)) (h2 : Rd w v (bc ys)) :
    Calls Try.prog 25 #[u, v] w fun e w' => e = .returned (.bool (xs == ys)) ∧ w' = w := by
  have c1 := run_string_of_rd (P := Try.prog) Try.underlying24 Try.underlying5 Try.underlying9 h1
  have c2 := run_string_of_rd (P := Try.prog) Try.underlying24 Try.underlying5 Try.underlying9 h2
  go_enter Try.func25, Try.ntmps25
  go_wp2_with fail
  go_ret
  exact ⟨rfl, rfl⟩

theorem take_ext {α : Type} {xs ys : List α} {k : Nat} (h : xs.take k = ys.take k) (hx : k < xs.length) (hy : k < ys.length) (e : xs[k] = ys[k]) : xs.take (k + 1) = ys.take (k + 1) := by
  rw [List.take_succ_eq_append_getElem hx, List.take_succ_eq_append_getElem hy, h, e]

theorem beq_of_take {α : Type} [BEq α] [LawfulBEq α] {xs ys : List α} {k : Nat} (h : xs.take k = ys.take k) (hx : xs.length ≤ k) (hy : ys.length ≤ k) : (xs == ys) = true := by
  rw [List.take_of_length_le hx, List.take_of_length_le hy] at h
  exact beq_iff_eq.2 h

theorem beq_no_len {α : Type} [BEq α] [LawfulBEq α] {xs ys : List α} (h : xs.length ≠ ys.length) : (xs == ys) = false :=
  beq_eq_false_iff_ne.2 (fun e => h (by rw [e]))

theorem beq_no_at {α : Type} [BEq α] [LawfulBEq α] {xs ys : List α} {k : Nat} (hx : k < xs.length) (hy : k < ys.length) (h : xs[k] ≠ ys[k]) : (xs == ys) = false :=
  beq_eq_false_iff_ne.2 (fun e => h (by subst e; rfl))



end Go.Proofs.Ytlebbkbbmgmmjac

/-
  The walks over the document's numbers.
-/
namespace Go.Proofs.Ytlebbkbbmgmmjac
open Go.RowKit


set_option maxRecDepth 100000 in
set_option maxHeartbeats 400000 in
theorem ownBytes_any (v : Value) (zs : List UInt8) (w : World) (h : Rd w v (bc zs)) (hl : zs.length ≤ 1000000000) :
    Calls Try.prog 19 #[v] w fun e w' => ∃ v', e = .returned v' ∧ Rd w' v' (bc zs) ∧ Below w.heap.size w w' ∧ New w.heap.size v' := by
  go_enter Try.func19, Try.ntmps19
  go_wp2_with (at_builtin; go_must (refine wpList_append_rd (World.ownsRow_nil w w.heap.size 5 1) h Try.underlying24 Try.info5 rfl rfl rfl rfl rfl (bc_one _) (by rw [bc_length]; omega) (by decide) (Nat.le_refl _) ?_); intro v1 w1 ho1 hb1 hg1; clear hg1)
  go_ret
  exact ⟨v1, rfl, Rd.ofOwns ho1, hb1, New.owns ho1⟩

set_option maxRecDepth 100000 in
set_option maxHeartbeats 400000 in
theorem F_any (c a : Int) (w : World) : Calls Try.prog 13 #[.int .i64 c, .int .i64 a] w fun e w' => e = .returned (flt c a) ∧ w' = w.alloc (.cells #[.int .i64 c, .int .i64 a] 26) := by
  go_enter Try.func13, Try.ntmps13
  go_wp2_with fail
  exact bodyPost_ret (v := flt c a) (by simp [results, Try.results13, go_sem, flt]) rfl ⟨rfl, rfl⟩

set_option maxRecDepth 100000 in
set_option maxHeartbeats 400000 in
theorem Number_go (f : Nat) : ∀ (n : Nat) (w : World), n < 128 ^ (f + 1) → (n : Int) ≤ 9223372036854775807 → f ≤ 9 →
    Calls Try.prog 54 #[.int .i64 n] w fun e w' => ∃ v', e = .returned v' ∧ w'.ownsRow w.heap.size 5 1 v' (enc f n).length (bc (enc f n)) ∧ Below w.heap.size w w' := by
  induction f with
  | zero =>
    intro n w hn hn2 _
    have hn1 : (n : Int) < 128 := by simp at hn; omega
    clear hn
    go_enter Try.func54, Try.ntmps54
    go_wp2_with fail
    go_ret
    have ho := World.ownsRow_lit (base := w.heap.size) (size := 1) (e := 5) w #[.int .u8 n] 1 (Nat.le_refl _) (by decide) (by simp)
    refine ⟨_, rfl, ?_, by go_grown⟩
    rw [enc_small _ _ (by omega)]
    simpa [bc, u8_ofNat_toNat n (by omega)] using ho
  | succ f ih =>
    intro n w hn hn2 hf
    have HN := hide hn
    have HI := hide ih
    clear hn ih
    by_cases hs : (n : Int) < 128
    · go_enter Try.func54, Try.ntmps54
      go_wp2_with fail
      go_ret
      have ho := World.ownsRow_lit (base := w.heap.size) (size := 1) (e := 5) w #[.int .u8 n] 1 (Nat.le_refl _) (by decide) (by simp)
      refine ⟨_, rfl, ?_, by go_grown⟩
      rw [enc_small _ _ (by omega)]
      simpa [bc, u8_ofNat_toNat n (by omega)] using ho
    · go_enter Try.func54, Try.ntmps54
      go_wp2_with fail
      rw [show (n : Int) / 128 = ((n / 128 : Nat) : Int) from by omega]
      refine (HI.out (n / 128) _ (by have := HN.out; rw [Nat.pow_succ] at this; omega) (by omega) (by omega)).mono ?_
      rintro e w1 ⟨v1, rfl, ho1, hb1⟩
      have ho := World.ownsRow_lit (base := w.heap.size) (size := 1) (e := 5) w #[.int .u8 ((n : Int) % 128 + 128)] 1 (Nat.le_refl _) (by decide) (by simp)
      have ho2 := owns_below ho hb1
      have hl := enc_length f (n / 128)
      have hsz := hb1.size
      have hbw : Below w.heap.size w w1 := ((Below.refl _ _).alloc (Nat.le_refl _) _).trans (hb1.mono (by simp))
      simp only [World.size_alloc] at hsz
      go_wp2_with (at_builtin; go_must (refine wpList_append_rd ho2 (Rd.ofOwns ho1) Try.underlying24 Try.info5 rfl rfl rfl rfl rfl (bc_one _) (by rw [bc_length]; omega) (by decide) (by omega) ?_); intro v2 w2 ho3 hb3 hg3; clear hg3)
      go_ret
      refine ⟨v2, rfl, ?_, hbw.trans hb3⟩
      rw [enc_big f n (by omega)]
      have e1 : [Value.int .u8 ((n : Int) % 128 + 128)] ++ bc (enc f (n / 128)) = bc (UInt8.ofNat (n % 128 + 128) :: enc f (n / 128)) := by
        simp only [bc, List.map_cons, List.singleton_append, u8_ofNat_toNat (n % 128 + 128) (by omega)]
        congr 2
      rw [← e1, List.length_cons, Nat.add_comm]
      simpa [bc_length] using ho3

theorem Number_any (n : Nat) (w : World) (h : (n : Int) ≤ 9223372036854775807) :
    Calls Try.prog 54 #[.int .i64 n] w fun e w' => ∃ v', e = .returned v' ∧ Rd w' v' (bc (encN n)) ∧ Below w.heap.size w w' ∧ New w.heap.size v' :=
  (Number_go 9 n w (by omega) h (Nat.le_refl _)).mono fun _ _ ⟨v', h1, h2, h3⟩ => ⟨v', h1, Rd.ofOwns h2, h3, New.owns h2⟩

end Go.Proofs.Ytlebbkbbmgmmjac

/-
  The walks over the document's reading of numbers.
-/
namespace Go.Proofs.Ytlebbkbbmgmmjac
open Go.RowKit

def okB (bs : List UInt8) (k : Nat) : Bool := decide (valOf (bs.take k) ≤ 1000000000) && (encN (valOf (bs.take k)) == bs.take k)
theorem okB_iff (bs : List UInt8) (k : Nat) : okB bs k = true ↔ okAt bs k := by simp [okB, okAt]
theorem okB_no {bs : List UInt8} {k : Nat} (h : okB bs k = false) : ¬ okAt bs k := fun e => by rw [(okB_iff bs k).2 e] at h; cases h

/-- What NumberAt answers. -/
def natV : Option (Nat × Nat) → Value
  | none => .tuple #[.int .i64 0, .int .i64 0]
  | some (n, k) => .tuple #[.int .i64 n, .int .i64 k]

set_option maxRecDepth 100000 in
set_option maxHeartbeats 400000 in
theorem NumberAt_any (v : Value) (bs : List UInt8) (w : World) (hrd : Rd w v (bc bs)) :
    Calls Try.prog 59 #[v] w fun e w' => e = .returned (natV (numAt bs)) ∧ Below w.heap.size w w' := by
  obtain ⟨ao, cap, hv, hc1, hc2, hcell⟩ := hrd.open
  rw [bc_length] at hc1 hv hcell
  subst hv
  unfold maxLen at hc2
  go_enter Try.func59, Try.ntmps59
  go_wp2_with fail
  go_loopw [4] (fun i wr => ∃ k : Nat, 1 ≤ k ∧ k ≤ 6 ∧ i = .int .i64 k ∧ (∀ k', 1 ≤ k' → k' < k → k' ≤ bs.length → ¬ okAt bs k') ∧ Below w.heap.size w wr) (fun i _ => 6 - (intOf i).toNat)
  case atStart => exact ⟨1, by omega, by omega, rfl, fun k' h1 h2 => by omega, Below.refl _ _⟩
  case round =>
    obtain ⟨k, hk1, hk6, rfl, hno, hbel⟩ := hrel
    have HN := hide hno
    clear hno
    by_cases hlt : k ≤ 5 ∧ k ≤ bs.length
    · obtain ⟨hl1, hl2⟩ := hlt
      go_wp2_with fail
      go_loop [5, 6] (fun n i => ∃ j : Nat, j ≤ k ∧ i = .int .i64 ((j : Int) - 1) ∧ n = .int .i64 (valOf ((bs.take k).drop j))) (fun _ i => (intOf i + 1).toNat)
      case atStart => exact ⟨k, Nat.le_refl _, rfl, by rw [List.drop_eq_nil_of_le (by simp; omega)]; rfl⟩
      case round =>
        obtain ⟨j, hj, rfl, rfl⟩ := hrel
        by_cases hj0 : j = 0
        · subst hj0
          rw [List.drop_zero]
          have hvb := valOf_bound (l := bs.take k) (by simp; omega)
          have hok : okB bs k = (decide (valOf (bs.take k) ≤ 1000000000) && (encN (valOf (bs.take k)) == bs.take k)) := rfl
          have hsome := @okAt_some bs k
          generalize valOf (bs.take k) = N at *
          have HS := hide hsome
          have HO := hide hok
          have hrr := hrd.below hbel
          have hV := hrr.upto (hi := k) hl2
          rw [bc_take] at hV
          have hsl := run_slice_upto (P := Try.prog) Try.underlying24 (by kernel_rfl) Try.info5 ao bs.length cap k k rfl (by omega)
          generalize sliced ao 0 k cap 1 = V at hV hsl
          clear hsome hok hcell hrr
          have hN : (N : Int) < 34359738368 := by omega
          go_wp2_with fail
          go_cut [41] (fun s wc => s = .bool (okB bs k) ∧ Below w.heap.size w wc)
          case first =>
            by_cases h9 : (N : Int) ≤ 1000000000
            · have hd : decide ((N : Int) ≤ 1000000000) = true := by simpa using h9
              go_region_held3 (fun _ => True) (trivial) (first | (go_at_call 54; refine (Number_any N _ (by omega)).mono ?_; rintro e w2 ⟨v2, rfl, hr2, hb2, hn2⟩; have hV2 := Rd.below (v := V) (by exact hV) hb2) | (go_at_call 25; refine (Same_any _ _ (encN N) (bs.take k) _ ?_ ?_).mono ?_; exact hr2; exact hV2; rintro e w3 ⟨rfl, rfl⟩))
              go_wp2_with fail
              go_meet
              case rel => exact ⟨by rw [HO.out, show decide (N ≤ 1000000000) = true by simp; omega, Bool.true_and], (hbel.drew).trans (Below.mono hb2 hbel.size)⟩
            · have hd : decide ((N : Int) ≤ 1000000000) = false := by simpa using h9
              go_quiet (fail)
              go_wp2_with fail
              go_meet
              case rel => exact ⟨by rw [HO.out, show decide (N ≤ 1000000000) = false by simp; omega, Bool.false_and], below_drewN hbel _⟩
          case rest =>
            obtain ⟨rfl, hbel2⟩ := hcut
            cases hb : okB bs k with
            | true =>
              have e1 := HS.out ((okB_iff bs k).1 hb) hl2
              have HE := hide e1
              clear e1 hb
              go_wp2_with fail
              go_ret2
              exact ⟨by rw [HE.out]; rfl, hbel2⟩
            | false =>
              have HE := hide (okB_no hb)
              clear hb
              go_wp2_with fail
              go_roundw
              case rel =>
                refine ⟨k + 1, by omega, by omega, by go_num, fun k' h1 h2 h3 => ?_, hbel2⟩
                by_cases e : k' = k
                · subst e; exact HE.out
                · exact HN.out k' h1 (by omega) h3
              case measure => simp [intOf]; omega
        · obtain ⟨i, rfl⟩ : ∃ i, j = i + 1 := ⟨j - 1, by omega⟩
          rw [show ((i + 1 : Nat) : Int) - 1 = (i : Int) by omega]
          have hi : i < bs.length := by omega
          obtain ⟨b, off, rfl, hb, hcl⟩ := hcell i hi
          have hik : i < (bs.take k).length := by simp; omega
          have hvd := valOf_drop (bs.take k) i hik
          have hvb := valOf_bound (l := (bs.take k).drop (i + 1)) (by simp; omega)
          have hx : (bs.take k)[i] = bs[i] := List.getElem_take
          rw [hx] at hvd
          have hck : wr.cell? ⟨b, off + i, none⟩ = some (.int .u8 (bs[i].toNat : Int)) := by
            rw [hbel.cell (by exact hb)]
            exact hcl i _ (by simp [bc, hi])
          have hxl := bs[i].toNat_lt
          generalize bs[i].toNat = x at *
          generalize valOf ((bs.take k).drop (i + 1)) = N at *
          have HV := hide hvd
          clear hvd hx hcl hcell
          have hN : (N : Int) < 34359738368 := by omega
          go_wp2_with fail
          go_round
          case rel => exact ⟨i, by omega, rfl, by rw [HV.out]; go_num⟩
          case measure => simp [intOf]
    · go_wp2_with fail
      all_goals
        go_ret2
        exact ⟨by rw [numAt_none (fun k' h1 h2 h3 => HN.out k' h1 (by omega) h3)]; rfl, hbel⟩

/-- What ReadNumbers answers, from what is left on: the numbers, and how many are ahead of what is none. -/
def refNums : Nat → List UInt8 → List Int → List Int × Int
  | 0, _, _ => ([], 0)
  | f + 1, bs, acc =>
    if bs = [] then (acc, -1)
    else match numAt bs with
      | none => ([], (acc.length : Int))
      | some (n, k) => refNums f (bs.drop k) (acc ++ [(n : Int)])

theorem refNums_end {f : Nat} {acc : List Int} : refNums (f + 1) [] acc = (acc, -1) := by
  rw [refNums, if_pos rfl]

theorem refNums_bad {f : Nat} {bs : List UInt8} {acc : List Int} (h : bs ≠ []) (hn : numAt bs = none) : refNums (f + 1) bs acc = ([], (acc.length : Int)) := by
  rw [refNums, if_neg h, hn]

theorem refNums_step {f : Nat} {bs : List UInt8} {acc : List Int} {n k : Nat} (h : bs ≠ []) (hn : numAt bs = some (n, k)) : refNums (f + 1) bs acc = refNums f (bs.drop k) (acc ++ [(n : Int)]) := by
  rw [refNums, if_neg h, hn]


end Go.Proofs.Ytlebbkbbmgmmjac
