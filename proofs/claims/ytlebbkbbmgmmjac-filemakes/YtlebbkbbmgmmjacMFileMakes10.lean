/-
  Texts joined: FileW9, FramesUn, FileMath2, FileMath3, FileW10, FileB, LawFMakes.
-/
import Derived.Test.YtlebbkbbmgmmjacMFileMakes9
/-
  The walks over file.opened and file.Open.
-/
namespace Go.Proofs.Ytlebbkbbmgmmjac
open Go.RowKit

set_option maxRecDepth 100000 in
set_option maxHeartbeats 400000 in
theorem Equal_any (u v : Value) (xs ys : List UInt8) (w : World) (h1 : Rd w u (bc xs)) (h2 : Rd w v (bc ys)) :
    Calls Try.prog 85 #[u, v] w fun e w' => e = .returned (.bool (xs == ys)) ∧ w' = w := by
  have c1 := run_string_of_rd (P := Try.prog) Try.underlying24 Try.underlying5 Try.underlying9 h1
  have c2 := run_string_of_rd (P := Try.prog) Try.underlying24 Try.underlying5 Try.underlying9 h2
  go_enter Try.func85, Try.ntmps85
  go_wp2_with fail
  go_ret
  exact ⟨rfl, rfl⟩

theorem rbR_fine {bl rows : List (List UInt8)} {cs : List Cl} (h : rbR bl rows = some cs) : cs.length ≤ 500 ∧ (checkC cs).1 = 0 := by
  unfold rbR at h
  split at h
  · cases h
  · split at h
    · split at h
      · simp only [Option.some.injEq] at h
        subst h
        exact ⟨by assumption, by assumption⟩
      · cases h
    · cases h

/-- The two result blocks of opened, and what is below. -/
structure Ow (w wr : World) : Prop where
  t : Bk wr w.heap.size 91 #[.slice none 0 0, .slice none 0 0, .slice none 0 0]
  f : Bk wr (w.heap.size + 1) 26 #[.int .i64 0, .int .i64 0]
  b : Below w.heap.size w wr

theorem Ow.below {w wr w' : World} (h : Ow w wr) (hb : Below wr.heap.size wr w') : Ow w w' :=
  ⟨h.t.below hb h.t.lt, h.f.below hb h.f.lt, h.b.trans (hb.mono h.b.size)⟩

theorem Ow.cells {w wr : World} (h : Ow w wr) : wr.cell? ⟨w.heap.size, 0, none⟩ = some (.slice none 0 0) ∧ wr.cell? ⟨w.heap.size, 1, none⟩ = some (.slice none 0 0) ∧ wr.cell? ⟨w.heap.size, 2, none⟩ = some (.slice none 0 0) ∧ wr.cell? ⟨w.heap.size + 1, 0, none⟩ = some (.int .i64 0) ∧ wr.cell? ⟨w.heap.size + 1, 1, none⟩ = some (.int .i64 0)
    ∧ wr.frozen? ⟨w.heap.size, 0, none⟩ = false ∧ wr.frozen? ⟨w.heap.size, 1, none⟩ = false ∧ wr.frozen? ⟨w.heap.size, 2, none⟩ = false ∧ wr.frozen? ⟨w.heap.size + 1, 0, none⟩ = false ∧ wr.frozen? ⟨w.heap.size + 1, 1, none⟩ = false ∧ w.heap.size + 1 < wr.heap.size :=
  ⟨h.t.cell 0, h.t.cell 1, h.t.cell 2, h.f.cell 0, h.f.cell 1, h.t.frozen 0, h.t.frozen 1, h.t.frozen 2, h.f.frozen 0, h.f.frozen 1, h.f.lt⟩

theorem Rd.notIn {w : World} {v : Value} {xs : List Value} {B : Nat} {t : TypeId} {arr : Array Value} (h : Rd w v xs) (hB : Bk w B t arr) (hne : ∀ u ∈ xs, u ∉ arr.toList) : ∀ a l c, v = .slice (some a) l c → 0 < xs.length → a.block ≠ B := by
  intro a l c hv hp e
  obtain ⟨ao, cap, hv', _, _, _, h4⟩ := h
  rw [hv] at hv'
  simp only [Value.slice.injEq] at hv'
  obtain ⟨rfl, _, _⟩ := hv'
  have hc := h4 a rfl 0 xs[0] (by simp)
  obtain ⟨b, o, rfl⟩ := add_spot hc
  simp only at e
  subst e
  rw [Addr.add_lit, hB.cell] at hc
  exact hne xs[0] (List.getElem_mem hp) (by rw [Array.mem_toList_iff]; exact Array.mem_of_getElem? hc)

theorem RdC.notIn {w : World} {v : Value} {cs : List Cl} {B : Nat} {t : TypeId} {arr : Array Value} (h : RdC w v cs) (hB : Bk w B t arr) (hs : ∀ s, Value.string s ∉ arr.toList) : ∀ a l c, v = .slice (some a) l c → 0 < cs.length → a.block ≠ B := by
  intro a l c hv hp e
  cases cs with
  | nil => simp at hp
  | cons d r =>
    rw [hv] at h
    obtain ⟨b, off, he, _, hat⟩ := h.hereD (i := 0) (c := d) rfl
    simp only [Option.some.injEq] at he
    rw [he] at e
    simp only at e
    subst e
    have hc := hat.c0
    rw [hB.cell] at hc
    exact hs d.row (by rw [Array.mem_toList_iff]; exact Array.mem_of_getElem? hc)

theorem RdC.grownT {w w' : World} {v : Value} {cs : List Cl} {R : Nat} (h : RdC w v cs) (hg : w.grownBy w' (some R)) (hR : ∀ a l c, v = .slice (some a) l c → 0 < cs.length → a.block ≠ R) : RdC w' v cs := by
  obtain ⟨ao, cap, hv, h1, h2, h3, h4⟩ := h
  refine ⟨ao, cap, hv, h1, h2, h3, fun a ha j u hu => ?_⟩
  have hc := h4 a ha j u hu
  refine hg.cell hc ?_
  subst ha
  have e : (a.add j).block = a.block := by unfold Addr.add; split <;> rfl
  rw [e]
  intro e
  refine hR a _ _ hv ?_ (by simpa using e)
  have := (List.getElem?_eq_some_iff.1 hu).1
  rw [cc_length] at this
  omega

/-- What the five stores leave. -/
theorem grown5 (w : World) (A B : Nat) (x y z p q : Value) : w.grownBy (((w.setCell ⟨A, 0, none⟩ x).setCell ⟨A, 1, none⟩ y).setCell ⟨A, 2, none⟩ z) (some A) ∧ (((w.setCell ⟨A, 0, none⟩ x).setCell ⟨A, 1, none⟩ y).setCell ⟨A, 2, none⟩ z).grownBy (((((w.setCell ⟨A, 0, none⟩ x).setCell ⟨A, 1, none⟩ y).setCell ⟨A, 2, none⟩ z).setCell ⟨B, 0, none⟩ p).setCell ⟨B, 1, none⟩ q) (some B) :=
  ⟨grownT_trans (grownT_trans (grownT_set _ _ _ _) (grownT_set _ _ _ _)) (grownT_set _ _ _ _), grownT_trans (grownT_set _ _ _ _) (grownT_set _ _ _ _)⟩

set_option maxRecDepth 100000 in
set_option maxHeartbeats 2000000 in
theorem opened_any (v : Value) (bs : List UInt8) (w : World) (hrd : Rd w v (bc bs)) :
    Calls Try.prog 56 #[v] w fun e w' => ∃ o1 n1 c1 o2 n2 c2 o3 n3 c3, e = .returned (.tuple #[.agg #[.slice o1 n1 c1, .slice o2 n2 c2, .slice o3 n3 c3], fltC (openF bs).2]) ∧ RdC w' (.slice o1 n1 c1) (openF bs).1.1 ∧ Rd w' (.slice o2 n2 c2) (sc (openF bs).1.2.1) ∧ Rd w' (.slice o3 n3 c3) (bc (openF bs).1.2.2) ∧ Below w.heap.size w w' := by
  obtain ⟨ao, cap, hv, hc1, hc2⟩ := hrd.shape
  rw [bc_length] at hc1 hv
  subst hv
  unfold maxLen at hc2
  have hO0 : Ow w ((w.alloc (.cells #[.slice none 0 0, .slice none 0 0, .slice none 0 0] 91)).alloc (.cells #[.int .i64 0, .int .i64 0] 26)) :=
    ⟨(Bk.new w _ _).below (below_alloc' _ _) (by simp), Bk.new2 w _ _ _, (below_alloc' _ _).trans ((below_alloc' _ _).mono (by simp))⟩
  by_cases hbig : 60000 < bs.length
  · have HE := hide (openF_big hbig)
    clear hO0
    go_enter Try.func56, Try.ntmps56
    go_wp2_with fail
    exact bodyPost_ret (v := .tuple #[.agg #[.slice none 0 0, .slice none 0 0, .slice none 0 0], fltC (8, 0)]) (by simp [results, Try.results56, go_sem, fltC]) rfl ⟨none, 0, 0, none, 0, 0, none, 0, 0, by rw [HE.out], by rw [HE.out]; exact RdC.nil _, by rw [HE.out]; exact Rd.nil _, by rw [HE.out]; exact Rd.nil _, by go_grown⟩
  have hsm : (bs.length : Int) ≤ 60000 := by omega
  have HBIG := hide hbig
  clear hbig
  go_enter Try.func56, Try.ntmps56
  go_wp2_with fail
  generalize (w.alloc (.cells #[.slice none 0 0, .slice none 0 0, .slice none 0 0] 91)).alloc (.cells #[.int .i64 0, .int .i64 0] 26) = wA at *
  refine (pieces_any _ bs _ (hrd.below hO0.b) (by omega)).mono ?_
  rintro e w1 ⟨hp, hb1⟩
  have hO1 := hO0.below hb1
  clear hO0
  cases hn : piecesR bs with
  | none =>
    rw [hn] at hp
    have HE := hide (openF_pieces HBIG.out hn)
    unfold piecesPost at hp
    subst hp
    obtain ⟨t0, t1, t2, f0, f1, z0, z1, z2, y0, y1, hlt⟩ := hO1.cells
    have hbw := hO1.b
    clear hn
    go_wp2_with fail
    exact bodyPost_ret (v := .tuple #[.agg #[.slice none 0 0, .slice none 0 0, .slice none 0 0], fltC (5, 0)]) (by simp [results, Try.results56, go_sem, fltC, t0, t1, t2, f0, f1]) rfl ⟨none, 0, 0, none, 0, 0, none, 0, 0, by rw [HE.out], by rw [HE.out]; exact RdC.nil _, by rw [HE.out]; exact Rd.nil _, by rw [HE.out]; exact Rd.nil _, by go_grown⟩
  | some p =>
    obtain ⟨bl, ix, bits⟩ := p
    rw [hn] at hp
    obtain ⟨v1, v2, v3, rfl, hB1, hI1, hF1⟩ := hp
    have hbn := piecesR_len hn
    have HN := hide hn
    clear hn
    go_wp2_with fail
    refine (readIndex_any _ _ ix bl _ hI1 hB1 (by omega)).mono ?_
    rintro e w2 ⟨hp, hb2⟩
    have hO2 := hO1.below hb2
    have hB2 := hB1.below hb2
    have hF2 := hF1.below hb2
    clear hO1 hB1 hF1 hI1
    cases hr : rixGo ix bl [] with
    | none =>
      rw [hr] at hp
      have HE := hide (openF_index HBIG.out HN.out hr)
      obtain ⟨v4, rfl⟩ := hp
      obtain ⟨t0, t1, t2, f0, f1, z0, z1, z2, y0, y1, hlt⟩ := hO2.cells
      have hbw := hO2.b
      clear hr
      go_wp2_with fail
      exact bodyPost_ret (v := .tuple #[.agg #[.slice none 0 0, .slice none 0 0, .slice none 0 0], fltC (5, 1)]) (by simp [results, Try.results56, go_sem, fltC, t0, t1, t2, f0, f1]) rfl ⟨none, 0, 0, none, 0, 0, none, 0, 0, by rw [HE.out], by rw [HE.out]; exact RdC.nil _, by rw [HE.out]; exact Rd.nil _, by rw [HE.out]; exact Rd.nil _, by go_grown⟩
    | some rows =>
      rw [hr] at hp
      obtain ⟨v4, rfl, hR2⟩ := hp
      have hrl := rixGo_len _ _ _ _ hr
      have HR := hide hr
      clear hr
      go_wp2_with fail
      refine (readBlocks_any _ _ bl rows _ hB2 hR2 (by simpa using hrl) (by omega)).mono ?_
      rintro e w3 ⟨hp, hb3⟩
      have hO3 := hO2.below hb3
      have hF3 := hF2.below hb3
      have hR3 := hR2.below hb3
      clear hO2 hB2 hF2 hR2 hrl
      cases hc : rbR bl rows with
      | none =>
        rw [hc] at hp
        have HE := hide (openF_blocks HBIG.out HN.out HR.out hc)
        obtain ⟨v5, rfl⟩ := hp
        obtain ⟨t0, t1, t2, f0, f1, z0, z1, z2, y0, y1, hlt⟩ := hO3.cells
        have hbw := hO3.b
        clear hc
        go_wp2_with fail
        exact bodyPost_ret (v := .tuple #[.agg #[.slice none 0 0, .slice none 0 0, .slice none 0 0], fltC (5, 2)]) (by simp [results, Try.results56, go_sem, fltC, t0, t1, t2, f0, f1]) rfl ⟨none, 0, 0, none, 0, 0, none, 0, 0, by rw [HE.out], by rw [HE.out]; exact RdC.nil _, by rw [HE.out]; exact Rd.nil _, by rw [HE.out]; exact Rd.nil _, by go_grown⟩
      | some cs =>
        rw [hc] at hp
        obtain ⟨v5, rfl, hC3⟩ := hp
        obtain ⟨hl5, hck⟩ := rbR_fine hc
        have HCC : Hid (∀ c ∈ cs, codeC c = 0) := hide (fun c h => fine_code hck h)
        have HEQ := hide (@openF_ok bs ix bits bl rows cs HBIG.out HN.out HR.out hc)
        have HNE := hide (@openF_filter bs ix bits bl rows cs HBIG.out HN.out HR.out hc)
        clear hc hck
        go_wp2_with fail
        refine (filterOf_any _ cs _ hC3 (by omega) (fun c h => by rw [ba_size]; have := (codeC_parts (HCC.out c h)).2.1; omega)).mono ?_
        rintro e w4 ⟨v6, rfl, hf4, hb4, _⟩
        have hO4 := hO3.below hb4
        have hF4 := hF3.below hb4
        have hR4 := hR3.below hb4
        have hC4 := hC3.below hb4
        clear hO3 hF3 hR3 hC3
        go_wp2_with fail
        refine (Equal_any _ _ bits (filtB cs) _ hF4 hf4).mono ?_
        rintro e w5 ⟨rfl, rfl⟩
        obtain ⟨t0, t1, t2, f0, f1, z0, z1, z2, y0, y1, hlt⟩ := hO4.cells
        have hbw := hO4.b
        obtain ⟨o1, c1, hv1, _, _⟩ := hC4.shape
        obtain ⟨o2, c2, hv2, _, _⟩ := hR4.shape
        obtain ⟨o3, c3, hv3, _, _⟩ := hF4.shape
        rw [sc_length] at hv2
        rw [bc_length] at hv3
        subst hv1 hv2 hv3
        by_cases hq : bits = filtB cs
        · have HE := hide (HEQ.out hq)
          have hqb : (bits == filtB cs) = true := beq_iff_eq.2 hq
          rw [hqb]
          clear hq hqb
          have nC1 := hC4.notIn hO4.t (fun s h => by simp at h)
          have nC2 := hC4.notIn hO4.f (fun s h => by simp at h)
          have nR1 := hR4.notIn hO4.t (fun u hu h => by simp only [sc, List.mem_map] at hu; obtain ⟨s, _, rfl⟩ := hu; simp at h)
          have nR2 := hR4.notIn hO4.f (fun u hu h => by simp only [sc, List.mem_map] at hu; obtain ⟨s, _, rfl⟩ := hu; simp at h)
          have nF1 := hF4.notIn hO4.t (fun u hu h => by simp only [bc, List.mem_map] at hu; obtain ⟨s, _, rfl⟩ := hu; simp at h)
          have nF2 := hF4.notIn hO4.f (fun u hu h => by simp only [bc, List.mem_map] at hu; obtain ⟨s, _, rfl⟩ := hu; simp at h)
          have HN1 := hide nC1
          have HN2 := hide nC2
          have HN3 := hide nR1
          have HN4 := hide nR2
          have HN5 := hide nF1
          have HN6 := hide nF2
          clear nC1 nC2 nR1 nR2 nF1 nF2
          go_wp2_with fail
          obtain ⟨g1, g2⟩ := grown5 w5 w.heap.size (w.heap.size + 1) (.slice o1 cs.length c1) (.slice o2 rows.length c2) (.slice o3 bits.length c3) (.int .i64 0) (.int .i64 0)
          exact bodyPost_ret (v := .tuple #[.agg #[.slice o1 cs.length c1, .slice o2 rows.length c2, .slice o3 bits.length c3], fltC (0, 0)]) (by simp [results, Try.results56, go_sem, fltC, t0, t1, t2, f0, f1]) rfl ⟨o1, _, c1, o2, _, c2, o3, _, c3, by rw [HE.out], by rw [HE.out]; exact (hC4.grownT g1 HN1.out).grownT g2 HN2.out, by rw [HE.out]; exact (hR4.grownT g1 HN3.out).grownT g2 HN4.out, by rw [HE.out]; exact (hF4.grownT g1 HN5.out).grownT g2 HN6.out, by go_grown⟩
        · have HE := hide (HNE.out hq)
          have hqb : (bits == filtB cs) = false := beq_eq_false_iff_ne.2 hq
          rw [hqb]
          clear hq hqb
          go_wp2_with fail
          exact bodyPost_ret (v := .tuple #[.agg #[.slice none 0 0, .slice none 0 0, .slice none 0 0], fltC (5, 3)]) (by simp [results, Try.results56, go_sem, fltC, t0, t1, t2, f0, f1]) rfl ⟨none, 0, 0, none, 0, 0, none, 0, 0, by rw [HE.out], by rw [HE.out]; exact RdC.nil _, by rw [HE.out]; exact Rd.nil _, by rw [HE.out]; exact Rd.nil _, by go_grown⟩

set_option maxRecDepth 100000 in
set_option maxHeartbeats 1000000 in
theorem FOpen_any (v : Value) (bs : List UInt8) (w : World) (hrd : Rd w v (bc bs)) :
    Calls Try.prog 17 #[v] w fun e w' => ∃ v', e = .returned (.tuple #[v', fltC (openF bs).2]) ∧ RdC w' v' (openF bs).1.1 ∧ Below w.heap.size w w' := by
  obtain ⟨ao, cap, hv, hc1, hc2⟩ := hrd.shape
  rw [bc_length] at hc1 hv
  subst hv
  have hR0 := Bk.new w 26 #[.int .i64 0, .int .i64 0]
  go_enter Try.func17, Try.ntmps17
  go_wp2_with fail
  refine (opened_any _ bs _ (hrd.alloc _)).mono ?_
  rintro e w1 ⟨o1, n1, c1, o2, n2, c2, o3, n3, c3, rfl, hC, _, _, hb1⟩
  have hR1 := hR0.below hb1 (by simp)
  have hbw1 : Below w.heap.size w w1 := (below_alloc' _ _).trans (hb1.mono (by simp))
  have hC1 := hC.notIn hR1 (fun s h => by simp at h)
  have HN := hide hC1
  clear hC1 hR0 hb1
  generalize hF : openF bs = F at *
  obtain ⟨⟨cs, rows, bits⟩, x, y⟩ := F
  have HF := hide hF
  clear hF
  simp only at hC ⊢
  unfold fltC
  have r0 := hR1.cell 0
  have r1 := hR1.cell 1
  have r2 := hR1.frozen 0
  have r3 := hR1.frozen 1
  have hlt := hR1.lt
  simp at r0 r1
  go_wp2_with fail
  go_region
  all_goals
    go_wp2_with fail
    have g1 := grownT_trans (grownT_set w1 w.heap.size 0 (.int .i64 x)) (grownT_set _ w.heap.size 1 (.int .i64 y))
    exact bodyPost_ret (v := .tuple #[.slice o1 n1 c1, fltC (x, y)]) (by simp [results, Try.results17, go_sem, fltC, r0, r1, hlt]) rfl ⟨_, by rw [HF.out], by rw [HF.out]; exact (((hC.grownT g1 HN.out).alloc _).alloc _).drew, by go_grown⟩

end Go.Proofs.Ytlebbkbbmgmmjac

/-
  The walk over the document's reading of frames.
-/
namespace Go.Proofs.Ytlebbkbbmgmmjac
open Go.RowKit

theorem owns_none {w w' : World} {base : Nat} {e : TypeId} {size : Nat} {v : Value} {n : Nat} {xs : List Value} (h : w.ownsRow base e size v n xs) (hg : w.grownBy w' none) : w'.ownsRow base e size v n xs := by
  refine h.kept hg ?_
  cases hv : v.ownBlock with
  | none => exact .inl rfl
  | some k => right; simp

theorem OwnB.drewN {w : World} {base : Nat} {us : List Value} {bb : List (List UInt8)} (h : OwnB w base us bb) (n : Nat) : OwnB (w.drewN n) base us bb := OwnB.keep (w := w) (w' := w.drewN n) (fun _ _ _ h => h) h
theorem OwnB.drew {w : World} {base : Nat} {us : List Value} {bb : List (List UInt8)} (h : OwnB w base us bb) : OwnB w.drew base us bb := OwnB.keep (w := w) (w' := w.drew) (fun _ _ _ h => h) h

set_option maxRecDepth 100000 in
set_option maxHeartbeats 1000000 in
theorem Unframed_any (v : Value) (bs : List UInt8) (w : World) (hrd : Rd w v (bc bs)) (hbl : bs.length ≤ 60000) :
    Calls Try.prog 30 #[v] w fun e w' => ∃ v', e = .returned (.tuple #[v', .int .i64 ((unGo (bs.length + 1) bs [] 0).2 : Nat)]) ∧ RdBN w' w.heap.size v' (unGo (bs.length + 1) bs [] 0).1 ∧ Below w.heap.size w w' := by
  obtain ⟨ao, cap, hv, hc1, hc2, hcell⟩ := hrd.open
  rw [bc_length] at hc1 hv hcell
  subst hv
  unfold maxLen at hc2
  go_enter Try.func30, Try.ntmps30
  go_wp2_with fail
  go_loopw [4, 5] (fun o i wr => ∃ (k f : Nat) (acc : List (List UInt8)) (us : List Value), k ≤ bs.length ∧ i = .int .i64 k ∧ unGo (f + 1) (bs.drop k) acc k = unGo (bs.length + 1) bs [] 0 ∧ bs.length ≤ k + f ∧ acc.length ≤ k ∧ wr.ownsRow w.heap.size 24 1 o acc.length us ∧ OwnB wr w.heap.size us acc ∧ Below w.heap.size w wr)
    (fun _ i _ => bs.length + 1 - (intOf i).toNat)
  case atStart => exact ⟨0, bs.length, [], [], by omega, rfl, rfl, by omega, by simp, World.ownsRow_nil _ _ _ _, trivial, Below.refl _ _⟩
  case round =>
    obtain ⟨k, f, acc, us, hk, rfl, hgo, hf, hacc, hown, hob, hbel⟩ := hrel
    have HG := hide hgo
    clear hgo
    have hsz := hbel.size
    have hrr := hrd.below hbel
    by_cases h6 : bs.length < k + 6
    · have HE := hide (@unGo_end f k (bs.drop k) acc (frameAt_short (by rw [List.length_drop]; omega)))
      go_wp2_with fail
      go_ret2
      exact ⟨_, by rw [← HG.out, HE.out]; rfl, by rw [← HG.out, HE.out]; exact rdBN_of hown hob (Nat.le_refl _), hbel⟩
    · obtain ⟨b, off, rfl, hb, hcl⟩ := hcell k (by omega)
      obtain ⟨y0, hy0⟩ : ∃ y, bs[k]? = some y := ⟨_, List.getElem?_eq_getElem (by omega)⟩
      obtain ⟨y1, hy1⟩ : ∃ y, bs[k + 1]? = some y := ⟨_, List.getElem?_eq_getElem (by omega)⟩
      have hk0 : wr.cell? ⟨b, off + k, none⟩ = some (.int .u8 (y0.toNat : Int)) := by rw [hbel.cell (by exact hb)]; exact hcl k _ (by simp [bc, hy0])
      have hk1 : wr.cell? ⟨b, off + (k + 1), none⟩ = some (.int .u8 (y1.toNat : Int)) := by rw [hbel.cell (by exact hb)]; exact hcl (k + 1) _ (by simp [bc, hy1])
      have hx0 := y0.toNat_lt
      have hx1 := y1.toNat_lt
      have hd0 : (bs.drop k)[0]? = some y0 := by rw [List.getElem?_drop]; exact hy0
      have hd1 : (bs.drop k)[1]? = some y1 := by rw [List.getElem?_drop]; exact hy1
      have hdl : (bs.drop k).length = bs.length - k := List.length_drop
      have hfe := fun n hn => frameAt_eq hd0 hd1 n hn
      have hsm := fun n hn hl => @framed_same _ _ _ n hd0 hd1 hn hl
      clear hcell hcl hy0 hy1 hd0 hd1
      generalize y0.toNat = x0 at *
      generalize y1.toNat = x1 at *
      obtain ⟨n, hn⟩ : ∃ n, n = x0 * 256 + x1 := ⟨_, rfl⟩
      have hfe := hfe n hn
      have hsm := hsm n hn
      rw [hdl] at hfe hsm
      have HFE := hide hfe
      have HSM := hide hsm
      have HN := hide hn
      have hni : (x0 : Int) * 256 + (x1 : Int) = (n : Int) := by omega
      have hn16 : (n : Int) ≤ 65535 := by omega
      clear hfe hsm hn
      by_cases hlong : bs.length - k < 6 + n
      · have hnone : frameAt (bs.drop k) = none := by rw [HFE.out, if_pos hlong]
        have HE := hide (@unGo_end f k (bs.drop k) acc hnone)
        clear hnone
        go_wp2_with fail
        go_quiet (fail)
        have hbrk : (bs.length : Int) < (k : Int) + 6 + (n : Int) := by omega
        go_wp2_with fail
        go_ret2
        exact ⟨_, by rw [← HG.out, HE.out]; rfl, by rw [← HG.out, HE.out]; exact rdBN_of (w := wr.drewN _) hown (hob.drewN _) (Nat.le_refl _), below_drewN hbel _⟩
      · have hfit : ¬ (bs.length : Int) < (k : Int) + 6 + (n : Int) := by omega
        have hwa : IntKind.i64.wrap ((k : Int) + 6) = (k : Int) + 6 := by rw [IntKind.wrap_i64]; omega
        have hwb : IntKind.i64.wrap ((k : Int) + 6 + (n : Int)) = (k : Int) + 6 + (n : Int) := by rw [IntKind.wrap_i64]; omega
        have hs7 := run_slice_rd (P := Try.prog) Try.underlying24 (by kernel_rfl) Try.info5 (some ⟨b, off, none⟩) bs.length cap (k + 2) (k + 2 + n) ((k : Int) + 2) ((k : Int) + 2 + (n : Int)) (by omega) (by omega) (by omega) (by omega)
        have hV7 := hrr.sliced (lo := k + 2) (hi := k + 2 + n) (by omega) (by omega)
        rw [bc_drop, bc_take, show k + 2 + n - (k + 2) = n by omega, ← List.drop_drop] at hV7
        have hs8 := run_slice_rd (P := Try.prog) Try.underlying24 (by kernel_rfl) Try.info5 (some ⟨b, off, none⟩) bs.length cap k (k + 6 + n) (k : Int) ((k : Int) + 6 + (n : Int)) (by omega) (by omega) (by omega) (by omega)
        have hV8 := hrr.sliced (lo := k) (hi := k + 6 + n) (by omega) (by omega)
        rw [bc_drop, bc_take, show k + 6 + n - k = 6 + n by omega] at hV8
        have hfe := HFE.out
        have hsm := HSM.out (by omega)
        rw [if_neg hlong] at hfe
        have hb7 : (((bs.drop k).drop 2).take n).length = n := by simp; omega
        generalize hBO : ((bs.drop k).drop 2).take n = body at *
        have HBO := hide hBO
        have HB7 := hide hb7
        have HBL : Hid (body.length ≤ 65535) := by show body.length ≤ 65535; omega
        clear hBO hb7
        generalize sliced (some ⟨b, off, none⟩) (k + 2) (k + 2 + n) cap 1 = V7 at hs7 hV7
        generalize sliced (some ⟨b, off, none⟩) k (k + 6 + n) cap 1 = V8 at hs8 hV8
        generalize (bs.drop k).take (6 + n) = whole at *
        by_cases hcr : crc ((bs.drop k).take (2 + n)) = beVal (((bs.drop k).drop (2 + n)).take 4)
        · rw [if_neg (by simpa using hcr)] at hfe
          have hsb : (framed body == whole) = true := by rw [hsm]; simpa using hcr
          have HE := hide (@unGo_step f k (bs.drop k) body acc hfe)
          clear hfe hsm hcr
          go_wp2_with fail
          go_quiet (fail)
          go_wp2_with fail
          have hown7 : (wr.drewN nq).ownsRow w.heap.size 24 1 _ acc.length us := hown
          have hob7 := hob.drewN nq
          have hbel7 := below_drewN hbel nq
          have hV77 := hV7.drewN nq
          have hV87 := hV8.drewN nq
          have hsz7 := hbel7.size
          generalize wr.drewN nq = w7 at *
          go_region_held3 (fun _ => True) (trivial) (first | (go_at_call 45; refine (Framed_any _ body _ (by exact hV77) (by exact HBL.out)).mono ?_; rintro e w2 ⟨v2, rfl, hr2, hb2, hn2⟩; have hV88 := Rd.below (v := V8) (by exact hV87) hb2) | (go_at_call 25; refine (Same_any _ _ (framed body) whole _ ?_ ?_).mono ?_; exact hr2; exact hV88; rintro e w3 ⟨rfl, rfl⟩))
          have hb27 := Below.trans hbel7.drew (hb2.mono (by exact hsz7))
          have hown2 := owns_below (w := w7.drew) hown7 hb2
          have hob2 := hob7.drew.keep (fun u n xs h => owns_below h hb2)
          have hV72 := Rd.below (v := V7) (w := w7.drew) hV77 hb2
          have hsz2 := hb27.size
          obtain ⟨ao2, cap2, hv2⟩ := owns_shape hown2
          subst hv2
          clear hown7 hob7 hbel7 hV77 hV87 hV88 hr2 hn2 hown hob hbel hV7 hV8 hb2
          have hn1 := World.ownsRow_nil w3 w.heap.size 5 1
          have hbn : 0 + (bc body).length ≤ 2000000000000 := by rw [bc_length, HB7.out]; omega
          have hal : acc.length ≤ 1000000000000 := by omega
          go_wp2_with (first | (have k9 := hown5; at_builtin; go_must (refine wpList_append_one hown5 Try.underlying60 Try.info24 rfl rfl rfl rfl rfl ho5o hal (by decide) hsz5 ?_); intro v6 w6 ho6 hb6 hg6) | (at_builtin; go_must (refine wpList_append_rd hn1 hV72 Try.underlying24 Try.info5 rfl rfl rfl rfl rfl (bc_one _) hbn (by decide) hsz2 ?_); intro v5 w5 ho5 hb5 hg5; obtain ⟨ao5, cap5, hv5⟩ := owns_shape ho5; subst hv5; have hown5 := owns_none hown2 hg5; have hsz5 := Nat.le_trans hsz2 hb5.size; have ho5o := owns_one ho5))
          have hob5 := hob2.keep (fun u n xs h => owns_none h hg5)
          simp only [List.nil_append, bc_length, Nat.zero_add] at ho5
          have hob6 := (hob5.snoc ho5).keep (fun u n xs h => owns_other (by decide) h hown5 hg6)
          have hl := HB7.out
          go_roundw
          case rel =>
            obtain ⟨f', rfl⟩ : ∃ f', f = f' + 1 := ⟨f - 1, by omega⟩
            refine ⟨k + (body.length + 6), f', acc ++ [body], _, by omega, by rw [hl]; go_num, ?_, by omega, by simp; omega, by simpa [bc_length] using ho6, hob6, (hb27.trans hb5).trans hb6⟩
            rw [← HG.out, HE.out, List.drop_drop]
          case measure => simp [intOf]; omega
        · rw [if_pos (by simpa using hcr)] at hfe
          have hsb : (framed body == whole) = false := by rw [hsm]; simpa using hcr
          have HE := hide (@unGo_end f k (bs.drop k) acc hfe)
          clear hfe hsm hcr
          go_wp2_with fail
          go_quiet (fail)
          go_wp2_with fail
          have hown7 : (wr.drewN nq).ownsRow w.heap.size 24 1 _ acc.length us := hown
          have hob7 := hob.drewN nq
          have hbel7 := below_drewN hbel nq
          have hV77 := hV7.drewN nq
          have hV87 := hV8.drewN nq
          have hsz7 := hbel7.size
          generalize wr.drewN nq = w7 at *
          go_region_held3 (fun _ => True) (trivial) (first | (go_at_call 45; refine (Framed_any _ body _ (by exact hV77) (by exact HBL.out)).mono ?_; rintro e w2 ⟨v2, rfl, hr2, hb2, hn2⟩; have hV88 := Rd.below (v := V8) (by exact hV87) hb2) | (go_at_call 25; refine (Same_any _ _ (framed body) whole _ ?_ ?_).mono ?_; exact hr2; exact hV88; rintro e w3 ⟨rfl, rfl⟩))
          have hb27 := Below.trans hbel7.drew (hb2.mono (by exact hsz7))
          have hown2 := owns_below (w := w7.drew) hown7 hb2
          have hob2 := hob7.drew.keep (fun u n xs h => owns_below h hb2)
          clear hown7 hob7 hbel7 hV77 hV87 hV88 hr2 hn2 hown hob hbel hV7 hV8 hb2
          go_wp2_with fail
          go_ret2
          exact ⟨_, by rw [← HG.out, HE.out]; rfl, by rw [← HG.out, HE.out]; exact rdBN_of hown2 hob2 (Nat.le_refl _), hb27⟩

end Go.Proofs.Ytlebbkbbmgmmjac

/-
  Files that are made: their frames, whole and torn: plain mathematics.
-/
namespace Go.Proofs.Ytlebbkbbmgmmjac
open Go.RowKit

theorem bodiesGo_flat : ∀ (l : List (List UInt8)) (f : Nat) (acc : List (List UInt8)) (tail : List UInt8), (∀ b ∈ l, b.length ≤ 65535) → l.length ≤ f → bodiesGo (f + 1) (flatF l ++ tail) acc = bodiesGo (f + 1 - l.length) tail (acc ++ l)
  | [], f, acc, tail, _, _ => by simp [flatF]
  | b :: l, 0, acc, tail, _, h => by simp at h
  | b :: l, f + 1, acc, tail, hb, hf => by
    have hne : flatF (b :: l) ++ tail ≠ [] := by
      intro e
      have := congrArg List.length e
      rw [flatF_cons, List.length_append, List.length_append, framed_length] at this
      simp at this
    have hfr : frameAt (flatF (b :: l) ++ tail) = some b := by
      rw [flatF_cons, List.append_assoc]
      exact frameAt_framed b _ (hb b (List.mem_cons_self ..))
    rw [bodiesGo_step hne hfr]
    have hd : (flatF (b :: l) ++ tail).drop (b.length + 6) = flatF l ++ tail := by
      rw [flatF_cons, List.append_assoc, ← framed_length b, List.drop_left]
    rw [hd, bodiesGo_flat l f _ tail (fun x hx => hb x (List.mem_cons_of_mem _ hx)) (by simpa using hf)]
    simp

theorem flatF_len : ∀ (l : List (List UInt8)), l.length ≤ (flatF l).length
  | [] => by simp
  | b :: l => by
    have := flatF_len l
    rw [flatF_cons, List.length_append, framed_length, List.length_cons]
    omega

theorem bodiesR_flat {l : List (List UInt8)} (hb : ∀ b ∈ l, b.length ≤ 65535) : bodiesR (flatF l) = some l := by
  have h := bodiesGo_flat l (flatF l).length [] [] hb (flatF_len l)
  rw [List.append_nil] at h
  rw [bodiesR, h]
  have := flatF_len l
  obtain ⟨m, hm⟩ : ∃ m, (flatF l).length + 1 - l.length = m + 1 := ⟨(flatF l).length - l.length, by omega⟩
  rw [hm, bodiesGo_end]
  simp

theorem unGo_flat : ∀ (l : List (List UInt8)) (f k : Nat) (acc : List (List UInt8)), (∀ b ∈ l, b.length ≤ 65535) → l.length ≤ f → (unGo (f + 1) (flatF l) acc k).1 = acc ++ l
  | [], f, k, acc, _, _ => by
    rw [unGo_end (by rfl)]
    simp
  | b :: l, 0, k, acc, _, h => by simp at h
  | b :: l, f + 1, k, acc, hb, hf => by
    have hfr : frameAt (flatF (b :: l)) = some b := by
      rw [flatF_cons]
      exact frameAt_framed b _ (hb b (List.mem_cons_self ..))
    have hd : (flatF (b :: l)).drop (b.length + 6) = flatF l := by rw [flatF_cons, ← framed_length b, List.drop_left]
    rw [unGo_step hfr, hd, unGo_flat l f _ _ (fun x hx => hb x (List.mem_cons_of_mem _ hx)) (by simpa using hf)]
    simp

theorem un_flat {l : List (List UInt8)} (hb : ∀ b ∈ l, b.length ≤ 65535) : (unGo ((flatF l).length + 1) (flatF l) [] 0).1 = l := by
  rw [unGo_flat l _ _ _ hb (flatF_len l)]
  rfl

/-- With one byte of a body or a sum another one there are not all frames. -/
theorem bodies_torn (l : List (List UInt8)) (i k : Nat) (tb : UInt8) (hb : ∀ b ∈ l, b.length ≤ 65535) (hk : k < l.length) (h2 : (flatF (l.take k)).length + 2 ≤ i) (h3 : i < (flatF (l.take k)).length + l[k].length + 6)
    (hne : (flatF l)[i]? ≠ some tb) : bodiesR ((flatF l).set i tb) = none := by
  have e0 : flatF l = flatF (l.take k) ++ (framed l[k] ++ flatF (l.drop (k + 1))) := by
    rw [← flatF_cons, ← drop_cons l k hk]
    exact flatF_split l k
  have hfl := framed_length l[k]
  have e : (flatF l).set i tb = flatF (l.take k) ++ ((framed l[k]).set (i - (flatF (l.take k)).length) tb ++ flatF (l.drop (k + 1))) := by
    rw [e0, List.set_append_right _ _ (by omega), List.set_append_left _ _ (by omega)]
  have hne' : (framed l[k])[i - (flatF (l.take k)).length]? ≠ some tb := by
    intro h
    apply hne
    rw [e0, List.getElem?_append_right (by omega), List.getElem?_append_left (by omega), h]
  have hfn := frameAt_set l[k] (flatF (l.drop (k + 1))) _ tb (hb _ (List.getElem_mem hk)) (by omega) (by omega) hne'
  have hlen : (flatF (l.take k)).length ≤ ((flatF l).set i tb).length := by rw [e, List.length_append]; omega
  have htl := flatF_len (l.take k)
  unfold bodiesR
  rw [e]
  rw [e] at hlen
  rw [bodiesGo_flat (l.take k) _ [] _ (fun b h => hb b (List.mem_of_mem_take h)) (by omega)]
  obtain ⟨m, hm⟩ : ∃ m, (flatF (l.take k) ++ ((framed l[k]).set (i - (flatF (l.take k)).length) tb ++ flatF (l.drop (k + 1)))).length + 1 - (l.take k).length = m + 1 := ⟨(flatF (l.take k) ++ ((framed l[k]).set (i - (flatF (l.take k)).length) tb ++ flatF (l.drop (k + 1)))).length - (l.take k).length, by omega⟩
  rw [hm]
  refine bodiesGo_bad ?_ hfn
  intro e2
  have := congrArg List.length e2
  rw [List.length_append, List.length_set, hfl] at this
  simp at this

/-- A file that is made, where there is no fault. -/
theorem makeF_ok {cs : List Cl} {size : Int} (h : (makeF cs size).2.1 = 0) : (checkC cs).1 = 0 ∧ cs.length ≤ 500 ∧ 50 ≤ size ∧ size ≤ 4000 ∧ makeF cs size = (flatF (fileBB cs size.toNat), (0, 0)) ∧ (flatF (fileBB cs size.toNat)).length ≤ 60000 := by
  by_cases hc : (checkC cs).1 = 0
  · by_cases h5 : 500 < cs.length
    · rw [makeF_many hc h5] at h
      simp at h
    · by_cases hs : size < 50 ∨ 4000 < size
      · rw [makeF_size hc h5 hs] at h
        simp at h
      · rw [makeF_go hc h5 hs] at h ⊢
        obtain ⟨_, h2, h3⟩ := framesR_zero h
        exact ⟨hc, by omega, by omega, by omega, by rw [h3], h2⟩
  · rw [makeF_bad hc] at h
    exact absurd h hc

end Go.Proofs.Ytlebbkbbmgmmjac

/-
  Files that are made are opened as they were: plain mathematics.
-/
namespace Go.Proofs.Ytlebbkbbmgmmjac
open Go.RowKit

theorem firstG_allz {f : Nat → Int} : ∀ (m i : Nat), (∀ j, i ≤ j → j < i + m → f j = 0) → firstG f m i = (0, 0)
  | 0, _, _ => rfl
  | m + 1, i, h => by
    rw [firstG, if_neg (by simp [h i (Nat.le_refl _) (by omega)])]
    exact firstG_allz m (i + 1) (fun j h1 h2 => h j (by omega) (by omega))

theorem check_of {cs : List Cl} (hl : cs.length ≤ 1000) (hc : ∀ c ∈ cs, codeC c = 0) (hp : cs.Pairwise Lt) : (checkC cs).1 = 0 := by
  unfold checkC faultR
  rw [if_neg (by omega), firstG_allz]
  intro j _ hj
  rw [Nat.zero_add] at hj
  obtain ⟨c, hcj⟩ : ∃ c, cs[j]? = some c := ⟨_, List.getElem?_eq_getElem hj⟩
  have h0 := hc c (List.mem_of_getElem? hcj)
  cases j with
  | zero => exact codeAt_first hcj h0
  | succ j =>
    obtain ⟨d, hd⟩ : ∃ d, cs[j]? = some d := ⟨_, List.getElem?_eq_getElem (by omega)⟩
    rw [codeAt_later hcj hd h0, if_neg]
    have h1 := List.pairwise_iff_getElem.1 hp j (j + 1) (by omega) hj (by omega)
    rw [(List.getElem?_eq_some_iff.1 hd).2, (List.getElem?_eq_some_iff.1 hcj).2] at h1
    have := ordC_neg.2 h1
    omega

theorem pw_flat : ∀ (L : List (List Cl)), L.flatten.Pairwise Lt → ∀ g ∈ L, g.Pairwise Lt
  | [], _, g, h => by simp at h
  | x :: L, hp, g, h => by
    rw [List.flatten_cons, List.pairwise_append] at hp
    rcases List.mem_cons.1 h with rfl | h
    · exact hp.1
    · exact pw_flat L hp.2.1 g h

/-- The rows with which blocks begin. -/
def headsB (gs : List (List Cl)) : List (List UInt8) := gs.map fun g => (headRow g).data.toList

theorem rix_index : ∀ (gs : List (List Cl)) (acc : List (List UInt8)), (∀ g ∈ gs, (headRow g).data.toList.length ≤ 1000000000 ∧ (flatC g).length ≤ 1000000000) → rixGo (indexB gs) (gs.map flatC) acc = some (acc ++ headsB gs)
  | [], acc, _ => by
    simp [indexB, headsB, rixGo]
  | g :: gs, acc, h => by
    obtain ⟨h1, h2⟩ := h g (List.mem_cons_self ..)
    have e : indexB (g :: gs) = txB (headRow g) ++ (encN (flatC g).length ++ indexB gs) := by simp [indexB, ixB]
    have t1 : textAt (indexB (g :: gs)) = some ((headRow g).data.toList, (txB (headRow g)).length) := by rw [e]; exact textAt_txB _ _ h1
    have e2 : (indexB (g :: gs)).drop (txB (headRow g)).length = encN (flatC g).length ++ indexB gs := by rw [e, List.drop_left]
    have t2 : numAt ((indexB (g :: gs)).drop (txB (headRow g)).length) = some ((flatC g).length, (encN (flatC g).length).length) := by rw [e2]; exact numAt_enc _ _ h2
    rw [List.map_cons, rixGo_ok t1 t2 rfl]
    have e3 : (indexB (g :: gs)).drop ((txB (headRow g)).length + (encN (flatC g).length).length) = indexB gs := by rw [← List.drop_drop, e2, List.drop_left]
    rw [e3, rix_index gs _ (fun x hx => h x (List.mem_cons_of_mem _ hx))]
    simp [headsB]

theorem rb_blocks : ∀ (gs : List (List Cl)) (acc : List Cl), (∀ g ∈ gs, g ≠ [] ∧ (checkC g).1 = 0 ∧ (flatC g).length ≤ 60000) → rbGo (gs.map flatC) (headsB gs) acc = some (acc ++ gs.flatten)
  | [], acc, _ => by simp [rbGo]
  | g :: gs, acc, h => by
    obtain ⟨hn, hc, hl⟩ := h g (List.mem_cons_self ..)
    have hr := read_write hc hl
    cases g with
    | nil => exact absurd rfl hn
    | cons c l =>
      rw [List.map_cons, headsB, List.map_cons, rbGo_ok (c := c) (l := l) (by rw [hr]) (by rw [hr]) (by rfl)]
      have ih := rb_blocks gs (acc ++ (c :: l)) (fun x hx => h x (List.mem_cons_of_mem _ hx))
      rw [headsB] at ih
      rw [List.tail_cons, ih]
      simp

/-- A file that is made is opened as it was. -/
theorem open_made {cs : List Cl} {m : Nat} (hck : (checkC cs).1 = 0) (hl : cs.length ≤ 500) (h6 : (flatF (fileBB cs m)).length ≤ 60000) : openF (flatF (fileBB cs m)) = ((cs, headsB (chunks m cs), filtB cs), (0, 0)) := by
  have hb : ∀ b ∈ fileBB cs m, b.length + 6 ≤ 60000 := fun b hb => by have := flatF_mem hb; omega
  have hcode : ∀ c ∈ cs, codeC c = 0 := fun c h => fine_code hck h
  have hpw := fine_pw hck
  have hfl := chunks_flat m cs
  have hg : ∀ g ∈ chunks m cs, g ≠ [] ∧ (checkC g).1 = 0 ∧ (flatC g).length ≤ 60000 := fun g hg => by
    refine ⟨chunkGo_ne m cs [] g hg, check_of ?_ (fun c hc => hcode c (chunk_mem hg hc)) (pw_flat _ (by rw [hfl]; exact hpw) g hg), ?_⟩
    · have : g.length ≤ cs.length := by
        rw [← hfl]
        exact List.Sublist.length_le (List.sublist_flatten_of_mem hg)
      omega
    · have := hb (flatC g) (by unfold fileBB; exact List.mem_append_left _ (List.mem_map_of_mem hg))
      omega
  have hfn : filtB cs ≠ [] := by
    intro e
    have := filtB_len cs
    rw [e] at this
    have := filtN_pos cs
    simp at *
    omega
  have hbb : fileBB cs m = (chunks m cs).map flatC ++ [indexB (chunks m cs), filtB cs] := rfl
  have hlen : (fileBB cs m).length = (chunks m cs).length + 2 := by rw [hbb]; simp
  have hp : piecesR (flatF (fileBB cs m)) = some ((chunks m cs).map flatC, indexB (chunks m cs), filtB cs) := by
    rw [piecesR_of (bodiesR_flat (fun b h => by have := hb b h; omega))]
    have e1 : (fileBB cs m).getD ((fileBB cs m).length - 1) [] = filtB cs := by
      rw [hlen, hbb, List.getD_eq_getElem?_getD, List.getElem?_append_right (by simp)]
      simp
    have e2 : (fileBB cs m).getD ((fileBB cs m).length - 2) [] = indexB (chunks m cs) := by
      rw [hlen, hbb, List.getD_eq_getElem?_getD, List.getElem?_append_right (by simp)]
      simp
    have e3 : (fileBB cs m).take ((fileBB cs m).length - 2) = (chunks m cs).map flatC := by
      rw [hlen, hbb, List.take_append_of_le_length (by simp), Nat.add_sub_cancel]
      exact List.take_of_length_le (by simp)
    rw [piecesB_ok (by omega) (by rw [e1]; exact hfn), e1, e2, e3]
  have hr := rix_index (chunks m cs) [] (fun g h => ⟨by
    obtain ⟨hn, _⟩ := hg g h
    cases g with
    | nil => exact absurd rfl hn
    | cons c l =>
      have := (codeC_parts (hcode c (chunk_mem h (List.mem_cons_self ..)))).2.1
      show c.row.data.toList.length ≤ 1000000000
      omega, by have := (hg g h).2.2; omega⟩)
  rw [List.nil_append] at hr
  have hB : rbR ((chunks m cs).map flatC) (headsB (chunks m cs)) = some cs := by
    unfold rbR
    rw [rb_blocks _ _ hg, List.nil_append, hfl]
    simp only
    rw [if_pos hl, if_pos hck]
  exact openF_ok (by omega) hp hr hB rfl

/-- What Find comes to. -/
def findF (bs : List UInt8) (row col : ByteArray) (t : Int) : ByteArray × Bool × (Int × Int) :=
  if (openF bs).2.1 ≠ 0 then (⟨#[]⟩, false, (openF bs).2)
  else if (getC (openF bs).1.1 row col t).2.2.1 ≠ 0 then (⟨#[]⟩, false, (getC (openF bs).1.1 row col t).2.2)
  else if hasB (openF bs).1.2.2 row.data.toList = false then (⟨#[]⟩, false, (getC (openF bs).1.1 row col t).2.2)
  else ((getC (openF bs).1.1 row col t).1, (getC (openF bs).1.1 row col t).2.1, (0, 0))

theorem getC_zero {cs : List Cl} {row col : ByteArray} {t : Int} (h : (getC cs row col t).2.2.1 = 0) : (getC cs row col t).2.2 = (0, 0) ∧ (checkC cs).1 = 0 ∧ isNumB t = true := by
  unfold getC at h ⊢
  by_cases hc : (checkC cs).1 = 0
  · rw [if_neg (by omega)] at h ⊢
    by_cases hn : isNumB t = false
    · rw [if_pos hn] at h
      simp at h
    · rw [if_neg hn]
      exact ⟨rfl, hc, by simpa using hn⟩
  · rw [if_pos hc] at h
    exact absurd h hc

/-- No row is missed. -/
theorem find_get {cs : List Cl} {m : Nat} {row col : ByteArray} {t : Int} (hck : (checkC cs).1 = 0) (hl : cs.length ≤ 500) (h6 : (flatF (fileBB cs m)).length ≤ 60000) : findF (flatF (fileBB cs m)) row col t = getC cs row col t := by
  have ho := open_made hck hl h6
  unfold findF
  rw [ho]
  simp only
  rw [if_neg (by simp)]
  by_cases hg : (getC cs row col t).2.2.1 = 0
  · obtain ⟨hz, _, hn⟩ := getC_zero hg
    rw [if_neg (by omega)]
    by_cases hh : hasB (filtB cs) row.data.toList = false
    · rw [if_pos hh]
      have hno : ∀ c ∈ cs, c.row.data.toList ≠ row.data.toList := fun c hc e => by
        have := has_mem hc
        rw [e, hh] at this
        cases this
      have hgc : getC cs row col t = (⟨#[]⟩, false, (0, 0)) := by
        unfold getC
        rw [if_neg (by omega), if_neg (by rw [hn]; decide), getGo_eq]
        have hnone : (visGo t zeroC cs).find? (isAt (row.toList, col.toList)) = none := by
          rw [List.find?_eq_none]
          intro c hc
          have hcs := (visGo_sub t cs zeroC).subset hc
          intro hat
          have := isAt_iff.1 hat
          unfold rc at this
          simp only [Prod.mk.injEq] at this
          exact hno c hcs (by rw [← ba_list, ← ba_list]; exact this.1)
        rw [hnone]
      rw [hgc]
    · rw [if_neg hh]
      generalize getC cs row col t = G at *
      obtain ⟨a, b, c⟩ := G
      simp only at hz ⊢
      rw [hz]
  · rw [if_pos hg]
    unfold getC at hg ⊢
    rw [if_neg (by omega)] at hg ⊢
    by_cases hn : isNumB t = false
    · rw [if_pos hn]
    · rw [if_neg hn] at hg
      simp at hg

end Go.Proofs.Ytlebbkbbmgmmjac

/-
  The walks over file.May and file.Find, of files that are opened without a fault.
-/
namespace Go.Proofs.Ytlebbkbbmgmmjac
open Go.RowKit

theorem Bk.setO9 {w : World} {B : Nat} {t : TypeId} {xs : Array Value} (h : Bk w B t xs) {p : Addr} (hne : B ≠ p.block) (u : Value) : Bk (w.setCell p u) B t xs := by
  unfold Bk
  rw [heap_setCell_other w p _ u hne]
  exact h

set_option maxRecDepth 100000 in
set_option maxHeartbeats 1000000 in
theorem May_ok (v : Value) (bs : List UInt8) (row : ByteArray) (w : World) (cs : List Cl) (rows : List (List UInt8)) (bits : List UInt8) (hO : openF bs = ((cs, rows, bits), (0, 0))) (hrd : Rd w v (bc bs)) (hrow : row.size ≤ 9223372036854775807) (hn1 : 0 < bits.length) (hn2 : bits.length ≤ 1000000) :
    Calls Try.prog 20 #[v, .string row] w fun e w' => e = .returned (.tuple #[.bool (hasB bits row.data.toList), fltC (0, 0)]) ∧ Below w.heap.size w w' := by
  obtain ⟨ao, cap, hv, hc1, hc2⟩ := hrd.shape
  rw [bc_length] at hc1 hv
  subst hv
  have hR0 := Bk.new w 26 #[.int .i64 0, .int .i64 0]
  have hop := opened_any _ bs _ (hrd.alloc (.cells #[.int .i64 0, .int .i64 0] 26))
  rw [hO] at hop
  have HOP := hide hop
  clear hop hO
  go_enter Try.func20, Try.ntmps20
  go_wp2_with fail
  refine HOP.out.mono ?_
  rintro e w1 ⟨o1, n1, c1, o2, n2, c2, o3, n3, c3, rfl, _, _, hF, hb1⟩
  have hR1 := hR0.below hb1 (by simp)
  have hbw1 : Below w.heap.size w w1 := (below_alloc' _ _).trans (hb1.mono (by simp))
  clear hR0 hb1
  unfold fltC
  simp only at hF ⊢
  have hbT := below_alloc' w1 (.cells #[.slice o1 n1 c1, .slice o2 n2 c2, .slice o3 n3 c3] 91)
  have hbF := below_alloc' (w1.alloc (.cells #[.slice o1 n1 c1, .slice o2 n2 c2, .slice o3 n3 c3] 91)) (.cells #[.int .i64 0, .int .i64 0] 26)
  have hbA := hbT.trans (hbF.mono (by simp))
  have hRA := hR1.below hbA hR1.lt
  have hFA := hF.below hbA
  have hbwA := hbw1.trans (hbA.mono hbw1.size)
  clear hbT hbF hR1 hF
  go_wp2_with fail
  generalize (w1.alloc (.cells #[.slice o1 n1 c1, .slice o2 n2 c2, .slice o3 n3 c3] 91)).alloc (.cells #[.int .i64 0, .int .i64 0] 26) = wA at *
  refine (has_any _ bits row _ hFA hn1 hn2 hrow).mono ?_
  rintro e w2 ⟨rfl, hb2⟩
  have hR2 := hRA.below hb2 hRA.lt
  have hbw2 := hbwA.trans (hb2.mono hbwA.size)
  have r0 := hR2.cell 0
  have r1 := hR2.cell 1
  have r2 := hR2.frozen 0
  have r3 := hR2.frozen 1
  have hlt := hR2.lt
  simp at r0 r1
  go_wp2_with fail
  exact bodyPost_ret (v := .tuple #[.bool (hasB bits row.data.toList), fltC (0, 0)]) (by simp [results, Try.results20, go_sem, fltC, r0, r1]) rfl ⟨rfl, by go_grown⟩

set_option maxRecDepth 100000 in
set_option maxHeartbeats 1000000 in
theorem blocksToRead_any (v : Value) (rows : List (List UInt8)) (row : ByteArray) (w : World) (hR : Rd w v (sc rows)) :
    Calls Try.prog 58 #[v, .string row] w fun e w' => (∃ n : Int, e = .returned (.int .i64 n)) ∧ w' = w := by
  obtain ⟨ro, rcap, hrv, he1, he2, hrcell⟩ := hR.open
  rw [sc_length] at hrv he1 hrcell
  subst hrv
  unfold maxLen at he2
  go_enter Try.func58, Try.ntmps58
  go_wp2_with fail
  go_loopw [5, 6, 11] (fun a b i wr => ∃ x y k : Nat, k ≤ rows.length ∧ x ≤ k ∧ y ≤ k ∧ a = .int .i64 x ∧ b = .int .i64 y ∧ i = .int .i64 k ∧ wr = w) (fun _ _ i _ => rows.length - (intOf i).toNat)
  case atStart => exact ⟨0, 0, 0, by omega, by omega, by omega, rfl, rfl, rfl, rfl⟩
  case round =>
    obtain ⟨x, y, k, hk, hx, hy, rfl, rfl, rfl, rfl⟩ := hrel
    by_cases hlt : k < rows.length
    · obtain ⟨b, off, rfl, hb, hcl⟩ := hrcell k hlt
      have hck : wr.cell? ⟨b, off + k, none⟩ = some (.string ⟨rows[k].toArray⟩) := hcl k _ (by simp [sc, hlt])
      generalize rows[k] = r at *
      clear hrcell hcl
      go_wp2_with fail
      all_goals
        go_roundw
        case rel => first | exact ⟨x + 1, y + 1, k + 1, by omega, by omega, by omega, by go_num, by go_num, by go_num, by first | rfl | trivial⟩ | exact ⟨x, y + 1, k + 1, by omega, by omega, by omega, by go_num, by go_num, by go_num, by first | rfl | trivial⟩ | exact ⟨x + 1, y, k + 1, by omega, by omega, by omega, by go_num, by go_num, by go_num, by first | rfl | trivial⟩ | exact ⟨x, y, k + 1, by omega, by omega, by omega, by go_num, by go_num, by go_num, by first | rfl | trivial⟩
        case measure => simp [intOf]; omega
    · have hsp : (x : Int) - 1 < 0 ∨ 0 ≤ (x : Int) - 1 := by omega
      rcases hsp with h1 | h1
      all_goals
        go_wp2_with fail
        go_ret
        exact ⟨⟨_, rfl⟩, rfl⟩

set_option maxRecDepth 100000 in
set_option maxHeartbeats 2000000 in
theorem Find_ok (v : Value) (bs : List UInt8) (row col : ByteArray) (t : Int) (w : World) (cs : List Cl) (rows : List (List UInt8)) (bits : List UInt8) (hO : openF bs = ((cs, rows, bits), (0, 0))) (hrd : Rd w v (bc bs)) (hrow : row.size ≤ 9223372036854775807) (hn1 : 0 < bits.length) (hn2 : bits.length ≤ 1000000) :
    Calls Try.prog 21 #[v, .string row, .string col, .int .i64 t] w fun e w' => ∃ n : Int, e = .returned (.tuple #[.string (findF bs row col t).1, .bool (findF bs row col t).2.1, .int .i64 n, fltC (findF bs row col t).2.2]) ∧ Below w.heap.size w w' := by
  obtain ⟨ao, cap, hv, hc1, hc2⟩ := hrd.shape
  rw [bc_length] at hc1 hv
  subst hv
  have hR0 := Bk.new w 26 #[.int .i64 0, .int .i64 0]
  have hop := opened_any _ bs _ (hrd.alloc (.cells #[.int .i64 0, .int .i64 0] 26))
  have hff : findF bs row col t = if (getC cs row col t).2.2.1 ≠ 0 then (⟨#[]⟩, false, (getC cs row col t).2.2) else if hasB bits row.data.toList = false then (⟨#[]⟩, false, (getC cs row col t).2.2) else ((getC cs row col t).1, (getC cs row col t).2.1, (0, 0)) := by
    unfold findF
    rw [hO]
    simp
  rw [hO] at hop
  have HOP := hide hop
  have HFF := hide hff
  clear hop hO hff
  go_enter Try.func21, Try.ntmps21
  go_wp2_with fail
  refine HOP.out.mono ?_
  rintro e w1 ⟨o1, n1, c1, o2, n2, c2, o3, n3, c3, rfl, hC, hR, hF, hb1⟩
  have hR1 := hR0.below hb1 (by simp)
  have hbw1 : Below w.heap.size w w1 := (below_alloc' _ _).trans (hb1.mono (by simp))
  clear hR0 hb1
  unfold fltC
  simp only at hC hR hF ⊢
  have hbT := below_alloc' w1 (.cells #[.slice o1 n1 c1, .slice o2 n2 c2, .slice o3 n3 c3] 91)
  have hbF := below_alloc' (w1.alloc (.cells #[.slice o1 n1 c1, .slice o2 n2 c2, .slice o3 n3 c3] 91)) (.cells #[.int .i64 0, .int .i64 0] 26)
  have hbA := hbT.trans (hbF.mono (by simp))
  have hTA := (Bk.new w1 91 #[.slice o1 n1 c1, .slice o2 n2 c2, .slice o3 n3 c3]).below hbF (by simp)
  have hFB := Bk.new2 w1 (.cells #[.slice o1 n1 c1, .slice o2 n2 c2, .slice o3 n3 c3] 91) 26 #[.int .i64 0, .int .i64 0]
  have hRA := hR1.below hbA hR1.lt
  have hCA := hC.below hbA
  have hRrA := hR.below hbA
  have hFA := hF.below hbA
  have hbwA := hbw1.trans (hbA.mono hbw1.size)
  have hlR := hR1.lt
  clear hbT hbF hR1 hF hC hR
  go_wp2_with fail
  generalize (w1.alloc (.cells #[.slice o1 n1 c1, .slice o2 n2 c2, .slice o3 n3 c3] 91)).alloc (.cells #[.int .i64 0, .int .i64 0] 26) = wA at *
  have hzT : w.heap.size < w1.heap.size := hlR
  generalize w1.heap.size = zT at *
  have hzF : zT + 1 = zT + 1 := rfl
  generalize hzFe : zT + 1 = zF at *
  have hTF : zT ≠ zF := by omega
  have hRF : w.heap.size ≠ zF := by omega
  have hwF : w.heap.size ≤ zF := by omega
  clear hzF hzFe
  refine (Get_any _ cs row col t _ hCA).mono ?_
  rintro e w2 ⟨rfl, hb2⟩
  have hT2 := hTA.below hb2 hTA.lt
  have hF2 := hFB.below hb2 hFB.lt
  have hR2 := hRA.below hb2 hRA.lt
  have hRr2 := hRrA.below hb2
  have hFl2 := hFA.below hb2
  have hbw2 := hbwA.trans (hb2.mono hbwA.size)
  have hgz := @getC_zero cs row col t
  generalize hG : getC cs row col t = G at *
  obtain ⟨val, is, x, y⟩ := G
  have HGZ : Hid (x = 0 → y = 0) := hide (fun h => by have := (hgz h).1; simp at this; exact this.2)
  clear hG hgz
  simp only at HFF ⊢
  unfold fltC
  have f0 := hF2.cell 0
  have f1 := hF2.cell 1
  have f2 := hF2.frozen 0
  have f3 := hF2.frozen 1
  have hl2 := hF2.lt
  simp at f0 f1
  have hT3 : Bk ((w2.setCell ⟨zF, 0, none⟩ (.int .i64 x)).setCell ⟨zF, 1, none⟩ (.int .i64 y)) zT 91 #[.slice o1 n1 c1, .slice o2 n2 c2, .slice o3 n3 c3] := (hT2.setO9 (by exact hTF) _).setO9 (by exact hTF) _
  have hR3 : Bk ((w2.setCell ⟨zF, 0, none⟩ (.int .i64 x)).setCell ⟨zF, 1, none⟩ (.int .i64 y)) w.heap.size 26 #[.int .i64 0, .int .i64 0] := (hR2.setO9 (by exact hRF) _).setO9 (by exact hRF) _
  have hF3 : Bk ((w2.setCell ⟨zF, 0, none⟩ (.int .i64 x)).setCell ⟨zF, 1, none⟩ (.int .i64 y)) zF 26 #[.int .i64 x, .int .i64 y] := (hF2.set 0 _).set 1 _
  have nF := hFl2.notIn hF2 (fun u hu h => by simp only [bc, List.mem_map] at hu; obtain ⟨s, _, rfl⟩ := hu; simp at h)
  have nR := hRr2.notIn hF2 (fun u hu h => by simp only [sc, List.mem_map] at hu; obtain ⟨s, _, rfl⟩ := hu; simp at h)
  have hg3 := grownT_trans (grownT_set w2 zF 0 (.int .i64 x)) (grownT_set _ zF 1 (.int .i64 y))
  have hFl3 := hFl2.grownT hg3 nF
  have hRr3 := hRr2.grownT hg3 nR
  have hbw3 : Below w.heap.size w ((w2.setCell ⟨zF, 0, none⟩ (.int .i64 x)).setCell ⟨zF, 1, none⟩ (.int .i64 y)) := (hbw2.setCell (by exact hwF) _).setCell (by exact hwF) _
  clear hTA hFB hRA hCA hRrA hFA hbwA hT2 hR2 hRr2 hFl2 hg3 nF nR hb2
  go_upto_region 5 with fail
  generalize (w2.setCell ⟨zF, 0, none⟩ (.int .i64 x)).setCell ⟨zF, 1, none⟩ (.int .i64 y) = w3 at *
  clear f0 f1 f2 f3 hF2 hl2
  have f0 := hF3.cell 0
  have f1 := hF3.cell 1
  have t1 := hT3.cell 1
  have t2 := hT3.cell 2
  have r0 := hR3.cell 0
  have r1 := hR3.cell 1
  have r2 := hR3.frozen 0
  have r3 := hR3.frozen 1
  have hlt := hR3.lt
  simp at f0 f1 t1 t2 r0 r1
  by_cases hx : x = 0
  · have hy := HGZ.out hx
    subst hx hy
    rw [if_neg (by simp)] at HFF
    go_wp2_with fail
    refine (has_any _ bits row _ hFl3 hn1 hn2 hrow).mono ?_
    rintro e w4 ⟨rfl, hb4⟩
    have hF4 := hF3.below hb4 hF3.lt
    have hT4 := hT3.below hb4 hT3.lt
    have hR4 := hR3.below hb4 hR3.lt
    have hRr4 := hRr3.below hb4
    have hbw4 := hbw3.trans (hb4.mono hbw3.size)
    clear f0 f1 t1 t2 r0 r1 r2 r3 hlt
    have f0 := hF4.cell 0
    have f1 := hF4.cell 1
    have t1 := hT4.cell 1
    have r0 := hR4.cell 0
    have r1 := hR4.cell 1
    have r2 := hR4.frozen 0
    have r3 := hR4.frozen 1
    have hlt := hR4.lt
    simp at f0 f1 t1 r0 r1
    cases hh : hasB bits row.data.toList
    · rw [if_pos hh] at HFF
      go_wp2_with fail
      go_region
      all_goals
        go_wp2_with fail
        exact bodyPost_ret (v := .tuple #[.string ⟨#[]⟩, .bool false, .int .i64 0, fltC (0, 0)]) (by simp [results, Try.results21, go_sem, fltC, r0, r1]) rfl ⟨0, by rw [HFF.out], by go_grown⟩
    · rw [if_neg (by rw [hh]; decide)] at HFF
      go_wp2_with fail
      refine (blocksToRead_any _ rows row _ hRr4).mono ?_
      rintro e w5 ⟨⟨n, rfl⟩, rfl⟩
      go_wp2_with fail
      exact bodyPost_ret (v := .tuple #[.string val, .bool is, .int .i64 n, fltC (0, 0)]) (by simp [results, Try.results21, go_sem, fltC, r0, r1]) rfl ⟨n, by rw [HFF.out], by go_grown⟩
  · have hxb : (x == 0) = false := beq_eq_false_iff_ne.2 hx
    have HX := hide hx
    rw [if_pos hx] at HFF
    clear hx
    go_wp2_with fail
    go_region
    all_goals
      go_wp2_with fail
      exact bodyPost_ret (v := .tuple #[.string ⟨#[]⟩, .bool false, .int .i64 0, fltC (x, y)]) (by simp [results, Try.results21, go_sem, fltC, r0, r1]) rfl ⟨0, by rw [HFF.out], by go_grown⟩

end Go.Proofs.Ytlebbkbbmgmmjac

/-
  The walk over what the laws of files begin with.
-/
namespace Go.Proofs.Ytlebbkbbmgmmjac
open Go.RowKit

/-- 'append(out, xs...)' behind a guard that holds. -/
theorem wpList_append_rdW {P : Program} {w : World} {ops : Array Oper} {rest : List Oper} {o : Oper} {a : Act} {Q : Exit → Act → World → Prop} {s x : Operand} {t : TypeId} {base : Nat} {e : TypeId} {z : Value} {bytes : Nat}
    {v : Value} {n : Nat} {xs : List Value} {vx : Value} {news : List Value}
    (hown : w.ownsRow base e 1 v n xs) (hrd : Rd w vx news)
    (ht : P.underlying t = some (.slice e)) (hinf : (P.info? e).map (fun i => (i.zero, i.size, i.bytes)) = some (some z, 1, bytes)) (hzs : z.cells.size = 1)
    (hw : Region.wanted o (yielded ops a.tmps) = true) (ho : o.op = .call { callee := .builtin .append, args := #[s, x], argTypes := #[t, t] })
    (hs : a.eval s = v) (hx : a.eval x = vx) (h1 : ∀ u ∈ news, u.oneCell' = true)
    (h63 : n + news.length ≤ 2000000000000) (hbytes : bytes ≤ 64) (hbase : base ≤ w.heap.size)
    (h : ∀ v' w', w'.ownsRow base e 1 v' (n + news.length) (xs ++ news) → Below base w w' → wpList P ops Q rest (a.put o.dst v') w') : wpList P ops Q (o :: rest) a w := by
  refine wpList_step fun K hK => ?_
  rw [if_pos hw]
  obtain ⟨v', w', hr, h2, h3, h4⟩ := run_append_rd (ty := o.type) hown hrd ht hinf hzs h1 h63 hbytes hbase
  unfold Oper.wp execOp
  simp only [ho, resolve, invoke, builtin, Sem.run_bind, Sem.run_pure, Result.andThen_ok, List.map_toArray, List.map_cons, List.map_nil, hs, hx, hr]
  exact hK _ _ (h v' w' h2 h3)

theorem make_nil : makeF [] 50 = (framed [] ++ framed [0], (0, 0)) := by decide +kernel
theorem make_ver : (makeF verC 50).2 = (0, 0) ∧ (openF (makeF verC 50).1).2 = (0, 0) ∧ (openF (makeF verC 50).1).1.1.length = 2 := by decide +kernel

set_option maxRecDepth 100000 in
set_option maxHeartbeats 1000000 in
theorem fileBegun_any (w : World) : Calls Try.prog 9 #[] w fun e w' => e = .returned (.bool true) ∧ Below w.heap.size w w' := by
  obtain ⟨hm1, hm2, hm3⟩ := make_ver
  have HM3 := hide hm3
  go_enter Try.func9, Try.ntmps9
  go_wp2_with fail
  refine (Make_any _ [] 50 _ (RdC.nil _)).mono ?_
  rintro e w1 ⟨v1, rfl, hr1, hb1, _⟩
  rw [make_nil] at hr1 ⊢
  simp only at hr1 ⊢
  obtain ⟨o1, c1, hv1, _, _⟩ := hr1.shape
  subst hv1
  unfold fltC
  have hA1 := Bk.new w1 26 #[.int .i64 0, .int .i64 0]
  have hbA : Below w.heap.size w (w1.alloc (.cells #[.int .i64 0, .int .i64 0] 26)) := hb1.alloc hb1.size _
  have hrA := hr1.alloc (.cells #[.int .i64 0, .int .i64 0] 26)
  go_wp2_with fail
  generalize w1.alloc (.cells #[.int .i64 0, .int .i64 0] 26) = wA at *
  generalize w1.heap.size = zA at *
  refine (versions_any _).mono ?_
  rintro e w2 ⟨v2, rfl, hr2, hb2⟩
  go_wp2_with fail
  refine (Make_any _ verC 50 _ hr2).mono ?_
  rintro e w3 ⟨v3, rfl, hr3, hb3, _⟩
  rw [hm1]
  unfold fltC
  generalize hX : (makeF verC 50).1 = X at *
  obtain ⟨o3, c3, hv3, _, _⟩ := hr3.shape
  subst hv3
  have hb23 : Below wA.heap.size wA w3 := hb2.trans (hb3.mono hb2.size)
  have hA3 := hA1.below hb23 hA1.lt
  have hr13 := hrA.below hb23
  have hbw3 : Below w.heap.size w w3 := hbA.trans (hb23.mono hbA.size)
  have hB3 := Bk.new w3 26 #[.int .i64 0, .int .i64 0]
  have hA4 := hA3.below (below_alloc' w3 (.cells #[.int .i64 0, .int .i64 0] 26)) hA3.lt
  have hr14 := hr13.alloc (.cells #[.int .i64 0, .int .i64 0] 26)
  have hr34 := hr3.alloc (.cells #[.int .i64 0, .int .i64 0] 26)
  have hbw4 : Below w.heap.size w (w3.alloc (.cells #[.int .i64 0, .int .i64 0] 26)) := hbw3.alloc hbw3.size _
  clear hb2 hb3 hr2 hA1 hrA hb1 hbA hb23 hA3 hr13 hr3 hr1
  go_wp2_with fail
  generalize w3.alloc (.cells #[.int .i64 0, .int .i64 0] 26) = wB at *
  generalize w3.heap.size = zB at *
  refine (FOpen_any _ X _ hr34).mono ?_
  rintro e w5 ⟨v5, rfl, hr5, hb5⟩
  rw [hm2]
  unfold fltC
  obtain ⟨o5, c5, hv5, _, _⟩ := hr5.shape
  rw [HM3.out] at hv5
  subst hv5
  have hA5 := (hA4.below hb5 hA4.lt).below (below_alloc' w5 (.cells #[.int .i64 0, .int .i64 0] 26)) (hA4.below hb5 hA4.lt).lt
  have hB5 := (hB3.below hb5 hB3.lt).below (below_alloc' w5 (.cells #[.int .i64 0, .int .i64 0] 26)) (hB3.below hb5 hB3.lt).lt
  have hr15 := (hr14.below hb5).alloc (.cells #[.int .i64 0, .int .i64 0] 26)
  have hbw5 : Below w.heap.size w (w5.alloc (.cells #[.int .i64 0, .int .i64 0] 26)) := (hbw4.trans (hb5.mono hbw4.size)).alloc (by have := hb5.size; have := hbw4.size; omega) _
  have a0 := hA5.cell 0
  have b0 := hB5.cell 0
  simp at a0 b0
  clear hA4 hB3 hr14 hr34 hbw4 hr5 hb5 hm1 hm2 hm3 hX
  go_wp2_with fail
  refine (Framed_own _ [] _ (Rd.nil _) (by simp)).mono ?_
  rintro e w6 ⟨v6, rfl, ho6, hb6⟩
  go_wp2_with fail
  have hlit : Rd (w6.alloc (.cells #[.int .u8 0] 5)) (.slice (some ⟨w6.heap.size, 0, none⟩) 1 1) (bc [0]) := Rd.new w6 (.int .u8 0) 5
  refine (Framed_own _ [0] _ hlit (by simp)).mono ?_
  rintro e w7 ⟨v7, rfl, ho7, hb7⟩
  have hb67 : Below w6.heap.size w6 w7 := (below_alloc' w6 _).trans (hb7.mono (by simp))
  have ho67 := owns_below ho6 hb67
  have hl6 : (framed []).length = 6 := framed_length []
  have hl7 : (framed [0]).length = 7 := framed_length [0]
  have hr7 := Rd.ofOwns ho7
  obtain ⟨o7, c7, hv7⟩ := owns_shape ho7
  subst hv7
  generalize w5.alloc (.cells #[.int .i64 0, .int .i64 0] 26) = wC at *
  have hbC7 : Below wC.heap.size wC w7 := hb6.trans (hb67.mono hb6.size)
  have hz7 := hbC7.size
  go_wp2_with (at_builtin; go_must (refine wpList_append_rdW ho67 hr7 Try.underlying24 Try.info5 rfl rfl rfl rfl rfl (bc_one _) (by rw [bc_length, hl6, hl7]; omega) (by decide) hz7 ?_); intro v8 w8 ho8 hb8)
  rw [← bc_append, bc_length, ← List.length_append] at ho8
  have hbC8 := hbC7.trans hb8
  refine (Same_any _ _ (framed [] ++ framed [0]) (framed [] ++ framed [0]) _ (hr15.below hbC8) (Rd.ofOwns ho8)).mono ?_
  rintro e w9 ⟨rfl, rfl⟩
  go_wp2_with fail
  go_ret
  exact ⟨by simp, hbw5.trans (hbC8.mono hbw5.size)⟩

end Go.Proofs.Ytlebbkbbmgmmjac

/-
  The walk over the law FileMakes.
-/
namespace Go.Proofs.Ytlebbkbbmgmmjac
open Go.RowKit

/-- What Make comes to, case by case. -/
theorem makeF_cases (cs : List Cl) (size : Int) :
    ((checkC cs).1 ≠ 0 ∧ makeF cs size = ([], checkC cs)) ∨ ((checkC cs).1 = 0 ∧ 500 < cs.length ∧ makeF cs size = ([], (2, -1))) ∨ ((checkC cs).1 = 0 ∧ cs.length ≤ 500 ∧ (size < 50 ∨ (50 ≤ size ∧ 4000 < size)) ∧ makeF cs size = ([], (3, -1)))
    ∨ ((checkC cs).1 = 0 ∧ cs.length ≤ 500 ∧ 50 ≤ size ∧ size ≤ 4000 ∧ 60000 < (flatF (fileBB cs size.toNat)).length ∧ makeF cs size = ([], (9, 0)))
    ∨ ((checkC cs).1 = 0 ∧ cs.length ≤ 500 ∧ 50 ≤ size ∧ size ≤ 4000 ∧ (flatF (fileBB cs size.toNat)).length ≤ 60000 ∧ makeF cs size = (flatF (fileBB cs size.toNat), (0, 0))) := by
  by_cases hc : (checkC cs).1 = 0
  · right
    by_cases h5 : 500 < cs.length
    · left; exact ⟨hc, h5, makeF_many hc h5⟩
    · right
      by_cases hs : size < 50 ∨ 4000 < size
      · left; exact ⟨hc, by omega, by omega, makeF_size hc h5 hs⟩
      · right
        have hlen : (fileBB cs size.toNat).length ≤ 1000 := by
          have := chunks_len size.toNat cs
          unfold fileBB
          simp
          omega
        by_cases h6 : 60000 < (flatF (fileBB cs size.toNat)).length
        · left
          refine ⟨hc, by omega, by omega, by omega, h6, ?_⟩
          rw [makeF_go hc h5 hs, framesR_much (by omega) h6]
        · right
          refine ⟨hc, by omega, by omega, by omega, by omega, ?_⟩
          rw [makeF_go hc h5 hs, framesR_ok (by omega) h6]
  · left; exact ⟨hc, makeF_bad hc⟩

set_option maxRecDepth 100000 in
set_option maxHeartbeats 400000 in
theorem FileMakes1_any (L : Nat) (ao : Option Addr) (n c : Nat) (w : World) (hc : w.cell? ⟨L, 0, none⟩ = some (.slice ao n c)) :
    Calls Try.prog 16 #[.pointer (some ⟨L, 0, none⟩)] w fun e w' => e = .returned (.slice ao n c) ∧ w' = w := by
  go_enter Try.func16, Try.ntmps16
  go_wp2_with fail
  go_ret
  exact ⟨rfl, rfl⟩

set_option maxRecDepth 100000 in
set_option maxHeartbeats 400000 in
theorem bytesAsM_ok (L : Nat) (ao : Option Addr) (n c : Nat) (x : Value) (bs : List UInt8) (w : World) (hc : w.cell? ⟨L, 0, none⟩ = some (.slice ao n c)) (hr : Rd w (.slice ao n c) (bc bs)) (hx : Rd w x (bc bs)) :
    Calls Try.prog 15 #[x, flt 0 0, flt 0 0, .func (.func 16) #[] #[.pointer (some ⟨L, 0, none⟩)]] w fun e w' => e = .returned (.bool true) ∧ Below w.heap.size w w' := by
  simp only [flt]
  go_enter Try.func15, Try.ntmps15
  go_wp2_with fail
  refine (FileMakes1_any L ao n c _ ?_).mono ?_
  · exact cell_below hc (((Below.refl _ _).alloc (Nat.le_refl _) _).alloc (by simp) _)
  rintro e w1 ⟨rfl, rfl⟩
  go_wp2_with fail
  refine (Same_any _ _ bs bs _ ((hx.alloc _).alloc _) ((hr.alloc _).alloc _)).mono ?_
  rintro e w2 ⟨rfl, rfl⟩
  go_wp2_with fail
  go_ret
  exact ⟨by simp, by go_grown⟩

/-- A slice that reads as nothing reads so in each world. -/
theorem rd_none {w w' : World} {v : Value} (h : Rd w v (bc [])) : Rd w' v (bc []) := by
  obtain ⟨ao, cap, hv, q1, q2, q3, _⟩ := h
  exact ⟨ao, cap, hv, q1, q2, q3, fun a _ j u hu => by simp [bc] at hu⟩

set_option maxRecDepth 100000 in
set_option maxHeartbeats 4000000 in
theorem fileMakes_any (v : Value) (size : Int) (cs : List Cl) (w : World) (hv : RdC w v cs) (_hsize : -9223372036854775808 ≤ size ∧ size ≤ 9223372036854775807) :
    Calls Try.prog 3 #[v, .int .i64 size] w fun e w' => e = .returned (.bool true) ∧ Below w.heap.size w w' := by
  obtain ⟨ao, cap, hvv, hc1, hc2⟩ := hv.shape
  subst hvv
  unfold maxLen at hc2
  go_enter Try.func3, Try.ntmps3
  go_wp2_with fail
  refine (fileBegun_any _).mono ?_
  rintro e w1 ⟨rfl, hb1⟩
  have hn : (150 < (cs.length : Int) ∧ (cs.length : Int) < 490) ∨ (150 < (cs.length : Int) ∧ 490 ≤ (cs.length : Int) ∧ 2000 < (cs.length : Int)) ∨ ((cs.length : Int) ≤ 150 ∧ (cs.length : Int) ≤ 2000) ∨ (150 < (cs.length : Int) ∧ 490 ≤ (cs.length : Int) ∧ (cs.length : Int) ≤ 2000) := by omega
  rcases hn with ⟨n1, n2⟩ | ⟨n1, n2, n3⟩ | hn
  · go_wp2_with fail
    go_ret
    exact ⟨rfl, hb1⟩
  · go_wp2_with fail
    go_ret
    exact ⟨rfl, hb1⟩
  have hl3 : cs.length ≤ 1000000 := by omega
  have HM := hide (makeF_cases cs size)
  rcases hn with ⟨n1, n2⟩ | ⟨n1, n2, n3⟩
  all_goals
    go_wp2_with fail
    refine (ownCells_any _ cs _ (hv.below hb1) hl3).mono ?_
    rintro e w3 ⟨vx, rfl, hx3, hb3, _⟩
    obtain ⟨xo, xcap, hvx, _, _⟩ := hx3.shape
    subst hvx
    go_wp2_with fail
    refine (Make_any _ cs size _ hx3).mono ?_
    rintro e w4 ⟨vX, rfl, hX4, hb4, _⟩
    have hbw4 : Below w.heap.size w w4 := (hb1.trans (hb3.mono hb1.size)).trans (hb4.mono (hb1.trans (hb3.mono hb1.size)).size)
    clear hb3 hb4 hx3
    generalize makeF cs size = MF at *
    obtain ⟨X, fx, fy⟩ := MF
    unfold fltC
    simp only at hX4 ⊢
    obtain ⟨Xo, Xcap, hvX, _, _⟩ := hX4.shape
    rw [bc_length] at hvX
    subst hvX
    go_wp2_with fail
    have hF5 := Bk.new w4 26 #[.int .i64 fx, .int .i64 fy]
    have hX5 := hX4.alloc (.cells #[.int .i64 fx, .int .i64 fy] 26)
    have hb5 : Below w.heap.size w (w4.alloc (.cells #[.int .i64 fx, .int .i64 fy] 26)) := hbw4.alloc hbw4.size _
    have hz4 : w.heap.size ≤ w4.heap.size := hbw4.size
    generalize w4.alloc (.cells #[.int .i64 fx, .int .i64 fy] 26) = w5 at *
    generalize w4.heap.size = zF at *
    clear hX4 hbw4
    have hlF := hF5.lt
    refine (CellsFault_any _ cs _ (hv.below hb5)).mono ?_
    rintro e w6 ⟨rfl, hb6⟩
    have hF6 := hF5.below hb6 hlF
    have hX6 := hX5.below hb6
    have hbw6 := hb5.trans (hb6.mono hb5.size)
    have hz6 := hbw6.size
    have hFz : zF < w6.heap.size := hF6.lt
    clear hF5 hX5 hb5 hb6 hlF
    obtain ⟨kx, ky, hCK⟩ : ∃ kx ky, checkC cs = (kx, ky) := ⟨_, _, rfl⟩
    have HCZ := hide (@fine_code cs)
    have HMK := hide (@open_made cs size.toNat)
    rw [hCK] at HM ⊢
    have HCK := hide hCK
    clear hCK
    unfold fltC
    simp only at HM ⊢
    go_upto_region 7 with fail
    have hW7 := Bk.new w6 26 #[.int .i64 kx, .int .i64 ky]
    have hF7 : Bk (w6.alloc (.cells #[.int .i64 kx, .int .i64 ky] 26)) zF 26 #[.int .i64 fx, .int .i64 fy] := hF6.below (below_alloc' _ _) hFz
    have hX7 := hX6.alloc (.cells #[.int .i64 kx, .int .i64 ky] 26)
    have hb7 : Below w.heap.size w (w6.alloc (.cells #[.int .i64 kx, .int .i64 ky] 26)) := hbw6.alloc hz6 _
    generalize w6.alloc (.cells #[.int .i64 kx, .int .i64 ky] 26) = w7 at *
    generalize w6.heap.size = zW at *
    have hlW := hW7.lt
    have hneFW : zF ≠ zW := by omega
    clear hF6 hX6 hbw6
    have HXO : Hid (∀ W u, Rd W (.slice Xo X.length Xcap) (bc X) → Rd (W.setCell ⟨w7.heap.size, 0, none⟩ u) (.slice Xo X.length Xcap) (bc X)) := hide (fun W u h => Rd.setOld hX7 h (p := ⟨w7.heap.size, 0, none⟩) (Nat.le_refl _) u)
    rcases HM.out with ⟨hk, hMF⟩ | ⟨hk, h5, hMF⟩ | ⟨hk, h5, hs, hMF⟩ | ⟨hk, h5, hs1, hs2, h6, hMF⟩ | ⟨hk, h5, hs1, hs2, h6, hMF⟩
    · simp only [Prod.mk.injEq] at hMF
      obtain ⟨rfl, rfl, rfl⟩ := hMF
      have r0 := hW7.cell 0
      have r1 := hW7.cell 1
      have q0 := hW7.frozen 0
      have q1 := hW7.frozen 1
      have f0 := hF7.cell 0
      have f1 := hF7.cell 1
      simp at r0 r1 f0 f1
      have hlF9 := hF7.lt
      have hlW9 := hW7.lt
      have hkb : (fx == 0) = false := beq_eq_false_iff_ne.2 hk
      have hkb2 : (fx != 0) = true := by simp [hk]
      have hbD : Below w.heap.size w (w7.alloc (.cells #[.slice none 0 0] 24)) := hb7.alloc hb7.size _
      have hWD : Bk (w7.alloc (.cells #[.slice none 0 0] 24)) zW 26 #[.int .i64 fx, .int .i64 fy] := hW7.below (below_alloc' _ _) hlW
      go_wp2_with fail
      refine (bytesAs_bad _ _ fx fy _ hk (rd_none hX7)).mono ?_
      rintro e w20 ⟨rfl, hb20⟩
      have t0 := (hWD.below hb20 hWD.lt).cell 0
      have hbw20 := hbD.trans (hb20.mono hbD.size)
      simp at t0
      go_wp2_with fail
      go_ret
      exact ⟨rfl, hbw20⟩
    · first
      | exfalso
        omega
      | skip
        simp only [Prod.mk.injEq] at hMF
        obtain ⟨rfl, rfl, rfl⟩ := hMF
        subst hk
        have r0 := hW7.cell 0
        have r1 := hW7.cell 1
        have q0 := hW7.frozen 0
        have q1 := hW7.frozen 1
        have f0 := hF7.cell 0
        have f1 := hF7.cell 1
        simp at r0 r1 f0 f1
        have hlF9 := hF7.lt
        have hlW9 := hW7.lt
        have h5' : (500 : Int) < (cs.length : Int) := by omega
        go_wp2_with fail
        refine (FC_any (2) (-1) _).mono ?_
        rintro e w8 ⟨rfl, hb8⟩
        unfold fltC
        have hW8 := hW7.below hb8 hW7.lt
        have hF8 := hF7.below hb8 hF7.lt
        have hbw8 := hb7.trans (hb8.mono hb7.size)
        have hlW8 := hW8.lt
        have hzw8 := hbw8.size
        clear r0 r1 q0 q1 f0 f1 hlF9 hlW9
        have hlF8 := hF8.lt
        have r0 := hW8.cell 0
        have r1 := hW8.cell 1
        have q0 := hW8.frozen 0
        have q1 := hW8.frozen 1
        have f0 := hF8.cell 0
        have f1 := hF8.cell 1
        simp at r0 r1 f0 f1
        go_wp2_with fail
        refine (bytesAs_bad _ _ (2) (-1) _ (by decide) (rd_none hX7)).mono ?_
        rintro e w20 ⟨rfl, hb20⟩
        have hb9 : Below w.heap.size w ((w8.setCell ⟨zW, 0, none⟩ (.int .i64 (2))).setCell ⟨zW, 1, none⟩ (.int .i64 (-1))) := (hbw8.setCell (by show _ ≤ zW; omega) _).setCell (by show _ ≤ zW; omega) _
        have hW9 : Bk ((w8.setCell ⟨zW, 0, none⟩ (.int .i64 (2))).setCell ⟨zW, 1, none⟩ (.int .i64 (-1))) zW 26 #[.int .i64 (2), .int .i64 (-1)] := (hW8.set 0 _).set 1 _
        have hbD : Below w.heap.size w (((w8.setCell ⟨zW, 0, none⟩ (.int .i64 (2))).setCell ⟨zW, 1, none⟩ (.int .i64 (-1))).alloc (.cells #[.slice none 0 0] 24)) := hb9.alloc hb9.size _
        have hWD : Bk (((w8.setCell ⟨zW, 0, none⟩ (.int .i64 (2))).setCell ⟨zW, 1, none⟩ (.int .i64 (-1))).alloc (.cells #[.slice none 0 0] 24)) zW 26 #[.int .i64 (2), .int .i64 (-1)] := hW9.below (below_alloc' _ _) hW9.lt
        have t0 := (hWD.below hb20 hWD.lt).cell 0
        have hbw20 := hbD.trans (hb20.mono hbD.size)
        simp at t0
        go_wp2_with fail
        go_ret
        exact ⟨rfl, hbw20⟩
    · simp only [Prod.mk.injEq] at hMF
      obtain ⟨rfl, rfl, rfl⟩ := hMF
      subst hk
      have r0 := hW7.cell 0
      have r1 := hW7.cell 1
      have q0 := hW7.frozen 0
      have q1 := hW7.frozen 1
      have f0 := hF7.cell 0
      have f1 := hF7.cell 1
      simp at r0 r1 f0 f1
      have hlF9 := hF7.lt
      have hlW9 := hW7.lt
      have h5' : (cs.length : Int) ≤ 500 := by omega
      rcases hs with hs | ⟨hs, hs2⟩
      all_goals
        go_wp2_with fail
        refine (FC_any (3) (-1) _).mono ?_
        rintro e w8 ⟨rfl, hb8⟩
        unfold fltC
        have hW8 := hW7.below hb8 hW7.lt
        have hF8 := hF7.below hb8 hF7.lt
        have hbw8 := hb7.trans (hb8.mono hb7.size)
        have hlW8 := hW8.lt
        have hzw8 := hbw8.size
        clear r0 r1 q0 q1 f0 f1 hlF9 hlW9
        have hlF8 := hF8.lt
        have r0 := hW8.cell 0
        have r1 := hW8.cell 1
        have q0 := hW8.frozen 0
        have q1 := hW8.frozen 1
        have f0 := hF8.cell 0
        have f1 := hF8.cell 1
        simp at r0 r1 f0 f1
        go_wp2_with fail
        refine (bytesAs_bad _ _ (3) (-1) _ (by decide) (rd_none hX7)).mono ?_
        rintro e w20 ⟨rfl, hb20⟩
        have hb9 : Below w.heap.size w ((w8.setCell ⟨zW, 0, none⟩ (.int .i64 (3))).setCell ⟨zW, 1, none⟩ (.int .i64 (-1))) := (hbw8.setCell (by show _ ≤ zW; omega) _).setCell (by show _ ≤ zW; omega) _
        have hW9 : Bk ((w8.setCell ⟨zW, 0, none⟩ (.int .i64 (3))).setCell ⟨zW, 1, none⟩ (.int .i64 (-1))) zW 26 #[.int .i64 (3), .int .i64 (-1)] := (hW8.set 0 _).set 1 _
        have hbD : Below w.heap.size w (((w8.setCell ⟨zW, 0, none⟩ (.int .i64 (3))).setCell ⟨zW, 1, none⟩ (.int .i64 (-1))).alloc (.cells #[.slice none 0 0] 24)) := hb9.alloc hb9.size _
        have hWD : Bk (((w8.setCell ⟨zW, 0, none⟩ (.int .i64 (3))).setCell ⟨zW, 1, none⟩ (.int .i64 (-1))).alloc (.cells #[.slice none 0 0] 24)) zW 26 #[.int .i64 (3), .int .i64 (-1)] := hW9.below (below_alloc' _ _) hW9.lt
        have t0 := (hWD.below hb20 hWD.lt).cell 0
        have hbw20 := hbD.trans (hb20.mono hbD.size)
        simp at t0
        go_wp2_with fail
        go_ret
        exact ⟨rfl, hbw20⟩
    · simp only [Prod.mk.injEq] at hMF
      obtain ⟨hXe, rfl, rfl⟩ := hMF
      subst hk
      have hck : (checkC cs).1 = 0 := by rw [HCK.out]
      have HC : Hid (∀ c ∈ cs, codeC c = 0) := hide (fun c h => fine_code hck h)
      have hky : ky = 0 := by have := checkC_zero hck; rw [HCK.out] at this; simpa using this
      subst hky
      have h5' : (cs.length : Int) ≤ 500 := by omega
      obtain ⟨n, rfl⟩ := Int.eq_ofNat_of_zero_le (show 0 ≤ size by omega)
      have HO := hide (fun h => HMK.out hck h5 h)
      simp only [Int.toNat_natCast] at h6 HO hXe
      generalize hBB : flatF (fileBB cs n) = BB at *
      have HBB := hide hBB
      clear hck hBB
      have hXe := hXe.symm
      subst hXe
      have hL8 := Bk.new w7 24 #[.slice none 0 0]
      have hbA := below_alloc' w7 (.cells #[.slice none 0 0] 24)
      have hW8 := hW7.below hbA hlW
      have hF8 := hF7.below hbA (by omega)
      have hX8 := hX7.below hbA
      have hb8 : Below w.heap.size w (w7.alloc (.cells #[.slice none 0 0] 24)) := hb7.alloc hb7.size _
      have hzL : zW < w7.heap.size := hlW
      have r0 := hW7.cell 0
      have r1 := hW7.cell 1
      have q0 := hW7.frozen 0
      have q1 := hW7.frozen 1
      have f0 := hF7.cell 0
      have f1 := hF7.cell 1
      simp at r0 r1 f0 f1
      have hlF9 := hF7.lt
      have hlW9 := hW7.lt
      go_upto_region 13 with fail
      generalize w7.alloc (.cells #[.slice none 0 0] 24) = wA at *
      have hlL := hL8.lt
      generalize w7.heap.size = zL at *
      go_wp2_with fail
      refine (FileOf_any _ cs n _ (hv.below hb8) h5 HC.out (by omega)).mono ?_
      rintro e w9 ⟨vo, rfl, hr9, hb9, hn9⟩
      rw [HBB.out] at hr9
      obtain ⟨oo, co, hvo, _, _⟩ := hr9.shape
      rw [bc_length] at hvo
      subst hvo
      have hL9 := hL8.below hb9 hL8.lt
      have hW9 := hW8.below hb9 hW8.lt
      have hF9 := hF8.below hb9 hF8.lt
      have hX9 := hX8.below hb9
      have hb9w := hb8.trans (hb9.mono hb8.size)
      have hzLW : zW ≠ zL := by omega
      have hzLF : zF ≠ zL := by omega
      have l0 := hL9.frozen 0
      have l1 := hL9.cell 0
      simp at l1
      have hlL9 := hL9.lt
      clear r0 r1 q0 q1 f0 f1 hlF9 hlW9
      go_upto_region 14 with fail
      have hL10 : Bk (w9.setCell ⟨zL, 0, none⟩ (.slice oo BB.length co)) zL 24 #[.slice oo BB.length co] := hL9.set 0 _
      have hW10 := hW9.setO9 (p := ⟨zL, 0, none⟩) hzLW (.slice oo BB.length co)
      have hF10 := hF9.setO9 (p := ⟨zL, 0, none⟩) hzLF (.slice oo BB.length co)
      have hr10 := hr9.setNew hn9 (p := ⟨zL, 0, none⟩) hlL (.slice oo BB.length co)
      have hX10 := HXO.out w9 (.slice oo BB.length co) hX9
      have hb10 : Below w.heap.size w (w9.setCell ⟨zL, 0, none⟩ (.slice oo BB.length co)) := hb9w.setCell (by show _ ≤ zL; omega) _
      generalize w9.setCell ⟨zL, 0, none⟩ (.slice oo BB.length co) = w10 at *
      clear hL9 hW9 hF9 hX9 hr9 hb9 hb9w hL8 hW8 hF8 hX8 hb8 hbA hn9 l0 l1
      have l0 := hL10.cell 0
      simp at l0
      have r0 := hW10.cell 0
      have r1 := hW10.cell 1
      have q0 := hW10.frozen 0
      have q1 := hW10.frozen 1
      have f0 := hF10.cell 0
      have f1 := hF10.cell 1
      simp at r0 r1 f0 f1
      have hlF9 := hF10.lt
      have hlW9 := hW10.lt
      have h6' : (60000 : Int) < (BB.length : Int) := by omega
      go_wp2_with fail
      refine (FC_any (9) (0) _).mono ?_
      rintro e w8 ⟨rfl, hb8⟩
      unfold fltC
      have hW8 := hW10.below hb8 hW10.lt
      have hF8 := hF10.below hb8 hF10.lt
      have hbw8 := hb10.trans (hb8.mono hb10.size)
      have hlW8 := hW8.lt
      have hzw8 := hbw8.size
      clear r0 r1 q0 q1 f0 f1 hlF9 hlW9
      have hlF8 := hF8.lt
      have r0 := hW8.cell 0
      have r1 := hW8.cell 1
      have q0 := hW8.frozen 0
      have q1 := hW8.frozen 1
      have f0 := hF8.cell 0
      have f1 := hF8.cell 1
      simp at r0 r1 f0 f1
      go_wp2_with fail
      refine (bytesAs_bad _ _ (9) (0) _ (by decide) (rd_none hX10)).mono ?_
      rintro e w20 ⟨rfl, hb20⟩
      have hb9 : Below w.heap.size w ((w8.setCell ⟨zW, 0, none⟩ (.int .i64 (9))).setCell ⟨zW, 1, none⟩ (.int .i64 (0))) := (hbw8.setCell (by show _ ≤ zW; omega) _).setCell (by show _ ≤ zW; omega) _
      have hW9 : Bk ((w8.setCell ⟨zW, 0, none⟩ (.int .i64 (9))).setCell ⟨zW, 1, none⟩ (.int .i64 (0))) zW 26 #[.int .i64 (9), .int .i64 (0)] := (hW8.set 0 _).set 1 _
      have hbD := hb9
      have hWD := hW9
      have t0 := (hWD.below hb20 hWD.lt).cell 0
      have hbw20 := hbD.trans (hb20.mono hbD.size)
      simp at t0
      go_wp2_with fail
      go_ret
      exact ⟨rfl, hbw20⟩
    · simp only [Prod.mk.injEq] at hMF
      obtain ⟨hXe, rfl, rfl⟩ := hMF
      subst hk
      have hck : (checkC cs).1 = 0 := by rw [HCK.out]
      have HC : Hid (∀ c ∈ cs, codeC c = 0) := hide (fun c h => fine_code hck h)
      have hky : ky = 0 := by have := checkC_zero hck; rw [HCK.out] at this; simpa using this
      subst hky
      have h5' : (cs.length : Int) ≤ 500 := by omega
      obtain ⟨n, rfl⟩ := Int.eq_ofNat_of_zero_le (show 0 ≤ size by omega)
      have HO := hide (fun h => HMK.out hck h5 h)
      simp only [Int.toNat_natCast] at h6 HO hXe
      generalize hBB : flatF (fileBB cs n) = BB at *
      have HBB := hide hBB
      clear hck hBB
      have hXe := hXe.symm
      subst hXe
      have hL8 := Bk.new w7 24 #[.slice none 0 0]
      have hbA := below_alloc' w7 (.cells #[.slice none 0 0] 24)
      have hW8 := hW7.below hbA hlW
      have hF8 := hF7.below hbA (by omega)
      have hX8 := hX7.below hbA
      have hb8 : Below w.heap.size w (w7.alloc (.cells #[.slice none 0 0] 24)) := hb7.alloc hb7.size _
      have hzL : zW < w7.heap.size := hlW
      have r0 := hW7.cell 0
      have r1 := hW7.cell 1
      have q0 := hW7.frozen 0
      have q1 := hW7.frozen 1
      have f0 := hF7.cell 0
      have f1 := hF7.cell 1
      simp at r0 r1 f0 f1
      have hlF9 := hF7.lt
      have hlW9 := hW7.lt
      go_upto_region 13 with fail
      generalize w7.alloc (.cells #[.slice none 0 0] 24) = wA at *
      have hlL := hL8.lt
      generalize w7.heap.size = zL at *
      go_wp2_with fail
      refine (FileOf_any _ cs n _ (hv.below hb8) h5 HC.out (by omega)).mono ?_
      rintro e w9 ⟨vo, rfl, hr9, hb9, hn9⟩
      rw [HBB.out] at hr9
      obtain ⟨oo, co, hvo, _, _⟩ := hr9.shape
      rw [bc_length] at hvo
      subst hvo
      have hL9 := hL8.below hb9 hL8.lt
      have hW9 := hW8.below hb9 hW8.lt
      have hF9 := hF8.below hb9 hF8.lt
      have hX9 := hX8.below hb9
      have hb9w := hb8.trans (hb9.mono hb8.size)
      have hzLW : zW ≠ zL := by omega
      have hzLF : zF ≠ zL := by omega
      have l0 := hL9.frozen 0
      have l1 := hL9.cell 0
      simp at l1
      have hlL9 := hL9.lt
      clear r0 r1 q0 q1 f0 f1 hlF9 hlW9
      go_upto_region 14 with fail
      have hL10 : Bk (w9.setCell ⟨zL, 0, none⟩ (.slice oo BB.length co)) zL 24 #[.slice oo BB.length co] := hL9.set 0 _
      have hW10 := hW9.setO9 (p := ⟨zL, 0, none⟩) hzLW (.slice oo BB.length co)
      have hF10 := hF9.setO9 (p := ⟨zL, 0, none⟩) hzLF (.slice oo BB.length co)
      have hr10 := hr9.setNew hn9 (p := ⟨zL, 0, none⟩) hlL (.slice oo BB.length co)
      have hX10 := HXO.out w9 (.slice oo BB.length co) hX9
      have hb10 : Below w.heap.size w (w9.setCell ⟨zL, 0, none⟩ (.slice oo BB.length co)) := hb9w.setCell (by show _ ≤ zL; omega) _
      generalize w9.setCell ⟨zL, 0, none⟩ (.slice oo BB.length co) = w10 at *
      clear hL9 hW9 hF9 hX9 hr9 hb9 hb9w hL8 hW8 hF8 hX8 hb8 hbA hn9 l0 l1
      have l0 := hL10.cell 0
      simp at l0
      have r0 := hW10.cell 0
      have r1 := hW10.cell 1
      have q0 := hW10.frozen 0
      have q1 := hW10.frozen 1
      have f0 := hF10.cell 0
      have f1 := hF10.cell 1
      simp at r0 r1 f0 f1
      have hlF9 := hF10.lt
      have hlW9 := hW10.lt
      have h6' : (BB.length : Int) ≤ 60000 := by omega
      go_wp2_with fail
      refine (bytesAsM_ok zL oo BB.length co _ BB _ l0 hr10 hX10).mono ?_
      rintro e w20 ⟨rfl, hb20⟩
      have hbw20 := hb10.trans (hb20.mono hb10.size)
      have hX20 := hX10.below hb20
      have hF20 := hF10.below hb20 hF10.lt
      clear r0 r1 q0 q1 f0 f1 hlF9 hlW9
      have hW20 := hW10.below hb20 hW10.lt
      have r0 := hW20.cell 0
      have r1 := hW20.cell 1
      have q0 := hW20.frozen 0
      have q1 := hW20.frozen 1
      have f0 := hF20.cell 0
      have f1 := hF20.cell 1
      simp at r0 r1 f0 f1
      have hlF9 := hF20.lt
      have hlW9 := hW20.lt
      have HO2 := hide (HO.out h6)
      go_wp2_with fail
      refine (FOpen_any _ BB _ hX20).mono ?_
      rintro e w21 ⟨v21, rfl, hr21, hb21⟩
      rw [HO2.out] at hr21 ⊢
      unfold fltC
      simp only at hr21 ⊢
      obtain ⟨ao21, cap21, hv21, _, _⟩ := hr21.shape
      subst hv21
      have hbw21 := hbw20.trans (hb21.mono hbw20.size)
      have hF21 := hF20.below hb21 hF20.lt
      clear r0 r1 q0 q1 f0 f1 hlF9 hlW9
      have q0 := hF21.frozen 0
      have q1 := hF21.frozen 1
      have hlF21 := hF21.lt
      have hcs21 := hv.below hbw21
      have f0 := hF21.cell 0
      have f1 := hF21.cell 1
      simp at f0 f1
      have g1 := grownT_trans (grownT_set w21 zF 0 (.int .i64 0)) (grownT_set _ zF 1 (.int .i64 0))
      have hr22 := hr21.grownT g1 (hr21.notIn hF21 (fun s h => by simp at h))
      have hcs22 := hcs21.grownT g1 (hcs21.notIn hF21 (fun s h => by simp at h))
      have hb22 : Below w.heap.size w ((w21.setCell ⟨zF, 0, none⟩ (.int .i64 0)).setCell ⟨zF, 1, none⟩ (.int .i64 0)) := (hbw21.setCell (by show _ ≤ zF; omega) _).setCell (by show _ ≤ zF; omega) _
      have hz22 := hb22.size
      clear g1 hr21 hcs21
      go_wp2_with fail
      refine (SameCells_any _ _ cs _ hr22 hcs22).mono ?_
      rintro e w23 ⟨rfl, hb23⟩
      have hbw23 := hb22.trans (hb23.mono hz22)
      go_wp2_with fail
      go_ret
      exact ⟨rfl, hbw23⟩

end Go.Proofs.Ytlebbkbbmgmmjac
