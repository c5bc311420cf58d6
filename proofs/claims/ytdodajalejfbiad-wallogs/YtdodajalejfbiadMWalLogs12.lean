/-
  Texts joined: CellR7, CellR8, WalR1, WalR2, WalB, CellS6, WalR3.
-/
import Derived.Test.YtdodajalejfbiadMWalLogs11
/-
  The walks over the document's reading of cells: CellAt.
-/
namespace Go.Proofs.Ytdodajalejfbiad
open Go.RowKit

/-- What CellAt has read, from one of the five on. -/
def refAt (bs : List UInt8) : Nat → Nat → List (List UInt8) → List Int → Nat → Option (List (List UInt8) × List Int × Nat)
  | 0, _, ps, ns, a => some (ps, ns, a)
  | f + 1, i, ps, ns, a => match numAt (bs.drop a) with
    | none => none
    | some (n, k) => if i = 2 ∨ i = 3 then refAt bs f (i + 1) ps (ns ++ [(n : Int)]) (a + k)
      else if bs.length < a + k + n then none else refAt bs f (i + 1) (ps ++ [(bs.drop (a + k)).take n]) ns (a + k + n)

theorem refAt_none {bs : List UInt8} {f i a : Nat} {ps : List (List UInt8)} {ns : List Int} (h : numAt (bs.drop a) = none) : refAt bs (f + 1) i ps ns a = none := by rw [refAt, h]
theorem refAt_n {bs : List UInt8} {f i a n k : Nat} {ps : List (List UInt8)} {ns : List Int} (h : numAt (bs.drop a) = some (n, k)) (hi : i = 2 ∨ i = 3) : refAt bs (f + 1) i ps ns a = refAt bs f (i + 1) ps (ns ++ [(n : Int)]) (a + k) := by rw [refAt, h]; simp only; rw [if_pos hi]
theorem refAt_long {bs : List UInt8} {f i a n k : Nat} {ps : List (List UInt8)} {ns : List Int} (h : numAt (bs.drop a) = some (n, k)) (hi : ¬ (i = 2 ∨ i = 3)) (hl : bs.length < a + k + n) : refAt bs (f + 1) i ps ns a = none := by rw [refAt, h]; simp only; rw [if_neg hi, if_pos hl]
theorem refAt_s {bs : List UInt8} {f i a n k : Nat} {ps : List (List UInt8)} {ns : List Int} (h : numAt (bs.drop a) = some (n, k)) (hi : ¬ (i = 2 ∨ i = 3)) (hl : ¬ bs.length < a + k + n) : refAt bs (f + 1) i ps ns a = refAt bs f (i + 1) (ps ++ [(bs.drop (a + k)).take n]) ns (a + k + n) := by rw [refAt, h]; simp only; rw [if_neg hi, if_neg hl]

theorem refAt_text {bs : List UInt8} {f i a : Nat} {ps : List (List UInt8)} {ns : List Int} (hi : ¬ (i = 2 ∨ i = 3)) : refAt bs (f + 1) i ps ns a = match textAt (bs.drop a) with
    | none => none
    | some (t, m) => refAt bs f (i + 1) (ps ++ [t]) ns (a + m) := by
  cases h : numAt (bs.drop a) with
  | none => rw [refAt_none h, textAt_no h]
  | some p =>
    obtain ⟨n, k⟩ := p
    have hl := numAt_len h
    rw [List.length_drop] at hl
    by_cases hg : bs.length < a + k + n
    · rw [refAt_long h hi hg, textAt_long h (by rw [List.length_drop]; omega)]
    · rw [refAt_s h hi hg, textAt_fits h (by rw [List.length_drop]; omega)]
      simp only [List.drop_drop, Nat.add_assoc]

theorem refAt_num {bs : List UInt8} {f i a : Nat} {ps : List (List UInt8)} {ns : List Int} (hi : i = 2 ∨ i = 3) : refAt bs (f + 1) i ps ns a = match numAt (bs.drop a) with
    | none => none
    | some (n, k) => refAt bs f (i + 1) ps (ns ++ [(n : Int)]) (a + k) := by
  cases h : numAt (bs.drop a) with
  | none => rw [refAt_none h]
  | some p => rw [refAt_n h hi]

/-- What CellAt has read in the end is the cell as it is written. -/
theorem refAt_raw (bs : List UInt8) : (refAt bs 5 0 [] [] 0 = none → rawAt bs = none) ∧ ∀ ps ns a, refAt bs 5 0 [] [] 0 = some (ps, ns, a) → ∃ (r c v : List UInt8) (t g : Nat), ps = [r, c, v] ∧ ns = [(t : Int), (g : Int)] ∧ t ≤ 1000000000 ∧ g ≤ 1000000000 ∧ (1 < g → rawAt bs = none) ∧ (¬ 1 < g → rawAt bs = some (⟨⟨r.toArray⟩, ⟨c.toArray⟩, (t : Int), g == 1, ⟨v.toArray⟩⟩, a)) := by
  rw [refAt_text (by decide), List.drop_zero]
  cases h1 : textAt bs with
  | none => exact ⟨fun _ => rawAt_1 h1, fun _ _ _ h => by simp at h⟩
  | some p1 =>
    obtain ⟨r, k1⟩ := p1
    simp only
    rw [refAt_text (by decide)]
    simp only [Nat.zero_add]
    cases h2 : textAt (bs.drop k1) with
    | none => exact ⟨fun _ => rawAt_2 h1 h2, fun _ _ _ h => by simp at h⟩
    | some p2 =>
      obtain ⟨c, k2⟩ := p2
      simp only
      rw [refAt_num (by decide)]
      cases h3 : numAt (bs.drop (k1 + k2)) with
      | none => exact ⟨fun _ => rawAt_3 h1 h2 h3, fun _ _ _ h => by simp at h⟩
      | some p3 =>
        obtain ⟨t, k3⟩ := p3
        simp only
        rw [refAt_num (by decide)]
        cases h4 : numAt (bs.drop (k1 + k2 + k3)) with
        | none => exact ⟨fun _ => rawAt_4 h1 h2 h3 h4, fun _ _ _ h => by simp at h⟩
        | some p4 =>
          obtain ⟨g, k4⟩ := p4
          simp only
          rw [refAt_text (by decide)]
          cases h5 : textAt (bs.drop (k1 + k2 + k3 + k4)) with
          | none => exact ⟨fun _ => rawAt_6 h1 h2 h3 h4 h5, fun _ _ _ h => by simp at h⟩
          | some p5 =>
            obtain ⟨v, k5⟩ := p5
            refine ⟨fun h => by simp [refAt] at h, fun ps ns a h => ?_⟩
            simp only [refAt, Option.some.injEq, Prod.mk.injEq] at h
            obtain ⟨rfl, rfl, rfl⟩ := h
            exact ⟨r, c, v, t, g, rfl, rfl, (numAt_len h3).2.2, (numAt_len h4).2.2, fun hg => rawAt_5 h1 h2 h3 h4 hg, fun hg => rawAt_ok h1 h2 h3 h4 hg h5⟩

/-- What CellAt answers. -/
def catV : Option (Cl × Nat) → Value
  | none => .tuple #[cA zeroC, .int .i64 0]
  | some (c, k) => .tuple #[cA c, .int .i64 k]

theorem natV_some {n k : Nat} : natV (some (n, k)) = .tuple #[.int .i64 n, .int .i64 k] := rfl
theorem natV_none : natV none = .tuple #[.int .i64 0, .int .i64 0] := rfl

theorem zero5_later {w wr : World} {t : TypeId} (h : Below (w.heap.size + 1) (w.alloc (.cells #[.string ⟨#[]⟩, .string ⟨#[]⟩, .int .i64 0, .bool false, .string ⟨#[]⟩] t)) wr) : Bk wr w.heap.size t (ca zeroC) :=
  (Bk.new w t (ca zeroC)).below h (by omega)

set_option maxRecDepth 100000 in
set_option maxHeartbeats 1000000 in
theorem CellAt_any (v : Value) (bs : List UInt8) (w : World) (hrd : Rd w v (bc bs)) (hbl : bs.length ≤ 100000) :
    Calls Try.prog 102 #[v] w fun e w' => e = .returned (catV (cellAt bs)) ∧ Below w.heap.size w w' := by
  obtain ⟨ao, cap, hv, hc1, hc2⟩ := hrd.shape
  rw [bc_length] at hc1 hv
  subst hv
  unfold maxLen at hc2
  have HR1 := hide (refAt_raw bs).1
  have HR2 := hide (refAt_raw bs).2
  go_enter Try.func102, Try.ntmps102
  go_wp2_with fail
  go_loopw [4, 5, 6, 7] (fun p n va vi wr => ∃ (f i a : Nat) (ps : List (List UInt8)) (ns : List Int), i + f = 5 ∧ vi = .int .i64 i ∧ va = .int .i64 a ∧ a ≤ bs.length ∧ refAt bs f i ps ns a = refAt bs 5 0 [] [] 0 ∧ ps.length + ns.length = i ∧ wr.ownsRow (w.heap.size + 1) 9 1 p ps.length (sc ps) ∧ wr.ownsRow (w.heap.size + 1) 3 1 n ns.length (ic ns) ∧ Below (w.heap.size + 1) (w.alloc (.cells #[.string ⟨#[]⟩, .string ⟨#[]⟩, .int .i64 0, .bool false, .string ⟨#[]⟩] 91)) wr)
    (fun _ _ _ vi _ => 5 - (intOf vi).toNat)
  case atStart => exact ⟨5, 0, 0, [], [], rfl, rfl, rfl, by omega, rfl, rfl, World.ownsRow_nil _ _ _ _, World.ownsRow_nil _ _ _ _, Below.refl _ _⟩
  case round =>
    obtain ⟨f, i, a, ps, ns, hfi, rfl, rfl, ha, hgo, hpn, hop, hon, hbel⟩ := hrel
    have HG := hide hgo
    clear hgo
    have hbf := below_first hbel
    have hrd1 := hrd.below hbf
    have hB := zero5_later hbel
    have hszB := hB.lt
    by_cases hi5 : i < 5
    · obtain ⟨f', rfl⟩ : ∃ f', f = f' + 1 := ⟨f - 1, by omega⟩
      have hsl := run_slice_from (P := Try.prog) Try.underlying42 (by kernel_rfl) Try.info5 ao bs.length cap a a rfl ha
      have hV := hrd1.from (lo := a) ha
      rw [bc_drop] at hV
      generalize sliced ao a bs.length cap 1 = V at hV hsl
      go_wp2_with fail
      refine (NumberAt_any V _ _ hV).mono ?_
      rintro e w1 ⟨rfl, hb1⟩
      have hop1 := owns_below hop hb1
      have hon1 := owns_below hon hb1
      have hbel1 : Below (w.heap.size + 1) (w.alloc (.cells #[.string ⟨#[]⟩, .string ⟨#[]⟩, .int .i64 0, .bool false, .string ⟨#[]⟩] 91)) w1 := hbel.trans (hb1.mono (by omega))
      have hrd2 := hrd1.below hb1
      clear hop hon hbel hbf hrd1 hb1 hV hsl hB hszB
      have hB := zero5_later hbel1
      have hszB := hB.lt
      have hbf := below_first hbel1
      cases hn : numAt (bs.drop a) with
      | none =>
        rw [natV_none]
        have HE := hide (cellAt_no (HR1.out (by rw [← HG.out]; exact refAt_none hn)))
        clear hn
        have r0 := hB.cell 0
        have r1 := hB.cell 1
        have r2 := hB.cell 2
        have r3 := hB.cell 3
        have r4 := hB.cell 4
        obtain ⟨z0, z1, z2, z3, z4⟩ := hB.thaw
        simp [ca, zeroC] at r0 r1 r2 r3 r4
        go_wp2_with fail
        exact bodyPost_ret (v := .tuple #[cA zeroC, .int .i64 0]) (by simp [results, Try.results102, go_sem, cA, zeroC, r0, r1, r2, r3, r4]) rfl ⟨by rw [HE.out]; rfl, by go_grown⟩
      | some q =>
        obtain ⟨n, k⟩ := q
        rw [natV_some]
        have hl := numAt_len hn
        rw [List.length_drop] at hl
        have hk0 : ((k : Int) == 0) = false := beq_eq_false_iff_ne.2 (by omega)
        by_cases hi : i = 2 ∨ i = 3
        · have HE := hide (@refAt_n bs f' i a n k ps ns hn hi)
          clear hn
          have hi' : (((i : Int) == 2) = true) ∨ (((i : Int) == 2) = false ∧ ((i : Int) == 3) = true) := by rcases hi with rfl | rfl <;> simp
          rcases hi' with h2 | ⟨h2, h3⟩
          all_goals
            go_wp2_with (at_builtin; go_must (refine wpList_append_one hon1 Try.underlying158 Try.info3 rfl rfl rfl rfl rfl rfl (by omega) (by decide) (by omega) ?_); intro v2 w2 ho2 hb2 hg2)
            rw [ic_snoc] at ho2
            have hop2 := owns_other (by decide) hop1 hon1 hg2
            go_roundw
            case rel => exact ⟨f', i + 1, a + k, ps, ns ++ [(n : Int)], by omega, by go_num, by go_num, by omega, by rw [← HG.out, HE.out], by simp; omega, hop2, by simpa using ho2, hbel1.trans hb2⟩
            case measure => simp [intOf]; omega
        · have hi2 : ((i : Int) == 2) = false := beq_eq_false_iff_ne.2 (by omega)
          have hi3 : ((i : Int) == 3) = false := beq_eq_false_iff_ne.2 (by omega)
          by_cases hg : bs.length < a + k + n
          · have HE := hide (cellAt_no (HR1.out (by rw [← HG.out]; exact refAt_long hn hi hg)))
            have hg' : (bs.length : Int) - ((a : Int) + k) < n := by omega
            clear hn hi hg
            have r0 := hB.cell 0
            have r1 := hB.cell 1
            have r2 := hB.cell 2
            have r3 := hB.cell 3
            have r4 := hB.cell 4
            obtain ⟨z0, z1, z2, z3, z4⟩ := hB.thaw
            simp [ca, zeroC] at r0 r1 r2 r3 r4
            go_wp2_with fail
            exact bodyPost_ret (v := .tuple #[cA zeroC, .int .i64 0]) (by simp [results, Try.results102, go_sem, cA, zeroC, r0, r1, r2, r3, r4]) rfl ⟨by rw [HE.out]; rfl, by go_grown⟩
          · have HE := hide (@refAt_s bs f' i a n k ps ns hn hi hg)
            have hg' : ¬ (bs.length : Int) - ((a : Int) + k) < n := by omega
            clear hn
            have hsl := run_slice_rd (P := Try.prog) Try.underlying42 (by kernel_rfl) Try.info5 ao bs.length cap (a + k) (a + k + n) ((a : Int) + k) ((a : Int) + k + n) (by omega) (by omega) (by omega) (by omega)
            have hV := hrd2.sliced (lo := a + k) (hi := a + k + n) (by omega) (by omega)
            rw [bc_drop, bc_take, show a + k + n - (a + k) = n by omega] at hV
            generalize sliced ao (a + k) (a + k + n) cap 1 = V at hV hsl
            have hcv : (convert 42 9 V).run Try.prog w1 = .ok (.string ⟨((bs.drop (a + k)).take n).toArray⟩) w1 := run_string_of_rd (P := Try.prog) Try.underlying42 Try.underlying5 Try.underlying9 hV
            generalize (bs.drop (a + k)).take n = tx at *
            go_wp2_with (at_builtin; go_must (refine wpList_append_one hop1 Try.underlying157 Try.info9 rfl rfl rfl rfl rfl rfl (by omega) (by decide) (by omega) ?_); intro v2 w2 ho2 hb2 hg2)
            rw [sc_snoc] at ho2
            have hon2 := owns_other (by decide) hon1 hop1 hg2
            go_roundw
            case rel => exact ⟨f', i + 1, a + k + n, ps ++ [tx], ns, by omega, by go_num, by go_num, by omega, by rw [← HG.out, HE.out], by simp; omega, by simpa using ho2, hon2, hbel1.trans hb2⟩
            case measure => simp [intOf]; omega
    · obtain rfl : f = 0 := by omega
      obtain ⟨r, c, x, t, g, hps, hns, ht, hg9, hr1, hr2⟩ := HR2.out ps ns a (by rw [← HG.out]; rfl)
      subst hps hns
      obtain ⟨b1, o1, cp1, hv1, q1, q2, hbb1, hq1⟩ := (Rd.ofOwns hop).pos (by simp [sc])
      obtain ⟨b2, o2, cp2, hv2, q3, q4, hbb2, hq2⟩ := (Rd.ofOwns hon).pos (by simp [ic])
      have p0 := hq1 0 _ rfl
      have p1 := hq1 1 _ rfl
      have p2 := hq1 2 _ rfl
      have n0 := hq2 0 _ rfl
      have n1 := hq2 1 _ rfl
      rw [Nat.add_zero] at p0 n0
      simp only [sc, ic, List.map_cons, List.map_nil, List.length_cons, List.length_nil, Nat.zero_add, Nat.reduceAdd] at hv1 hv2 q1 q3
      subst hv1 hv2
      unfold maxLen at q2 q4
      have hkeep : ∀ W, Below wr.heap.size wr W → W.cell? ⟨b1, o1, none⟩ = some (.string ⟨r.toArray⟩) ∧ W.cell? ⟨b1, o1 + 1, none⟩ = some (.string ⟨c.toArray⟩) ∧ W.cell? ⟨b1, o1 + 2, none⟩ = some (.string ⟨x.toArray⟩) ∧ W.cell? ⟨b2, o2, none⟩ = some (.int .i64 t) ∧ W.cell? ⟨b2, o2 + 1, none⟩ = some (.int .i64 g) := fun W h => ⟨(h.cell hbb1).trans p0, (h.cell hbb1).trans p1, (h.cell hbb1).trans p2, (h.cell hbb2).trans n0, (h.cell hbb2).trans n1⟩
      have HK := hide hkeep
      have HR3 := hide hr1
      have HR4 := hide hr2
      clear hkeep hq1 hq2 hr1 hr2 hop hon
      go_wp2_with fail
      go_region_held3 (fun W => W.cell? ⟨b1, o1, none⟩ = some (.string ⟨r.toArray⟩) ∧ W.cell? ⟨b1, o1 + 1, none⟩ = some (.string ⟨c.toArray⟩) ∧ W.cell? ⟨b1, o1 + 2, none⟩ = some (.string ⟨x.toArray⟩) ∧ W.cell? ⟨b2, o2, none⟩ = some (.int .i64 t) ∧ W.cell? ⟨b2, o2 + 1, none⟩ = some (.int .i64 g)) (exact HK.out _ (by go_grown)) (first | fail)
      all_goals
        have hB2 : Bk (wr.alloc (.cells #[.string ⟨r.toArray⟩, .string ⟨c.toArray⟩, .int .i64 t, .bool ((g : Int) == 1), .string ⟨x.toArray⟩] 91)).drew wr.heap.size 91 (ca ⟨⟨r.toArray⟩, ⟨c.toArray⟩, (t : Int), (g : Int) == 1, ⟨x.toArray⟩⟩) := Bk.new wr _ _
        have hx2 : Below wr.heap.size wr (wr.alloc (.cells #[.string ⟨r.toArray⟩, .string ⟨c.toArray⟩, .int .i64 t, .bool ((g : Int) == 1), .string ⟨x.toArray⟩] 91)).drew := by go_grown
        have hz2 : wr.heap.size < ((wr.alloc (.cells #[.string ⟨r.toArray⟩, .string ⟨c.toArray⟩, .int .i64 t, .bool ((g : Int) == 1), .string ⟨x.toArray⟩] 91)).drew).heap.size := hB2.lt
        generalize (wr.alloc (.cells #[.string ⟨r.toArray⟩, .string ⟨c.toArray⟩, .int .i64 t, .bool ((g : Int) == 1), .string ⟨x.toArray⟩] 91)).drew = w2 at *
        have hbel2 : Below (w.heap.size + 1) (w.alloc (.cells #[.string ⟨#[]⟩, .string ⟨#[]⟩, .int .i64 0, .bool false, .string ⟨#[]⟩] 91)) w2 := hbel.trans (hx2.mono (by omega))
        obtain ⟨_, _, _, _, m1⟩ := HK.out w2 hx2
        have hgb : ((g : Int) == 1) = (g == 1) := by rw [Bool.eq_iff_iff]; simp; omega
        rw [← hgb] at HR4
        have HGB := hide hgb
        have hzw := hszB
        clear hgb p0 p1 p2 n0 n1 hB hszB
        by_cases hg : 1 < g
        · have HE := hide (cellAt_no (HR3.out hg))
          have hg' : (1 : Int) < (g : Int) := by omega
          clear hg
          have hB := zero5_later hbel2
          have hszB := hB.lt
          have hbf2 := below_first hbel2
          have r0 := hB.cell 0
          have r1 := hB.cell 1
          have r2 := hB.cell 2
          have r3 := hB.cell 3
          have r4 := hB.cell 4
          obtain ⟨z0, z1, z2, z3, z4⟩ := hB.thaw
          simp [ca, zeroC] at r0 r1 r2 r3 r4
          go_wp2_with fail
          exact bodyPost_ret (v := .tuple #[cA zeroC, .int .i64 0]) (by simp [results, Try.results102, go_sem, cA, zeroC, r0, r1, r2, r3, r4]) rfl ⟨by rw [HE.out]; rfl, by go_grown⟩
        · have HE := hide (HR4.out hg)
          have hg' : (g : Int) ≤ 1 := by omega
          clear hg HR3 HR4
          obtain ⟨c0, c1, c2, c3, c4⟩ := hB2.facts
          have hbfx := below_first hbel2
          generalize hC : (⟨⟨r.toArray⟩, ⟨c.toArray⟩, (t : Int), (g : Int) == 1, ⟨x.toArray⟩⟩ : Cl) = C at *
          go_wp2_with fail
          refine (CellCode_any C _).mono ?_
          rintro e w3 ⟨rfl, hb3⟩
          have hbel3 : Below (w.heap.size + 1) (w.alloc (.cells #[.string ⟨#[]⟩, .string ⟨#[]⟩, .int .i64 0, .bool false, .string ⟨#[]⟩] 91)) w3 := hbel2.trans (hb3.mono (by omega))
          have hB3 := hB2.below hb3 hz2
          clear c0 c1 c2 c3 c4 hB2
          obtain ⟨c0, c1, c2, c3, c4⟩ := hB3.facts
          have hB := zero5_later hbel3
          have hszB := hB.lt
          have hbf3 := below_first hbel3
          have r0 := hB.cell 0
          have r1 := hB.cell 1
          have r2 := hB.cell 2
          have r3 := hB.cell 3
          have r4 := hB.cell 4
          obtain ⟨z0, z1, z2, z3, z4⟩ := hB.thaw
          simp [ca, zeroC] at r0 r1 r2 r3 r4
          by_cases hc : codeC C = 0
          · have HF := hide (cellAt_ok HE.out hc)
            rw [hc]
            clear hc
            go_wp2_with fail
            exact bodyPost_ret (v := .tuple #[cA C, .int .i64 a]) (by simp [results, Try.results102, go_sem, cA, r0, r1, r2, r3, r4]) rfl ⟨by rw [HF.out]; rfl, by go_grown⟩
          · have HF := hide (cellAt_bad HE.out hc)
            have hcb : (codeC C != 0) = true := by simp [hc]
            clear hc
            go_wp2_with fail
            exact bodyPost_ret (v := .tuple #[cA zeroC, .int .i64 0]) (by simp [results, Try.results102, go_sem, cA, zeroC, r0, r1, r2, r3, r4]) rfl ⟨by rw [HF.out]; rfl, by go_grown⟩

end Go.Proofs.Ytdodajalejfbiad

/-
  The walks over the document's reading of cells: CellsOf.
-/
namespace Go.Proofs.Ytdodajalejfbiad
open Go.RowKit

set_option maxRecDepth 100000 in
set_option maxHeartbeats 1000000 in
theorem CellsOf_any (v : Value) (bs : List UInt8) (w : World) (hrd : Rd w v (bc bs)) (hbl : bs.length ≤ 100000) :
    Calls Try.prog 72 #[v] w fun e w' => ∃ v', e = .returned (.tuple #[v', fltC (readCR bs).2]) ∧ RdC w' v' (readCR bs).1 ∧ Below w.heap.size w w' ∧ New w.heap.size v' := by
  obtain ⟨ao, cap, hv, hc1, hc2⟩ := hrd.shape
  rw [bc_length] at hc1 hv
  subst hv
  unfold maxLen at hc2
  by_cases hbig : 60000 < bs.length
  · have HE := hide (readCR_big hbig)
    go_enter Try.func72, Try.ntmps72
    go_wp2_with fail
    refine (FC_any 8 0 _).mono ?_
    rintro e w1 ⟨rfl, hb1⟩
    have hbel := flt_later (Below.refl _ _) hb1
    obtain ⟨hf0, hf1, hfr0, hfr1, hsz⟩ := two_later hbel
    have hbf := below_first hbel
    unfold fltC
    go_wp2_with fail
    exact bodyPost_ret (v := .tuple #[.slice none 0 0, fltC (8, 0)]) (by simp [results, Try.results72, go_sem, fltC, hf0, hf1]) rfl ⟨.slice none 0 0, by rw [HE.out], by rw [HE.out]; exact RdC.nil _, by go_grown, New.nil _⟩
  · have HE := hide (readCR_go hbig)
    go_enter Try.func72, Try.ntmps72
    go_wp2_with fail
    go_loopw [0, 4] (fun b o wr => ∃ (ds : List UInt8) (f : Nat) (acc : List Cl), rdCells (f + 1) ds acc = rdCells (bs.length + 1) bs [] ∧ ds.length ≤ f ∧ acc.length + ds.length ≤ bs.length ∧ Rd w b (bc ds) ∧ wr.ownsRow (w.heap.size + 1) 91 5 o acc.length (cc acc) ∧ Below (w.heap.size + 1) (w.alloc (.cells #[.int .i64 0, .int .i64 0] 28)) wr)
      (fun b _ _ => lenV b)
    case atStart => exact ⟨bs, bs.length, [], rfl, Nat.le_refl _, by simp, hrd, World.ownsRow_nil _ _ _ _, Below.refl _ _⟩
    case round =>
      obtain ⟨ds, f, acc, hgo, hf, hacc, hr, hown, hbel⟩ := hrel
      have HG := hide hgo
      clear hgo
      have hbf := below_first hbel
      have hsz1 := (two_later hbel).2.2.2.2
      obtain ⟨bo, bcap, hbv, hd1, hd2⟩ := hr.shape
      rw [bc_length] at hd1 hbv
      subst hbv
      unfold maxLen at hd2
      by_cases hnil : ds = []
      · subst hnil
        obtain ⟨ao2, cap2, hv2⟩ := ownsC_shape hown
        subst hv2
        simp only [List.length_nil]
        go_wp2_with fail
        have hrc := RdC.ofOwns hown
        refine (CellsFault_any _ acc _ hrc).mono ?_
        rintro e w3 ⟨rfl, hb3⟩
        have hbel3 := flt_later hbel hb3
        have hown3 := owns_below hown hb3
        obtain ⟨gf0, gf1, gr0, gr1, gsz⟩ := two_later hbel3
        have hbf3 := below_first hbel3
        clear hown hbel hbf hb3
        by_cases hc : (checkC acc).1 = 0
        · have hcz := checkC_zero hc
          have HM := hide (@rdCells_end f acc hc)
          rw [hcz]
          unfold fltC
          clear hcz hc
          go_wp2_with fail
          exact bodyPost_ret (v := .tuple #[.slice ao2 acc.length cap2, fltC (0, 0)]) (by simp [results, Try.results72, go_sem, fltC, gf0, gf1, gsz]) rfl ⟨_, by rw [HE.out, ← HG.out, HM.out], by rw [HE.out, ← HG.out, HM.out]; exact RdC.ofOwns ((ownsRow_setCell_below (ownsRow_setCell_below hown3 (by simp only; omega) _) (by simp only; omega) _).alloc _), by go_grown, (New.owns hown3).mono (by omega)⟩
        · have HM := hide (@rdCells_fault f acc hc)
          have hcb2 : ((checkC acc).1 != 0) = true := by simp [hc]
          clear hc
          generalize checkC acc = r at *
          obtain ⟨x, y⟩ := r
          simp only at hcb2
          unfold fltC
          go_wp2_with fail
          go_region
          all_goals
            go_wp2_with fail
            exact bodyPost_ret (v := .tuple #[.slice none 0 0, fltC (x, y)]) (by simp [results, Try.results72, go_sem, fltC, gf0, gf1, gsz]) rfl ⟨_, by rw [HE.out, ← HG.out, HM.out], by rw [HE.out, ← HG.out, HM.out]; exact RdC.nil _, by go_grown, New.nil _⟩
      · have hpos : 0 < ds.length := by cases ds with | nil => exact absurd rfl hnil | cons => simp
        have HN := hide hnil
        clear hnil
        have hr1 := hr.below hbf
        have hlen := lenV_owns hown
        go_wp2_with fail
        refine (CellAt_any _ ds _ hr1 (by omega)).mono ?_
        rintro e w3 ⟨rfl, hb3⟩
        have hbel3 := flt_later hbel hb3
        have hown3 := owns_below hown hb3
        obtain ⟨gf0, gf1, gr0, gr1, gsz⟩ := two_later hbel3
        have hbf3 := below_first hbel3
        clear hown hbel hbf hb3 hr1
        obtain ⟨ao2, cap2, hv2⟩ := ownsC_shape hown3
        subst hv2
        cases hn : cellAt ds with
        | none =>
          have HM := hide (@rdCells_bad f ds acc HN.out hn)
          clear hn
          unfold catV cA
          simp only
          go_wp2_with fail
          refine (FC_any 5 acc.length _).mono ?_
          rintro e w4 ⟨rfl, hb4⟩
          have hbel4 : Below (w.heap.size + 1) (w.alloc (.cells #[.int .i64 0, .int .i64 0] 28)) w4 := (hbel3.alloc (by omega) _).trans (hb4.mono (by simp; omega))
          clear gf0 gf1 gr0 gr1 gsz
          obtain ⟨gf0, gf1, gr0, gr1, gsz⟩ := two_later hbel4
          have hbf4 := below_first hbel4
          unfold fltC
          go_wp2_with fail
          exact bodyPost_ret (v := .tuple #[.slice none 0 0, fltC (5, acc.length)]) (by simp [results, Try.results72, go_sem, fltC, gf0, gf1]) rfl ⟨_, by rw [HE.out, ← HG.out, HM.out], by rw [HE.out, ← HG.out, HM.out]; exact RdC.nil _, by go_grown, New.nil _⟩
        | some p =>
          obtain ⟨c, k⟩ := p
          have HM := hide (@rdCells_step f ds acc c k HN.out hn)
          obtain ⟨_, _, hk0, hkl⟩ := cellAt_len hn
          clear hn
          unfold catV cA
          simp only
          have hkb : ((k : Int) == 0) = false := beq_eq_false_iff_ne.2 (by omega)
          have hown4 := hown3.alloc (.cells #[.string c.row, .string c.col, .int .i64 c.time, .bool c.gone, .string c.val] 91)
          have hbel4 : Below (w.heap.size + 1) (w.alloc (.cells #[.int .i64 0, .int .i64 0] 28)) (w3.alloc (.cells #[.string c.row, .string c.col, .int .i64 c.time, .bool c.gone, .string c.val] 91)) := hbel3.alloc (by omega) _
          have hz4 : w.heap.size + 1 ≤ (w3.alloc (.cells #[.string c.row, .string c.col, .int .i64 c.time, .bool c.gone, .string c.val] 91)).heap.size := by simp; omega
          have hsl := run_slice_from (P := Try.prog) Try.underlying42 (by kernel_rfl) Try.info5 bo ds.length bcap k k rfl hkl
          have hV := hr.from (lo := k) hkl
          rw [bc_drop] at hV
          obtain ⟨va, hva⟩ := sliced_shape bo k ds.length bcap
          rw [hva] at hsl hV
          go_wp2_with (at_builtin; go_must (refine wpList_append_oneC (c := c) hown4 Try.underlying30 Try.info91 rfl rfl rfl rfl (by simp only [World.size_alloc]; rfl) (by omega) (by decide) hz4 ?_); intro v6 w6 ho6 hb6 hg6)
          go_roundw
          case rel =>
            obtain ⟨f', rfl⟩ : ∃ f', f = f' + 1 := ⟨f - 1, by omega⟩
            refine ⟨ds.drop k, f', acc ++ [c], by rw [← HG.out, HM.out], by rw [List.length_drop]; omega, by simp; omega, hV, by simpa using ho6, hbel4.trans hb6⟩
          case measure => simp [lenV]; omega

end Go.Proofs.Ytdodajalejfbiad

/-
  The walks over the document's NoteFault, SameNote, NoteBytes and NoteOf.
-/
namespace Go.Proofs.Ytdodajalejfbiad
open Go.RowKit

set_option maxRecDepth 100000 in
set_option maxHeartbeats 1000000 in
theorem NoteFault_any (s : Int) (v : Value) (cs : List Cl) (w : World) (hv : RdC w v cs) :
    Calls Try.prog 28 #[ntA s v] w fun e w' => e = .returned (fltC (noteF s cs)) ∧ Below w.heap.size w w' := by
  obtain ⟨ao, cap, hvv, hc1, hc2⟩ := hv.shape
  subst hvv
  unfold maxLen at hc2
  unfold ntA
  go_enter Try.func28, Try.ntmps28
  have hR0 : Bk ((w.alloc (.cells #[.int .i64 s, .slice ao cs.length cap] 41)).alloc (.cells #[.int .i64 0, .int .i64 0] 28)) (w.heap.size + 1) 28 #[.int .i64 0, .int .i64 0] := Bk.new2 w _ _ _
  have HR0 := hide hR0
  clear hR0
  by_cases h1 : s < 1
  · have HE := hide (@noteF_range s cs (by omega))
    go_wp2_with fail
    refine (F_any 3 (-1) _).mono ?_
    rintro e w1 ⟨rfl, rfl⟩
    unfold flt
    go_wp2_with fail
    exact bodyPost_ret (v := fltC (3, -1)) (by simp [results, Try.results28, go_sem, fltC]) rfl ⟨by rw [HE.out], by go_grown⟩
  by_cases h2 : 1000000000 < s
  · have HE := hide (@noteF_range s cs (by omega))
    go_wp2_with fail
    refine (F_any 3 (-1) _).mono ?_
    rintro e w1 ⟨rfl, rfl⟩
    unfold flt
    go_wp2_with fail
    exact bodyPost_ret (v := fltC (3, -1)) (by simp [results, Try.results28, go_sem, fltC]) rfl ⟨by rw [HE.out], by go_grown⟩
  by_cases h3 : cs.length = 0
  · have HE := hide (@noteF_many s cs (by omega) (by omega))
    have h3b : ((cs.length : Int) == 0) = true := by rw [h3]; rfl
    go_wp2_with fail
    refine (F_any 2 (-1) _).mono ?_
    rintro e w1 ⟨rfl, rfl⟩
    unfold flt
    go_wp2_with fail
    exact bodyPost_ret (v := fltC (2, -1)) (by simp [results, Try.results28, go_sem, fltC]) rfl ⟨by rw [HE.out], by go_grown⟩
  have h3b : ((cs.length : Int) == 0) = false := beq_eq_false_iff_ne.2 (by omega)
  by_cases h4 : 20 < cs.length
  · have HE := hide (@noteF_many s cs (by omega) (by omega))
    have h4b : decide (20 < (cs.length : Int)) = true := decide_eq_true (by omega)
    go_wp2_with fail
    refine (F_any 2 (-1) _).mono ?_
    rintro e w1 ⟨rfl, rfl⟩
    unfold flt
    go_wp2_with fail
    exact bodyPost_ret (v := fltC (2, -1)) (by simp [results, Try.results28, go_sem, fltC]) rfl ⟨by rw [HE.out], by go_grown⟩
  have HE := hide (@noteF_cells s cs (by omega) (by omega))
  have h4b : decide (20 < (cs.length : Int)) = false := decide_eq_false (by omega)
  go_wp2_with fail
  refine (CellsFault_any _ cs _ (hv.below (by go_grown))).mono ?_
  rintro e w1 ⟨rfl, hb1⟩
  have hbw1 : Below w.heap.size w w1 := Below.trans (by go_grown) (hb1.mono (by simp <;> omega))
  have hR1 := HR0.out.below hb1 (by simp)
  have r0 := hR1.cell 0
  have r1 := hR1.cell 1
  have r2 := hR1.frozen 0
  have r3 := hR1.frozen 1
  have hz1 := hR1.lt
  simp at r0 r1
  generalize checkC cs = CC at *
  obtain ⟨nx, ny⟩ := CC
  unfold fltC
  go_wp2_with fail
  exact bodyPost_ret (v := fltC (nx, ny)) (by simp [results, Try.results28, go_sem, fltC, r0, r1]) rfl ⟨by rw [HE.out], by go_grown⟩

set_option maxRecDepth 100000 in
set_option maxHeartbeats 1000000 in
theorem SameNote_any (s : Int) (u v : Value) (cs : List Cl) (w : World) (hu : RdC w u cs) (hv : RdC w v cs) :
    Calls Try.prog 24 #[ntA s u, ntA s v] w fun e w' => e = .returned (.bool true) ∧ Below w.heap.size w w' := by
  unfold ntA
  have hsb : (s == s) = true := by simp
  go_enter Try.func24, Try.ntmps24
  go_wp2_with fail
  refine (SameCells_any _ _ cs _ ((hu.alloc _).alloc _) ((hv.alloc _).alloc _)).mono ?_
  rintro e w1 ⟨rfl, hb1⟩
  have hbw1 : Below w.heap.size w w1 := Below.trans (by go_grown) (hb1.mono (by simp <;> omega))
  go_wp2_with fail
  go_ret
  exact ⟨rfl, hbw1⟩

set_option maxRecDepth 100000 in
set_option maxHeartbeats 1000000 in
theorem NoteBytes_any (m : Nat) (v : Value) (cs : List Cl) (w : World) (hv : RdC w v cs) (hm : m ≤ 1000000000) (hcs : ∀ c ∈ cs, codeC c = 0) (hl : cs.length ≤ 1000) :
    Calls Try.prog 30 #[ntA m v] w fun e w' => ∃ v', e = .returned v' ∧ Rd w' v' (bc (noteB m cs)) ∧ Below w.heap.size w w' ∧ New w.heap.size v' := by
  obtain ⟨ao, cap, hvv, hc1, hc2, hat⟩ := hv.at
  subst hvv
  unfold maxLen at hc2
  unfold ntA
  have HCS := hide hcs
  have HFL := hide (fun k => flatC_le (cs := cs.take k) (fun c hc => hcs c (List.mem_of_mem_take hc)))
  clear hcs
  have HEB : Hid (noteB (m : Int) cs = encN m ++ flatC cs) := hide (by rw [noteB]; simp)
  have HEN := hide (encN_length m)
  go_enter Try.func30, Try.ntmps30
  go_wp2_with fail
  have hN0 := Bk.new w 41 #[.int .i64 m, .slice ao cs.length cap]
  have hb0 := below_alloc' w (.cells #[.int .i64 m, .slice ao cs.length cap] 41)
  have hz0 : (w.alloc (.cells #[.int .i64 m, .slice ao cs.length cap] 41)).heap.size = w.heap.size + 1 := by simp
  generalize w.alloc (.cells #[.int .i64 m, .slice ao cs.length cap] 41) = w0 at *
  refine (Number_go 9 m _ (by omega) (by omega) (Nat.le_refl _)).mono ?_
  rintro e w1 ⟨v1, rfl, ho1, hb1⟩
  have hb1' : Below w0.heap.size w0 w1 := hb1
  clear hb1
  go_wp2_with fail
  go_loopw [3, 4] (fun o i wr => ∃ (k : Nat), k ≤ cs.length ∧ i = .int .i64 k ∧ wr.ownsRow w0.heap.size 5 1 o (encN m ++ flatC (cs.take k)).length (bc (encN m ++ flatC (cs.take k))) ∧ Below w0.heap.size w0 wr)
    (fun _ i _ => cs.length - (intOf i).toNat)
  case atStart => exact ⟨0, by omega, rfl, by simp only [List.take_zero, flatC_nil, List.append_nil]; exact ho1, hb1'⟩
  case round =>
    obtain ⟨k, hk, rfl, hown, hbel⟩ := hrel
    have hNr := hN0.below hbel hN0.lt
    have hbw := hb0.trans (hbel.mono (by omega))
    have hszr := hbel.size
    have n1 := hNr.cell 1
    have hln := hNr.lt
    simp at n1
    obtain ⟨vo, vc, hvo⟩ := owns_shape hown
    by_cases hlt : k < cs.length
    · obtain ⟨bb, off, rfl, hb, hcl⟩ := hat k hlt
      have hck := (hcl k hlt).below hbw
      have hcc := HCS.out cs[k] (List.getElem_mem hlt)
      have hsn := flatC_snoc cs k hlt
      have hcl9 := cellB_len hcc
      have hfl := HFL.out k
      rw [List.length_take] at hfl
      have HSN := hide hsn
      clear hsn
      generalize cs[k] = c at *
      have hl2 : (encN m ++ flatC (cs.take k)).length + (bc (cellB c)).length ≤ 2000000000000 := by
        have := HEN.out
        rw [bc_length, List.length_append]
        omega
      generalize hA : encN m ++ flatC (cs.take k) = A at *
      have HA := hide hA
      clear hA
      subst hvo
      obtain ⟨c0, c1, c2, c3, c4⟩ := hck
      clear hcl hat
      go_wp2_with fail
      refine (CellBytes_any c _ hcc).mono ?_
      rintro e w2 ⟨v2, rfl, hr2, hb2, _⟩
      have ho2 := owns_below hown hb2
      have hbel2 := hbel.trans (hb2.mono hszr)
      have hz2 := hbel2.size
      obtain ⟨uo, uc, huv, _, _⟩ := hr2.shape
      subst huv
      clear c0 c1 c2 c3 c4 n1
      go_wp2_with (at_builtin; go_must (refine wpList_append_rd ho2 hr2 Try.underlying42 Try.info5 rfl rfl rfl rfl rfl (bc_one _) hl2 (by decide) hz2 ?_); intro v3 w3 ho3 hb3 hg3; clear hg3)
      rw [bc_length, ← bc_append, ← List.length_append] at ho3
      go_roundw
      case rel => exact ⟨k + 1, by omega, by go_num, by rw [HSN.out, ← List.append_assoc, HA.out]; exact ho3, hbel2.trans hb3⟩
      case measure => simp [intOf]; omega
    · have hke : k = cs.length := by omega
      subst hke
      rw [List.take_length] at hown hvo
      subst hvo
      go_wp2_with fail
      go_ret
      exact ⟨_, rfl, by rw [HEB.out]; exact Rd.ofOwns hown, hbw, (New.owns hown).mono (by omega)⟩

end Go.Proofs.Ytdodajalejfbiad

/-
  The walk over the document's NoteOf.
-/
namespace Go.Proofs.Ytdodajalejfbiad
open Go.RowKit

set_option maxRecDepth 100000 in
set_option maxHeartbeats 2000000 in
theorem NoteOf_any (v : Value) (bs : List UInt8) (w : World) (hrd : Rd w v (bc bs)) (hbl : bs.length ≤ 100000) :
    Calls Try.prog 26 #[v] w fun e w' => ∃ v', e = .returned (.tuple #[ntA (readN bs).1.seq v', fltC (readN bs).2]) ∧ RdC w' v' (readN bs).1.cells ∧ Below w.heap.size w w' ∧ New w.heap.size v' := by
  obtain ⟨ao, cap, hvv, hc1, hc2⟩ := hrd.shape
  rw [bc_length] at hc1 hvv
  subst hvv
  unfold maxLen at hc2
  go_enter Try.func26, Try.ntmps26
  by_cases hbig : 60000 < bs.length
  · have HE := hide (readN_big hbig)
    go_wp2_with fail
    refine (F_any 8 0 _).mono ?_
    rintro e w1 ⟨rfl, rfl⟩
    unfold flt
    go_wp2_with fail
    exact bodyPost_ret (v := .tuple #[ntA 0 (.slice none 0 0), fltC (8, 0)]) (by simp [results, Try.results26, go_sem, fltC, ntA]) rfl ⟨.slice none 0 0, by rw [HE.out]; rfl, by rw [HE.out]; exact RdC.nil _, by go_grown, New.nil _⟩
  have hA0 : Bk ((w.alloc (.cells #[.int .i64 0, .slice none 0 0] 41)).alloc (.cells #[.int .i64 0, .int .i64 0] 28)) w.heap.size 41 #[.int .i64 0, .slice none 0 0] := (Bk.new w _ _).below (below_alloc' _ _) (by simp)
  have hF0 : Bk ((w.alloc (.cells #[.int .i64 0, .slice none 0 0] 41)).alloc (.cells #[.int .i64 0, .int .i64 0] 28)) (w.heap.size + 1) 28 #[.int .i64 0, .int .i64 0] := Bk.new2 w _ _ _
  go_wp2_with fail
  refine (NumberAt_any _ bs _ ((hrd.alloc _).alloc _)).mono ?_
  rintro e w3 ⟨rfl, hb3⟩
  have hA3 := hA0.below hb3 (by simp <;> omega)
  have hF3 := hF0.below hb3 (by simp)
  have hbw3 : Below w.heap.size w w3 := Below.trans (by go_grown) (hb3.mono (by simp <;> omega))
  have hz3 := hF3.lt
  have hz3A := hA3.lt
  clear hA0 hF0 hb3
  cases hn : numAt bs with
  | none =>
    have HE := hide (readN_form hbig hn)
    have a0 := hA3.cell 0
    have a1 := hA3.cell 1
    have a2 := hA3.frozen 0
    have a3 := hA3.frozen 1
    have f0 := hF3.cell 0
    have f1 := hF3.cell 1
    have f2 := hF3.frozen 0
    have f3 := hF3.frozen 1
    simp at a0 a1 f0 f1
    clear hn
    rw [natV_none]
    go_wp2_with fail
    refine (F_any 5 (-1) _).mono ?_
    rintro e w1 ⟨rfl, rfl⟩
    unfold flt
    go_wp2_with fail
    exact bodyPost_ret (v := .tuple #[ntA 0 (.slice none 0 0), fltC (5, -1)]) (by simp [results, Try.results26, go_sem, fltC, ntA, a0, a1, f0, f1, hz3, hz3A]) rfl ⟨.slice none 0 0, by rw [HE.out]; rfl, by rw [HE.out]; exact RdC.nil _, by go_grown, New.nil _⟩
  | some p =>
    obtain ⟨s, k⟩ := p
    obtain ⟨hk0, hk1, hs⟩ := numAt_len hn
    have hkb : ((k : Int) == 0) = false := beq_eq_false_iff_ne.2 (by omega)
    have hrd3 := hrd.below hbw3
    have hsl := run_slice_from (P := Try.prog) Try.underlying42 (by kernel_rfl) Try.info5 ao bs.length cap k k rfl hk1
    have hrr := hrd3.from hk1
    rw [bc_drop] at hrr
    rw [natV_some]
    obtain ⟨va, hva⟩ := sliced_shape ao k bs.length cap
    rw [hva] at hsl hrr
    clear hrd hrd3
    go_wp2_with fail
    refine (CellsOf_any _ (bs.drop k) _ hrr (by rw [List.length_drop]; omega)).mono ?_
    rintro e w5 ⟨v5, rfl, hr5, hb5, hn5⟩
    have hA5 := hA3.below hb5 hA3.lt
    have hF5 := hF3.below hb5 hF3.lt
    have hbw5 := hbw3.trans (hb5.mono (by omega))
    have hz5 := hb5.size
    have hnn5 := hn5.mono (show w.heap.size + 2 ≤ w3.heap.size by omega)
    clear hA3 hF3 hbw3 hb5 hn5 hrr
    have a0 := hA5.cell 0
    have a1 := hA5.cell 1
    have a2 := hA5.frozen 0
    have a3 := hA5.frozen 1
    have f0 := hF5.cell 0
    have f1 := hF5.cell 1
    have f2 := hF5.frozen 0
    have f3 := hF5.frozen 1
    have hlt := hF5.lt
    have hltA := hA5.lt
    simp at a0 a1 f0 f1
    have HOWN := hide (@readN_own bs s k hbig hn)
    have HOK := hide (@readN_ok bs s k hbig hn)
    have HCE := hide (@readN_cells bs s k hbig hn)
    have HFZ := hide (@readCR_zero (bs.drop k))
    clear hn hsl
    generalize readCR (bs.drop k) = RC at *
    obtain ⟨cs, x, y⟩ := RC
    obtain ⟨vo5, vc5, hv5, hv51, hv52⟩ := hr5.shape
    simp only at hr5 hv5 hv51 HOWN HOK HCE HFZ ⊢
    subst hv5
    unfold maxLen at hv52
    by_cases hx : x = 0
    case neg =>
      have HE := hide (HCE.out hx)
      have hcb : (x == 0) = false := beq_eq_false_iff_ne.2 hx
      have hcb2 : (x != 0) = true := by simp [hx]
      clear HOWN HOK HCE HFZ
      unfold fltC
      go_wp2_with fail
      go_region
      all_goals
        go_wp2_with fail
        exact bodyPost_ret (v := .tuple #[ntA 0 (.slice none 0 0), fltC (x, y)]) (by simp [results, Try.results26, go_sem, fltC, ntA, a0, a1, f0, f1, hlt, hltA]) rfl ⟨.slice none 0 0, by rw [HE.out]; rfl, by rw [HE.out]; exact RdC.nil _, by go_grown, New.nil _⟩
    subst hx
    have hy : y = 0 := HFZ.out rfl
    subst hy
    have HOWN1 := hide (HOWN.out rfl)
    have HOK1 := hide (HOK.out rfl)
    clear HCE HFZ HOWN HOK
    unfold fltC
    have hb57 : Below w5.heap.size w5 ((w5.alloc (.cells #[.int .i64 0, .int .i64 0] 28)).alloc (.cells #[.int .i64 s, .slice vo5 cs.length vc5] 41)) := (below_alloc' _ _).alloc (by simp) _
    have hW0 : Bk ((w5.alloc (.cells #[.int .i64 0, .int .i64 0] 28)).alloc (.cells #[.int .i64 s, .slice vo5 cs.length vc5] 41)) w5.heap.size 28 #[.int .i64 0, .int .i64 0] := (Bk.new w5 _ _).below (below_alloc' _ _) (by simp)
    have hNt : Bk ((w5.alloc (.cells #[.int .i64 0, .int .i64 0] 28)).alloc (.cells #[.int .i64 s, .slice vo5 cs.length vc5] 41)) (w5.heap.size + 1) 41 #[.int .i64 s, .slice vo5 cs.length vc5] := Bk.new2 w5 _ _ _
    have HB57 := hide hb57
    have HNT := hide hNt
    have HW0 := hide hW0
    clear hb57 hNt hW0
    go_upto_region 10 with fail
    generalize (w5.alloc (.cells #[.int .i64 0, .int .i64 0] 28)).alloc (.cells #[.int .i64 s, .slice vo5 cs.length vc5] 41) = w7 at *
    have hb57 := HB57.out
    have hNt := HNT.out
    have hW7 := HW0.out
    have hA7 := hA5.below hb57 hA5.lt
    have hF7 := hF5.below hb57 hF5.lt
    have hr7 := hr5.below hb57
    have hbw7 := hbw5.trans (hb57.mono (by omega))
    have hz7 := hb57.size
    have hlN := hNt.lt
    have n0 := hNt.cell 0
    have n1 := hNt.cell 1
    simp at n0 n1
    clear hA5 hF5 hbw5 hr5 a0 a1 a2 a3 f0 f1 f2 f3 hlt hltA hb57 HB57 HNT HW0
    go_wp2_with fail
    refine (NoteFault_any s _ cs _ hr7).mono ?_
    rintro e w8 ⟨rfl, hb8⟩
    have hA8 := hA7.below hb8 hA7.lt
    have hF8 := hF7.below hb8 hF7.lt
    have hN8 := hNt.below hb8 hNt.lt
    have hW8 := hW7.below hb8 hW7.lt
    have hr8 := hr7.below hb8
    have hbw8 := hbw7.trans (hb8.mono (by omega))
    have hz8 := hb8.size
    have a0 := hA8.cell 0
    have a1 := hA8.cell 1
    have a2 := hA8.frozen 0
    have a3 := hA8.frozen 1
    have f0 := hF8.cell 0
    have f1 := hF8.cell 1
    have f2 := hF8.frozen 0
    have f3 := hF8.frozen 1
    have g0 := hW8.cell 0
    have g1 := hW8.cell 1
    have g2 := hW8.frozen 0
    have g3 := hW8.frozen 1
    have hlt := hF8.lt
    have hltA := hA8.lt
    have hltW := hW8.lt
    have hlN8 := hN8.lt
    clear n0 n1
    have n0 := hN8.cell 0
    have n1 := hN8.cell 1
    simp at a0 a1 f0 f1 n0 n1 g0 g1
    clear hA7 hF7 hNt hr7 hbw7 hb8 hW7
    have HNZ := hide (@noteF_zero (s : Int) cs)
    generalize noteF (s : Int) cs = NF at *
    obtain ⟨nx, ny⟩ := NF
    simp only at HNZ
    by_cases hx : nx = 0
    case neg =>
      have HE := hide (HOWN1.out hx)
      have hcb : (nx == 0) = false := beq_eq_false_iff_ne.2 hx
      have hcb2 : (nx != 0) = true := by simp [hx]
      clear HOWN1 HOK1 HNZ
      unfold fltC
      go_wp2_with fail
      go_region
      all_goals
        go_wp2_with fail
        exact bodyPost_ret (v := .tuple #[ntA 0 (.slice none 0 0), fltC (nx, ny)]) (by simp [results, Try.results26, go_sem, fltC, ntA, a0, a1, f0, f1]) rfl ⟨.slice none 0 0, by rw [HE.out]; rfl, by rw [HE.out]; exact RdC.nil _, by go_grown, New.nil _⟩
    subst hx
    have hny : ny = 0 := by have := (HNZ.out rfl).1; simpa using this
    subst hny
    have HE := hide (HOK1.out rfl)
    clear HOWN1 HOK1 HNZ
    unfold fltC
    go_wp2_with fail
    refine bodyPost_ret (v := .tuple #[ntA s (.slice vo5 cs.length vc5), fltC (0, 0)]) (by simp [results, Try.results26, go_sem, fltC, ntA, a0, a1, f0, f1]) rfl ⟨.slice vo5 cs.length vc5, by rw [HE.out], ?_, by go_grown, hnn5.mono (by omega)⟩
    rw [HE.out]
    exact ((((hr8.setFlt hW8 0 0).setNew hnn5 (by simp only; omega) _).setNew hnn5 (by simp only; omega) _).setNew hnn5 (by simp only; omega) _).setNew hnn5 (by simp only; omega) _

end Go.Proofs.Ytdodajalejfbiad

/-
  What the laws of the logs call: oneNote, walBegun, ownNote; WalNotes' own function and bytesAs of it.
-/
namespace Go.Proofs.Ytdodajalejfbiad
open Go.RowKit

/-- The document's example. -/
def cl7 : Cl := ⟨⟨#[114]⟩, ⟨#[99]⟩, 7, false, ⟨#[97]⟩⟩

set_option maxRecDepth 100000 in
set_option maxHeartbeats 1000000 in
theorem oneNote_any (w : World) : Calls Try.prog 52 #[] w fun e w' => ∃ v', e = .returned (ntA 1 v') ∧ RdC w' v' [cl7] ∧ Below w.heap.size w w' ∧ New w.heap.size v' := by
  go_enter Try.func52, Try.ntmps52
  go_wp2_with fail
  refine bodyPost_ret (v := ntA 1 (.slice (some ⟨w.heap.size + 1, 0, none⟩) 1 1)) (by simp [results, Try.results52, go_sem, ntA]) rfl ⟨_, rfl, ?_, by go_grown, ?_⟩
  · have h := RdC.new (w.alloc (.cells #[.int .i64 1, .slice (some ⟨w.heap.size + 1, 0, none⟩) 1 1] 41)) cl7 91
    rw [World.size_alloc] at h
    exact h
  · intro a l c e
    simp only [Value.slice.injEq, Option.some.injEq] at e
    obtain ⟨rfl, _, _⟩ := e
    exact Nat.le_succ _

theorem note7 : writeN 1 [cl7] = ([1, 1, 114, 1, 99, 7, 0, 1, 97], (0, 0)) := by decide +kernel

set_option maxRecDepth 100000 in
set_option maxHeartbeats 1000000 in
theorem walBegun_any (w : World) : Calls Try.prog 18 #[] w fun e w' => e = .returned (.bool true) ∧ Below w.heap.size w w' := by
  have HN := hide note7
  go_enter Try.func18, Try.ntmps18
  go_wp2_with fail
  refine (oneNote_any _).mono ?_
  rintro e w1 ⟨v1, rfl, hr1, hb1, _⟩
  obtain ⟨ao1, cap1, hv1, _, _⟩ := hr1.shape
  subst hv1
  unfold ntA
  go_wp2_with fail
  refine (WWrite_any 1 _ [cl7] _ hr1).mono ?_
  rintro e w2 ⟨v2, rfl, hr2, hb2, _⟩
  rw [HN.out] at hr2 ⊢
  have hbw2 := hb1.trans (hb2.mono hb1.size)
  have hz2 := hbw2.size
  obtain ⟨ao2, cap2, hv2, _, _⟩ := hr2.shape
  subst hv2
  unfold fltC
  have hl : (bc [1, 1, 114, 1, 99, 7, 0, 1, 97]).length = 9 := rfl
  simp only [hl] at hr2 ⊢
  go_wp2_with fail
  refine (Same_any _ _ [1, 1, 114, 1, 99, 7, 0, 1, 97] [1, 1, 114, 1, 99, 7, 0, 1, 97] _ ((hr2.alloc _).alloc _) (by
    have h := rd_lit (w2.alloc (.cells #[.int .i64 0, .int .i64 0] 28)) (bc [1, 1, 114, 1, 99, 7, 0, 1, 97]) 5 (by decide)
    rw [World.size_alloc] at h
    exact h)).mono ?_
  rintro e w3 ⟨rfl, rfl⟩
  go_wp2_with fail
  go_ret
  exact ⟨rfl, by go_grown⟩

set_option maxRecDepth 100000 in
set_option maxHeartbeats 1000000 in
theorem ownNote_any (s : Int) (v : Value) (cs : List Cl) (w : World) (h : RdC w v cs) (hl : cs.length ≤ 1000000) :
    Calls Try.prog 20 #[ntA s v] w fun e w' => ∃ v', e = .returned (ntA s v') ∧ RdC w' v' cs ∧ Below w.heap.size w w' ∧ New w.heap.size v' := by
  obtain ⟨ao, cap, hu, hc1, hc2⟩ := h.shape
  subst hu
  unfold ntA
  go_enter Try.func20, Try.ntmps20
  go_wp2_with fail
  have hbC : Below w.heap.size w ((w.alloc (.cells #[.int .i64 s, .slice ao cs.length cap] 41)).alloc (.cells #[.int .i64 0, .slice none 0 0] 41)) := ((Below.refl _ _).alloc (Nat.le_refl _) _).alloc (by simp) _
  have hD : Bk ((w.alloc (.cells #[.int .i64 s, .slice ao cs.length cap] 41)).alloc (.cells #[.int .i64 0, .slice none 0 0] 41)) w.heap.size 41 #[.int .i64 s, .slice ao cs.length cap] := (Bk.new w _ _).below (below_alloc' _ _) (by simp)
  have hR : Bk ((w.alloc (.cells #[.int .i64 s, .slice ao cs.length cap] 41)).alloc (.cells #[.int .i64 0, .slice none 0 0] 41)) (w.heap.size + 1) 41 #[.int .i64 0, .slice none 0 0] := Bk.new2 w _ _ _
  have h1 := h.below hbC
  generalize (w.alloc (.cells #[.int .i64 s, .slice ao cs.length cap] 41)).alloc (.cells #[.int .i64 0, .slice none 0 0] 41) = w1 at *
  have hsz1 := hR.lt
  have d0 := hD.cell 0
  have d1 := hD.cell 1
  simp at d0 d1
  have HD := hide hD
  have HR := hide hR
  have H1 := hide h1
  clear hD hR h1 h
  go_region_held3 (fun W => W.cell? ⟨w.heap.size, 0, none⟩ = some (.int .i64 s) ∧ W.cell? ⟨w.heap.size, 1, none⟩ = some (.slice ao cs.length cap)) (go_keep) (first | (go_at_call 43; refine (ownCells_any _ cs _ (by exact H1.out) hl).mono ?_; rintro e w3 ⟨v3, rfl, hr3, hb3, hn3⟩; obtain ⟨ao3, cap3, hv3, _, _⟩ := hr3.shape; subst hv3; have qD := Bk.below (w := w1.drew) HD.out hb3 (by exact HD.out.lt); have q0 := qD.cell 0; have q1 := qD.cell 1; have rR := Bk.below (w := w1.drew) HR.out hb3 (by exact HR.out.lt); have r0 := rR.cell 0; have r1 := rR.cell 1; have r2 := rR.frozen 0; have r3 := rR.frozen 1; have r4 := rR.lt; simp at q0 q1 r0 r1))
  all_goals
    have hz1 : w1.drew.heap.size = w1.heap.size := rfl
    have hbw3 : Below w.heap.size w w3 := Below.trans hbC.drew (hb3.mono (by omega))
    go_wp2_with fail
    exact bodyPost_ret (v := ntA s (.slice ao3 cs.length cap3)) (by simp [results, Try.results20, go_sem, ntA, r0, r1]) rfl ⟨_, rfl, (hr3.setNew hn3 (by simp only; omega) _).setNew hn3 (by simp only; omega) _, by go_grown, hn3.mono (by omega)⟩

set_option maxRecDepth 100000 in
set_option maxHeartbeats 400000 in
theorem WalNotes1_any (L : Nat) (t : TypeId) (m : Nat) (v : Value) (cs : List Cl) (w : World) (hL : Bk w L t #[.int .i64 m, v]) (hv : RdC w v cs) (hm : m ≤ 1000000000) (hcs : ∀ c ∈ cs, codeC c = 0) (hl : cs.length ≤ 1000) :
    Calls Try.prog 29 #[.pointer (some ⟨L, 0, none⟩)] w fun e w' => ∃ v', e = .returned v' ∧ Rd w' v' (bc (noteB m cs)) ∧ Below w.heap.size w w' := by
  obtain ⟨ao, cap, hu, hc1, hc2⟩ := hv.shape
  subst hu
  have c0 := hL.cell 0
  have c1 := hL.cell 1
  simp at c0 c1
  have HCS := hide hcs
  clear hcs
  go_enter Try.func29, Try.ntmps29
  go_wp2_with fail
  refine (NoteBytes_any m _ cs _ hv hm HCS.out hl).mono ?_
  rintro e w1 ⟨v1, rfl, hr1, hb1, _⟩
  go_wp2_with fail
  go_ret
  exact ⟨_, rfl, hr1, hb1⟩

set_option maxRecDepth 100000 in
set_option maxHeartbeats 400000 in
theorem bytesAsN_ok (L : Nat) (t : TypeId) (m : Nat) (v x : Value) (cs : List Cl) (w : World) (hL : Bk w L t #[.int .i64 m, v]) (hv : RdC w v cs) (hm : m ≤ 1000000000) (hcs : ∀ c ∈ cs, codeC c = 0) (hl : cs.length ≤ 1000) (hx : Rd w x (bc (noteB m cs))) :
    Calls Try.prog 27 #[x, fltC (0, 0), fltC (0, 0), .func (.func 29) #[] #[.pointer (some ⟨L, 0, none⟩)]] w fun e w' => e = .returned (.bool true) ∧ Below w.heap.size w w' := by
  have HCS := hide hcs
  clear hcs
  unfold fltC
  go_enter Try.func27, Try.ntmps27
  go_wp2_with fail
  have hb2 : Below w.heap.size w ((w.alloc (.cells #[.int .i64 0, .int .i64 0] 28)).alloc (.cells #[.int .i64 0, .int .i64 0] 28)) := ((Below.refl _ _).alloc (Nat.le_refl _) _).alloc (by simp) _
  refine (WalNotes1_any L t m v cs _ (hL.below hb2 hL.lt) (hv.below hb2) hm HCS.out hl).mono ?_
  rintro e w1 ⟨v1, rfl, hr1, hb1⟩
  have hb12 := hb2.trans (hb1.mono (by simp <;> omega))
  obtain ⟨xo, xc, hxv, _, _⟩ := hx.shape
  obtain ⟨yo, yc, hyv, _, _⟩ := hr1.shape
  subst hxv hyv
  go_wp2_with fail
  refine (Same_any _ _ (noteB m cs) (noteB m cs) _ (hx.below hb12) hr1).mono ?_
  rintro e w2 ⟨rfl, rfl⟩
  go_wp2_with fail
  go_ret
  exact ⟨by simp, hb12⟩

set_option maxRecDepth 100000 in
set_option maxHeartbeats 400000 in
theorem bytesAsN_bad (x fv : Value) (c a : Int) (w : World) (hc : c ≠ 0) (hx : Rd w x (bc [])) :
    Calls Try.prog 27 #[x, fltC (c, a), fltC (c, a), fv] w fun e w' => e = .returned (.bool true) ∧ Below w.heap.size w w' := bytesAs_bad x fv c a w hc hx

end Go.Proofs.Ytdodajalejfbiad

/-
  The walk over the document's PutCell.
-/
namespace Go.Proofs.Ytdodajalejfbiad
open Go.RowKit

theorem RdC.grownNone {w w' : World} {v : Value} {cs : List Cl} (h : RdC w v cs) (hg : w.grownBy w' none) : RdC w' v cs :=
  h.below ⟨hg.os, hg.tape, hg.output, hg.size, fun k hk => hg.block k hk (by simp)⟩

theorem lt_alloc (w : World) (o : Obj) : w.heap.size < (w.alloc o).heap.size := by simp

set_option maxRecDepth 100000 in
set_option maxHeartbeats 4000000 in
theorem PutCell_any (v : Value) (cs : List Cl) (c : Cl) (w : World) (hv : RdC w v cs) (hp : cs.Pairwise Lt) (hl : cs.length ≤ 100000) :
    Calls Try.prog 111 #[v, cA c] w fun e w' => ∃ v', e = .returned v' ∧ RdC w' v' (mrg cs [c]) ∧ Below w.heap.size w w' := by
  obtain ⟨ao, cap, hvv, hc1, hc2⟩ := hv.shape
  subst hvv
  unfold maxLen at hc2
  unfold cA
  have HP := hide hp
  clear hp
  go_enter Try.func111, Try.ntmps111
  go_wp2_with fail
  have hC0 : Bk (w.alloc (.cells #[.string c.row, .string c.col, .int .i64 c.time, .bool c.gone, .string c.val] 91)) w.heap.size 91 (ca c) := Bk.new w _ _
  have hbC := below_alloc' w (.cells #[.string c.row, .string c.col, .int .i64 c.time, .bool c.gone, .string c.val] 91)
  have hzA : (w.alloc (.cells #[.string c.row, .string c.col, .int .i64 c.time, .bool c.gone, .string c.val] 91)).heap.size = w.heap.size + 1 := by simp
  generalize w.alloc (.cells #[.string c.row, .string c.col, .int .i64 c.time, .bool c.gone, .string c.val] 91) = wA at hC0 hbC hzA ⊢
  go_loopw [5] (fun i wr => ∃ k : Nat, k ≤ cs.length ∧ i = .int .i64 k ∧ (∀ x ∈ cs.take k, Lt x c) ∧ Below wA.heap.size wA wr)
    (fun i _ => cs.length - (intOf i).toNat)
  case atStart => exact ⟨0, by omega, rfl, by simp, Below.refl _ _⟩
  case round =>
    obtain ⟨k, hk, rfl, hbefore, hbel⟩ := hrel
    have HB := hide hbefore
    clear hbefore
    have hzr := hbel.size
    have hbw : Below w.heap.size w wr := hbC.trans (hbel.mono (by omega))
    have hk1 : (0 : Int) ≤ (k : Int) := by omega
    by_cases hlt : k < cs.length
    · obtain ⟨x, hx⟩ : ∃ x, cs[k]? = some x := ⟨_, List.getElem?_eq_getElem hlt⟩
      obtain ⟨b, off, rfl, _, hxk⟩ := hv.hereD hx
      have hk2 : (k : Int) < (cs.length : Int) := by omega
      have hd1 : decide ((k : Int) < (cs.length : Int)) = true := by simp; omega
      have hd2 : decide (k < cs.length) = true := by simp; omega
      have hkeep : ∀ W, Below wA.heap.size wA W → (W.cell? ⟨w.heap.size, 0, none⟩ = some (.string c.row) ∧ W.cell? ⟨w.heap.size, 1, none⟩ = some (.string c.col) ∧ W.cell? ⟨w.heap.size, 2, none⟩ = some (.int .i64 c.time) ∧ W.cell? ⟨w.heap.size, 3, none⟩ = some (.bool c.gone) ∧ W.cell? ⟨w.heap.size, 4, none⟩ = some (.string c.val)) ∧ (W.cell? ⟨b, off + k * 5, none⟩ = some (.string x.row) ∧ W.cell? ⟨b, off + k * 5 + 1, none⟩ = some (.string x.col) ∧ W.cell? ⟨b, off + k * 5 + 2, none⟩ = some (.int .i64 x.time) ∧ W.cell? ⟨b, off + k * 5 + 3, none⟩ = some (.bool x.gone) ∧ W.cell? ⟨b, off + k * 5 + 4, none⟩ = some (.string x.val)) := fun W h => by
        obtain ⟨c0, c1, c2, c3, c4⟩ := (hC0.below h (by omega)).facts
        obtain ⟨d0, d1, d2, d3, d4⟩ := hxk.below (hbC.trans (h.mono (by omega)))
        exact ⟨⟨c0, c1, c2, c3, c4⟩, d0, d1, d2, d3, d4⟩
      have HK := hide hkeep
      obtain ⟨⟨c0, c1, c2, c3, c4⟩, d0, d1, d2, d3, d4⟩ := hkeep wr hbel
      have HX := hide hx
      clear hkeep hx hxk
      cases h7 : aheadB x c
      · have HNL : Hid (¬ Lt x c) := hide (fun h => by rw [aheadB_iff.2 h] at h7; cases h7)
        have hspl : cs = cs.take k ++ x :: cs.drop (k + 1) := by
          have e := (List.getElem?_eq_some_iff.1 HX.out).2
          rw [← e, ← List.drop_eq_getElem_cons hlt, List.take_append_drop]
        have HSPL := hide hspl
        clear hspl
        go_wp2_with fail
        go_region_held3 (fun W => (W.cell? ⟨w.heap.size, 0, none⟩ = some (.string c.row) ∧ W.cell? ⟨w.heap.size, 1, none⟩ = some (.string c.col) ∧ W.cell? ⟨w.heap.size, 2, none⟩ = some (.int .i64 c.time) ∧ W.cell? ⟨w.heap.size, 3, none⟩ = some (.bool c.gone) ∧ W.cell? ⟨w.heap.size, 4, none⟩ = some (.string c.val)) ∧ (W.cell? ⟨b, off + k * 5, none⟩ = some (.string x.row) ∧ W.cell? ⟨b, off + k * 5 + 1, none⟩ = some (.string x.col) ∧ W.cell? ⟨b, off + k * 5 + 2, none⟩ = some (.int .i64 x.time) ∧ W.cell? ⟨b, off + k * 5 + 3, none⟩ = some (.bool x.gone) ∧ W.cell? ⟨b, off + k * 5 + 4, none⟩ = some (.string x.val))) (exact HK.out _ (by go_grown)) (first
          | (go_at_call 87; refine (Ahead_any x c _).mono ?_; rintro e w2 ⟨rfl, hb2⟩; rw [h7]; have hb12 : Below wA.heap.size wA w2 := Below.trans (by go_grown) (hb2.mono hzr)))
        have hz12 := hb12.size
        clear c0 c1 c2 c3 c4 d0 d1 d2 d3 d4
        obtain ⟨⟨c0, c1, c2, c3, c4⟩, d0, d1, d2, d3, d4⟩ := HK.out w2 hb12
        cases h8 : aheadB c x
        · have HSM := hide (Lt_total HNL.out (fun h => by rw [aheadB_iff.2 h] at h8; cases h8))
          go_wp2_with fail
          go_region_held3 (fun W => (W.cell? ⟨w.heap.size, 0, none⟩ = some (.string c.row) ∧ W.cell? ⟨w.heap.size, 1, none⟩ = some (.string c.col) ∧ W.cell? ⟨w.heap.size, 2, none⟩ = some (.int .i64 c.time) ∧ W.cell? ⟨w.heap.size, 3, none⟩ = some (.bool c.gone) ∧ W.cell? ⟨w.heap.size, 4, none⟩ = some (.string c.val)) ∧ (W.cell? ⟨b, off + k * 5, none⟩ = some (.string x.row) ∧ W.cell? ⟨b, off + k * 5 + 1, none⟩ = some (.string x.col) ∧ W.cell? ⟨b, off + k * 5 + 2, none⟩ = some (.int .i64 x.time) ∧ W.cell? ⟨b, off + k * 5 + 3, none⟩ = some (.bool x.gone) ∧ W.cell? ⟨b, off + k * 5 + 4, none⟩ = some (.string x.val))) (exact HK.out _ (by go_grown)) (first
            | (go_at_call 87; refine (Ahead_any c x _).mono ?_; rintro e w3 ⟨rfl, hb3⟩; rw [h8]; have hb13 : Below wA.heap.size wA w3 := Below.trans (by go_grown) (hb3.mono hz12)))
          have hz13 := hb13.size
          have hbw3 : Below w.heap.size w w3 := hbC.trans (hb13.mono (by omega))
          clear c0 c1 c2 c3 c4 d0 d1 d2 d3 d4
          obtain ⟨⟨c0, c1, c2, c3, c4⟩, d0, d1, d2, d3, d4⟩ := HK.out w3 hb13
          have hl1 : 0 + cs.length ≤ 1000000000 := by omega
          have HV := hide (hv.below hbw3)
          go_upto_region 6 with (at_builtin; go_must (refine wpList_append_rdC (cs := []) (World.ownsRow_nil w3 w3.heap.size 91 5) HV.out Try.underlying30 Try.info91 rfl rfl rfl rfl rfl hl1 (by decide) (Nat.le_refl _) ?_); intro v4 w4 ho4 hb4 hg4; clear hg4; rw [Nat.zero_add, List.nil_append] at ho4)
          obtain ⟨g, cap4, rfl⟩ : ∃ g cap4, v4 = .slice (some ⟨g, 0, none⟩) cs.length cap4 := by
            rcases ho4.2 with ⟨_, h0⟩ | ⟨g, cap4, cur, h0, _⟩
            · omega
            · exact ⟨g, cap4, h0⟩
          have hgl := ho4.lt g rfl
          obtain ⟨c0, c1, c2, c3, c4⟩ := (HK.out w4 (hb13.trans (hb4.mono hz13))).1
          have hne : w.heap.size ≠ g := by omega
          obtain ⟨b9, off9, he9, _, hat9⟩ := (RdC.ofOwns ho4).hereD HX.out
          simp only [Option.some.injEq, Addr.mk.injEq, and_true] at he9
          obtain ⟨rfl, rfl⟩ := he9
          rw [Nat.zero_add] at hat9
          obtain ⟨e0, e1, e2, e3, e4⟩ := hat9
          have r0 := ho4.frozenAt (k * 5)
          have r1 := ho4.frozenAt (k * 5 + 1)
          have r2 := ho4.frozenAt (k * 5 + 2)
          have r3 := ho4.frozenAt (k * 5 + 3)
          have r4 := ho4.frozenAt (k * 5 + 4)
          have s0 := (ho4.stored (k * 5) (.string c.row)).1
          have s1 := (s0.stored (k * 5 + 1) (.string c.col)).1
          have s2 := (s1.stored (k * 5 + 2) (.int .i64 c.time)).1
          have s3 := (s2.stored (k * 5 + 3) (.bool c.gone)).1
          have s4 := (s3.stored (k * 5 + 4) (.string c.val)).1
          rw [cc_set cs k c hlt] at s4
          have HS4 := hide s4
          have hb5 := ((((hb4.setCell (p := ⟨g, k * 5, none⟩) hgl.1 (.string c.row)).setCell (p := ⟨g, k * 5 + 1, none⟩) hgl.1 (.string c.col)).setCell (p := ⟨g, k * 5 + 2, none⟩) hgl.1 (.int .i64 c.time)).setCell (p := ⟨g, k * 5 + 3, none⟩) hgl.1 (.bool c.gone)).setCell (p := ⟨g, k * 5 + 4, none⟩) hgl.1 (.string c.val)
          have HB5 := hide (hbw3.trans (hb5.mono hbw3.size))
          have HE : Hid (mrg cs [c] = cs.set k c) := hide (by
            have h1 := mrg_put (r := cs.drop (k + 1)) HB.out HSM.out
            rw [← HSPL.out] at h1
            rw [h1, List.set_eq_take_append_cons_drop, if_pos hlt])
          clear s0 s1 s2 s3 s4 hb5 ho4
          go_wp2_with fail
          go_ret
          exact ⟨_, rfl, by rw [HE.out]; exact RdC.ofOwns HS4.out, HB5.out⟩
        · have HLT := hide (aheadB_iff.1 h8)
          have HE : Hid (mrg cs [c] = cs.take k ++ [c] ++ cs.drop k) := hide (by
            have h1 := mrg_ins (r := cs.drop (k + 1)) HB.out HLT.out
            rw [← HSPL.out] at h1
            rw [h1, List.append_assoc, List.drop_eq_getElem_cons hlt, (List.getElem?_eq_some_iff.1 HX.out).2]
            rfl)
          have hs1 := run_slice_uptoC (P := Try.prog) Try.underlying30 (by kernel_rfl) Try.info91 (some ⟨b, off, none⟩) cs.length cap k (k : Int) rfl (by omega)
          have hs2 := run_slice_fromC (P := Try.prog) Try.underlying30 (by kernel_rfl) Try.info91 (some ⟨b, off, none⟩) cs.length cap k (k : Int) rfl (by omega)
          have hV1 := hv.uptoC (hi := k) (by omega)
          have hV2 := hv.from (lo := k) (by omega)
          generalize hg1 : Go.sliced (some ⟨b, off, none⟩) 0 k cap 5 = V1 at hs1 hV1
          generalize hg2 : Go.sliced (some ⟨b, off, none⟩) k cs.length cap 5 = V2 at hs2 hV2
          clear hg1 hg2
          have hlA : (cs.take k).length + (cs.drop k).length ≤ 100000 := by rw [← List.length_append, List.take_append_drop]; exact hl
          obtain ⟨vo1, vc1, hw1, _, _⟩ := hV1.shape
          obtain ⟨vo2, vc2, hw2, _, _⟩ := hV2.shape
          generalize cs.take k = A at hV1 hlA hw1 HE
          generalize cs.drop k = B at hV2 hlA hw2 HE
          subst hw1 hw2
          have hV1w := hV1
          have hV2w := hV2
          clear hV1 hV2
          go_wp2_with fail
          go_region_held3 (fun W => (W.cell? ⟨w.heap.size, 0, none⟩ = some (.string c.row) ∧ W.cell? ⟨w.heap.size, 1, none⟩ = some (.string c.col) ∧ W.cell? ⟨w.heap.size, 2, none⟩ = some (.int .i64 c.time) ∧ W.cell? ⟨w.heap.size, 3, none⟩ = some (.bool c.gone) ∧ W.cell? ⟨w.heap.size, 4, none⟩ = some (.string c.val)) ∧ (W.cell? ⟨b, off + k * 5, none⟩ = some (.string x.row) ∧ W.cell? ⟨b, off + k * 5 + 1, none⟩ = some (.string x.col) ∧ W.cell? ⟨b, off + k * 5 + 2, none⟩ = some (.int .i64 x.time) ∧ W.cell? ⟨b, off + k * 5 + 3, none⟩ = some (.bool x.gone) ∧ W.cell? ⟨b, off + k * 5 + 4, none⟩ = some (.string x.val))) (exact HK.out _ (by go_grown)) (first
            | (go_at_call 87; refine (Ahead_any c x _).mono ?_; rintro e wx ⟨rfl, hb3⟩; rw [h8]; have hb13 : Below wA.heap.size wA wx := Below.trans (by go_grown) (hb3.mono hz12)))
          have hz13 := hb13.size
          have hbw0 : Below w.heap.size w wx := hbC.trans (hb13.mono (by omega))
          have hzx : w.heap.size ≤ wx.heap.size := hbw0.size
          clear c0 c1 c2 c3 c4 d0 d1 d2 d3 d4
          have hkc2 : ∀ W, Below wx.heap.size wx W → W.cell? ⟨w.heap.size, 0, none⟩ = some (.string c.row) ∧ W.cell? ⟨w.heap.size, 1, none⟩ = some (.string c.col) ∧ W.cell? ⟨w.heap.size, 2, none⟩ = some (.int .i64 c.time) ∧ W.cell? ⟨w.heap.size, 3, none⟩ = some (.bool c.gone) ∧ W.cell? ⟨w.heap.size, 4, none⟩ = some (.string c.val) := fun W h => (HK.out W (hb13.trans (h.mono hz13))).1
          obtain ⟨c0, c1, c2, c3, c4⟩ := hkc2 wx (Below.refl _ _)
          have HKC := hide hkc2
          have HV1 := hide (hV1w.below hbw0)
          have HV2 := hide (hV2w.below hbw0)
          clear hkc2 hV1w hV2w
          have hl1 : 0 + A.length ≤ 1000000000 := by omega
          have hl2 : A.length + [c].length ≤ 1000000000 := by simp; omega
          have hl3 : A.length + 1 + B.length ≤ 1000000000 := by omega
          go_upto_region 8 with fail
          go_region_held3 (fun W => W.cell? ⟨w.heap.size, 0, none⟩ = some (.string c.row) ∧ W.cell? ⟨w.heap.size, 1, none⟩ = some (.string c.col) ∧ W.cell? ⟨w.heap.size, 2, none⟩ = some (.int .i64 c.time) ∧ W.cell? ⟨w.heap.size, 3, none⟩ = some (.bool c.gone) ∧ W.cell? ⟨w.heap.size, 4, none⟩ = some (.string c.val)) (exact HKC.out _ (by go_grown)) (first
            | (have k9 := ho2; refine step_append_rdC k9 (by exact HV2.out.below hbx2) Try.underlying30 Try.info91 rfl (by rfl) (by rfl) (by rfl) (by rfl) hl3 (by decide) (by exact hbx2.size) ?_; intro v3 w3 ho3 hb3 hg3; have hbx3 := hbx2.trans hb3; have hzx3 := hbx3.size; obtain ⟨ao3, cap3, hv3⟩ := ownsC_shape ho3; subst hv3)
            | (have k9 := ho1; refine step_append_rdC (k9.alloc _) (RdC.new w1 c _) Try.underlying30 Try.info91 rfl (by rfl) (by rfl) (by rfl) (by rfl) hl2 (by decide) (by exact Nat.le_trans hbx1.size (Nat.le_of_lt (lt_alloc w1 _))) ?_; intro v2 w2 ho2 hb2 hg2; rw [List.length_singleton] at ho2; have hbx2 := (hbx1.alloc hbx1.size (.cells #[.string c.row, .string c.col, .int .i64 c.time, .bool c.gone, .string c.val] 91)).trans hb2; have hzx2 := hbx2.size; obtain ⟨ao2, cap2, hv2⟩ := ownsC_shape ho2; subst hv2)
            | (have k9 := hN1; refine step_append_rdC ho1 k9 Try.underlying30 Try.info91 rfl (by rfl) (by rfl) (by rfl) (by rfl) hl2 (by decide) (by exact hbx1.size) ?_; intro v2 w2 ho2 hb2 hg2; rw [List.length_singleton] at ho2; have hbx2 := hbx1.trans hb2; have hzx2 := hbx2.size; obtain ⟨ao2, cap2, hv2⟩ := ownsC_shape ho2; subst hv2)
            | (refine step_append_rdC (cs := []) (World.ownsRow_nil _ wx.heap.size _ _) (by exact HV1.out) Try.underlying30 Try.info91 rfl (by rfl) (by rfl) (by rfl) (by rfl) hl1 (by decide) (by exact Nat.le_refl _) ?_; intro v1 w1 ho1 hb1 hg1; rw [Nat.zero_add, List.nil_append] at ho1; have hbx1 : Below wx.heap.size wx w1 := Below.trans (by go_grown) hb1; have hzx1 := hbx1.size; obtain ⟨ao1, cap1, hv1⟩ := ownsC_shape ho1; subst hv1)
            | (refine step_append_rdC (cs := []) (World.ownsRow_nil _ wx.heap.size _ _) (by exact HV1.out.alloc _) Try.underlying30 Try.info91 rfl (by rfl) (by rfl) (by rfl) (by rfl) hl1 (by decide) (by exact Nat.le_of_lt (lt_alloc wx _)) ?_; intro v1 w1 ho1 hb1 hg1; rw [Nat.zero_add, List.nil_append] at ho1; have hbx1 : Below wx.heap.size wx w1 := Below.trans (by go_grown) hb1; have hzx1 := hbx1.size; have hN1 : RdC w1 (.slice (some ⟨wx.heap.size, 0, none⟩) 1 1) [c] := RdC.grownNone (w := (wx.alloc (.cells #[.string c.row, .string c.col, .int .i64 c.time, .bool c.gone, .string c.val] 91)).drew) (show RdC (wx.alloc (.cells #[.string c.row, .string c.col, .int .i64 c.time, .bool c.gone, .string c.val] 91)) _ _ from RdC.new wx c _) hg1; obtain ⟨ao1, cap1, hv1⟩ := ownsC_shape ho1; subst hv1))
          all_goals
            have hr3 := RdC.ofOwns ho3
            go_wp2_with fail
            go_ret
            exact ⟨_, rfl, by rw [HE.out]; exact hr3, hbw0.trans (hbx3.mono hzx)⟩
      · have HLT := hide (aheadB_iff.1 h7)
        go_wp2_with fail
        go_region_held3 (fun W => (W.cell? ⟨w.heap.size, 0, none⟩ = some (.string c.row) ∧ W.cell? ⟨w.heap.size, 1, none⟩ = some (.string c.col) ∧ W.cell? ⟨w.heap.size, 2, none⟩ = some (.int .i64 c.time) ∧ W.cell? ⟨w.heap.size, 3, none⟩ = some (.bool c.gone) ∧ W.cell? ⟨w.heap.size, 4, none⟩ = some (.string c.val)) ∧ (W.cell? ⟨b, off + k * 5, none⟩ = some (.string x.row) ∧ W.cell? ⟨b, off + k * 5 + 1, none⟩ = some (.string x.col) ∧ W.cell? ⟨b, off + k * 5 + 2, none⟩ = some (.int .i64 x.time) ∧ W.cell? ⟨b, off + k * 5 + 3, none⟩ = some (.bool x.gone) ∧ W.cell? ⟨b, off + k * 5 + 4, none⟩ = some (.string x.val))) (exact HK.out _ (by go_grown)) (first
          | (go_at_call 87; refine (Ahead_any x c _).mono ?_; rintro e w2 ⟨rfl, hb2⟩; rw [h7]; have hb12 : Below wA.heap.size wA w2 := Below.trans (by go_grown) (hb2.mono hzr)))
        go_wp2_with fail
        go_roundw
        case rel => exact ⟨k + 1, by omega, by go_num, fun y hy => by rw [List.take_add_one, HX.out] at hy; rcases List.mem_append.1 hy with hy | hy; exact HB.out y hy; simp at hy; rw [hy]; exact HLT.out, hb12⟩
        case measure => simp [intOf]; omega
    · have hkl : k = cs.length := by omega
      have HE : Hid (mrg cs [c] = cs ++ [c]) := hide (mrg_end (fun y hy => HB.out y (by rw [hkl, List.take_length]; exact hy)))
      have hd1 : decide ((k : Int) < (cs.length : Int)) = false := by simp; omega
      have hd2 : decide (k < cs.length) = false := by simp; omega
      subst hkl
      have hs1 := run_slice_uptoC (P := Try.prog) Try.underlying30 (by kernel_rfl) Try.info91 ao cs.length cap cs.length (cs.length : Int) rfl hc1
      have hs2 := run_slice_fromC (P := Try.prog) Try.underlying30 (by kernel_rfl) Try.info91 ao cs.length cap cs.length (cs.length : Int) rfl (Nat.le_refl _)
      have hV1 := hv.uptoC (hi := cs.length) (Nat.le_refl _)
      have hV2 := hv.from (lo := cs.length) (Nat.le_refl _)
      rw [List.take_length] at hV1
      rw [List.drop_length] at hV2
      generalize hg1 : Go.sliced ao 0 cs.length cap 5 = V1 at hs1 hV1
      generalize hg2 : Go.sliced ao cs.length cs.length cap 5 = V2 at hs2 hV2
      clear hg1 hg2
      obtain ⟨vo1, vc1, hw1, _, _⟩ := hV1.shape
      obtain ⟨vo2, vc2, hw2, _, _⟩ := hV2.shape
      have HV1 := hide hV1
      have HV2 := hide hV2
      clear hV1 hV2
      subst hw1 hw2
      have hkc : ∀ W, Below wr.heap.size wr W → W.cell? ⟨w.heap.size, 0, none⟩ = some (.string c.row) ∧ W.cell? ⟨w.heap.size, 1, none⟩ = some (.string c.col) ∧ W.cell? ⟨w.heap.size, 2, none⟩ = some (.int .i64 c.time) ∧ W.cell? ⟨w.heap.size, 3, none⟩ = some (.bool c.gone) ∧ W.cell? ⟨w.heap.size, 4, none⟩ = some (.string c.val) := fun W h => (hC0.below (hbel.trans (h.mono hzr)) (by omega)).facts
      have HKC := hide hkc
      obtain ⟨c0, c1, c2, c3, c4⟩ := hkc wr (Below.refl _ _)
      clear hkc
      have hbw0 := hbw
      have hzx : w.heap.size ≤ wr.heap.size := by omega
      have hl1 : 0 + cs.length ≤ 1000000000 := by omega
      have hl2 : cs.length + [c].length ≤ 1000000000 := by simp; omega
      have hl3 : cs.length + 1 + ([] : List Cl).length ≤ 1000000000 := by simp; omega
      clear c0 c1 c2 c3 c4 hbw0 hzx
      go_wp2_with fail
      go_quiet (fail)
      have hbq : Below wr.heap.size wr (wr.drewN nq) := below_drewN (Below.refl _ _) _
      generalize wr.drewN nq = wq at hbq ⊢
      go_wp2_with fail
      go_quiet (fail)
      have hbwx : Below wr.heap.size wr (wq.drewN nq) := below_drewN hbq _
      generalize wq.drewN nq = wx at hbwx ⊢
      go_upto_region 8 with fail
      have hbw0 : Below w.heap.size w wx := hbw.trans (hbwx.mono (by omega))
      have hzx : w.heap.size ≤ wx.heap.size := hbw0.size
      have hkc2 : ∀ W, Below wx.heap.size wx W → W.cell? ⟨w.heap.size, 0, none⟩ = some (.string c.row) ∧ W.cell? ⟨w.heap.size, 1, none⟩ = some (.string c.col) ∧ W.cell? ⟨w.heap.size, 2, none⟩ = some (.int .i64 c.time) ∧ W.cell? ⟨w.heap.size, 3, none⟩ = some (.bool c.gone) ∧ W.cell? ⟨w.heap.size, 4, none⟩ = some (.string c.val) := fun W h => HKC.out W (hbwx.trans (h.mono hbwx.size))
      obtain ⟨c0, c1, c2, c3, c4⟩ := hkc2 wx (Below.refl _ _)
      clear HKC
      have HKC := hide hkc2
      clear hkc2
      have hV1 := HV1.out.below hbw0
      have hV2 := HV2.out.below hbw0
      clear HV1 HV2
      have HV1 := hide hV1
      have HV2 := hide hV2
      clear hV1 hV2
      go_region_held3 (fun W => W.cell? ⟨w.heap.size, 0, none⟩ = some (.string c.row) ∧ W.cell? ⟨w.heap.size, 1, none⟩ = some (.string c.col) ∧ W.cell? ⟨w.heap.size, 2, none⟩ = some (.int .i64 c.time) ∧ W.cell? ⟨w.heap.size, 3, none⟩ = some (.bool c.gone) ∧ W.cell? ⟨w.heap.size, 4, none⟩ = some (.string c.val)) (exact HKC.out _ (by go_grown)) (first
        | (have k9 := ho2; refine step_append_rdC k9 (by exact HV2.out.below hbx2) Try.underlying30 Try.info91 rfl (by rfl) (by rfl) (by rfl) (by rfl) hl3 (by decide) (by exact hbx2.size) ?_; intro v3 w3 ho3 hb3 hg3; have hbx3 := hbx2.trans hb3; have hzx3 := hbx3.size; obtain ⟨ao3, cap3, hv3⟩ := ownsC_shape ho3; subst hv3)
        | (have k9 := ho1; refine step_append_rdC (k9.alloc _) (RdC.new w1 c _) Try.underlying30 Try.info91 rfl (by rfl) (by rfl) (by rfl) (by rfl) hl2 (by decide) (by exact Nat.le_trans hbx1.size (Nat.le_of_lt (lt_alloc w1 _))) ?_; intro v2 w2 ho2 hb2 hg2; rw [List.length_singleton] at ho2; have hbx2 := (hbx1.alloc hbx1.size (.cells #[.string c.row, .string c.col, .int .i64 c.time, .bool c.gone, .string c.val] 91)).trans hb2; have hzx2 := hbx2.size; obtain ⟨ao2, cap2, hv2⟩ := ownsC_shape ho2; subst hv2)
        | (have k9 := hN1; refine step_append_rdC ho1 k9 Try.underlying30 Try.info91 rfl (by rfl) (by rfl) (by rfl) (by rfl) hl2 (by decide) (by exact hbx1.size) ?_; intro v2 w2 ho2 hb2 hg2; rw [List.length_singleton] at ho2; have hbx2 := hbx1.trans hb2; have hzx2 := hbx2.size; obtain ⟨ao2, cap2, hv2⟩ := ownsC_shape ho2; subst hv2)
        | (refine step_append_rdC (cs := []) (World.ownsRow_nil _ wx.heap.size _ _) (by exact HV1.out) Try.underlying30 Try.info91 rfl (by rfl) (by rfl) (by rfl) (by rfl) hl1 (by decide) (by exact Nat.le_refl _) ?_; intro v1 w1 ho1 hb1 hg1; rw [Nat.zero_add, List.nil_append] at ho1; have hbx1 : Below wx.heap.size wx w1 := Below.trans (by go_grown) hb1; have hzx1 := hbx1.size; obtain ⟨ao1, cap1, hv1⟩ := ownsC_shape ho1; subst hv1)
        | (refine step_append_rdC (cs := []) (World.ownsRow_nil _ wx.heap.size _ _) (by exact HV1.out.alloc _) Try.underlying30 Try.info91 rfl (by rfl) (by rfl) (by rfl) (by rfl) hl1 (by decide) (by exact Nat.le_of_lt (lt_alloc wx _)) ?_; intro v1 w1 ho1 hb1 hg1; rw [Nat.zero_add, List.nil_append] at ho1; have hbx1 : Below wx.heap.size wx w1 := Below.trans (by go_grown) hb1; have hzx1 := hbx1.size; have hN1 : RdC w1 (.slice (some ⟨wx.heap.size, 0, none⟩) 1 1) [c] := RdC.grownNone (w := (wx.alloc (.cells #[.string c.row, .string c.col, .int .i64 c.time, .bool c.gone, .string c.val] 91)).drew) (show RdC (wx.alloc (.cells #[.string c.row, .string c.col, .int .i64 c.time, .bool c.gone, .string c.val] 91)) _ _ from RdC.new wx c _) hg1; obtain ⟨ao1, cap1, hv1⟩ := ownsC_shape ho1; subst hv1))
      all_goals
        have hr3 := RdC.ofOwns ho3
        go_wp2_with fail
        go_ret
        exact ⟨_, rfl, by rw [HE.out]; simpa using hr3, hbw0.trans (hbx3.mono hzx)⟩

end Go.Proofs.Ytdodajalejfbiad

/-
  The walks over the document's PutCells, PutNotes, SameNotes, and the law's vastNotes, ownNotes.
-/
namespace Go.Proofs.Ytdodajalejfbiad
open Go.RowKit

set_option maxRecDepth 100000 in
set_option maxHeartbeats 2000000 in
theorem PutCellsL_any (v0 v : Value) (L m : List Cl) (w : World) (h0 : RdC w v0 L) (hv : RdC w v m) (hL : L.Pairwise Lt) (hl : L.length + m.length ≤ 100000) :
    Calls Try.prog 88 #[v0, v] w fun e w' => ∃ v', e = .returned v' ∧ RdC w' v' (putL L m) ∧ Below w.heap.size w w' := by
  obtain ⟨ao0, cap0, hvv0, _, _⟩ := h0.shape
  obtain ⟨ao, cap, hvv, hc1, hc2⟩ := hv.shape
  subst hvv hvv0
  unfold maxLen at hc2
  have HL := hide hL
  have H0 := hide h0
  clear hL h0
  go_enter Try.func88, Try.ntmps88
  go_wp2_with fail
  go_loopw [0, 5] (fun u i wr => ∃ (k : Nat) (uo : Option Addr) (uc : Nat), k ≤ m.length ∧ i = .int .i64 k ∧ u = .slice uo (putL L (m.take k)).length uc ∧ RdC wr (.slice uo (putL L (m.take k)).length uc) (putL L (m.take k)) ∧ Below w.heap.size w wr)
    (fun _ i _ => m.length - (intOf i).toNat)
  case atStart => exact ⟨0, ao0, cap0, by omega, rfl, rfl, H0.out, Below.refl _ _⟩
  case round =>
    obtain ⟨k, uo, uc, hk, rfl, rfl, hacc, hbel⟩ := hrel
    have hzr := hbel.size
    have hla := putL_len (m.take k) L
    rw [List.length_take] at hla
    have HP := hide (putL_pw (m.take k) L HL.out)
    by_cases hlt : k < m.length
    · obtain ⟨c, hc⟩ : ∃ c, m[k]? = some c := ⟨_, List.getElem?_eq_getElem hlt⟩
      obtain ⟨b, off, rfl, _, hck⟩ := hv.hereD hc
      obtain ⟨c0, c1, c2, c3, c4⟩ := hck.below hbel
      have hk1 : (0 : Int) ≤ (k : Int) := by omega
      have hk2 : (k : Int) < (m.length : Int) := by omega
      have HN := hide (putL_take (l := L) hc)
      generalize putL L (m.take k) = acc at *
      clear hc hck
      go_wp2_with fail
      refine (PutCell_any _ acc c _ hacc HP.out (by omega)).mono ?_
      rintro e w1 ⟨v1, rfl, hr1, hb1⟩
      obtain ⟨ao1, cap1, hv1, _, _⟩ := hr1.shape
      subst hv1
      go_wp2_with fail
      go_roundw
      case rel => exact ⟨k + 1, _, _, by omega, by go_num, by rw [HN.out], by rw [HN.out]; exact hr1, hbel.trans (hb1.mono hzr)⟩
      case measure => simp [intOf]; omega
    · have hke : k = m.length := by omega
      subst hke
      rw [List.take_length] at *
      go_wp2_with fail
      go_ret
      exact ⟨_, rfl, hacc, hbel⟩

set_option maxRecDepth 100000 in
set_option maxHeartbeats 2000000 in
theorem PutNotes_any (v0 v : Value) (L : List Cl) (ns : List Nt) (w : World) (h0 : RdC w v0 L) (hv : RdN w v ns) (hL : L.Pairwise Lt) (hn : ∀ n ∈ ns, n.cells.length ≤ 20) (hl : L.length + ns.length * 20 ≤ 100000) :
    Calls Try.prog 47 #[v0, v] w fun e w' => ∃ v', e = .returned v' ∧ RdC w' v' (putN L ns) ∧ Below w.heap.size w w' := by
  obtain ⟨ao0, cap0, hvv0, _, _⟩ := h0.shape
  obtain ⟨ao, cap, hvv, hc1, hc2⟩ := hv.shape
  subst hvv hvv0
  unfold maxLen at hc2
  have HL := hide hL
  have H0 := hide h0
  have HN20 := hide hn
  clear hL h0 hn
  go_enter Try.func47, Try.ntmps47
  go_wp2_with fail
  go_loopw [0, 5] (fun u i wr => ∃ (k : Nat) (uo : Option Addr) (uc : Nat), k ≤ ns.length ∧ i = .int .i64 k ∧ u = .slice uo (putN L (ns.take k)).length uc ∧ RdC wr (.slice uo (putN L (ns.take k)).length uc) (putN L (ns.take k)) ∧ (putN L (ns.take k)).length ≤ L.length + k * 20 ∧ Below w.heap.size w wr)
    (fun _ i _ => ns.length - (intOf i).toNat)
  case atStart => exact ⟨0, ao0, cap0, by omega, rfl, rfl, H0.out, by simp [putN], Below.refl _ _⟩
  case round =>
    obtain ⟨k, uo, uc, hk, rfl, rfl, hacc, hla, hbel⟩ := hrel
    have hzr := hbel.size
    have HP := hide (putN_pw (ns.take k) L HL.out)
    by_cases hlt : k < ns.length
    · obtain ⟨n, hn⟩ : ∃ n, ns[k]? = some n := ⟨_, List.getElem?_eq_getElem hlt⟩
      have h20 := HN20.out n (List.mem_of_getElem? hn)
      have HT := hide (putN_take (l := L) hn)
      obtain ⟨bb, off, x, rfl, hbb, k0, k1, hr⟩ := (hv.below hbel).hereD hn
      obtain ⟨s, cs⟩ := n
      simp only at k0 hr HT h20
      obtain ⟨xo, xc, hxx, _, _⟩ := hr.shape
      subst hxx
      have hk1 : (0 : Int) ≤ (k : Int) := by omega
      have hk2 : (k : Int) < (ns.length : Int) := by omega
      generalize putN L (ns.take k) = acc at *
      have hll := putL_len cs acc
      clear hn
      go_wp2_with fail
      refine (PutCellsL_any _ _ acc cs _ hacc hr HP.out (by omega)).mono ?_
      rintro e w1 ⟨v1, rfl, hr1, hb1⟩
      rw [← HT.out] at hr1 hll
      obtain ⟨ao1, cap1, hv1, _, _⟩ := hr1.shape
      subst hv1
      go_wp2_with fail
      go_roundw
      case rel => exact ⟨k + 1, _, _, by omega, by go_num, rfl, hr1, by omega, hbel.trans (hb1.mono hzr)⟩
      case measure => simp [intOf]; omega
    · have hke : k = ns.length := by omega
      subst hke
      rw [List.take_length] at *
      go_wp2_with fail
      go_ret
      exact ⟨_, rfl, hacc, hbel⟩

set_option maxRecDepth 100000 in
set_option maxHeartbeats 2000000 in
theorem SameNotes_any (u v : Value) (ns : List Nt) (w : World) (hu : RdN w u ns) (hv : RdN w v ns) :
    Calls Try.prog 41 #[u, v] w fun e w' => e = .returned (.bool true) ∧ Below w.heap.size w w' := by
  obtain ⟨ao0, cap0, hvv0, he1, he2⟩ := hu.shape
  obtain ⟨ao, cap, hvv, hc1, hc2⟩ := hv.shape
  subst hvv hvv0
  unfold maxLen at hc2 he2
  go_enter Try.func41, Try.ntmps41
  go_wp2_with fail
  go_loopw [5] (fun i wr => ∃ (k : Nat), k ≤ ns.length ∧ i = .int .i64 k ∧ Below w.heap.size w wr)
    (fun i _ => ns.length - (intOf i).toNat)
  case atStart => exact ⟨0, by omega, rfl, Below.refl _ _⟩
  case round =>
    obtain ⟨k, hk, rfl, hbel⟩ := hrel
    have hzr := hbel.size
    by_cases hlt : k < ns.length
    · obtain ⟨n, hn⟩ : ∃ n, ns[k]? = some n := ⟨_, List.getElem?_eq_getElem hlt⟩
      obtain ⟨b1, o1, x, rfl, hb1, k0, k1, hr1⟩ := (hu.below hbel).hereD hn
      obtain ⟨b2, o2, y, rfl, hb2, j0, j1, hr2⟩ := (hv.below hbel).hereD hn
      obtain ⟨s, cs⟩ := n
      simp only at k0 hr1 j0 hr2
      obtain ⟨xo, xc, hxx, _, _⟩ := hr1.shape
      obtain ⟨yo, yc, hyy, _, _⟩ := hr2.shape
      subst hxx hyy
      have hk1 : (0 : Int) ≤ (k : Int) := by omega
      have hk2 : (k : Int) < (ns.length : Int) := by omega
      have HR1 := hide hr1
      have HR2 := hide hr2
      have hkeep : ∀ W, Below wr.heap.size wr W → W.cell? ⟨b1, o1 + k * 2, none⟩ = some (.int .i64 s) ∧ W.cell? ⟨b1, o1 + k * 2 + 1, none⟩ = some (.slice xo cs.length xc) ∧ W.cell? ⟨b2, o2 + k * 2, none⟩ = some (.int .i64 s) ∧ W.cell? ⟨b2, o2 + k * 2 + 1, none⟩ = some (.slice yo cs.length yc) := fun W h => ⟨cell_belowC k0 h, cell_belowC k1 h, cell_belowC j0 h, cell_belowC j1 h⟩
      have HK := hide hkeep
      clear hn hr1 hr2 hkeep
      go_wp2_with fail
      go_region_held3 (fun W => W.cell? ⟨b1, o1 + k * 2, none⟩ = some (.int .i64 s) ∧ W.cell? ⟨b1, o1 + k * 2 + 1, none⟩ = some (.slice xo cs.length xc) ∧ W.cell? ⟨b2, o2 + k * 2, none⟩ = some (.int .i64 s) ∧ W.cell? ⟨b2, o2 + k * 2 + 1, none⟩ = some (.slice yo cs.length yc)) (exact HK.out _ (by go_grown)) (first
        | (go_at_call 24; refine (SameNote_any s _ _ cs _ (by exact HR1.out.below (by go_grown)) (by exact HR2.out.below (by go_grown))).mono ?_; rintro e w2 ⟨rfl, hb2⟩; have hb12 : Below wr.heap.size wr w2 := Below.trans (by go_grown) hb2; have hbel2 : Below w.heap.size w w2 := hbel.trans (hb12.mono hzr)))
      all_goals
        go_wp2_with fail
        go_roundw
        case rel => exact ⟨k + 1, by omega, by go_num, hbel2⟩
        case measure => simp [intOf]; omega
    · go_wp2_with fail
      go_ret
      exact ⟨rfl, hbel⟩

/-- How many cells notes have. -/
def nlen (ns : List Nt) : Nat := (ns.map fun n => n.cells.length).sum
theorem nlen_take {ns : List Nt} {k : Nat} {n : Nt} (h : ns[k]? = some n) : nlen (ns.take (k + 1)) = nlen (ns.take k) + n.cells.length := by
  unfold nlen
  rw [List.take_add_one, h]
  simp
theorem nlen_le {ns : List Nt} (h : ∀ n ∈ ns, n.cells.length ≤ 2199023255552) : ∀ k, k ≤ ns.length → nlen (ns.take k) ≤ k * 2199023255552
  | 0, _ => by simp [nlen]
  | k + 1, hk => by
    have hg : ns[k]? = some (ns[k]'(by omega)) := List.getElem?_eq_getElem (by omega)
    rw [nlen_take hg]
    have h1 := nlen_le h k (by omega)
    have h2 := h _ (List.mem_of_getElem? hg)
    omega
theorem nlen_mem : ∀ {ns : List Nt} {n : Nt}, n ∈ ns → n.cells.length ≤ nlen ns
  | m :: r, n, h => by
    simp only [nlen, List.map_cons, List.sum_cons]
    rcases List.mem_cons.1 h with rfl | h
    · omega
    · have := nlen_mem h
      simp only [nlen] at this
      omega

def vastNB (ns : List Nt) : Bool := decide (1100 < ns.length ∨ 1300 < nlen ns)

set_option maxRecDepth 100000 in
set_option maxHeartbeats 1000000 in
theorem vastNotes_any (v : Value) (ns : List Nt) (w : World) (hv : RdN w v ns) (hb : ∀ n ∈ ns, n.cells.length ≤ 2199023255552) :
    Calls Try.prog 42 #[v] w fun e w' => e = .returned (.bool (vastNB ns)) ∧ Below w.heap.size w w' := by
  obtain ⟨ao, cap, hvv, hc1, hc2⟩ := hv.shape
  subst hvv
  unfold maxLen at hc2
  have HB := hide hb
  clear hb
  by_cases hbig : 1100 < ns.length
  · have HE := hide (show vastNB ns = true by simp [vastNB, hbig])
    go_enter Try.func42, Try.ntmps42
    go_wp2_with fail
    go_loopw [3, 4] (fun n i wr => ∃ (k : Nat) (z : Int), k ≤ ns.length ∧ i = .int .i64 k ∧ n = .int .i64 z ∧ wr = w)
      (fun _ i _ => ns.length - (intOf i).toNat)
    case atStart => exact ⟨0, 0, by omega, rfl, rfl, rfl⟩
    case round =>
      obtain ⟨k, z, hk, rfl, rfl, rfl⟩ := hrel
      by_cases hlt : k < ns.length
      · obtain ⟨n, hn⟩ : ∃ n, ns[k]? = some n := ⟨_, List.getElem?_eq_getElem hlt⟩
        obtain ⟨b1, o1, x, rfl, hb1, k0, k1, hr1⟩ := hv.hereD hn
        obtain ⟨xo, xc, hxx, _, _⟩ := hr1.shape
        subst hxx
        have hk1 : (0 : Int) ≤ (k : Int) := by omega
        have hk2 : (k : Int) < (ns.length : Int) := by omega
        clear hn hr1
        go_wp2_with fail
        go_roundw
        case rel => exact ⟨k + 1, _, by omega, by go_num, rfl, trivial⟩
        case measure => simp [intOf]; omega
      · have hd : decide ((1100 : Int) < (ns.length : Int)) = true := by simp; omega
        go_wp2_with fail
        go_ret
        exact ⟨by rw [HE.out]; rfl, Below.refl _ _⟩
  · have hsm : ns.length ≤ 1100 := by omega
    go_enter Try.func42, Try.ntmps42
    go_wp2_with fail
    go_loopw [3, 4] (fun n i wr => ∃ (k : Nat), k ≤ ns.length ∧ i = .int .i64 k ∧ n = .int .i64 (nlen (ns.take k)) ∧ wr = w)
      (fun _ i _ => ns.length - (intOf i).toNat)
    case atStart => exact ⟨0, by omega, rfl, by simp [nlen], rfl⟩
    case round =>
      obtain ⟨k, hk, rfl, rfl, rfl⟩ := hrel
      have hT := nlen_le HB.out k hk
      by_cases hlt : k < ns.length
      · obtain ⟨n, hn⟩ : ∃ n, ns[k]? = some n := ⟨_, List.getElem?_eq_getElem hlt⟩
        have hT2 := nlen_take hn
        have hl2 := HB.out n (List.mem_of_getElem? hn)
        obtain ⟨b1, o1, x, rfl, hb1, k0, k1, hr1⟩ := hv.hereD hn
        generalize hTk : nlen (ns.take k) = T at *
        obtain ⟨xo, xc, hxx, _, _⟩ := hr1.shape
        subst hxx
        have hk1 : (0 : Int) ≤ (k : Int) := by omega
        have hk2 : (k : Int) < (ns.length : Int) := by omega
        have hTb : T ≤ 1100 * 2199023255552 := Nat.le_trans hT (Nat.mul_le_mul_right _ (by omega))
        have HT2 := hide hT2
        clear hn hr1 hT hT2 hTk
        go_wp2_with fail
        go_roundw
        case rel => exact ⟨k + 1, by omega, by go_num, by rw [HT2.out]; go_num, trivial⟩
        case measure => simp [intOf]; omega
      · have hkl : k = ns.length := by omega
        subst hkl
        rw [List.take_length] at *
        have hd : decide ((1100 : Int) < (ns.length : Int)) = false := by simp; omega
        have hTb : nlen ns ≤ 1100 * 2199023255552 := Nat.le_trans hT (Nat.mul_le_mul_right _ (by omega))
        by_cases h4 : 1300 < nlen ns
        · have HE := hide (show vastNB ns = true by simp [vastNB, h4])
          generalize nlen ns = T at *
          have e1 : decide ((1300 : Int) < (T : Int)) = true := by simp; omega
          go_wp2_with fail
          go_ret
          exact ⟨by rw [HE.out]; rfl, Below.refl _ _⟩
        · have HE := hide (show vastNB ns = false by simp [vastNB]; omega)
          generalize nlen ns = T at *
          have e1 : decide ((1300 : Int) < (T : Int)) = false := by simp; omega
          go_wp2_with fail
          go_ret
          exact ⟨by rw [HE.out]; rfl, Below.refl _ _⟩

end Go.Proofs.Ytdodajalejfbiad
