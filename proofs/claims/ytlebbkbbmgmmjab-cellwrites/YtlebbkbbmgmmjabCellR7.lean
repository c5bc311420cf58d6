/-
  The walks over the document's reading of cells: CellAt.
-/
import Derived.Test.YtlebbkbbmgmmjabCellR6
namespace Go.Proofs.Ytlebbkbbmgmmjab
open Go.RowKit

/-- What CellAt has read, from one of the five on. -/
def refAt (bs : List UInt8) : Nat → Nat → List (List UInt8) → List Int → Nat → Option (List (List UInt8) × List Int × Nat)
  | 0, _, ps, ns, a => some (ps, ns, a)
  | f + 1, i, ps, ns, a => match numAt (bs.drop a) with
    | none => none
    | some (n, k) => if i = 2 ∨ i = 3 then refAt bs f (i + 1) ps (ns ++ [(n : Int)]) (a + k)
      else if bs.length < a + k + n then none else refAt bs f (i + 1) (ps ++ [(bs.drop (a + k)).take n]) ns (a + k + n)

theorem refAt_none {bs : List UInt8} {f i a : Nat} {ps : List (List UInt8)} {ns : List Int} (h : numAt (bs.drop a) = none) : refAt bs (f + 1) i ps ns a = none := by rw [refAt, h]
theorem refAt_n {bs : List UInt8} {f i a n k : Nat} {ps : List (List UInt8)} {ns : List Int} (h : numAt (bs.drop a) = some (n, k)) (hi : i = 2 ∨ i = 3) : refAt bs (f + 1) i ps ns a = refAt bs f (i + 1) ps (ns ++ [(n : Int)]) (a + k) := by rw [refAt, h]; simp only; rw [if_pos hi]
theorem refAt_long {bs : List UInt8} {f i a n k : Nat} {ps : List (List UInt8)} {ns : List Int} (h : numAt (bs.drop a) = some (n, k)) (hi : ¬ (i = 2 ∨ i = 3)) (hl : bs.length < a + k + n) : refAt bs (f + 1) i ps ns a = none := by rw [refAt, h]; simp only; rw [if_neg hi, if_pos hl]
theorem refAt_s {bs : List UInt8} {f i a n k : Nat} {ps : List (List UInt8)} {ns : List Int} (h : numAt (bs.drop a) = some (n, k)) (hi : ¬ (i = 2 ∨ i = 3)) (hl : ¬ bs.length < a + k + n) : refAt bs (f + 1) i ps ns a = refAt bs f (i + 1) (ps ++ [(bs.drop (a + k)).take n]) ns (a + k + n) := by rw [refAt, h]; simp only; rw [if_neg hi, if_neg hl]

theorem refAt_text {bs : List UInt8} {f i a : Nat} {ps : List (List UInt8)} {ns : List Int} (hi : ¬ (i = 2 ∨ i = 3)) : refAt bs (f + 1) i ps ns a = match textAt (bs.drop a) with
    | none => none
    | some (t, m) => refAt bs f (i + 1) (ps ++ [t]) ns (a + m) := by
  cases h : numAt (bs.drop a) with
  | none => rw [refAt_none h, textAt_no h]
  | some p =>
    obtain ⟨n, k⟩ := p
    have hl := numAt_len h
    rw [List.length_drop] at hl
    by_cases hg : bs.length < a + k + n
    · rw [refAt_long h hi hg, textAt_long h (by rw [List.length_drop]; omega)]
    · rw [refAt_s h hi hg, textAt_fits h (by rw [List.length_drop]; omega)]
      simp only [List.drop_drop, Nat.add_assoc]

theorem refAt_num {bs : List UInt8} {f i a : Nat} {ps : List (List UInt8)} {ns : List Int} (hi : i = 2 ∨ i = 3) : refAt bs (f + 1) i ps ns a = match numAt (bs.drop a) with
    | none => none
    | some (n, k) => refAt bs f (i + 1) ps (ns ++ [(n : Int)]) (a + k) := by
  cases h : numAt (bs.drop a) with
  | none => rw [refAt_none h]
  | some p => rw [refAt_n h hi]

/-- What CellAt has read in the end is the cell as it is written. -/
theorem refAt_raw (bs : List UInt8) : (refAt bs 5 0 [] [] 0 = none → rawAt bs = none) ∧ ∀ ps ns a, refAt bs 5 0 [] [] 0 = some (ps, ns, a) → ∃ (r c v : List UInt8) (t g : Nat), ps = [r, c, v] ∧ ns = [(t : Int), (g : Int)] ∧ t ≤ 1000000000 ∧ g ≤ 1000000000 ∧ (1 < g → rawAt bs = none) ∧ (¬ 1 < g → rawAt bs = some (⟨⟨r.toArray⟩, ⟨c.toArray⟩, (t : Int), g == 1, ⟨v.toArray⟩⟩, a)) := by
  rw [refAt_text (by decide), List.drop_zero]
  cases h1 : textAt bs with
  | none => exact ⟨fun _ => rawAt_1 h1, fun _ _ _ h => by simp at h⟩
  | some p1 =>
    obtain ⟨r, k1⟩ := p1
    simp only
    rw [refAt_text (by decide)]
    simp only [Nat.zero_add]
    cases h2 : textAt (bs.drop k1) with
    | none => exact ⟨fun _ => rawAt_2 h1 h2, fun _ _ _ h => by simp at h⟩
    | some p2 =>
      obtain ⟨c, k2⟩ := p2
      simp only
      rw [refAt_num (by decide)]
      cases h3 : numAt (bs.drop (k1 + k2)) with
      | none => exact ⟨fun _ => rawAt_3 h1 h2 h3, fun _ _ _ h => by simp at h⟩
      | some p3 =>
        obtain ⟨t, k3⟩ := p3
        simp only
        rw [refAt_num (by decide)]
        cases h4 : numAt (bs.drop (k1 + k2 + k3)) with
        | none => exact ⟨fun _ => rawAt_4 h1 h2 h3 h4, fun _ _ _ h => by simp at h⟩
        | some p4 =>
          obtain ⟨g, k4⟩ := p4
          simp only
          rw [refAt_text (by decide)]
          cases h5 : textAt (bs.drop (k1 + k2 + k3 + k4)) with
          | none => exact ⟨fun _ => rawAt_6 h1 h2 h3 h4 h5, fun _ _ _ h => by simp at h⟩
          | some p5 =>
            obtain ⟨v, k5⟩ := p5
            refine ⟨fun h => by simp [refAt] at h, fun ps ns a h => ?_⟩
            simp only [refAt, Option.some.injEq, Prod.mk.injEq] at h
            obtain ⟨rfl, rfl, rfl⟩ := h
            exact ⟨r, c, v, t, g, rfl, rfl, (numAt_len h3).2.2, (numAt_len h4).2.2, fun hg => rawAt_5 h1 h2 h3 h4 hg, fun hg => rawAt_ok h1 h2 h3 h4 hg h5⟩

/-- What CellAt answers. -/
def catV : Option (Cl × Nat) → Value
  | none => .tuple #[cA zeroC, .int .i64 0]
  | some (c, k) => .tuple #[cA c, .int .i64 k]

theorem natV_some {n k : Nat} : natV (some (n, k)) = .tuple #[.int .i64 n, .int .i64 k] := rfl
theorem natV_none : natV none = .tuple #[.int .i64 0, .int .i64 0] := rfl

theorem zero5_later {w wr : World} {t : TypeId} (h : Below (w.heap.size + 1) (w.alloc (.cells #[.string ⟨#[]⟩, .string ⟨#[]⟩, .int .i64 0, .bool false, .string ⟨#[]⟩] t)) wr) : Bk wr w.heap.size t (ca zeroC) :=
  (Bk.new w t (ca zeroC)).below h (by omega)

set_option maxRecDepth 100000 in
set_option maxHeartbeats 1000000 in
theorem CellAt_any (v : Value) (bs : List UInt8) (w : World) (hrd : Rd w v (bc bs)) (hbl : bs.length ≤ 100000) :
    Calls Try.prog 66 #[v] w fun e w' => e = .returned (catV (cellAt bs)) ∧ Below w.heap.size w w' := by
  obtain ⟨ao, cap, hv, hc1, hc2⟩ := hrd.shape
  rw [bc_length] at hc1 hv
  subst hv
  unfold maxLen at hc2
  have HR1 := hide (refAt_raw bs).1
  have HR2 := hide (refAt_raw bs).2
  go_enter Try.func66, Try.ntmps66
  go_wp2_with fail
  go_loopw [4, 5, 6, 7] (fun p n va vi wr => ∃ (f i a : Nat) (ps : List (List UInt8)) (ns : List Int), i + f = 5 ∧ vi = .int .i64 i ∧ va = .int .i64 a ∧ a ≤ bs.length ∧ refAt bs f i ps ns a = refAt bs 5 0 [] [] 0 ∧ ps.length + ns.length = i ∧ wr.ownsRow (w.heap.size + 1) 9 1 p ps.length (sc ps) ∧ wr.ownsRow (w.heap.size + 1) 3 1 n ns.length (ic ns) ∧ Below (w.heap.size + 1) (w.alloc (.cells #[.string ⟨#[]⟩, .string ⟨#[]⟩, .int .i64 0, .bool false, .string ⟨#[]⟩] 52)) wr)
    (fun _ _ _ vi _ => 5 - (intOf vi).toNat)
  case atStart => exact ⟨5, 0, 0, [], [], rfl, rfl, rfl, by omega, rfl, rfl, World.ownsRow_nil _ _ _ _, World.ownsRow_nil _ _ _ _, Below.refl _ _⟩
  case round =>
    obtain ⟨f, i, a, ps, ns, hfi, rfl, rfl, ha, hgo, hpn, hop, hon, hbel⟩ := hrel
    have HG := hide hgo
    clear hgo
    have hbf := below_first hbel
    have hrd1 := hrd.below hbf
    have hB := zero5_later hbel
    have hszB := hB.lt
    by_cases hi5 : i < 5
    · obtain ⟨f', rfl⟩ : ∃ f', f = f' + 1 := ⟨f - 1, by omega⟩
      have hsl := run_slice_from (P := Try.prog) Try.underlying25 (by kernel_rfl) Try.info5 ao bs.length cap a a rfl ha
      have hV := hrd1.from (lo := a) ha
      rw [bc_drop] at hV
      generalize sliced ao a bs.length cap 1 = V at hV hsl
      go_wp2_with fail
      refine (NumberAt_any V _ _ hV).mono ?_
      rintro e w1 ⟨rfl, hb1⟩
      have hop1 := owns_below hop hb1
      have hon1 := owns_below hon hb1
      have hbel1 : Below (w.heap.size + 1) (w.alloc (.cells #[.string ⟨#[]⟩, .string ⟨#[]⟩, .int .i64 0, .bool false, .string ⟨#[]⟩] 52)) w1 := hbel.trans (hb1.mono (by omega))
      have hrd2 := hrd1.below hb1
      clear hop hon hbel hbf hrd1 hb1 hV hsl hB hszB
      have hB := zero5_later hbel1
      have hszB := hB.lt
      have hbf := below_first hbel1
      cases hn : numAt (bs.drop a) with
      | none =>
        rw [natV_none]
        have HE := hide (cellAt_no (HR1.out (by rw [← HG.out]; exact refAt_none hn)))
        clear hn
        have r0 := hB.cell 0
        have r1 := hB.cell 1
        have r2 := hB.cell 2
        have r3 := hB.cell 3
        have r4 := hB.cell 4
        obtain ⟨z0, z1, z2, z3, z4⟩ := hB.thaw
        simp [ca, zeroC] at r0 r1 r2 r3 r4
        go_wp2_with fail
        exact bodyPost_ret (v := .tuple #[cA zeroC, .int .i64 0]) (by simp [results, Try.results66, go_sem, cA, zeroC, r0, r1, r2, r3, r4]) rfl ⟨by rw [HE.out]; rfl, by go_grown⟩
      | some q =>
        obtain ⟨n, k⟩ := q
        rw [natV_some]
        have hl := numAt_len hn
        rw [List.length_drop] at hl
        have hk0 : ((k : Int) == 0) = false := beq_eq_false_iff_ne.2 (by omega)
        by_cases hi : i = 2 ∨ i = 3
        · have HE := hide (@refAt_n bs f' i a n k ps ns hn hi)
          clear hn
          have hi' : (((i : Int) == 2) = true) ∨ (((i : Int) == 2) = false ∧ ((i : Int) == 3) = true) := by rcases hi with rfl | rfl <;> simp
          rcases hi' with h2 | ⟨h2, h3⟩
          all_goals
            go_wp2_with (at_builtin; go_must (refine wpList_append_one hon1 Try.underlying23 Try.info3 rfl rfl rfl rfl rfl rfl (by omega) (by decide) (by omega) ?_); intro v2 w2 ho2 hb2 hg2)
            rw [ic_snoc] at ho2
            have hop2 := owns_other (by decide) hop1 hon1 hg2
            go_roundw
            case rel => exact ⟨f', i + 1, a + k, ps, ns ++ [(n : Int)], by omega, by go_num, by go_num, by omega, by rw [← HG.out, HE.out], by simp; omega, hop2, by simpa using ho2, hbel1.trans hb2⟩
            case measure => simp [intOf]; omega
        · have hi2 : ((i : Int) == 2) = false := beq_eq_false_iff_ne.2 (by omega)
          have hi3 : ((i : Int) == 3) = false := beq_eq_false_iff_ne.2 (by omega)
          by_cases hg : bs.length < a + k + n
          · have HE := hide (cellAt_no (HR1.out (by rw [← HG.out]; exact refAt_long hn hi hg)))
            have hg' : (bs.length : Int) - ((a : Int) + k) < n := by omega
            clear hn hi hg
            have r0 := hB.cell 0
            have r1 := hB.cell 1
            have r2 := hB.cell 2
            have r3 := hB.cell 3
            have r4 := hB.cell 4
            obtain ⟨z0, z1, z2, z3, z4⟩ := hB.thaw
            simp [ca, zeroC] at r0 r1 r2 r3 r4
            go_wp2_with fail
            exact bodyPost_ret (v := .tuple #[cA zeroC, .int .i64 0]) (by simp [results, Try.results66, go_sem, cA, zeroC, r0, r1, r2, r3, r4]) rfl ⟨by rw [HE.out]; rfl, by go_grown⟩
          · have HE := hide (@refAt_s bs f' i a n k ps ns hn hi hg)
            have hg' : ¬ (bs.length : Int) - ((a : Int) + k) < n := by omega
            clear hn
            have hsl := run_slice_rd (P := Try.prog) Try.underlying25 (by kernel_rfl) Try.info5 ao bs.length cap (a + k) (a + k + n) ((a : Int) + k) ((a : Int) + k + n) (by omega) (by omega) (by omega) (by omega)
            have hV := hrd2.sliced (lo := a + k) (hi := a + k + n) (by omega) (by omega)
            rw [bc_drop, bc_take, show a + k + n - (a + k) = n by omega] at hV
            generalize sliced ao (a + k) (a + k + n) cap 1 = V at hV hsl
            have hcv : (convert 25 9 V).run Try.prog w1 = .ok (.string ⟨((bs.drop (a + k)).take n).toArray⟩) w1 := run_string_of_rd (P := Try.prog) Try.underlying25 Try.underlying5 Try.underlying9 hV
            generalize (bs.drop (a + k)).take n = tx at *
            go_wp2_with (at_builtin; go_must (refine wpList_append_one hop1 Try.underlying114 Try.info9 rfl rfl rfl rfl rfl rfl (by omega) (by decide) (by omega) ?_); intro v2 w2 ho2 hb2 hg2)
            rw [sc_snoc] at ho2
            have hon2 := owns_other (by decide) hon1 hop1 hg2
            go_roundw
            case rel => exact ⟨f', i + 1, a + k + n, ps ++ [tx], ns, by omega, by go_num, by go_num, by omega, by rw [← HG.out, HE.out], by simp; omega, by simpa using ho2, hon2, hbel1.trans hb2⟩
            case measure => simp [intOf]; omega
    · obtain rfl : f = 0 := by omega
      obtain ⟨r, c, x, t, g, hps, hns, ht, hg9, hr1, hr2⟩ := HR2.out ps ns a (by rw [← HG.out]; rfl)
      subst hps hns
      obtain ⟨b1, o1, cp1, hv1, q1, q2, hbb1, hq1⟩ := (Rd.ofOwns hop).pos (by simp [sc])
      obtain ⟨b2, o2, cp2, hv2, q3, q4, hbb2, hq2⟩ := (Rd.ofOwns hon).pos (by simp [ic])
      have p0 := hq1 0 _ rfl
      have p1 := hq1 1 _ rfl
      have p2 := hq1 2 _ rfl
      have n0 := hq2 0 _ rfl
      have n1 := hq2 1 _ rfl
      rw [Nat.add_zero] at p0 n0
      simp only [sc, ic, List.map_cons, List.map_nil, List.length_cons, List.length_nil, Nat.zero_add, Nat.reduceAdd] at hv1 hv2 q1 q3
      subst hv1 hv2
      unfold maxLen at q2 q4
      have hkeep : ∀ W, Below wr.heap.size wr W → W.cell? ⟨b1, o1, none⟩ = some (.string ⟨r.toArray⟩) ∧ W.cell? ⟨b1, o1 + 1, none⟩ = some (.string ⟨c.toArray⟩) ∧ W.cell? ⟨b1, o1 + 2, none⟩ = some (.string ⟨x.toArray⟩) ∧ W.cell? ⟨b2, o2, none⟩ = some (.int .i64 t) ∧ W.cell? ⟨b2, o2 + 1, none⟩ = some (.int .i64 g) := fun W h => ⟨(h.cell hbb1).trans p0, (h.cell hbb1).trans p1, (h.cell hbb1).trans p2, (h.cell hbb2).trans n0, (h.cell hbb2).trans n1⟩
      have HK := hide hkeep
      have HR3 := hide hr1
      have HR4 := hide hr2
      clear hkeep hq1 hq2 hr1 hr2 hop hon
      go_wp2_with fail
      go_region_held3 (fun W => W.cell? ⟨b1, o1, none⟩ = some (.string ⟨r.toArray⟩) ∧ W.cell? ⟨b1, o1 + 1, none⟩ = some (.string ⟨c.toArray⟩) ∧ W.cell? ⟨b1, o1 + 2, none⟩ = some (.string ⟨x.toArray⟩) ∧ W.cell? ⟨b2, o2, none⟩ = some (.int .i64 t) ∧ W.cell? ⟨b2, o2 + 1, none⟩ = some (.int .i64 g)) (exact HK.out _ (by go_grown)) (first | fail)
      all_goals
        have hB2 : Bk (wr.alloc (.cells #[.string ⟨r.toArray⟩, .string ⟨c.toArray⟩, .int .i64 t, .bool ((g : Int) == 1), .string ⟨x.toArray⟩] 52)).drew wr.heap.size 52 (ca ⟨⟨r.toArray⟩, ⟨c.toArray⟩, (t : Int), (g : Int) == 1, ⟨x.toArray⟩⟩) := Bk.new wr _ _
        have hx2 : Below wr.heap.size wr (wr.alloc (.cells #[.string ⟨r.toArray⟩, .string ⟨c.toArray⟩, .int .i64 t, .bool ((g : Int) == 1), .string ⟨x.toArray⟩] 52)).drew := by go_grown
        have hz2 : wr.heap.size < ((wr.alloc (.cells #[.string ⟨r.toArray⟩, .string ⟨c.toArray⟩, .int .i64 t, .bool ((g : Int) == 1), .string ⟨x.toArray⟩] 52)).drew).heap.size := hB2.lt
        generalize (wr.alloc (.cells #[.string ⟨r.toArray⟩, .string ⟨c.toArray⟩, .int .i64 t, .bool ((g : Int) == 1), .string ⟨x.toArray⟩] 52)).drew = w2 at *
        have hbel2 : Below (w.heap.size + 1) (w.alloc (.cells #[.string ⟨#[]⟩, .string ⟨#[]⟩, .int .i64 0, .bool false, .string ⟨#[]⟩] 52)) w2 := hbel.trans (hx2.mono (by omega))
        obtain ⟨_, _, _, _, m1⟩ := HK.out w2 hx2
        have hgb : ((g : Int) == 1) = (g == 1) := by rw [Bool.eq_iff_iff]; simp; omega
        rw [← hgb] at HR4
        have HGB := hide hgb
        have hzw := hszB
        clear hgb p0 p1 p2 n0 n1 hB hszB
        by_cases hg : 1 < g
        · have HE := hide (cellAt_no (HR3.out hg))
          have hg' : (1 : Int) < (g : Int) := by omega
          clear hg
          have hB := zero5_later hbel2
          have hszB := hB.lt
          have hbf2 := below_first hbel2
          have r0 := hB.cell 0
          have r1 := hB.cell 1
          have r2 := hB.cell 2
          have r3 := hB.cell 3
          have r4 := hB.cell 4
          obtain ⟨z0, z1, z2, z3, z4⟩ := hB.thaw
          simp [ca, zeroC] at r0 r1 r2 r3 r4
          go_wp2_with fail
          exact bodyPost_ret (v := .tuple #[cA zeroC, .int .i64 0]) (by simp [results, Try.results66, go_sem, cA, zeroC, r0, r1, r2, r3, r4]) rfl ⟨by rw [HE.out]; rfl, by go_grown⟩
        · have HE := hide (HR4.out hg)
          have hg' : (g : Int) ≤ 1 := by omega
          clear hg HR3 HR4
          obtain ⟨c0, c1, c2, c3, c4⟩ := hB2.facts
          have hbfx := below_first hbel2
          generalize hC : (⟨⟨r.toArray⟩, ⟨c.toArray⟩, (t : Int), (g : Int) == 1, ⟨x.toArray⟩⟩ : Cl) = C at *
          go_wp2_with fail
          refine (CellCode_any C _).mono ?_
          rintro e w3 ⟨rfl, hb3⟩
          have hbel3 : Below (w.heap.size + 1) (w.alloc (.cells #[.string ⟨#[]⟩, .string ⟨#[]⟩, .int .i64 0, .bool false, .string ⟨#[]⟩] 52)) w3 := hbel2.trans (hb3.mono (by omega))
          have hB3 := hB2.below hb3 hz2
          clear c0 c1 c2 c3 c4 hB2
          obtain ⟨c0, c1, c2, c3, c4⟩ := hB3.facts
          have hB := zero5_later hbel3
          have hszB := hB.lt
          have hbf3 := below_first hbel3
          have r0 := hB.cell 0
          have r1 := hB.cell 1
          have r2 := hB.cell 2
          have r3 := hB.cell 3
          have r4 := hB.cell 4
          obtain ⟨z0, z1, z2, z3, z4⟩ := hB.thaw
          simp [ca, zeroC] at r0 r1 r2 r3 r4
          by_cases hc : codeC C = 0
          · have HF := hide (cellAt_ok HE.out hc)
            rw [hc]
            clear hc
            go_wp2_with fail
            exact bodyPost_ret (v := .tuple #[cA C, .int .i64 a]) (by simp [results, Try.results66, go_sem, cA, r0, r1, r2, r3, r4]) rfl ⟨by rw [HF.out]; rfl, by go_grown⟩
          · have HF := hide (cellAt_bad HE.out hc)
            have hcb : (codeC C != 0) = true := by simp [hc]
            clear hc
            go_wp2_with fail
            exact bodyPost_ret (v := .tuple #[cA zeroC, .int .i64 0]) (by simp [results, Try.results66, go_sem, cA, zeroC, r0, r1, r2, r3, r4]) rfl ⟨by rw [HF.out]; rfl, by go_grown⟩

end Go.Proofs.Ytlebbkbbmgmmjab
