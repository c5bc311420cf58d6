/-
  Texts joined: CellR6, CellR7, CellR8, WalR1, WalR2, WalB, LawNotes.
-/
import Derived.Test.YtlebbkbbmgmmjadMWalNotes9
import Derived.Deep.RegionLaw
/-
  The walks over the document's bytes of cells: CellBytes.
-/
namespace Go.Proofs.Ytlebbkbbmgmmjad
open Go.RowKit

theorem WrittenS_own (s : ByteArray) (w : World) (hs : s.data.toList.length ≤ 1000000000) :
    Calls Try.prog 104 #[.string s] w fun e w' => ∃ v', e = .returned v' ∧ w'.ownsRow w.heap.size 5 1 v' (txB s).length (bc (txB s)) ∧ Below w.heap.size w w' := by
  have h := Written_own s.data.toList w hs
  rw [ba_data] at h
  exact h

theorem owns_base' {w : World} {base base' : Nat} {e : TypeId} {size : Nat} {v : Value} {n : Nat} {xs : List Value} (h : w.ownsRow base' e size v n xs) (hb : base ≤ base') : w.ownsRow base e size v n xs := by
  refine ⟨h.1, ?_⟩
  rcases h.2 with hn | ⟨g, cap, cur, hv, hg, r⟩
  · exact .inl hn
  · exact .inr ⟨g, cap, cur, hv, Nat.le_trans hb hg, r⟩

theorem txB_len (s : ByteArray) : (txB s).length ≤ 10 + s.data.toList.length := by
  unfold txB
  rw [List.length_append]
  have := encN_length s.data.toList.length
  omega

set_option maxRecDepth 100000 in
set_option maxHeartbeats 1000000 in
theorem CellBytes_any (c : Cl) (w : World) (hc : codeC c = 0) :
    Calls Try.prog 74 #[cA c] w fun e w' => ∃ v', e = .returned v' ∧ Rd w' v' (bc (cellB c)) ∧ Below w.heap.size w w' ∧ New w.heap.size v' := by
  obtain ⟨_, h1, h2, h3, h4, h5⟩ := codeC_parts hc
  have l1 := txB_len c.row
  have l2 := txB_len c.col
  have l3 := txB_len c.val
  obtain ⟨m, hm⟩ := Int.eq_ofNat_of_zero_le h4
  have l4 := encN_length m
  have HM : Hid (c.time.toNat = m) := hide (by rw [hm]; simp)
  have HMT := hide hm
  have hm9 : (m : Int) ≤ 1000000000 := by omega
  have hgn : c.gone = true ∧ encN (goneN c) = [UInt8.ofNat 1] ∨ c.gone = false ∧ encN (goneN c) = [UInt8.ofNat 0] := by unfold goneN; cases c.gone <;> simp <;> rfl
  have HEE : Hid (cellB c = txB c.row ++ (txB c.col ++ (encN c.time.toNat ++ (encN (goneN c) ++ txB c.val)))) := hide rfl
  clear hm hc h4 h5
  unfold cA
  go_enter Try.func74, Try.ntmps74
  go_wp2_with fail
  have hB0 : Bk (w.alloc (.cells #[.string c.row, .string c.col, .int .i64 c.time, .bool c.gone, .string c.val] 91)) w.heap.size 91 (ca c) := Bk.new _ _ _
  have hb0 : Below w.heap.size w (w.alloc (.cells #[.string c.row, .string c.col, .int .i64 c.time, .bool c.gone, .string c.val] 91)) := below_alloc' _ _
  have hz0 : (w.alloc (.cells #[.string c.row, .string c.col, .int .i64 c.time, .bool c.gone, .string c.val] 91)).heap.size = w.heap.size + 1 := by simp
  generalize w.alloc (.cells #[.string c.row, .string c.col, .int .i64 c.time, .bool c.gone, .string c.val] 91) = wA at *
  have hkeep : ∀ W, Below wA.heap.size wA W → W.cell? ⟨w.heap.size, 0, none⟩ = some (.string c.row) ∧ W.cell? ⟨w.heap.size, 1, none⟩ = some (.string c.col) ∧ W.cell? ⟨w.heap.size, 2, none⟩ = some (.int .i64 c.time) ∧ W.cell? ⟨w.heap.size, 3, none⟩ = some (.bool c.gone) ∧ W.cell? ⟨w.heap.size, 4, none⟩ = some (.string c.val) := fun W h => (hB0.below h (by omega)).facts
  have HK := hide hkeep
  obtain ⟨c0, c1, c2, c3, c4⟩ := hkeep wA (Below.refl _ _)
  have hl1 : c.row.data.toList.length ≤ 1000000000 := by omega
  have hl2 : c.col.data.toList.length ≤ 1000000000 := by omega
  have hl3 : (txB c.row).length + (bc (txB c.col)).length ≤ 2000000000000 := by rw [bc_length]; omega
  clear hkeep
  go_region_held3 (fun W => W.cell? ⟨w.heap.size, 0, none⟩ = some (.string c.row) ∧ W.cell? ⟨w.heap.size, 1, none⟩ = some (.string c.col)) (exact ⟨(HK.out _ (by go_grown)).1, (HK.out _ (by go_grown)).2.1⟩) (first
    | (go_at_call 104; refine (WrittenS_own c.row _ hl1).mono ?_; rintro e w1 ⟨v1, rfl, ho1, hb1⟩; have hx1 : Below wA.heap.size wA w1 := Below.trans (by go_grown) hb1; obtain ⟨ao1, cap1, hv1⟩ := owns_shape ho1; subst hv1)
    | (go_at_call 104; refine (WrittenS_own c.col _ hl2).mono ?_; rintro e w2 ⟨v2, rfl, ho2, hb2⟩; have hx2 : Below wA.heap.size wA w2 := Below.trans (by go_grown) (hb2.mono hx1.size); have hq1 := owns_below ho1 hb2; obtain ⟨ao2, cap2, hv2⟩ := owns_shape ho2; subst hv2)
    | (have k9 := hq1; refine step_append_rd k9 (Rd.ofOwns ho2) Try.underlying42 Try.info5 rfl (by rfl) (by rfl) (by rfl) (by rfl) (bc_one _) hl3 (by decide) (by exact hx2.size) ?_; intro v3 w3 ho3 hb3 hg3; have hx3 : Below wA.heap.size wA w3 := hx2.trans hb3; rw [bc_length, ← bc_append, ← List.length_append] at ho3))
  all_goals
    have ho3' : w3.ownsRow wA.heap.size 5 1 v3 (txB c.row ++ txB c.col).length (bc (txB c.row ++ txB c.col)) := ho3
    have hz3 := hx3.size
    clear ho3 hq1 ho1 ho2 hb1 hb2 hx1 hx2 hb3 hg3
    obtain ⟨c0, c1, c2, c3, c4⟩ := HK.out w3 hx3
    have hl4 : (txB c.row ++ txB c.col).length + (bc (encN m)).length ≤ 2000000000000 := by rw [bc_length, List.length_append]; omega
    go_wp2_with fail
    rw [HMT.out]
    refine (Number_any m _ (by omega)).mono ?_
    rintro e w4 ⟨v4, rfl, hr4, hb4, _⟩
    have hx4 : Below wA.heap.size wA w4 := hx3.trans (hb4.mono hz3)
    have ho4 := owns_below ho3' hb4
    have hz4 := hx4.size
    clear ho3' c0 c1 c2 c3 c4
    obtain ⟨ao4, cap4, hv4, _, _⟩ := hr4.shape
    subst hv4
    go_upto_region 3 with (at_builtin; go_must (refine wpList_append_rd ho4 hr4 Try.underlying42 Try.info5 rfl rfl rfl rfl rfl (bc_one _) hl4 (by decide) hz4 ?_); intro v5 w5 ho5 hb5 hg5; clear hg5)
    rw [bc_length, ← bc_append, ← List.length_append] at ho5
    have hx5 := hx4.trans hb5
    have hz5 := hx5.size
    obtain ⟨c0, c1, c2, c3, c4⟩ := HK.out w5 hx5
    have hl5 : (txB c.row ++ txB c.col ++ encN m).length ≤ 1000000000000 := by simp only [List.length_append]; omega
    rcases hgn with ⟨hg, hgn⟩ | ⟨hg, hgn⟩
    · rw [hg] at c3
      have HGN := hide hgn
      clear hgn ho4 hb4 hb5
      go_upto_region 6 with (at_builtin; go_must (refine wpList_append_one ho5 Try.underlying42 Try.info5 rfl rfl rfl rfl rfl rfl hl5 (by decide) hz5 ?_); intro v6 w6 ho6 hb6 hg6; clear hg6)
      rw [bc_snoc _ 1 (by omega) 1 rfl, show (txB c.row ++ txB c.col ++ encN m).length + 1 = (txB c.row ++ txB c.col ++ encN m ++ [UInt8.ofNat 1]).length by simp only [List.length_append, List.length_singleton]] at ho6
      have hx6 := hx5.trans hb6
      have hz6 := hx6.size
      clear c0 c1 c2 c3 c4
      obtain ⟨c0, c1, c2, c3, c4⟩ := HK.out w6 hx6
      go_wp2_with fail
      refine (WrittenS_own c.val _ (by omega)).mono ?_
      rintro e w7 ⟨v7, rfl, ho7, hb7⟩
      have hx7 : Below wA.heap.size wA w7 := hx6.trans (hb7.mono hz6)
      have hq6 := owns_below ho6 hb7
      have hz7 := hx7.size
      have hl6 : (txB c.row ++ txB c.col ++ encN m ++ [UInt8.ofNat 1]).length + (bc (txB c.val)).length ≤ 2000000000000 := by rw [bc_length]; simp only [List.length_append, List.length_singleton]; omega
      obtain ⟨ao7, cap7, hv7⟩ := owns_shape ho7
      subst hv7
      go_wp2_with (at_builtin; go_must (refine wpList_append_rd hq6 (Rd.ofOwns ho7) Try.underlying42 Try.info5 rfl rfl rfl rfl rfl (bc_one _) hl6 (by decide) hz7 ?_); intro v8 w8 ho8 hb8 hg8; clear hg8)
      rw [bc_length, ← bc_append, ← List.length_append] at ho8
      go_ret
      refine ⟨v8, rfl, ?_, hb0.trans ((hx7.trans hb8).mono (by omega)), (New.owns ho8).mono (by omega)⟩
      rw [HEE.out, HM.out, HGN.out]
      have := Rd.ofOwns ho8
      simpa only [List.append_assoc] using this
    · rw [hg] at c3
      have HGN := hide hgn
      clear hgn ho4 hb4 hb5
      go_upto_region 6 with (at_builtin; go_must (refine wpList_append_one ho5 Try.underlying42 Try.info5 rfl rfl rfl rfl rfl rfl hl5 (by decide) hz5 ?_); intro v6 w6 ho6 hb6 hg6; clear hg6)
      rw [bc_snoc _ 0 (by omega) 0 rfl, show (txB c.row ++ txB c.col ++ encN m).length + 1 = (txB c.row ++ txB c.col ++ encN m ++ [UInt8.ofNat 0]).length by simp only [List.length_append, List.length_singleton]] at ho6
      have hx6 := hx5.trans hb6
      have hz6 := hx6.size
      clear c0 c1 c2 c3 c4
      obtain ⟨c0, c1, c2, c3, c4⟩ := HK.out w6 hx6
      go_wp2_with fail
      refine (WrittenS_own c.val _ (by omega)).mono ?_
      rintro e w7 ⟨v7, rfl, ho7, hb7⟩
      have hx7 : Below wA.heap.size wA w7 := hx6.trans (hb7.mono hz6)
      have hq6 := owns_below ho6 hb7
      have hz7 := hx7.size
      have hl6 : (txB c.row ++ txB c.col ++ encN m ++ [UInt8.ofNat 0]).length + (bc (txB c.val)).length ≤ 2000000000000 := by rw [bc_length]; simp only [List.length_append, List.length_singleton]; omega
      obtain ⟨ao7, cap7, hv7⟩ := owns_shape ho7
      subst hv7
      go_wp2_with (at_builtin; go_must (refine wpList_append_rd hq6 (Rd.ofOwns ho7) Try.underlying42 Try.info5 rfl rfl rfl rfl rfl (bc_one _) hl6 (by decide) hz7 ?_); intro v8 w8 ho8 hb8 hg8; clear hg8)
      rw [bc_length, ← bc_append, ← List.length_append] at ho8
      go_ret
      refine ⟨v8, rfl, ?_, hb0.trans ((hx7.trans hb8).mono (by omega)), (New.owns ho8).mono (by omega)⟩
      rw [HEE.out, HM.out, HGN.out]
      have := Rd.ofOwns ho8
      simpa only [List.append_assoc] using this

end Go.Proofs.Ytlebbkbbmgmmjad

/-
  The walks over the document's reading of cells: CellAt.
-/
namespace Go.Proofs.Ytlebbkbbmgmmjad
open Go.RowKit

/-- What CellAt has read, from one of the five on. -/
def refAt (bs : List UInt8) : Nat → Nat → List (List UInt8) → List Int → Nat → Option (List (List UInt8) × List Int × Nat)
  | 0, _, ps, ns, a => some (ps, ns, a)
  | f + 1, i, ps, ns, a => match numAt (bs.drop a) with
    | none => none
    | some (n, k) => if i = 2 ∨ i = 3 then refAt bs f (i + 1) ps (ns ++ [(n : Int)]) (a + k)
      else if bs.length < a + k + n then none else refAt bs f (i + 1) (ps ++ [(bs.drop (a + k)).take n]) ns (a + k + n)

theorem refAt_none {bs : List UInt8} {f i a : Nat} {ps : List (List UInt8)} {ns : List Int} (h : numAt (bs.drop a) = none) : refAt bs (f + 1) i ps ns a = none := by rw [refAt, h]
theorem refAt_n {bs : List UInt8} {f i a n k : Nat} {ps : List (List UInt8)} {ns : List Int} (h : numAt (bs.drop a) = some (n, k)) (hi : i = 2 ∨ i = 3) : refAt bs (f + 1) i ps ns a = refAt bs f (i + 1) ps (ns ++ [(n : Int)]) (a + k) := by rw [refAt, h]; simp only; rw [if_pos hi]
theorem refAt_long {bs : List UInt8} {f i a n k : Nat} {ps : List (List UInt8)} {ns : List Int} (h : numAt (bs.drop a) = some (n, k)) (hi : ¬ (i = 2 ∨ i = 3)) (hl : bs.length < a + k + n) : refAt bs (f + 1) i ps ns a = none := by rw [refAt, h]; simp only; rw [if_neg hi, if_pos hl]
theorem refAt_s {bs : List UInt8} {f i a n k : Nat} {ps : List (List UInt8)} {ns : List Int} (h : numAt (bs.drop a) = some (n, k)) (hi : ¬ (i = 2 ∨ i = 3)) (hl : ¬ bs.length < a + k + n) : refAt bs (f + 1) i ps ns a = refAt bs f (i + 1) (ps ++ [(bs.drop (a + k)).take n]) ns (a + k + n) := by rw [refAt, h]; simp only; rw [if_neg hi, if_neg hl]

theorem refAt_text {bs : List UInt8} {f i a : Nat} {ps : List (List UInt8)} {ns : List Int} (hi : ¬ (i = 2 ∨ i = 3)) : refAt bs (f + 1) i ps ns a = match textAt (bs.drop a) with
    | none => none
    | some (t, m) => refAt bs f (i + 1) (ps ++ [t]) ns (a + m) := by
  cases h : numAt (bs.drop a) with
  | none => rw [refAt_none h, textAt_no h]
  | some p =>
    obtain ⟨n, k⟩ := p
    have hl := numAt_len h
    rw [List.length_drop] at hl
    by_cases hg : bs.length < a + k + n
    · rw [refAt_long h hi hg, textAt_long h (by rw [List.length_drop]; omega)]
    · rw [refAt_s h hi hg, textAt_fits h (by rw [List.length_drop]; omega)]
      simp only [List.drop_drop, Nat.add_assoc]

theorem refAt_num {bs : List UInt8} {f i a : Nat} {ps : List (List UInt8)} {ns : List Int} (hi : i = 2 ∨ i = 3) : refAt bs (f + 1) i ps ns a = match numAt (bs.drop a) with
    | none => none
    | some (n, k) => refAt bs f (i + 1) ps (ns ++ [(n : Int)]) (a + k) := by
  cases h : numAt (bs.drop a) with
  | none => rw [refAt_none h]
  | some p => rw [refAt_n h hi]

/-- What CellAt has read in the end is the cell as it is written. -/
theorem refAt_raw (bs : List UInt8) : (refAt bs 5 0 [] [] 0 = none → rawAt bs = none) ∧ ∀ ps ns a, refAt bs 5 0 [] [] 0 = some (ps, ns, a) → ∃ (r c v : List UInt8) (t g : Nat), ps = [r, c, v] ∧ ns = [(t : Int), (g : Int)] ∧ t ≤ 1000000000 ∧ g ≤ 1000000000 ∧ (1 < g → rawAt bs = none) ∧ (¬ 1 < g → rawAt bs = some (⟨⟨r.toArray⟩, ⟨c.toArray⟩, (t : Int), g == 1, ⟨v.toArray⟩⟩, a)) := by
  rw [refAt_text (by decide), List.drop_zero]
  cases h1 : textAt bs with
  | none => exact ⟨fun _ => rawAt_1 h1, fun _ _ _ h => by simp at h⟩
  | some p1 =>
    obtain ⟨r, k1⟩ := p1
    simp only
    rw [refAt_text (by decide)]
    simp only [Nat.zero_add]
    cases h2 : textAt (bs.drop k1) with
    | none => exact ⟨fun _ => rawAt_2 h1 h2, fun _ _ _ h => by simp at h⟩
    | some p2 =>
      obtain ⟨c, k2⟩ := p2
      simp only
      rw [refAt_num (by decide)]
      cases h3 : numAt (bs.drop (k1 + k2)) with
      | none => exact ⟨fun _ => rawAt_3 h1 h2 h3, fun _ _ _ h => by simp at h⟩
      | some p3 =>
        obtain ⟨t, k3⟩ := p3
        simp only
        rw [refAt_num (by decide)]
        cases h4 : numAt (bs.drop (k1 + k2 + k3)) with
        | none => exact ⟨fun _ => rawAt_4 h1 h2 h3 h4, fun _ _ _ h => by simp at h⟩
        | some p4 =>
          obtain ⟨g, k4⟩ := p4
          simp only
          rw [refAt_text (by decide)]
          cases h5 : textAt (bs.drop (k1 + k2 + k3 + k4)) with
          | none => exact ⟨fun _ => rawAt_6 h1 h2 h3 h4 h5, fun _ _ _ h => by simp at h⟩
          | some p5 =>
            obtain ⟨v, k5⟩ := p5
            refine ⟨fun h => by simp [refAt] at h, fun ps ns a h => ?_⟩
            simp only [refAt, Option.some.injEq, Prod.mk.injEq] at h
            obtain ⟨rfl, rfl, rfl⟩ := h
            exact ⟨r, c, v, t, g, rfl, rfl, (numAt_len h3).2.2, (numAt_len h4).2.2, fun hg => rawAt_5 h1 h2 h3 h4 hg, fun hg => rawAt_ok h1 h2 h3 h4 hg h5⟩

/-- What CellAt answers. -/
def catV : Option (Cl × Nat) → Value
  | none => .tuple #[cA zeroC, .int .i64 0]
  | some (c, k) => .tuple #[cA c, .int .i64 k]

theorem natV_some {n k : Nat} : natV (some (n, k)) = .tuple #[.int .i64 n, .int .i64 k] := rfl
theorem natV_none : natV none = .tuple #[.int .i64 0, .int .i64 0] := rfl

theorem zero5_later {w wr : World} {t : TypeId} (h : Below (w.heap.size + 1) (w.alloc (.cells #[.string ⟨#[]⟩, .string ⟨#[]⟩, .int .i64 0, .bool false, .string ⟨#[]⟩] t)) wr) : Bk wr w.heap.size t (ca zeroC) :=
  (Bk.new w t (ca zeroC)).below h (by omega)

set_option maxRecDepth 100000 in
set_option maxHeartbeats 1000000 in
theorem CellAt_any (v : Value) (bs : List UInt8) (w : World) (hrd : Rd w v (bc bs)) (hbl : bs.length ≤ 100000) :
    Calls Try.prog 103 #[v] w fun e w' => e = .returned (catV (cellAt bs)) ∧ Below w.heap.size w w' := by
  obtain ⟨ao, cap, hv, hc1, hc2⟩ := hrd.shape
  rw [bc_length] at hc1 hv
  subst hv
  unfold maxLen at hc2
  have HR1 := hide (refAt_raw bs).1
  have HR2 := hide (refAt_raw bs).2
  go_enter Try.func103, Try.ntmps103
  go_wp2_with fail
  go_loopw [4, 5, 6, 7] (fun p n va vi wr => ∃ (f i a : Nat) (ps : List (List UInt8)) (ns : List Int), i + f = 5 ∧ vi = .int .i64 i ∧ va = .int .i64 a ∧ a ≤ bs.length ∧ refAt bs f i ps ns a = refAt bs 5 0 [] [] 0 ∧ ps.length + ns.length = i ∧ wr.ownsRow (w.heap.size + 1) 9 1 p ps.length (sc ps) ∧ wr.ownsRow (w.heap.size + 1) 3 1 n ns.length (ic ns) ∧ Below (w.heap.size + 1) (w.alloc (.cells #[.string ⟨#[]⟩, .string ⟨#[]⟩, .int .i64 0, .bool false, .string ⟨#[]⟩] 91)) wr)
    (fun _ _ _ vi _ => 5 - (intOf vi).toNat)
  case atStart => exact ⟨5, 0, 0, [], [], rfl, rfl, rfl, by omega, rfl, rfl, World.ownsRow_nil _ _ _ _, World.ownsRow_nil _ _ _ _, Below.refl _ _⟩
  case round =>
    obtain ⟨f, i, a, ps, ns, hfi, rfl, rfl, ha, hgo, hpn, hop, hon, hbel⟩ := hrel
    have HG := hide hgo
    clear hgo
    have hbf := below_first hbel
    have hrd1 := hrd.below hbf
    have hB := zero5_later hbel
    have hszB := hB.lt
    by_cases hi5 : i < 5
    · obtain ⟨f', rfl⟩ : ∃ f', f = f' + 1 := ⟨f - 1, by omega⟩
      have hsl := run_slice_from (P := Try.prog) Try.underlying42 (by kernel_rfl) Try.info5 ao bs.length cap a a rfl ha
      have hV := hrd1.from (lo := a) ha
      rw [bc_drop] at hV
      generalize sliced ao a bs.length cap 1 = V at hV hsl
      go_wp2_with fail
      refine (NumberAt_any V _ _ hV).mono ?_
      rintro e w1 ⟨rfl, hb1⟩
      have hop1 := owns_below hop hb1
      have hon1 := owns_below hon hb1
      have hbel1 : Below (w.heap.size + 1) (w.alloc (.cells #[.string ⟨#[]⟩, .string ⟨#[]⟩, .int .i64 0, .bool false, .string ⟨#[]⟩] 91)) w1 := hbel.trans (hb1.mono (by omega))
      have hrd2 := hrd1.below hb1
      clear hop hon hbel hbf hrd1 hb1 hV hsl hB hszB
      have hB := zero5_later hbel1
      have hszB := hB.lt
      have hbf := below_first hbel1
      cases hn : numAt (bs.drop a) with
      | none =>
        rw [natV_none]
        have HE := hide (cellAt_no (HR1.out (by rw [← HG.out]; exact refAt_none hn)))
        clear hn
        have r0 := hB.cell 0
        have r1 := hB.cell 1
        have r2 := hB.cell 2
        have r3 := hB.cell 3
        have r4 := hB.cell 4
        obtain ⟨z0, z1, z2, z3, z4⟩ := hB.thaw
        simp [ca, zeroC] at r0 r1 r2 r3 r4
        go_wp2_with fail
        exact bodyPost_ret (v := .tuple #[cA zeroC, .int .i64 0]) (by simp [results, Try.results103, go_sem, cA, zeroC, r0, r1, r2, r3, r4]) rfl ⟨by rw [HE.out]; rfl, by go_grown⟩
      | some q =>
        obtain ⟨n, k⟩ := q
        rw [natV_some]
        have hl := numAt_len hn
        rw [List.length_drop] at hl
        have hk0 : ((k : Int) == 0) = false := beq_eq_false_iff_ne.2 (by omega)
        by_cases hi : i = 2 ∨ i = 3
        · have HE := hide (@refAt_n bs f' i a n k ps ns hn hi)
          clear hn
          have hi' : (((i : Int) == 2) = true) ∨ (((i : Int) == 2) = false ∧ ((i : Int) == 3) = true) := by rcases hi with rfl | rfl <;> simp
          rcases hi' with h2 | ⟨h2, h3⟩
          all_goals
            go_wp2_with (at_builtin; go_must (refine wpList_append_one hon1 Try.underlying159 Try.info3 rfl rfl rfl rfl rfl rfl (by omega) (by decide) (by omega) ?_); intro v2 w2 ho2 hb2 hg2)
            rw [ic_snoc] at ho2
            have hop2 := owns_other (by decide) hop1 hon1 hg2
            go_roundw
            case rel => exact ⟨f', i + 1, a + k, ps, ns ++ [(n : Int)], by omega, by go_num, by go_num, by omega, by rw [← HG.out, HE.out], by simp; omega, hop2, by simpa using ho2, hbel1.trans hb2⟩
            case measure => simp [intOf]; omega
        · have hi2 : ((i : Int) == 2) = false := beq_eq_false_iff_ne.2 (by omega)
          have hi3 : ((i : Int) == 3) = false := beq_eq_false_iff_ne.2 (by omega)
          by_cases hg : bs.length < a + k + n
          · have HE := hide (cellAt_no (HR1.out (by rw [← HG.out]; exact refAt_long hn hi hg)))
            have hg' : (bs.length : Int) - ((a : Int) + k) < n := by omega
            clear hn hi hg
            have r0 := hB.cell 0
            have r1 := hB.cell 1
            have r2 := hB.cell 2
            have r3 := hB.cell 3
            have r4 := hB.cell 4
            obtain ⟨z0, z1, z2, z3, z4⟩ := hB.thaw
            simp [ca, zeroC] at r0 r1 r2 r3 r4
            go_wp2_with fail
            exact bodyPost_ret (v := .tuple #[cA zeroC, .int .i64 0]) (by simp [results, Try.results103, go_sem, cA, zeroC, r0, r1, r2, r3, r4]) rfl ⟨by rw [HE.out]; rfl, by go_grown⟩
          · have HE := hide (@refAt_s bs f' i a n k ps ns hn hi hg)
            have hg' : ¬ (bs.length : Int) - ((a : Int) + k) < n := by omega
            clear hn
            have hsl := run_slice_rd (P := Try.prog) Try.underlying42 (by kernel_rfl) Try.info5 ao bs.length cap (a + k) (a + k + n) ((a : Int) + k) ((a : Int) + k + n) (by omega) (by omega) (by omega) (by omega)
            have hV := hrd2.sliced (lo := a + k) (hi := a + k + n) (by omega) (by omega)
            rw [bc_drop, bc_take, show a + k + n - (a + k) = n by omega] at hV
            generalize sliced ao (a + k) (a + k + n) cap 1 = V at hV hsl
            have hcv : (convert 42 9 V).run Try.prog w1 = .ok (.string ⟨((bs.drop (a + k)).take n).toArray⟩) w1 := run_string_of_rd (P := Try.prog) Try.underlying42 Try.underlying5 Try.underlying9 hV
            generalize (bs.drop (a + k)).take n = tx at *
            go_wp2_with (at_builtin; go_must (refine wpList_append_one hop1 Try.underlying158 Try.info9 rfl rfl rfl rfl rfl rfl (by omega) (by decide) (by omega) ?_); intro v2 w2 ho2 hb2 hg2)
            rw [sc_snoc] at ho2
            have hon2 := owns_other (by decide) hon1 hop1 hg2
            go_roundw
            case rel => exact ⟨f', i + 1, a + k + n, ps ++ [tx], ns, by omega, by go_num, by go_num, by omega, by rw [← HG.out, HE.out], by simp; omega, by simpa using ho2, hon2, hbel1.trans hb2⟩
            case measure => simp [intOf]; omega
    · obtain rfl : f = 0 := by omega
      obtain ⟨r, c, x, t, g, hps, hns, ht, hg9, hr1, hr2⟩ := HR2.out ps ns a (by rw [← HG.out]; rfl)
      subst hps hns
      obtain ⟨b1, o1, cp1, hv1, q1, q2, hbb1, hq1⟩ := (Rd.ofOwns hop).pos (by simp [sc])
      obtain ⟨b2, o2, cp2, hv2, q3, q4, hbb2, hq2⟩ := (Rd.ofOwns hon).pos (by simp [ic])
      have p0 := hq1 0 _ rfl
      have p1 := hq1 1 _ rfl
      have p2 := hq1 2 _ rfl
      have n0 := hq2 0 _ rfl
      have n1 := hq2 1 _ rfl
      rw [Nat.add_zero] at p0 n0
      simp only [sc, ic, List.map_cons, List.map_nil, List.length_cons, List.length_nil, Nat.zero_add, Nat.reduceAdd] at hv1 hv2 q1 q3
      subst hv1 hv2
      unfold maxLen at q2 q4
      have hkeep : ∀ W, Below wr.heap.size wr W → W.cell? ⟨b1, o1, none⟩ = some (.string ⟨r.toArray⟩) ∧ W.cell? ⟨b1, o1 + 1, none⟩ = some (.string ⟨c.toArray⟩) ∧ W.cell? ⟨b1, o1 + 2, none⟩ = some (.string ⟨x.toArray⟩) ∧ W.cell? ⟨b2, o2, none⟩ = some (.int .i64 t) ∧ W.cell? ⟨b2, o2 + 1, none⟩ = some (.int .i64 g) := fun W h => ⟨(h.cell hbb1).trans p0, (h.cell hbb1).trans p1, (h.cell hbb1).trans p2, (h.cell hbb2).trans n0, (h.cell hbb2).trans n1⟩
      have HK := hide hkeep
      have HR3 := hide hr1
      have HR4 := hide hr2
      clear hkeep hq1 hq2 hr1 hr2 hop hon
      go_wp2_with fail
      go_region_held3 (fun W => W.cell? ⟨b1, o1, none⟩ = some (.string ⟨r.toArray⟩) ∧ W.cell? ⟨b1, o1 + 1, none⟩ = some (.string ⟨c.toArray⟩) ∧ W.cell? ⟨b1, o1 + 2, none⟩ = some (.string ⟨x.toArray⟩) ∧ W.cell? ⟨b2, o2, none⟩ = some (.int .i64 t) ∧ W.cell? ⟨b2, o2 + 1, none⟩ = some (.int .i64 g)) (exact HK.out _ (by go_grown)) (first | fail)
      all_goals
        have hB2 : Bk (wr.alloc (.cells #[.string ⟨r.toArray⟩, .string ⟨c.toArray⟩, .int .i64 t, .bool ((g : Int) == 1), .string ⟨x.toArray⟩] 91)).drew wr.heap.size 91 (ca ⟨⟨r.toArray⟩, ⟨c.toArray⟩, (t : Int), (g : Int) == 1, ⟨x.toArray⟩⟩) := Bk.new wr _ _
        have hx2 : Below wr.heap.size wr (wr.alloc (.cells #[.string ⟨r.toArray⟩, .string ⟨c.toArray⟩, .int .i64 t, .bool ((g : Int) == 1), .string ⟨x.toArray⟩] 91)).drew := by go_grown
        have hz2 : wr.heap.size < ((wr.alloc (.cells #[.string ⟨r.toArray⟩, .string ⟨c.toArray⟩, .int .i64 t, .bool ((g : Int) == 1), .string ⟨x.toArray⟩] 91)).drew).heap.size := hB2.lt
        generalize (wr.alloc (.cells #[.string ⟨r.toArray⟩, .string ⟨c.toArray⟩, .int .i64 t, .bool ((g : Int) == 1), .string ⟨x.toArray⟩] 91)).drew = w2 at *
        have hbel2 : Below (w.heap.size + 1) (w.alloc (.cells #[.string ⟨#[]⟩, .string ⟨#[]⟩, .int .i64 0, .bool false, .string ⟨#[]⟩] 91)) w2 := hbel.trans (hx2.mono (by omega))
        obtain ⟨_, _, _, _, m1⟩ := HK.out w2 hx2
        have hgb : ((g : Int) == 1) = (g == 1) := by rw [Bool.eq_iff_iff]; simp; omega
        rw [← hgb] at HR4
        have HGB := hide hgb
        have hzw := hszB
        clear hgb p0 p1 p2 n0 n1 hB hszB
        by_cases hg : 1 < g
        · have HE := hide (cellAt_no (HR3.out hg))
          have hg' : (1 : Int) < (g : Int) := by omega
          clear hg
          have hB := zero5_later hbel2
          have hszB := hB.lt
          have hbf2 := below_first hbel2
          have r0 := hB.cell 0
          have r1 := hB.cell 1
          have r2 := hB.cell 2
          have r3 := hB.cell 3
          have r4 := hB.cell 4
          obtain ⟨z0, z1, z2, z3, z4⟩ := hB.thaw
          simp [ca, zeroC] at r0 r1 r2 r3 r4
          go_wp2_with fail
          exact bodyPost_ret (v := .tuple #[cA zeroC, .int .i64 0]) (by simp [results, Try.results103, go_sem, cA, zeroC, r0, r1, r2, r3, r4]) rfl ⟨by rw [HE.out]; rfl, by go_grown⟩
        · have HE := hide (HR4.out hg)
          have hg' : (g : Int) ≤ 1 := by omega
          clear hg HR3 HR4
          obtain ⟨c0, c1, c2, c3, c4⟩ := hB2.facts
          have hbfx := below_first hbel2
          generalize hC : (⟨⟨r.toArray⟩, ⟨c.toArray⟩, (t : Int), (g : Int) == 1, ⟨x.toArray⟩⟩ : Cl) = C at *
          go_wp2_with fail
          refine (CellCode_any C _).mono ?_
          rintro e w3 ⟨rfl, hb3⟩
          have hbel3 : Below (w.heap.size + 1) (w.alloc (.cells #[.string ⟨#[]⟩, .string ⟨#[]⟩, .int .i64 0, .bool false, .string ⟨#[]⟩] 91)) w3 := hbel2.trans (hb3.mono (by omega))
          have hB3 := hB2.below hb3 hz2
          clear c0 c1 c2 c3 c4 hB2
          obtain ⟨c0, c1, c2, c3, c4⟩ := hB3.facts
          have hB := zero5_later hbel3
          have hszB := hB.lt
          have hbf3 := below_first hbel3
          have r0 := hB.cell 0
          have r1 := hB.cell 1
          have r2 := hB.cell 2
          have r3 := hB.cell 3
          have r4 := hB.cell 4
          obtain ⟨z0, z1, z2, z3, z4⟩ := hB.thaw
          simp [ca, zeroC] at r0 r1 r2 r3 r4
          by_cases hc : codeC C = 0
          · have HF := hide (cellAt_ok HE.out hc)
            rw [hc]
            clear hc
            go_wp2_with fail
            exact bodyPost_ret (v := .tuple #[cA C, .int .i64 a]) (by simp [results, Try.results103, go_sem, cA, r0, r1, r2, r3, r4]) rfl ⟨by rw [HF.out]; rfl, by go_grown⟩
          · have HF := hide (cellAt_bad HE.out hc)
            have hcb : (codeC C != 0) = true := by simp [hc]
            clear hc
            go_wp2_with fail
            exact bodyPost_ret (v := .tuple #[cA zeroC, .int .i64 0]) (by simp [results, Try.results103, go_sem, cA, zeroC, r0, r1, r2, r3, r4]) rfl ⟨by rw [HF.out]; rfl, by go_grown⟩

end Go.Proofs.Ytlebbkbbmgmmjad

/-
  The walks over the document's reading of cells: CellsOf.
-/
namespace Go.Proofs.Ytlebbkbbmgmmjad
open Go.RowKit

set_option maxRecDepth 100000 in
set_option maxHeartbeats 1000000 in
theorem CellsOf_any (v : Value) (bs : List UInt8) (w : World) (hrd : Rd w v (bc bs)) (hbl : bs.length ≤ 100000) :
    Calls Try.prog 72 #[v] w fun e w' => ∃ v', e = .returned (.tuple #[v', fltC (readCR bs).2]) ∧ RdC w' v' (readCR bs).1 ∧ Below w.heap.size w w' ∧ New w.heap.size v' := by
  obtain ⟨ao, cap, hv, hc1, hc2⟩ := hrd.shape
  rw [bc_length] at hc1 hv
  subst hv
  unfold maxLen at hc2
  by_cases hbig : 60000 < bs.length
  · have HE := hide (readCR_big hbig)
    go_enter Try.func72, Try.ntmps72
    go_wp2_with fail
    refine (FC_any 8 0 _).mono ?_
    rintro e w1 ⟨rfl, hb1⟩
    have hbel := flt_later (Below.refl _ _) hb1
    obtain ⟨hf0, hf1, hfr0, hfr1, hsz⟩ := two_later hbel
    have hbf := below_first hbel
    unfold fltC
    go_wp2_with fail
    exact bodyPost_ret (v := .tuple #[.slice none 0 0, fltC (8, 0)]) (by simp [results, Try.results72, go_sem, fltC, hf0, hf1]) rfl ⟨.slice none 0 0, by rw [HE.out], by rw [HE.out]; exact RdC.nil _, by go_grown, New.nil _⟩
  · have HE := hide (readCR_go hbig)
    go_enter Try.func72, Try.ntmps72
    go_wp2_with fail
    go_loopw [0, 4] (fun b o wr => ∃ (ds : List UInt8) (f : Nat) (acc : List Cl), rdCells (f + 1) ds acc = rdCells (bs.length + 1) bs [] ∧ ds.length ≤ f ∧ acc.length + ds.length ≤ bs.length ∧ Rd w b (bc ds) ∧ wr.ownsRow (w.heap.size + 1) 91 5 o acc.length (cc acc) ∧ Below (w.heap.size + 1) (w.alloc (.cells #[.int .i64 0, .int .i64 0] 28)) wr)
      (fun b _ _ => lenV b)
    case atStart => exact ⟨bs, bs.length, [], rfl, Nat.le_refl _, by simp, hrd, World.ownsRow_nil _ _ _ _, Below.refl _ _⟩
    case round =>
      obtain ⟨ds, f, acc, hgo, hf, hacc, hr, hown, hbel⟩ := hrel
      have HG := hide hgo
      clear hgo
      have hbf := below_first hbel
      have hsz1 := (two_later hbel).2.2.2.2
      obtain ⟨bo, bcap, hbv, hd1, hd2⟩ := hr.shape
      rw [bc_length] at hd1 hbv
      subst hbv
      unfold maxLen at hd2
      by_cases hnil : ds = []
      · subst hnil
        obtain ⟨ao2, cap2, hv2⟩ := ownsC_shape hown
        subst hv2
        simp only [List.length_nil]
        go_wp2_with fail
        have hrc := RdC.ofOwns hown
        refine (CellsFault_any _ acc _ hrc).mono ?_
        rintro e w3 ⟨rfl, hb3⟩
        have hbel3 := flt_later hbel hb3
        have hown3 := owns_below hown hb3
        obtain ⟨gf0, gf1, gr0, gr1, gsz⟩ := two_later hbel3
        have hbf3 := below_first hbel3
        clear hown hbel hbf hb3
        by_cases hc : (checkC acc).1 = 0
        · have hcz := checkC_zero hc
          have HM := hide (@rdCells_end f acc hc)
          rw [hcz]
          unfold fltC
          clear hcz hc
          go_wp2_with fail
          exact bodyPost_ret (v := .tuple #[.slice ao2 acc.length cap2, fltC (0, 0)]) (by simp [results, Try.results72, go_sem, fltC, gf0, gf1, gsz]) rfl ⟨_, by rw [HE.out, ← HG.out, HM.out], by rw [HE.out, ← HG.out, HM.out]; exact RdC.ofOwns ((ownsRow_setCell_below (ownsRow_setCell_below hown3 (by simp only; omega) _) (by simp only; omega) _).alloc _), by go_grown, (New.owns hown3).mono (by omega)⟩
        · have HM := hide (@rdCells_fault f acc hc)
          have hcb2 : ((checkC acc).1 != 0) = true := by simp [hc]
          clear hc
          generalize checkC acc = r at *
          obtain ⟨x, y⟩ := r
          simp only at hcb2
          unfold fltC
          go_wp2_with fail
          go_region
          all_goals
            go_wp2_with fail
            exact bodyPost_ret (v := .tuple #[.slice none 0 0, fltC (x, y)]) (by simp [results, Try.results72, go_sem, fltC, gf0, gf1, gsz]) rfl ⟨_, by rw [HE.out, ← HG.out, HM.out], by rw [HE.out, ← HG.out, HM.out]; exact RdC.nil _, by go_grown, New.nil _⟩
      · have hpos : 0 < ds.length := by cases ds with | nil => exact absurd rfl hnil | cons => simp
        have HN := hide hnil
        clear hnil
        have hr1 := hr.below hbf
        have hlen := lenV_owns hown
        go_wp2_with fail
        refine (CellAt_any _ ds _ hr1 (by omega)).mono ?_
        rintro e w3 ⟨rfl, hb3⟩
        have hbel3 := flt_later hbel hb3
        have hown3 := owns_below hown hb3
        obtain ⟨gf0, gf1, gr0, gr1, gsz⟩ := two_later hbel3
        have hbf3 := below_first hbel3
        clear hown hbel hbf hb3 hr1
        obtain ⟨ao2, cap2, hv2⟩ := ownsC_shape hown3
        subst hv2
        cases hn : cellAt ds with
        | none =>
          have HM := hide (@rdCells_bad f ds acc HN.out hn)
          clear hn
          unfold catV cA
          simp only
          go_wp2_with fail
          refine (FC_any 5 acc.length _).mono ?_
          rintro e w4 ⟨rfl, hb4⟩
          have hbel4 : Below (w.heap.size + 1) (w.alloc (.cells #[.int .i64 0, .int .i64 0] 28)) w4 := (hbel3.alloc (by omega) _).trans (hb4.mono (by simp; omega))
          clear gf0 gf1 gr0 gr1 gsz
          obtain ⟨gf0, gf1, gr0, gr1, gsz⟩ := two_later hbel4
          have hbf4 := below_first hbel4
          unfold fltC
          go_wp2_with fail
          exact bodyPost_ret (v := .tuple #[.slice none 0 0, fltC (5, acc.length)]) (by simp [results, Try.results72, go_sem, fltC, gf0, gf1]) rfl ⟨_, by rw [HE.out, ← HG.out, HM.out], by rw [HE.out, ← HG.out, HM.out]; exact RdC.nil _, by go_grown, New.nil _⟩
        | some p =>
          obtain ⟨c, k⟩ := p
          have HM := hide (@rdCells_step f ds acc c k HN.out hn)
          obtain ⟨_, _, hk0, hkl⟩ := cellAt_len hn
          clear hn
          unfold catV cA
          simp only
          have hkb : ((k : Int) == 0) = false := beq_eq_false_iff_ne.2 (by omega)
          have hown4 := hown3.alloc (.cells #[.string c.row, .string c.col, .int .i64 c.time, .bool c.gone, .string c.val] 91)
          have hbel4 : Below (w.heap.size + 1) (w.alloc (.cells #[.int .i64 0, .int .i64 0] 28)) (w3.alloc (.cells #[.string c.row, .string c.col, .int .i64 c.time, .bool c.gone, .string c.val] 91)) := hbel3.alloc (by omega) _
          have hz4 : w.heap.size + 1 ≤ (w3.alloc (.cells #[.string c.row, .string c.col, .int .i64 c.time, .bool c.gone, .string c.val] 91)).heap.size := by simp; omega
          have hsl := run_slice_from (P := Try.prog) Try.underlying42 (by kernel_rfl) Try.info5 bo ds.length bcap k k rfl hkl
          have hV := hr.from (lo := k) hkl
          rw [bc_drop] at hV
          obtain ⟨va, hva⟩ := sliced_shape bo k ds.length bcap
          rw [hva] at hsl hV
          go_wp2_with (at_builtin; go_must (refine wpList_append_oneC (c := c) hown4 Try.underlying30 Try.info91 rfl rfl rfl rfl (by simp only [World.size_alloc]; rfl) (by omega) (by decide) hz4 ?_); intro v6 w6 ho6 hb6 hg6)
          go_roundw
          case rel =>
            obtain ⟨f', rfl⟩ : ∃ f', f = f' + 1 := ⟨f - 1, by omega⟩
            refine ⟨ds.drop k, f', acc ++ [c], by rw [← HG.out, HM.out], by rw [List.length_drop]; omega, by simp; omega, hV, by simpa using ho6, hbel4.trans hb6⟩
          case measure => simp [lenV]; omega

end Go.Proofs.Ytlebbkbbmgmmjad

/-
  The walks over the document's NoteFault, SameNote, NoteBytes and NoteOf.
-/
namespace Go.Proofs.Ytlebbkbbmgmmjad
open Go.RowKit

set_option maxRecDepth 100000 in
set_option maxHeartbeats 1000000 in
theorem NoteFault_any (s : Int) (v : Value) (cs : List Cl) (w : World) (hv : RdC w v cs) :
    Calls Try.prog 28 #[ntA s v] w fun e w' => e = .returned (fltC (noteF s cs)) ∧ Below w.heap.size w w' := by
  obtain ⟨ao, cap, hvv, hc1, hc2⟩ := hv.shape
  subst hvv
  unfold maxLen at hc2
  unfold ntA
  go_enter Try.func28, Try.ntmps28
  have hR0 : Bk ((w.alloc (.cells #[.int .i64 s, .slice ao cs.length cap] 41)).alloc (.cells #[.int .i64 0, .int .i64 0] 28)) (w.heap.size + 1) 28 #[.int .i64 0, .int .i64 0] := Bk.new2 w _ _ _
  have HR0 := hide hR0
  clear hR0
  by_cases h1 : s < 1
  · have HE := hide (@noteF_range s cs (by omega))
    go_wp2_with fail
    refine (F_any 3 (-1) _).mono ?_
    rintro e w1 ⟨rfl, rfl⟩
    unfold flt
    go_wp2_with fail
    exact bodyPost_ret (v := fltC (3, -1)) (by simp [results, Try.results28, go_sem, fltC]) rfl ⟨by rw [HE.out], by go_grown⟩
  by_cases h2 : 1000000000 < s
  · have HE := hide (@noteF_range s cs (by omega))
    go_wp2_with fail
    refine (F_any 3 (-1) _).mono ?_
    rintro e w1 ⟨rfl, rfl⟩
    unfold flt
    go_wp2_with fail
    exact bodyPost_ret (v := fltC (3, -1)) (by simp [results, Try.results28, go_sem, fltC]) rfl ⟨by rw [HE.out], by go_grown⟩
  by_cases h3 : cs.length = 0
  · have HE := hide (@noteF_many s cs (by omega) (by omega))
    have h3b : ((cs.length : Int) == 0) = true := by rw [h3]; rfl
    go_wp2_with fail
    refine (F_any 2 (-1) _).mono ?_
    rintro e w1 ⟨rfl, rfl⟩
    unfold flt
    go_wp2_with fail
    exact bodyPost_ret (v := fltC (2, -1)) (by simp [results, Try.results28, go_sem, fltC]) rfl ⟨by rw [HE.out], by go_grown⟩
  have h3b : ((cs.length : Int) == 0) = false := beq_eq_false_iff_ne.2 (by omega)
  by_cases h4 : 20 < cs.length
  · have HE := hide (@noteF_many s cs (by omega) (by omega))
    have h4b : decide (20 < (cs.length : Int)) = true := decide_eq_true (by omega)
    go_wp2_with fail
    refine (F_any 2 (-1) _).mono ?_
    rintro e w1 ⟨rfl, rfl⟩
    unfold flt
    go_wp2_with fail
    exact bodyPost_ret (v := fltC (2, -1)) (by simp [results, Try.results28, go_sem, fltC]) rfl ⟨by rw [HE.out], by go_grown⟩
  have HE := hide (@noteF_cells s cs (by omega) (by omega))
  have h4b : decide (20 < (cs.length : Int)) = false := decide_eq_false (by omega)
  go_wp2_with fail
  refine (CellsFault_any _ cs _ (hv.below (by go_grown))).mono ?_
  rintro e w1 ⟨rfl, hb1⟩
  have hbw1 : Below w.heap.size w w1 := Below.trans (by go_grown) (hb1.mono (by simp <;> omega))
  have hR1 := HR0.out.below hb1 (by simp)
  have r0 := hR1.cell 0
  have r1 := hR1.cell 1
  have r2 := hR1.frozen 0
  have r3 := hR1.frozen 1
  have hz1 := hR1.lt
  simp at r0 r1
  generalize checkC cs = CC at *
  obtain ⟨nx, ny⟩ := CC
  unfold fltC
  go_wp2_with fail
  exact bodyPost_ret (v := fltC (nx, ny)) (by simp [results, Try.results28, go_sem, fltC, r0, r1]) rfl ⟨by rw [HE.out], by go_grown⟩

set_option maxRecDepth 100000 in
set_option maxHeartbeats 1000000 in
theorem SameNote_any (s : Int) (u v : Value) (cs : List Cl) (w : World) (hu : RdC w u cs) (hv : RdC w v cs) :
    Calls Try.prog 24 #[ntA s u, ntA s v] w fun e w' => e = .returned (.bool true) ∧ Below w.heap.size w w' := by
  unfold ntA
  have hsb : (s == s) = true := by simp
  go_enter Try.func24, Try.ntmps24
  go_wp2_with fail
  refine (SameCells_any _ _ cs _ ((hu.alloc _).alloc _) ((hv.alloc _).alloc _)).mono ?_
  rintro e w1 ⟨rfl, hb1⟩
  have hbw1 : Below w.heap.size w w1 := Below.trans (by go_grown) (hb1.mono (by simp <;> omega))
  go_wp2_with fail
  go_ret
  exact ⟨rfl, hbw1⟩

set_option maxRecDepth 100000 in
set_option maxHeartbeats 1000000 in
theorem NoteBytes_any (m : Nat) (v : Value) (cs : List Cl) (w : World) (hv : RdC w v cs) (hm : m ≤ 1000000000) (hcs : ∀ c ∈ cs, codeC c = 0) (hl : cs.length ≤ 1000) :
    Calls Try.prog 30 #[ntA m v] w fun e w' => ∃ v', e = .returned v' ∧ Rd w' v' (bc (noteB m cs)) ∧ Below w.heap.size w w' ∧ New w.heap.size v' := by
  obtain ⟨ao, cap, hvv, hc1, hc2, hat⟩ := hv.at
  subst hvv
  unfold maxLen at hc2
  unfold ntA
  have HCS := hide hcs
  have HFL := hide (fun k => flatC_le (cs := cs.take k) (fun c hc => hcs c (List.mem_of_mem_take hc)))
  clear hcs
  have HEB : Hid (noteB (m : Int) cs = encN m ++ flatC cs) := hide (by rw [noteB]; simp)
  have HEN := hide (encN_length m)
  go_enter Try.func30, Try.ntmps30
  go_wp2_with fail
  have hN0 := Bk.new w 41 #[.int .i64 m, .slice ao cs.length cap]
  have hb0 := below_alloc' w (.cells #[.int .i64 m, .slice ao cs.length cap] 41)
  have hz0 : (w.alloc (.cells #[.int .i64 m, .slice ao cs.length cap] 41)).heap.size = w.heap.size + 1 := by simp
  generalize w.alloc (.cells #[.int .i64 m, .slice ao cs.length cap] 41) = w0 at *
  refine (Number_go 9 m _ (by omega) (by omega) (Nat.le_refl _)).mono ?_
  rintro e w1 ⟨v1, rfl, ho1, hb1⟩
  have hb1' : Below w0.heap.size w0 w1 := hb1
  clear hb1
  go_wp2_with fail
  go_loopw [3, 4] (fun o i wr => ∃ (k : Nat), k ≤ cs.length ∧ i = .int .i64 k ∧ wr.ownsRow w0.heap.size 5 1 o (encN m ++ flatC (cs.take k)).length (bc (encN m ++ flatC (cs.take k))) ∧ Below w0.heap.size w0 wr)
    (fun _ i _ => cs.length - (intOf i).toNat)
  case atStart => exact ⟨0, by omega, rfl, by simp only [List.take_zero, flatC_nil, List.append_nil]; exact ho1, hb1'⟩
  case round =>
    obtain ⟨k, hk, rfl, hown, hbel⟩ := hrel
    have hNr := hN0.below hbel hN0.lt
    have hbw := hb0.trans (hbel.mono (by omega))
    have hszr := hbel.size
    have n1 := hNr.cell 1
    have hln := hNr.lt
    simp at n1
    obtain ⟨vo, vc, hvo⟩ := owns_shape hown
    by_cases hlt : k < cs.length
    · obtain ⟨bb, off, rfl, hb, hcl⟩ := hat k hlt
      have hck := (hcl k hlt).below hbw
      have hcc := HCS.out cs[k] (List.getElem_mem hlt)
      have hsn := flatC_snoc cs k hlt
      have hcl9 := cellB_len hcc
      have hfl := HFL.out k
      rw [List.length_take] at hfl
      have HSN := hide hsn
      clear hsn
      generalize cs[k] = c at *
      have hl2 : (encN m ++ flatC (cs.take k)).length + (bc (cellB c)).length ≤ 2000000000000 := by
        have := HEN.out
        rw [bc_length, List.length_append]
        omega
      generalize hA : encN m ++ flatC (cs.take k) = A at *
      have HA := hide hA
      clear hA
      subst hvo
      obtain ⟨c0, c1, c2, c3, c4⟩ := hck
      clear hcl hat
      go_wp2_with fail
      refine (CellBytes_any c _ hcc).mono ?_
      rintro e w2 ⟨v2, rfl, hr2, hb2, _⟩
      have ho2 := owns_below hown hb2
      have hbel2 := hbel.trans (hb2.mono hszr)
      have hz2 := hbel2.size
      obtain ⟨uo, uc, huv, _, _⟩ := hr2.shape
      subst huv
      clear c0 c1 c2 c3 c4 n1
      go_wp2_with (at_builtin; go_must (refine wpList_append_rd ho2 hr2 Try.underlying42 Try.info5 rfl rfl rfl rfl rfl (bc_one _) hl2 (by decide) hz2 ?_); intro v3 w3 ho3 hb3 hg3; clear hg3)
      rw [bc_length, ← bc_append, ← List.length_append] at ho3
      go_roundw
      case rel => exact ⟨k + 1, by omega, by go_num, by rw [HSN.out, ← List.append_assoc, HA.out]; exact ho3, hbel2.trans hb3⟩
      case measure => simp [intOf]; omega
    · have hke : k = cs.length := by omega
      subst hke
      rw [List.take_length] at hown hvo
      subst hvo
      go_wp2_with fail
      go_ret
      exact ⟨_, rfl, by rw [HEB.out]; exact Rd.ofOwns hown, hbw, (New.owns hown).mono (by omega)⟩

end Go.Proofs.Ytlebbkbbmgmmjad

/-
  The walk over the document's NoteOf.
-/
namespace Go.Proofs.Ytlebbkbbmgmmjad
open Go.RowKit

set_option maxRecDepth 100000 in
set_option maxHeartbeats 2000000 in
theorem NoteOf_any (v : Value) (bs : List UInt8) (w : World) (hrd : Rd w v (bc bs)) (hbl : bs.length ≤ 100000) :
    Calls Try.prog 26 #[v] w fun e w' => ∃ v', e = .returned (.tuple #[ntA (readN bs).1.seq v', fltC (readN bs).2]) ∧ RdC w' v' (readN bs).1.cells ∧ Below w.heap.size w w' ∧ New w.heap.size v' := by
  obtain ⟨ao, cap, hvv, hc1, hc2⟩ := hrd.shape
  rw [bc_length] at hc1 hvv
  subst hvv
  unfold maxLen at hc2
  go_enter Try.func26, Try.ntmps26
  by_cases hbig : 60000 < bs.length
  · have HE := hide (readN_big hbig)
    go_wp2_with fail
    refine (F_any 8 0 _).mono ?_
    rintro e w1 ⟨rfl, rfl⟩
    unfold flt
    go_wp2_with fail
    exact bodyPost_ret (v := .tuple #[ntA 0 (.slice none 0 0), fltC (8, 0)]) (by simp [results, Try.results26, go_sem, fltC, ntA]) rfl ⟨.slice none 0 0, by rw [HE.out]; rfl, by rw [HE.out]; exact RdC.nil _, by go_grown, New.nil _⟩
  have hA0 : Bk ((w.alloc (.cells #[.int .i64 0, .slice none 0 0] 41)).alloc (.cells #[.int .i64 0, .int .i64 0] 28)) w.heap.size 41 #[.int .i64 0, .slice none 0 0] := (Bk.new w _ _).below (below_alloc' _ _) (by simp)
  have hF0 : Bk ((w.alloc (.cells #[.int .i64 0, .slice none 0 0] 41)).alloc (.cells #[.int .i64 0, .int .i64 0] 28)) (w.heap.size + 1) 28 #[.int .i64 0, .int .i64 0] := Bk.new2 w _ _ _
  go_wp2_with fail
  refine (NumberAt_any _ bs _ ((hrd.alloc _).alloc _)).mono ?_
  rintro e w3 ⟨rfl, hb3⟩
  have hA3 := hA0.below hb3 (by simp <;> omega)
  have hF3 := hF0.below hb3 (by simp)
  have hbw3 : Below w.heap.size w w3 := Below.trans (by go_grown) (hb3.mono (by simp <;> omega))
  have hz3 := hF3.lt
  have hz3A := hA3.lt
  clear hA0 hF0 hb3
  cases hn : numAt bs with
  | none =>
    have HE := hide (readN_form hbig hn)
    have a0 := hA3.cell 0
    have a1 := hA3.cell 1
    have a2 := hA3.frozen 0
    have a3 := hA3.frozen 1
    have f0 := hF3.cell 0
    have f1 := hF3.cell 1
    have f2 := hF3.frozen 0
    have f3 := hF3.frozen 1
    simp at a0 a1 f0 f1
    clear hn
    rw [natV_none]
    go_wp2_with fail
    refine (F_any 5 (-1) _).mono ?_
    rintro e w1 ⟨rfl, rfl⟩
    unfold flt
    go_wp2_with fail
    exact bodyPost_ret (v := .tuple #[ntA 0 (.slice none 0 0), fltC (5, -1)]) (by simp [results, Try.results26, go_sem, fltC, ntA, a0, a1, f0, f1, hz3, hz3A]) rfl ⟨.slice none 0 0, by rw [HE.out]; rfl, by rw [HE.out]; exact RdC.nil _, by go_grown, New.nil _⟩
  | some p =>
    obtain ⟨s, k⟩ := p
    obtain ⟨hk0, hk1, hs⟩ := numAt_len hn
    have hkb : ((k : Int) == 0) = false := beq_eq_false_iff_ne.2 (by omega)
    have hrd3 := hrd.below hbw3
    have hsl := run_slice_from (P := Try.prog) Try.underlying42 (by kernel_rfl) Try.info5 ao bs.length cap k k rfl hk1
    have hrr := hrd3.from hk1
    rw [bc_drop] at hrr
    rw [natV_some]
    obtain ⟨va, hva⟩ := sliced_shape ao k bs.length cap
    rw [hva] at hsl hrr
    clear hrd hrd3
    go_wp2_with fail
    refine (CellsOf_any _ (bs.drop k) _ hrr (by rw [List.length_drop]; omega)).mono ?_
    rintro e w5 ⟨v5, rfl, hr5, hb5, hn5⟩
    have hA5 := hA3.below hb5 hA3.lt
    have hF5 := hF3.below hb5 hF3.lt
    have hbw5 := hbw3.trans (hb5.mono (by omega))
    have hz5 := hb5.size
    have hnn5 := hn5.mono (show w.heap.size + 2 ≤ w3.heap.size by omega)
    clear hA3 hF3 hbw3 hb5 hn5 hrr
    have a0 := hA5.cell 0
    have a1 := hA5.cell 1
    have a2 := hA5.frozen 0
    have a3 := hA5.frozen 1
    have f0 := hF5.cell 0
    have f1 := hF5.cell 1
    have f2 := hF5.frozen 0
    have f3 := hF5.frozen 1
    have hlt := hF5.lt
    have hltA := hA5.lt
    simp at a0 a1 f0 f1
    have HOWN := hide (@readN_own bs s k hbig hn)
    have HOK := hide (@readN_ok bs s k hbig hn)
    have HCE := hide (@readN_cells bs s k hbig hn)
    have HFZ := hide (@readCR_zero (bs.drop k))
    clear hn hsl
    generalize readCR (bs.drop k) = RC at *
    obtain ⟨cs, x, y⟩ := RC
    obtain ⟨vo5, vc5, hv5, hv51, hv52⟩ := hr5.shape
    simp only at hr5 hv5 hv51 HOWN HOK HCE HFZ ⊢
    subst hv5
    unfold maxLen at hv52
    by_cases hx : x = 0
    case neg =>
      have HE := hide (HCE.out hx)
      have hcb : (x == 0) = false := beq_eq_false_iff_ne.2 hx
      have hcb2 : (x != 0) = true := by simp [hx]
      clear HOWN HOK HCE HFZ
      unfold fltC
      go_wp2_with fail
      go_region
      all_goals
        go_wp2_with fail
        exact bodyPost_ret (v := .tuple #[ntA 0 (.slice none 0 0), fltC (x, y)]) (by simp [results, Try.results26, go_sem, fltC, ntA, a0, a1, f0, f1, hlt, hltA]) rfl ⟨.slice none 0 0, by rw [HE.out]; rfl, by rw [HE.out]; exact RdC.nil _, by go_grown, New.nil _⟩
    subst hx
    have hy : y = 0 := HFZ.out rfl
    subst hy
    have HOWN1 := hide (HOWN.out rfl)
    have HOK1 := hide (HOK.out rfl)
    clear HCE HFZ HOWN HOK
    unfold fltC
    have hb57 : Below w5.heap.size w5 ((w5.alloc (.cells #[.int .i64 0, .int .i64 0] 28)).alloc (.cells #[.int .i64 s, .slice vo5 cs.length vc5] 41)) := (below_alloc' _ _).alloc (by simp) _
    have hW0 : Bk ((w5.alloc (.cells #[.int .i64 0, .int .i64 0] 28)).alloc (.cells #[.int .i64 s, .slice vo5 cs.length vc5] 41)) w5.heap.size 28 #[.int .i64 0, .int .i64 0] := (Bk.new w5 _ _).below (below_alloc' _ _) (by simp)
    have hNt : Bk ((w5.alloc (.cells #[.int .i64 0, .int .i64 0] 28)).alloc (.cells #[.int .i64 s, .slice vo5 cs.length vc5] 41)) (w5.heap.size + 1) 41 #[.int .i64 s, .slice vo5 cs.length vc5] := Bk.new2 w5 _ _ _
    have HB57 := hide hb57
    have HNT := hide hNt
    have HW0 := hide hW0
    clear hb57 hNt hW0
    go_upto_region 10 with fail
    generalize (w5.alloc (.cells #[.int .i64 0, .int .i64 0] 28)).alloc (.cells #[.int .i64 s, .slice vo5 cs.length vc5] 41) = w7 at *
    have hb57 := HB57.out
    have hNt := HNT.out
    have hW7 := HW0.out
    have hA7 := hA5.below hb57 hA5.lt
    have hF7 := hF5.below hb57 hF5.lt
    have hr7 := hr5.below hb57
    have hbw7 := hbw5.trans (hb57.mono (by omega))
    have hz7 := hb57.size
    have hlN := hNt.lt
    have n0 := hNt.cell 0
    have n1 := hNt.cell 1
    simp at n0 n1
    clear hA5 hF5 hbw5 hr5 a0 a1 a2 a3 f0 f1 f2 f3 hlt hltA hb57 HB57 HNT HW0
    go_wp2_with fail
    refine (NoteFault_any s _ cs _ hr7).mono ?_
    rintro e w8 ⟨rfl, hb8⟩
    have hA8 := hA7.below hb8 hA7.lt
    have hF8 := hF7.below hb8 hF7.lt
    have hN8 := hNt.below hb8 hNt.lt
    have hW8 := hW7.below hb8 hW7.lt
    have hr8 := hr7.below hb8
    have hbw8 := hbw7.trans (hb8.mono (by omega))
    have hz8 := hb8.size
    have a0 := hA8.cell 0
    have a1 := hA8.cell 1
    have a2 := hA8.frozen 0
    have a3 := hA8.frozen 1
    have f0 := hF8.cell 0
    have f1 := hF8.cell 1
    have f2 := hF8.frozen 0
    have f3 := hF8.frozen 1
    have g0 := hW8.cell 0
    have g1 := hW8.cell 1
    have g2 := hW8.frozen 0
    have g3 := hW8.frozen 1
    have hlt := hF8.lt
    have hltA := hA8.lt
    have hltW := hW8.lt
    have hlN8 := hN8.lt
    clear n0 n1
    have n0 := hN8.cell 0
    have n1 := hN8.cell 1
    simp at a0 a1 f0 f1 n0 n1 g0 g1
    clear hA7 hF7 hNt hr7 hbw7 hb8 hW7
    have HNZ := hide (@noteF_zero (s : Int) cs)
    generalize noteF (s : Int) cs = NF at *
    obtain ⟨nx, ny⟩ := NF
    simp only at HNZ
    by_cases hx : nx = 0
    case neg =>
      have HE := hide (HOWN1.out hx)
      have hcb : (nx == 0) = false := beq_eq_false_iff_ne.2 hx
      have hcb2 : (nx != 0) = true := by simp [hx]
      clear HOWN1 HOK1 HNZ
      unfold fltC
      go_wp2_with fail
      go_region
      all_goals
        go_wp2_with fail
        exact bodyPost_ret (v := .tuple #[ntA 0 (.slice none 0 0), fltC (nx, ny)]) (by simp [results, Try.results26, go_sem, fltC, ntA, a0, a1, f0, f1]) rfl ⟨.slice none 0 0, by rw [HE.out]; rfl, by rw [HE.out]; exact RdC.nil _, by go_grown, New.nil _⟩
    subst hx
    have hny : ny = 0 := by have := (HNZ.out rfl).1; simpa using this
    subst hny
    have HE := hide (HOK1.out rfl)
    clear HOWN1 HOK1 HNZ
    unfold fltC
    go_wp2_with fail
    refine bodyPost_ret (v := .tuple #[ntA s (.slice vo5 cs.length vc5), fltC (0, 0)]) (by simp [results, Try.results26, go_sem, fltC, ntA, a0, a1, f0, f1]) rfl ⟨.slice vo5 cs.length vc5, by rw [HE.out], ?_, by go_grown, hnn5.mono (by omega)⟩
    rw [HE.out]
    exact ((((hr8.setFlt hW8 0 0).setNew hnn5 (by simp only; omega) _).setNew hnn5 (by simp only; omega) _).setNew hnn5 (by simp only; omega) _).setNew hnn5 (by simp only; omega) _

end Go.Proofs.Ytlebbkbbmgmmjad

/-
  What the laws of the logs call: oneNote, walBegun, ownNote; WalNotes' own function and bytesAs of it.
-/
namespace Go.Proofs.Ytlebbkbbmgmmjad
open Go.RowKit

/-- The document's example. -/
def cl7 : Cl := ⟨⟨#[114]⟩, ⟨#[99]⟩, 7, false, ⟨#[97]⟩⟩

set_option maxRecDepth 100000 in
set_option maxHeartbeats 1000000 in
theorem oneNote_any (w : World) : Calls Try.prog 52 #[] w fun e w' => ∃ v', e = .returned (ntA 1 v') ∧ RdC w' v' [cl7] ∧ Below w.heap.size w w' ∧ New w.heap.size v' := by
  go_enter Try.func52, Try.ntmps52
  go_wp2_with fail
  refine bodyPost_ret (v := ntA 1 (.slice (some ⟨w.heap.size + 1, 0, none⟩) 1 1)) (by simp [results, Try.results52, go_sem, ntA]) rfl ⟨_, rfl, ?_, by go_grown, ?_⟩
  · have h := RdC.new (w.alloc (.cells #[.int .i64 1, .slice (some ⟨w.heap.size + 1, 0, none⟩) 1 1] 41)) cl7 91
    rw [World.size_alloc] at h
    exact h
  · intro a l c e
    simp only [Value.slice.injEq, Option.some.injEq] at e
    obtain ⟨rfl, _, _⟩ := e
    exact Nat.le_succ _

theorem note7 : writeN 1 [cl7] = ([1, 1, 114, 1, 99, 7, 0, 1, 97], (0, 0)) := by decide +kernel

set_option maxRecDepth 100000 in
set_option maxHeartbeats 1000000 in
theorem walBegun_any (w : World) : Calls Try.prog 18 #[] w fun e w' => e = .returned (.bool true) ∧ Below w.heap.size w w' := by
  have HN := hide note7
  go_enter Try.func18, Try.ntmps18
  go_wp2_with fail
  refine (oneNote_any _).mono ?_
  rintro e w1 ⟨v1, rfl, hr1, hb1, _⟩
  obtain ⟨ao1, cap1, hv1, _, _⟩ := hr1.shape
  subst hv1
  unfold ntA
  go_wp2_with fail
  refine (WWrite_any 1 _ [cl7] _ hr1).mono ?_
  rintro e w2 ⟨v2, rfl, hr2, hb2, _⟩
  rw [HN.out] at hr2 ⊢
  have hbw2 := hb1.trans (hb2.mono hb1.size)
  have hz2 := hbw2.size
  obtain ⟨ao2, cap2, hv2, _, _⟩ := hr2.shape
  subst hv2
  unfold fltC
  have hl : (bc [1, 1, 114, 1, 99, 7, 0, 1, 97]).length = 9 := rfl
  simp only [hl] at hr2 ⊢
  go_wp2_with fail
  refine (Same_any _ _ [1, 1, 114, 1, 99, 7, 0, 1, 97] [1, 1, 114, 1, 99, 7, 0, 1, 97] _ ((hr2.alloc _).alloc _) (by
    have h := rd_lit (w2.alloc (.cells #[.int .i64 0, .int .i64 0] 28)) (bc [1, 1, 114, 1, 99, 7, 0, 1, 97]) 5 (by decide)
    rw [World.size_alloc] at h
    exact h)).mono ?_
  rintro e w3 ⟨rfl, rfl⟩
  go_wp2_with fail
  go_ret
  exact ⟨rfl, by go_grown⟩

set_option maxRecDepth 100000 in
set_option maxHeartbeats 1000000 in
theorem ownNote_any (s : Int) (v : Value) (cs : List Cl) (w : World) (h : RdC w v cs) (hl : cs.length ≤ 1000000) :
    Calls Try.prog 20 #[ntA s v] w fun e w' => ∃ v', e = .returned (ntA s v') ∧ RdC w' v' cs ∧ Below w.heap.size w w' ∧ New w.heap.size v' := by
  obtain ⟨ao, cap, hu, hc1, hc2⟩ := h.shape
  subst hu
  unfold ntA
  go_enter Try.func20, Try.ntmps20
  go_wp2_with fail
  have hbC : Below w.heap.size w ((w.alloc (.cells #[.int .i64 s, .slice ao cs.length cap] 41)).alloc (.cells #[.int .i64 0, .slice none 0 0] 41)) := ((Below.refl _ _).alloc (Nat.le_refl _) _).alloc (by simp) _
  have hD : Bk ((w.alloc (.cells #[.int .i64 s, .slice ao cs.length cap] 41)).alloc (.cells #[.int .i64 0, .slice none 0 0] 41)) w.heap.size 41 #[.int .i64 s, .slice ao cs.length cap] := (Bk.new w _ _).below (below_alloc' _ _) (by simp)
  have hR : Bk ((w.alloc (.cells #[.int .i64 s, .slice ao cs.length cap] 41)).alloc (.cells #[.int .i64 0, .slice none 0 0] 41)) (w.heap.size + 1) 41 #[.int .i64 0, .slice none 0 0] := Bk.new2 w _ _ _
  have h1 := h.below hbC
  generalize (w.alloc (.cells #[.int .i64 s, .slice ao cs.length cap] 41)).alloc (.cells #[.int .i64 0, .slice none 0 0] 41) = w1 at *
  have hsz1 := hR.lt
  have d0 := hD.cell 0
  have d1 := hD.cell 1
  simp at d0 d1
  have HD := hide hD
  have HR := hide hR
  have H1 := hide h1
  clear hD hR h1 h
  go_region_held3 (fun W => W.cell? ⟨w.heap.size, 0, none⟩ = some (.int .i64 s) ∧ W.cell? ⟨w.heap.size, 1, none⟩ = some (.slice ao cs.length cap)) (go_keep) (first | (go_at_call 43; refine (ownCells_any _ cs _ (by exact H1.out) hl).mono ?_; rintro e w3 ⟨v3, rfl, hr3, hb3, hn3⟩; obtain ⟨ao3, cap3, hv3, _, _⟩ := hr3.shape; subst hv3; have qD := Bk.below (w := w1.drew) HD.out hb3 (by exact HD.out.lt); have q0 := qD.cell 0; have q1 := qD.cell 1; have rR := Bk.below (w := w1.drew) HR.out hb3 (by exact HR.out.lt); have r0 := rR.cell 0; have r1 := rR.cell 1; have r2 := rR.frozen 0; have r3 := rR.frozen 1; have r4 := rR.lt; simp at q0 q1 r0 r1))
  all_goals
    have hz1 : w1.drew.heap.size = w1.heap.size := rfl
    have hbw3 : Below w.heap.size w w3 := Below.trans hbC.drew (hb3.mono (by omega))
    go_wp2_with fail
    exact bodyPost_ret (v := ntA s (.slice ao3 cs.length cap3)) (by simp [results, Try.results20, go_sem, ntA, r0, r1]) rfl ⟨_, rfl, (hr3.setNew hn3 (by simp only; omega) _).setNew hn3 (by simp only; omega) _, by go_grown, hn3.mono (by omega)⟩

set_option maxRecDepth 100000 in
set_option maxHeartbeats 400000 in
theorem WalNotes1_any (L : Nat) (t : TypeId) (m : Nat) (v : Value) (cs : List Cl) (w : World) (hL : Bk w L t #[.int .i64 m, v]) (hv : RdC w v cs) (hm : m ≤ 1000000000) (hcs : ∀ c ∈ cs, codeC c = 0) (hl : cs.length ≤ 1000) :
    Calls Try.prog 29 #[.pointer (some ⟨L, 0, none⟩)] w fun e w' => ∃ v', e = .returned v' ∧ Rd w' v' (bc (noteB m cs)) ∧ Below w.heap.size w w' := by
  obtain ⟨ao, cap, hu, hc1, hc2⟩ := hv.shape
  subst hu
  have c0 := hL.cell 0
  have c1 := hL.cell 1
  simp at c0 c1
  have HCS := hide hcs
  clear hcs
  go_enter Try.func29, Try.ntmps29
  go_wp2_with fail
  refine (NoteBytes_any m _ cs _ hv hm HCS.out hl).mono ?_
  rintro e w1 ⟨v1, rfl, hr1, hb1, _⟩
  go_wp2_with fail
  go_ret
  exact ⟨_, rfl, hr1, hb1⟩

set_option maxRecDepth 100000 in
set_option maxHeartbeats 400000 in
theorem bytesAsN_ok (L : Nat) (t : TypeId) (m : Nat) (v x : Value) (cs : List Cl) (w : World) (hL : Bk w L t #[.int .i64 m, v]) (hv : RdC w v cs) (hm : m ≤ 1000000000) (hcs : ∀ c ∈ cs, codeC c = 0) (hl : cs.length ≤ 1000) (hx : Rd w x (bc (noteB m cs))) :
    Calls Try.prog 27 #[x, fltC (0, 0), fltC (0, 0), .func (.func 29) #[] #[.pointer (some ⟨L, 0, none⟩)]] w fun e w' => e = .returned (.bool true) ∧ Below w.heap.size w w' := by
  have HCS := hide hcs
  clear hcs
  unfold fltC
  go_enter Try.func27, Try.ntmps27
  go_wp2_with fail
  have hb2 : Below w.heap.size w ((w.alloc (.cells #[.int .i64 0, .int .i64 0] 28)).alloc (.cells #[.int .i64 0, .int .i64 0] 28)) := ((Below.refl _ _).alloc (Nat.le_refl _) _).alloc (by simp) _
  refine (WalNotes1_any L t m v cs _ (hL.below hb2 hL.lt) (hv.below hb2) hm HCS.out hl).mono ?_
  rintro e w1 ⟨v1, rfl, hr1, hb1⟩
  have hb12 := hb2.trans (hb1.mono (by simp <;> omega))
  obtain ⟨xo, xc, hxv, _, _⟩ := hx.shape
  obtain ⟨yo, yc, hyv, _, _⟩ := hr1.shape
  subst hxv hyv
  go_wp2_with fail
  refine (Same_any _ _ (noteB m cs) (noteB m cs) _ (hx.below hb12) hr1).mono ?_
  rintro e w2 ⟨rfl, rfl⟩
  go_wp2_with fail
  go_ret
  exact ⟨by simp, hb12⟩

set_option maxRecDepth 100000 in
set_option maxHeartbeats 400000 in
theorem bytesAsN_bad (x fv : Value) (c a : Int) (w : World) (hc : c ≠ 0) (hx : Rd w x (bc [])) :
    Calls Try.prog 27 #[x, fltC (c, a), fltC (c, a), fv] w fun e w' => e = .returned (.bool true) ∧ Below w.heap.size w w' := bytesAs_bad x fv c a w hc hx

end Go.Proofs.Ytlebbkbbmgmmjad

/-
  The walk over the law WalNotes.
-/
namespace Go.Proofs.Ytlebbkbbmgmmjad
open Go.RowKit

theorem manyB_leN {n : Int} (h : manyB n = false) : n ≤ 2000 := by
  unfold manyB at h
  simp at h
  omega

theorem writeN_bad {s : Int} {cs : List Cl} (h : (noteF s cs).1 ≠ 0) : writeN s cs = ([], noteF s cs) := by rw [writeN, if_neg h]
theorem writeN_ok {s : Int} {cs : List Cl} (h : (noteF s cs).1 = 0) : writeN s cs = (noteB s cs, (0, 0)) := by rw [writeN, if_pos h]

set_option maxRecDepth 100000 in
set_option maxHeartbeats 4000000 in
theorem walNotes_any (s : Int) (v u : Value) (cs : List Cl) (bs : List UInt8) (w : World) (hv : RdC w v cs) (_ : -9223372036854775808 ≤ s ∧ s ≤ 9223372036854775807) (hu : Rd w u (bc bs)) :
    Calls Try.prog 5 #[ntA s v, u] w fun e w' => e = .returned (.bool true) ∧ Below w.heap.size w w' := by
  obtain ⟨ao, cap, hvv, hc1, hc2⟩ := hv.shape
  subst hvv
  unfold maxLen at hc2
  obtain ⟨uo, ucap, huu, hd1, hd2⟩ := hu.shape
  rw [bc_length] at hd1 huu
  subst huu
  unfold maxLen at hd2
  unfold ntA
  go_enter Try.func5, Try.ntmps5
  go_wp2_with fail
  have hN0 := Bk.new w 41 #[.int .i64 s, .slice ao cs.length cap]
  refine (walBegun_any _).mono ?_
  rintro e w1 ⟨rfl, hb1⟩
  have hN1 := hN0.below hb1 (by simp)
  have hbw1 : Below w.heap.size w w1 := (below_alloc' _ _).trans (hb1.mono (by simp))
  have hz1 := hN1.lt
  have n0 := hN1.cell 0
  have n1 := hN1.cell 1
  simp at n0 n1
  clear hN0 hb1
  cases hmany : manyB cs.length
  case true =>
    go_wp2_with fail
    refine (many_any _ _).mono ?_
    rintro e w2 ⟨rfl, rfl⟩
    rw [hmany]
    go_wp2_with fail
    go_ret
    exact ⟨rfl, hbw1⟩
  have hl2 := manyB_leN hmany
  have hl3 : cs.length ≤ 1000000 := by omega
  by_cases hbig : 100000 < bs.length
  · have hbg : (100000 : Int) < (bs.length : Int) := by omega
    go_wp2_with fail
    refine (many_any _ _).mono ?_
    rintro e w2 ⟨rfl, rfl⟩
    rw [hmany]
    go_wp2_with fail
    go_ret
    exact ⟨rfl, hbw1⟩
  have hbg : (bs.length : Int) ≤ 100000 := by omega
  go_wp2_with fail
  refine (many_any _ _).mono ?_
  rintro e w2 ⟨rfl, rfl⟩
  rw [hmany]
  clear hmany
  go_wp2_with fail
  refine (ownNote_any s _ cs _ (hv.below hbw1) hl3).mono ?_
  rintro e w3 ⟨vx, rfl, hx3, hb3, _⟩
  obtain ⟨xo, xcap, hvx, _, _⟩ := hx3.shape
  subst hvx
  have hN3 := hN1.below hb3 hN1.lt
  have hbw3 := hbw1.trans (hb3.mono hbw1.size)
  clear hb3 n0 n1 hN1 hbw1
  unfold ntA
  go_upto_region 6 with fail
  have hbA := below_alloc' w3 (.cells #[.int .i64 s, .slice xo cs.length xcap] 41)
  have hX4 := Bk.new w3 41 #[.int .i64 s, .slice xo cs.length xcap]
  have hN4 := hN3.below hbA hN3.lt
  have hx4 := hx3.below hbA
  have hbw4 := hbw3.trans (hbA.mono hbw3.size)
  generalize w3.alloc (.cells #[.int .i64 s, .slice xo cs.length xcap] 41) = w4 at *
  generalize w3.heap.size = zX at *
  clear hbA hN3 hx3 hbw3
  go_wp2_with fail
  refine (ownBytes_any _ bs _ (hu.below hbw4) (by omega)).mono ?_
  rintro e w5 ⟨vy, rfl, hy5, hb5, _⟩
  obtain ⟨yo, ycap, hvy, _, _⟩ := hy5.shape
  rw [bc_length] at hvy
  subst hvy
  have hX5 := hX4.below hb5 hX4.lt
  have hN5 := hN4.below hb5 hN4.lt
  have hx5 := hx4.below hb5
  have hbw5 := hbw4.trans (hb5.mono hbw4.size)
  have x0 := hX5.cell 0
  have x1 := hX5.cell 1
  have hlX := hX5.lt
  simp at x0 x1
  clear hb5 hX4 hN4 hx4 hbw4
  go_wp2_with fail
  refine (WWrite_any s _ cs _ hx5).mono ?_
  rintro e w6 ⟨vc, rfl, hc6, hb6, _⟩
  have hX6 := hX5.below hb6 hX5.lt
  have hN6 := hN5.below hb6 hN5.lt
  have hx6 := hx5.below hb6
  have hy6 := hy5.below hb6
  have hbw6 := hbw5.trans (hb6.mono hbw5.size)
  clear hb6 hX5 hN5 hx5 hy5 hbw5 x0 x1 hlX
  have HWB := hide (@writeN_bad s cs)
  have HWO := hide (@writeN_ok s cs)
  generalize writeN s cs = WN at *
  obtain ⟨CB, fx, fy⟩ := WN
  simp only at hc6 ⊢
  obtain ⟨co, ccap, hvc, _, _⟩ := hc6.shape
  rw [bc_length] at hvc
  subst hvc
  unfold fltC
  go_upto_region 8 with fail
  have hbA := below_alloc' w6 (.cells #[.int .i64 fx, .int .i64 fy] 28)
  have hF7 := Bk.new w6 28 #[.int .i64 fx, .int .i64 fy]
  have hX7 := hX6.below hbA hX6.lt
  have hN7 := hN6.below hbA hN6.lt
  have hx7 := hx6.below hbA
  have hy7 := hy6.below hbA
  have hc7 := hc6.below hbA
  have hbw7 := hbw6.trans (hbA.mono hbw6.size)
  generalize w6.alloc (.cells #[.int .i64 fx, .int .i64 fy] 28) = w7 at *
  generalize w6.heap.size = zF at *
  clear hbA hX6 hN6 hx6 hy6 hc6 hbw6
  go_wp2_with fail
  refine (WRead_any _ bs _ hy7).mono ?_
  rintro e w8 ⟨vm, rfl, hm8, hb8, _⟩
  have hX8 := hX7.below hb8 hX7.lt
  have hN8 := hN7.below hb8 hN7.lt
  have hF8 := hF7.below hb8 hF7.lt
  have hx8 := hx7.below hb8
  have hy8 := hy7.below hb8
  have hc8 := hc7.below hb8
  have hbw8 := hbw7.trans (hb8.mono hbw7.size)
  clear hb8 hX7 hN7 hF7 hx7 hy7 hc7 hbw7
  generalize hRN : readN bs = RN at *
  have HRN := hide hRN
  clear hRN
  obtain ⟨⟨ms, mcs⟩, gx, gy⟩ := RN
  simp only at hm8 ⊢
  obtain ⟨mo, mcap, hvm, _, _⟩ := hm8.shape
  subst hvm
  unfold ntA fltC
  have hb89 : Below w8.heap.size w8 ((w8.alloc (.cells #[.int .i64 ms, .slice mo mcs.length mcap] 41)).alloc (.cells #[.int .i64 gx, .int .i64 gy] 28)) := (below_alloc' _ _).alloc (by simp) _
  have hM9 : Bk ((w8.alloc (.cells #[.int .i64 ms, .slice mo mcs.length mcap] 41)).alloc (.cells #[.int .i64 gx, .int .i64 gy] 28)) w8.heap.size 41 #[.int .i64 ms, .slice mo mcs.length mcap] := (Bk.new w8 _ _).below (below_alloc' _ _) (by simp)
  have hG9 : Bk ((w8.alloc (.cells #[.int .i64 ms, .slice mo mcs.length mcap] 41)).alloc (.cells #[.int .i64 gx, .int .i64 gy] 28)) (w8.heap.size + 1) 28 #[.int .i64 gx, .int .i64 gy] := Bk.new2 w8 _ _ _
  have HB89 := hide hb89
  have HM9 := hide hM9
  have HG9 := hide hG9
  clear hb89 hM9 hG9
  go_upto_region 9 with fail
  generalize (w8.alloc (.cells #[.int .i64 ms, .slice mo mcs.length mcap] 41)).alloc (.cells #[.int .i64 gx, .int .i64 gy] 28) = w9 at *
  have hb89 := HB89.out
  have hM9 := HM9.out
  have hG9 := HG9.out
  clear HB89 HM9 HG9
  have hX9 := hX8.below hb89 hX8.lt
  have hN9 := hN8.below hb89 hN8.lt
  have hF9 := hF8.below hb89 hF8.lt
  have hx9 := hx8.below hb89
  have hy9 := hy8.below hb89
  have hc9 := hc8.below hb89
  have hm9 := hm8.below hb89
  have hbw9 := hbw8.trans (hb89.mono hbw8.size)
  have hv9 := hv.below hbw9
  have hu9 := hu.below hbw9
  clear hb89 hX8 hN8 hF8 hx8 hy8 hc8 hm8 hbw8
  generalize w8.heap.size = zM at *
  have x0 := hX9.cell 0
  have x1 := hX9.cell 1
  have n0 := hN9.cell 0
  have n1 := hN9.cell 1
  simp at x0 x1 n0 n1
  go_wp2_with fail
  refine (SameNote_any s _ _ cs _ hx9 hv9).mono ?_
  rintro e w10 ⟨rfl, hb10⟩
  have hN10 := hN9.below hb10 hN9.lt
  have hF10 := hF9.below hb10 hF9.lt
  have hM10 := hM9.below hb10 hM9.lt
  have hG10 := hG9.below hb10 hG9.lt
  have hy10 := hy9.below hb10
  have hc10 := hc9.below hb10
  have hm10 := hm9.below hb10
  have hbw10 := hbw9.trans (hb10.mono hbw9.size)
  have hu10 := hu.below hbw10
  clear hb10 hX9 hN9 hF9 hM9 hG9 hx9 hy9 hc9 hm9 hv9 hu9 hbw9 x0 x1 n0 n1
  go_wp2_with fail
  refine (Same_any _ _ bs bs _ hy10 hu10).mono ?_
  rintro e w10' ⟨rfl, rfl⟩
  have hbb : (bs == bs) = true := by simp
  rw [hbb]
  clear hy10 hbb
  go_wp2_with fail
  refine (NoteOf_any _ bs _ hu10 (by omega)).mono ?_
  rw [HRN.out]
  rintro e w11 ⟨vW, rfl, hW11, hb11, _⟩
  have hN11 := hN10.below hb11 hN10.lt
  have hF11 := hF10.below hb11 hF10.lt
  have hM11 := hM10.below hb11 hM10.lt
  have hG11 := hG10.below hb11 hG10.lt
  have hc11 := hc10.below hb11
  have hm11 := hm10.below hb11
  have hbw11 := hbw10.trans (hb11.mono hbw10.size)
  clear hb11 hN10 hF10 hM10 hG10 hc10 hm10 hu10 hbw10
  simp only at hW11 ⊢
  obtain ⟨Wo, Wcap, hvW, _, _⟩ := hW11.shape
  subst hvW
  unfold ntA fltC
  have hbAB : Below w11.heap.size w11 ((w11.alloc (.cells #[.int .i64 ms, .slice Wo mcs.length Wcap] 41)).alloc (.cells #[.int .i64 gx, .int .i64 gy] 28)) := (below_alloc' _ _).alloc (by simp) _
  have hWA : Bk ((w11.alloc (.cells #[.int .i64 ms, .slice Wo mcs.length Wcap] 41)).alloc (.cells #[.int .i64 gx, .int .i64 gy] 28)) w11.heap.size 41 #[.int .i64 ms, .slice Wo mcs.length Wcap] := (Bk.new w11 _ _).below (below_alloc' _ _) (by simp)
  have hVA : Bk ((w11.alloc (.cells #[.int .i64 ms, .slice Wo mcs.length Wcap] 41)).alloc (.cells #[.int .i64 gx, .int .i64 gy] 28)) (w11.heap.size + 1) 28 #[.int .i64 gx, .int .i64 gy] := Bk.new2 w11 _ _ _
  have HBAB := hide hbAB
  have HWA := hide hWA
  have HVA := hide hVA
  clear hbAB hWA hVA
  go_upto_region 12 with fail
  generalize (w11.alloc (.cells #[.int .i64 ms, .slice Wo mcs.length Wcap] 41)).alloc (.cells #[.int .i64 gx, .int .i64 gy] 28) = wA at *
  have hbAB := HBAB.out
  have hWA := HWA.out
  have hVA := HVA.out
  clear HBAB HWA HVA
  have hNA := hN11.below hbAB hN11.lt
  have hFA := hF11.below hbAB hF11.lt
  have hMA := hM11.below hbAB hM11.lt
  have hGA := hG11.below hbAB hG11.lt
  have hcA := hc11.below hbAB
  have hmA := hm11.below hbAB
  have hwA := hW11.below hbAB
  have hbwA := hbw11.trans (hbAB.mono hbw11.size)
  have hvA := hv.below hbwA
  clear hbAB hN11 hF11 hM11 hG11 hc11 hm11 hW11 hbw11
  generalize w11.heap.size = zW at *
  have hzA := hbwA.size
  have hkeep : ∀ W, Below wA.heap.size wA W → W.cell? ⟨w.heap.size, 0, none⟩ = some (.int .i64 s) ∧ W.cell? ⟨w.heap.size, 1, none⟩ = some (.slice ao cs.length cap) ∧ W.cell? ⟨zF, 0, none⟩ = some (.int .i64 fx) ∧ W.cell? ⟨zF, 1, none⟩ = some (.int .i64 fy) ∧ W.cell? ⟨zM + 1, 0, none⟩ = some (.int .i64 gx) ∧ W.cell? ⟨zM + 1, 1, none⟩ = some (.int .i64 gy) ∧ W.cell? ⟨zW + 1, 0, none⟩ = some (.int .i64 gx) ∧ W.cell? ⟨zW + 1, 1, none⟩ = some (.int .i64 gy) ∧ W.cell? ⟨zM, 0, none⟩ = some (.int .i64 ms) ∧ W.cell? ⟨zM, 1, none⟩ = some (.slice mo mcs.length mcap) ∧ W.cell? ⟨zW, 0, none⟩ = some (.int .i64 ms) ∧ W.cell? ⟨zW, 1, none⟩ = some (.slice Wo mcs.length Wcap) := fun W h =>
    ⟨(hNA.below h hNA.lt).cell 0, (hNA.below h hNA.lt).cell 1, (hFA.below h hFA.lt).cell 0, (hFA.below h hFA.lt).cell 1, (hGA.below h hGA.lt).cell 0, (hGA.below h hGA.lt).cell 1, (hVA.below h hVA.lt).cell 0, (hVA.below h hVA.lt).cell 1, (hMA.below h hMA.lt).cell 0, (hMA.below h hMA.lt).cell 1, (hWA.below h hWA.lt).cell 0, (hWA.below h hWA.lt).cell 1⟩
  have HKEEP := hide hkeep
  have HNB := hide hNA
  have HVV := hide hvA
  have HCC := hide hcA
  have HMM := hide hmA
  have HWW := hide hwA
  obtain ⟨c0, c1, c2, c3, c4, c5, c6, c7, c8, c9, c10, c11⟩ := hkeep wA (Below.refl _ _)
  clear hkeep hNA hFA hGA hVA hMA hWA hvA hcA hmA hwA
  have hgg : (gx == gx) = true := by simp
  have hgg2 : (gy == gy) = true := by simp
  generalize hNF : noteF s cs = NF at *
  obtain ⟨nx, ny⟩ := NF
  have HNF := hide hNF
  clear hNF
  by_cases hx : nx = 0
  · subst hx
    obtain ⟨hz0, hs1, hs2, hl0, hl20, hck⟩ := noteF_zero (s := s) (cs := cs) (by rw [HNF.out])
    have hny : ny = 0 := by rw [HNF.out] at hz0; simpa using hz0
    subst hny
    have hwo := HWO.out rfl
    simp only [Prod.mk.injEq] at hwo
    obtain ⟨hcb, rfl, rfl⟩ := hwo
    obtain ⟨m, rfl⟩ : ∃ m : Nat, s = (m : Int) := ⟨s.toNat, by omega⟩
    have HCB := hide hcb
    have HCO : Hid (∀ c ∈ cs, codeC c = 0) := hide (fun c hc => fine_code (by rw [hck]) hc)
    have hm9 : m ≤ 1000000000 := by omega
    have hl9 : cs.length ≤ 1000 := by omega
    clear hcb hck hz0 HWO HWB
    go_region_held3 (fun W => W.cell? ⟨w.heap.size, 0, none⟩ = some (.int .i64 m) ∧ W.cell? ⟨w.heap.size, 1, none⟩ = some (.slice ao cs.length cap) ∧ W.cell? ⟨zF, 0, none⟩ = some (.int .i64 0) ∧ W.cell? ⟨zF, 1, none⟩ = some (.int .i64 0) ∧ W.cell? ⟨zM + 1, 0, none⟩ = some (.int .i64 gx) ∧ W.cell? ⟨zM + 1, 1, none⟩ = some (.int .i64 gy) ∧ W.cell? ⟨zW + 1, 0, none⟩ = some (.int .i64 gx) ∧ W.cell? ⟨zW + 1, 1, none⟩ = some (.int .i64 gy) ∧ W.cell? ⟨zM, 0, none⟩ = some (.int .i64 ms) ∧ W.cell? ⟨zM, 1, none⟩ = some (.slice mo mcs.length mcap) ∧ W.cell? ⟨zW, 0, none⟩ = some (.int .i64 ms) ∧ W.cell? ⟨zW, 1, none⟩ = some (.slice Wo mcs.length Wcap)) (exact HKEEP.out _ (by go_grown)) (first
      | (go_at_call 28; refine (NoteFault_any m _ cs _ (by exact HVV.out.below (by go_grown))).mono ?_; rintro e wB ⟨rfl, hbB⟩; rw [HNF.out]; unfold fltC; have hAB : Below wA.heap.size wA wB := Below.trans (by go_grown) (hbB.mono (by first | exact Nat.le_refl _ | (simp <;> omega))); have hzB := hAB.size)
      | (go_at_call 27; refine (bytesAsN_ok w.heap.size _ m _ _ cs _ (by exact (HNB.out.below hAB HNB.out.lt).below (C := wB.heap.size) (by go_grown) (by have := HNB.out.lt; omega)) (by exact (HVV.out.below hAB).below (by go_grown)) hm9 HCO.out hl9 (by rw [← HCB.out]; exact (HCC.out.below hAB).below (by go_grown))).mono ?_; rintro e wC ⟨rfl, hbC⟩; have hAC : Below wA.heap.size wA wC := hAB.trans (Below.trans (Below.mono (show Below wB.heap.size wB _ by go_grown) hzB) (hbC.mono (by first | exact hzB | (simp <;> omega)))); have hzC := hAC.size)
      | (go_at_call 24; refine (SameNote_any ms _ _ mcs _ (by exact (HMM.out.below hAC).below (by go_grown)) (by exact (HWW.out.below hAC).below (by go_grown))).mono ?_; rintro e wD ⟨rfl, hbD⟩; have hAD : Below wA.heap.size wA wD := hAC.trans (Below.trans (Below.mono (show Below wC.heap.size wC _ by go_grown) hzC) (hbD.mono (by first | exact hzC | (simp <;> omega))))))
    all_goals
      go_wp2_with fail
      go_ret
      exact ⟨rfl, hbwA.trans (hAD.mono hzA)⟩
  · have hwb := HWB.out hx
    simp only [Prod.mk.injEq] at hwb
    obtain ⟨rfl, rfl, rfl⟩ := hwb
    clear HWO HWB
    go_region_held3 (fun W => W.cell? ⟨w.heap.size, 0, none⟩ = some (.int .i64 s) ∧ W.cell? ⟨w.heap.size, 1, none⟩ = some (.slice ao cs.length cap) ∧ W.cell? ⟨zF, 0, none⟩ = some (.int .i64 fx) ∧ W.cell? ⟨zF, 1, none⟩ = some (.int .i64 fy) ∧ W.cell? ⟨zM + 1, 0, none⟩ = some (.int .i64 gx) ∧ W.cell? ⟨zM + 1, 1, none⟩ = some (.int .i64 gy) ∧ W.cell? ⟨zW + 1, 0, none⟩ = some (.int .i64 gx) ∧ W.cell? ⟨zW + 1, 1, none⟩ = some (.int .i64 gy) ∧ W.cell? ⟨zM, 0, none⟩ = some (.int .i64 ms) ∧ W.cell? ⟨zM, 1, none⟩ = some (.slice mo mcs.length mcap) ∧ W.cell? ⟨zW, 0, none⟩ = some (.int .i64 ms) ∧ W.cell? ⟨zW, 1, none⟩ = some (.slice Wo mcs.length Wcap)) (exact HKEEP.out _ (by go_grown)) (first
      | (go_at_call 28; refine (NoteFault_any s _ cs _ (by exact HVV.out.below (by go_grown))).mono ?_; rintro e wB ⟨rfl, hbB⟩; rw [HNF.out]; unfold fltC; have hAB : Below wA.heap.size wA wB := Below.trans (by go_grown) (hbB.mono (by first | exact Nat.le_refl _ | (simp <;> omega))); have hzB := hAB.size)
      | (go_at_call 27; refine (bytesAsN_bad _ _ fx fy _ hx (by exact (HCC.out.below hAB).below (by go_grown))).mono ?_; rintro e wC ⟨rfl, hbC⟩; have hAC : Below wA.heap.size wA wC := hAB.trans (Below.trans (Below.mono (show Below wB.heap.size wB _ by go_grown) hzB) (hbC.mono (by first | exact hzB | (simp <;> omega)))); have hzC := hAC.size)
      | (go_at_call 24; refine (SameNote_any ms _ _ mcs _ (by exact (HMM.out.below hAC).below (by go_grown)) (by exact (HWW.out.below hAC).below (by go_grown))).mono ?_; rintro e wD ⟨rfl, hbD⟩; have hAD : Below wA.heap.size wA wD := hAC.trans (Below.trans (Below.mono (show Below wC.heap.size wC _ by go_grown) hzC) (hbD.mono (by first | exact hzC | (simp <;> omega))))))
    all_goals
      go_wp2_with fail
      go_ret
      exact ⟨rfl, hbwA.trans (hAD.mono hzA)⟩

end Go.Proofs.Ytlebbkbbmgmmjad
