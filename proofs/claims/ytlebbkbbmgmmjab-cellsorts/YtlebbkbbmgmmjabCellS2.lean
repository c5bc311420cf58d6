/-
  The walk over cell.mergedTwo.
-/
import Derived.Test.YtlebbkbbmgmmjabCellS1
import Derived.Deep.RegionHeld3
namespace Go.Proofs.Ytlebbkbbmgmmjab
open Go.RowKit

/-- 'v[1:]' of cells as an operation. -/
theorem run_slice_fromC {P : Program} {t e : TypeId} {z : Value} {bytes : Nat} (ht : P.underlying t = some (.slice e)) (he : P.elem t = e) (hinf : (P.info? e).map (fun i => (i.zero, i.size, i.bytes)) = some (some z, 5, bytes))
    (ao : Option Addr) (n cap lo : Nat) (l : Int) (hl : l = lo) (h1 : lo ≤ n) (W : World) :
    (Instr.slice t (.slice ao n cap) (some (.int .i64 l)) none none).run P W = .ok (Go.sliced ao lo n cap 5) W := by
  obtain ⟨i, hi0, _, hsize, _⟩ := info_parts hinf
  subst hl
  rw [run_slice_l (P := P) W t ao n cap (by rw [he]; exact ht) .i64 lo (by omega) (by omega)]
  simp [he, sizeOf, typeInfo, hi0, hsize, Result.andThen]

/-- 'make([]T, 0, c)' of cells. -/
theorem wpList_makeC {P : Program} {w : World} {ops : Array Oper} {rest : List Oper} {o : Oper} {a : Act} {Q : Exit → Act → World → Prop} {l c : Operand} {t e : TypeId} {z : Value} {bytes : Nat} {C : Int} {n : Nat}
    (ht : P.underlying t = some (.slice e)) (hinf : (P.info? e).map (fun i => (i.zero, i.size, i.bytes)) = some (some z, 5, bytes))
    (hg : o.guard = none) (hop : o.op = Op.makeSlice t l c) (hl : a.eval l = .int .i64 0) (hc : a.eval c = .int .i64 C) (hC : C = (n : Int)) (hn : n ≤ 1000000) (hb : bytes ≤ 64)
    (h : ∀ w', w'.ownsRow w.heap.size e 5 (.slice (some ⟨w.heap.size, 0, none⟩) 0 n) 0 (cc []) → Below w.heap.size w w' → w.heap.size < w'.heap.size → wpList P ops Q rest (a.put o.dst (.slice (some ⟨w.heap.size, 0, none⟩) 0 n)) w') : wpList P ops Q (o :: rest) a w := by
  obtain ⟨i, hi, hz, hsize, hby⟩ := info_parts hinf
  refine wpList_make_own w hg l c t hop w.heap.size e i z 5 ht hi hz hsize .i64 .i64 C n hl hc hC (by rw [hby]; exact Nat.le_trans (Nat.mul_le_mul hb hn) (by decide)) (by unfold maxLen; omega) (Nat.le_refl _) ?_
  intro w' h1 h2
  have h3 := (h1.lt w.heap.size rfl).2
  exact h w' h1 ((Below.refl _ _).grown h2 (Nat.le_refl _) (fun k hk => by cases hk)) h3

/-- The tail of a list of cells: its value. -/
theorem tailC {w : World} {ao : Option Addr} {n cap : Nat} {c : Cl} {cs : List Cl} (h : RdC w (.slice ao n cap) (c :: cs)) :
    ∃ vo vc, (∀ W, (Instr.slice 43 (.slice ao n cap) (some (.int .i64 1)) none none).run Try.prog W = .ok (.slice vo cs.length vc) W) ∧ RdC w (.slice vo cs.length vc) cs := by
  have hn : n = cs.length + 1 := by
    obtain ⟨_, _, hv, _⟩ := h
    simp only [Value.slice.injEq] at hv
    simpa using hv.2.1
  have h1 := h.from (lo := 1) (by omega)
  have hs := run_slice_fromC (P := Try.prog) Try.underlying43 (by kernel_rfl) Try.info52 ao n cap 1 1 rfl (by omega)
  simp only [List.drop_succ_cons, List.drop_zero] at h1
  obtain ⟨vo, vc, hv, _, _⟩ := h1.shape
  rw [hv] at h1 hs
  exact ⟨vo, vc, hs, h1⟩

theorem RdC.head {w : World} {ao : Option Addr} {n cap : Nat} {c : Cl} {cs : List Cl} (h : RdC w (.slice ao n cap) (c :: cs)) : ∃ b off, ao = some ⟨b, off, none⟩ ∧ b < w.heap.size ∧ At w b off c := by
  obtain ⟨ao', cap', hv, _, _, hat⟩ := h.at
  simp only [Value.slice.injEq] at hv
  obtain ⟨rfl, _, _⟩ := hv
  obtain ⟨b, off, ha, hb, hc⟩ := hat 0 (by simp)
  have := hc 0 (by simp)
  rw [Nat.zero_mul, Nat.add_zero] at this
  exact ⟨b, off, ha, hb, this⟩

theorem RdC.slen2 {w : World} {ao : Option Addr} {n cap : Nat} {cs : List Cl} (h : RdC w (.slice ao n cap) cs) : n ≤ cap ∧ cap ≤ 9223372036854775807 := by
  obtain ⟨ao', cap', hv, h1, h2, _⟩ := h
  simp only [Value.slice.injEq] at hv
  obtain ⟨_, rfl, rfl⟩ := hv
  exact ⟨h1, by unfold maxLen at h2; omega⟩

set_option maxRecDepth 100000 in
set_option maxHeartbeats 2000000 in
theorem mergedTwo_any (va vb : Value) (xs ys : List Cl) (w : World) (ha : RdC w va xs) (hb : RdC w vb ys) (hl : xs.length + ys.length ≤ 1000) :
    Calls Try.prog 75 #[va, vb] w fun e w' => ∃ v', e = .returned v' ∧ RdC w' v' (mrg xs ys) ∧ Below w.heap.size w w' ∧ New w.heap.size v' := by
  obtain ⟨ao, cap, hva, hc1, hc2⟩ := ha.shape
  obtain ⟨bo, cbp, hvb, hd1, hd2⟩ := hb.shape
  subst hva hvb
  unfold maxLen at hc2 hd2
  have hn : xs.length + ys.length ≤ 1000000 := by omega
  go_enter Try.func75, Try.ntmps75
  go_wp2_with (at_make; go_must (refine wpList_makeC (n := xs.length + ys.length) Try.underlying43 Try.info52 rfl rfl rfl rfl (by omega) hn (by decide) ?_); intro wA hoA hbA hzA)
  go_loopw [0, 1, 5] (fun u v o wr => ∃ (ao2 bo2 : Option Addr) (ac bc : Nat) (ls ms acc : List Cl), u = .slice ao2 ls.length ac ∧ v = .slice bo2 ms.length bc ∧ RdC w (.slice ao2 ls.length ac) ls ∧ RdC w (.slice bo2 ms.length bc) ms ∧ acc ++ mrg ls ms = mrg xs ys ∧ acc.length + ls.length + ms.length ≤ 1000 ∧ wr.ownsRow w.heap.size 52 5 o acc.length (cc acc) ∧ Below w.heap.size w wr)
    (fun u v _ _ => lenV u + lenV v)
  case atStart => exact ⟨ao, bo, cap, cbp, xs, ys, [], rfl, rfl, ha, hb, rfl, by simpa using hl, hoA, hbA⟩
  case round =>
    obtain ⟨ao2, bo2, ac, bc, ls, ms, acc, rfl, rfl, hra, hrb, hgo, hlen, hown, hbel⟩ := hrel
    have HG := hide hgo
    clear hgo
    have hzr := hbel.size
    have hla := hra.slen2
    have hlb := hrb.slen2
    obtain ⟨oo, ocap, hvo⟩ := ownsC_shape hown
    subst hvo
    cases ls with
    | nil =>
      have hd1 : decide ((0 : Int) < (([] : List Cl).length : Int)) = false := by simp
      have HE : Hid (acc ++ ms = mrg xs ys) := hide (by rw [← HG.out]; simp [mrg])
      have h63 : acc.length + ([] : List Cl).length ≤ 1000000000 := by simp; omega
      have h64 : acc.length + ([] : List Cl).length + ms.length ≤ 1000000000 := by simp at hlen ⊢; omega
      have HRA := hide (hra.below hbel)
      have HRB := hide hrb
      have HBEL := hide hbel
      clear hra hrb ha hb
      go_wp2_with (first
        | (at_builtin; have k9 := ho1; go_must (refine wpList_append_rdC ho1 (HRB.out.below (HBEL.out.trans hb1)) Try.underlying43 Try.info52 rfl rfl rfl rfl rfl h64 (by decide) hz1 ?_); intro v2 w2 ho2 hb2 hg2; clear hg2)
        | (at_builtin; go_must (refine wpList_append_rdC hown HRA.out Try.underlying43 Try.info52 rfl rfl rfl rfl rfl h63 (by decide) hzr ?_); intro v1 w1 ho1 hb1 hg1; clear hg1; have hz1 : w.heap.size ≤ w1.heap.size := Nat.le_trans hzr hb1.size; obtain ⟨o1, c1, hv1⟩ := ownsC_shape ho1; subst hv1))
      go_ret
      exact ⟨_, rfl, by rw [← HE.out]; exact RdC.ofOwns (by simpa using ho2), (HBEL.out.trans hb1).trans hb2, New.owns ho2⟩
    | cons x ls =>
      cases ms with
      | nil =>
        have hd1 : decide ((0 : Int) < ((x :: ls).length : Int)) = true := by simp
        have hd2 : decide ((0 : Int) < (([] : List Cl).length : Int)) = false := by simp
        have hd3 : (0 : Int) < ((x :: ls).length : Int) := by simp
        have HE : Hid (acc ++ (x :: ls) = mrg xs ys) := hide (by rw [← HG.out, mrg_nil_right])
        have h63 : acc.length + (x :: ls).length ≤ 1000000000 := by simp at hlen ⊢; omega
        have h64 : acc.length + (x :: ls).length + ([] : List Cl).length ≤ 1000000000 := by simp at hlen ⊢; omega
        have HRA := hide (hra.below hbel)
        have HRB := hide hrb
        have HBEL := hide hbel
        clear hra hrb ha hb
        generalize hgl : (x :: ls).length = la at hlen hla hd1 hd3 h63 h64 HRA ⊢
        have HGL := hide hgl
        clear hgl
        go_wp2_with (first
          | (at_builtin; have k9 := ho1; go_must (refine wpList_append_rdC ho1 (HRB.out.below (HBEL.out.trans hb1)) Try.underlying43 Try.info52 rfl rfl rfl rfl rfl h64 (by decide) hz1 ?_); intro v2 w2 ho2 hb2 hg2; clear hg2)
          | (at_builtin; go_must (refine wpList_append_rdC hown HRA.out Try.underlying43 Try.info52 rfl rfl rfl rfl rfl (by rw [HGL.out]; exact h63) (by decide) hzr ?_); intro v1 w1 ho1 hb1 hg1; clear hg1; rw [HGL.out] at ho1; have hz1 : w.heap.size ≤ w1.heap.size := Nat.le_trans hzr hb1.size; obtain ⟨o1, c1, hv1⟩ := ownsC_shape ho1; subst hv1))
        go_ret
        exact ⟨_, rfl, by rw [← HE.out]; exact RdC.ofOwns (by simpa using ho2), (HBEL.out.trans hb1).trans hb2, New.owns ho2⟩
      | cons y ms =>
        obtain ⟨b1, off1, rfl, hb1, hx⟩ := hra.head
        obtain ⟨b2, off2, rfl, hb2, hy⟩ := hrb.head
        obtain ⟨vo1, vc1, hs1, ht1⟩ := tailC hra
        obtain ⟨vo2, vc2, hs2, ht2⟩ := tailC hrb
        have hd1 : (0 : Int) < ((x :: ls).length : Int) := by simp
        have hd2 : (0 : Int) < ((y :: ms).length : Int) := by simp
        have hd3 : decide ((0 : Int) < ((x :: ls).length : Int)) = true := by simp
        have hd4 : decide ((0 : Int) < ((y :: ms).length : Int)) = true := by simp
        have hlen2 : acc.length + ls.length + ms.length + 2 ≤ 1000 := by simp at hlen; omega
        have hgl1 : (x :: ls).length = ls.length + 1 := by simp
        have hgl2 : (y :: ms).length = ms.length + 1 := by simp
        have HGL1 := hide hgl1
        have HGL2 := hide hgl2
        clear hgl1 hgl2
        have hkeep : ∀ W, Below w.heap.size w W → (W.cell? ⟨b1, off1, none⟩ = some (.string x.row) ∧ W.cell? ⟨b1, off1 + 1, none⟩ = some (.string x.col) ∧ W.cell? ⟨b1, off1 + 2, none⟩ = some (.int .i64 x.time) ∧ W.cell? ⟨b1, off1 + 3, none⟩ = some (.bool x.gone) ∧ W.cell? ⟨b1, off1 + 4, none⟩ = some (.string x.val)) ∧ (W.cell? ⟨b2, off2, none⟩ = some (.string y.row) ∧ W.cell? ⟨b2, off2 + 1, none⟩ = some (.string y.col) ∧ W.cell? ⟨b2, off2 + 2, none⟩ = some (.int .i64 y.time) ∧ W.cell? ⟨b2, off2 + 3, none⟩ = some (.bool y.gone) ∧ W.cell? ⟨b2, off2 + 4, none⟩ = some (.string y.val)) := fun W h => by
          obtain ⟨c0, c1, c2, c3, c4⟩ := hx.below h
          obtain ⟨d0, d1, d2, d3, d4⟩ := hy.below h
          exact ⟨⟨c0, c1, c2, c3, c4⟩, d0, d1, d2, d3, d4⟩
        have HK := hide hkeep
        obtain ⟨⟨c0, c1, c2, c3, c4⟩, d0, d1, d2, d3, d4⟩ := hkeep wr hbel
        have HT1 := hide ht1
        have HT2 := hide ht2
        have HRA := hide hra
        have HRB := hide hrb
        clear hkeep hx hy ht1 ht2 hra hrb ha hb hlen
        generalize hga : (x :: ls).length = la at hla hd1 hd3 hs1 HGL1 HRA ⊢
        generalize hgb : (y :: ms).length = lb at hlb hd2 hd4 hs2 HGL2 HRB ⊢
        have HGA := hide hga
        have HGB := hide hgb
        clear hga hgb
        go_wp2_with fail
        go_region_held3 (fun W => (W.cell? ⟨b1, off1, none⟩ = some (.string x.row) ∧ W.cell? ⟨b1, off1 + 1, none⟩ = some (.string x.col) ∧ W.cell? ⟨b1, off1 + 2, none⟩ = some (.int .i64 x.time) ∧ W.cell? ⟨b1, off1 + 3, none⟩ = some (.bool x.gone) ∧ W.cell? ⟨b1, off1 + 4, none⟩ = some (.string x.val)) ∧ (W.cell? ⟨b2, off2, none⟩ = some (.string y.row) ∧ W.cell? ⟨b2, off2 + 1, none⟩ = some (.string y.col) ∧ W.cell? ⟨b2, off2 + 2, none⟩ = some (.int .i64 y.time) ∧ W.cell? ⟨b2, off2 + 3, none⟩ = some (.bool y.gone) ∧ W.cell? ⟨b2, off2 + 4, none⟩ = some (.string y.val))) (exact HK.out _ (by go_grown)) (first
          | (go_at_call 52; refine (order_any x y _).mono ?_; rintro e wc ⟨rfl, hb2⟩; have hbx : Below wr.heap.size wr wc := Below.trans (by go_grown) hb2; have hbwx : Below w.heap.size w wc := hbel.trans (hbx.mono hzr)))
        have hzx := hbwx.size
        have how := owns_below hown hbx
        clear c0 c1 c2 c3 c4 d0 d1 d2 d3 d4 hown
        obtain ⟨⟨c0, c1, c2, c3, c4⟩, d0, d1, d2, d3, d4⟩ := HK.out wc hbwx
        have hl8 : acc.length ≤ 100000000 := by omega
        have hord : ordC x y < 0 ∨ (¬ ordC x y < 0 ∧ (ordC x y == 0) = true) ∨ (¬ ordC x y < 0 ∧ (ordC x y == 0) = false) := by
          by_cases h1 : ordC x y < 0
          · exact .inl h1
          · by_cases h2 : ordC x y = 0
            · exact .inr (.inl ⟨h1, by simp [h2]⟩)
            · exact .inr (.inr ⟨h1, by simp [h2]⟩)
        rcases hord with h1 | ⟨h1, h2⟩ | ⟨h1, h2⟩
        · have HM := hide (mrg_left (x := x) (y := y) (a := ls) (b := ms) h1)
          go_wp2_with (at_builtin; go_must (refine wpList_append_oneC (c := x) how Try.underlying43 Try.info52 rfl rfl rfl rfl rfl hl8 (by decide) hzx ?_); intro v4 w4 ho4 hb4 hg4; clear hg4)
          go_roundw
          case rel => exact ⟨_, _, _, _, ls, y :: ms, acc ++ [x], rfl, by rw [HGB.out], HT1.out, by rw [HGB.out]; exact HRB.out, by rw [← HG.out, HM.out]; simp, by simp; omega, by simpa using ho4, hbwx.trans hb4⟩
          case measure => simp only [lenV]; have := HGL1.out; omega
        · have HM := hide (mrg_both (x := x) (y := y) (a := ls) (b := ms) (by simpa using h2))
          go_wp2_with (at_builtin; go_must (refine wpList_append_oneC (c := y) how Try.underlying43 Try.info52 rfl rfl rfl rfl rfl hl8 (by decide) hzx ?_); intro v4 w4 ho4 hb4 hg4; clear hg4)
          go_roundw
          case rel => exact ⟨_, _, _, _, ls, ms, acc ++ [y], rfl, rfl, HT1.out, HT2.out, by rw [← HG.out, HM.out]; simp, by simp; omega, by simpa using ho4, hbwx.trans hb4⟩
          case measure => simp only [lenV]; have := HGL1.out; have := HGL2.out; omega
        · have HM := hide (mrg_right (x := x) (y := y) (a := ls) (b := ms) (by have := beq_eq_false_iff_ne.1 h2; omega))
          go_wp2_with (at_builtin; go_must (refine wpList_append_oneC (c := y) how Try.underlying43 Try.info52 rfl rfl rfl rfl rfl hl8 (by decide) hzx ?_); intro v4 w4 ho4 hb4 hg4; clear hg4)
          go_roundw
          case rel => exact ⟨_, _, _, _, x :: ls, ms, acc ++ [y], by rw [HGA.out], rfl, by rw [HGA.out]; exact HRA.out, HT2.out, by rw [← HG.out, HM.out]; simp, by simp; omega, by simpa using ho4, hbwx.trans hb4⟩
          case measure => simp only [lenV]; have := HGL2.out; omega

end Go.Proofs.Ytlebbkbbmgmmjab
