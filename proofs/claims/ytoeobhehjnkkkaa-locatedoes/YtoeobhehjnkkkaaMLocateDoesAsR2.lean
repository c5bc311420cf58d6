/-
  Texts joined: AsR2.
-/
import Derived.Test.YtoeobhehjnkkkaaMLocateDoesAsR1
/-
  slices.Replace at slots, as renew calls it: where what is replaced stands in the middle. (Written by as21.py.)
-/
namespace Go.Proofs.Ytoeobhehjnkkkaa
open Go.RowKit
set_option linter.unusedVariables false

theorem slicedG (g lo hi cap K : Nat) (h : lo ≠ cap) : Go.sliced (some ⟨g, 0, none⟩) lo hi cap K = .slice (some ⟨g, lo * K, none⟩) (hi - lo) (cap - lo) := by
  unfold Go.sliced
  rw [if_neg (Ne.symm h), Option.map_some, Addr.add_lit, Nat.zero_add]

theorem slicedG0 (g hi cap K : Nat) : Go.sliced (some ⟨g, 0, none⟩) 0 hi cap K = .slice (some ⟨g, 0, none⟩) hi cap := by
  unfold Go.sliced
  split <;> simp [Addr.add_lit]

/-- The cells of a row of one's own, from a place on. -/
theorem owns_src {w : World} {g n i : Nat} {cur : Array Value} {l : List Sl} (hg : w.heap[g]? = some (.cells cur 46 (0, 0))) (ht : cur.toList.take (n * 6) = slE.vs l) (hn : l.length = n) :
    ∀ j v, (slE.vs (l.drop i))[j]? = some v → w.cell? ((⟨g, i * 6, none⟩ : Addr).add j) = some v := by
  intro j v hv
  have hj := (List.getElem?_eq_some_iff.1 hv).1
  rw [vs_length, List.length_drop] at hj
  rw [Addr.add_lit, cell_of_row _ _ _ _ _ _ hg, ← hv, ← vs_drop, List.getElem?_drop, ← ht, List.getElem?_take]
  rw [if_pos (by omega)]
  simp

/-- Two rows in two blocks do not overlap. -/
theorem ov_apart {W : World} {g vb o lb cb lc cc : Nat} {cur cvr : Array Value} (hg : W.heap[g]? = some (.cells cur 46 (0, 0))) (hvg : W.heap[vb]? = some (.cells cvr 46 (0, 0))) (hne : vb ≠ g) (hz : cvr.size ≠ 0) :
    (callFunc 127 #[.slice (some ⟨g, o, none⟩) lb cb, .slice (some ⟨vb, 0, none⟩) lc cc]).run Try.prog W = .ok (.value (.bool false)) W := by
  rw [run_callFunc_extern Try.func127 (by kernel_rfl) (by kernel_rfl) (by kernel_rfl) (e := Extern.SlicesOverlaps.overlaps #[25, 25] #[4]) (by kernel_rfl),
    Lib.run_overlaps_apart W 25 4 46 Try.underlying25 6 (fun w => by kernel_rfl) ⟨g, o, none⟩ ⟨vb, 0, none⟩ lb cb lc cc (fun q => hne q.symm) 46 46 cur.size cvr.size (by unfold World.shape?; rw [hg]) (by unfold World.shape?; rw [hvg]) hz (by unfold World.frozen?; simp [hg]) (by unfold World.frozen?; simp [hg])]
  rfl

set_option maxRecDepth 100000 in
set_option maxHeartbeats 4000000 in
theorem replMid2 (base base2 g vb cap vcap i : Nat) (l : List Sl) (a b : Sl) (w : World) (hown : w.ownsRow base 46 6 (.slice (some ⟨g, 0, none⟩) l.length cap) l.length (slE.vs l)) (hi : i + 1 < l.length) (hl : l.length ≤ 1000000) (hr : l.length + 1 ≤ cap) (hvo : w.ownsRow base2 46 6 (.slice (some ⟨vb, 0, none⟩) 2 vcap) 2 (slE.vs [a,b])) (hne : vb ≠ g) (hbw : base ≤ w.heap.size) :
    Calls Try.prog 109 #[.slice (some ⟨g, 0, none⟩) l.length cap, .int .i64 i, .int .i64 ((i : Int) + 1), .slice (some ⟨vb, 0, none⟩) 2 vcap] w (RepTo w base g (l.take i ++ [a,b] ++ l.drop (i + 1))) := by
  obtain ⟨g', _, cur, hv0, hbg, hg, hnc, hcm, hcs, htk⟩ := owns_pos hown (by omega)
  simp only [Value.slice.injEq, Option.some.injEq, Addr.mk.injEq] at hv0
  obtain ⟨⟨rfl, -, -⟩, -, rfl⟩ := hv0
  obtain ⟨vb', _, cvr, hv1, hvbg, hvg, hvnc, hvcm, hvcs, hvtk⟩ := owns_pos hvo (by omega)
  simp only [Value.slice.injEq, Option.some.injEq, Addr.mk.injEq] at hv1
  obtain ⟨⟨rfl, -, -⟩, -, rfl⟩ := hv1
  have hcm2 := hcm
  unfold maxLen at hcm2
  obtain ⟨D, hD⟩ : ∃ D : Nat, l.length = i + 1 + D := ⟨l.length - (i + 1), by omega⟩
  have hsl : (l.drop (i + 1)).length = D := by rw [List.length_drop]; omega
  have htl : (l.take i).length = i := by rw [List.length_take]; omega
  have hdl : (slE.vs (l.drop (i + 1))).length = D * 6 := by rw [vs_length, hsl]
  have hvl : (slE.vs [a,b]).length = 2 * 6 := vs_length _
  have hRt : cur.toList.take (i * 6) = slE.vs (l.take i) := by
    rw [← vs_take, ← htk, List.take_take]
    congr 1
    omega
  have hRl : cur.toList.length = cap * 6 := by rw [Array.length_toList, hcs]
  have hgl : g < w.heap.size := (Array.getElem?_eq_some_iff.1 hg).1
  have hvgl : vb < w.heap.size := (Array.getElem?_eq_some_iff.1 hvg).1
  have hs0 := run_slice_bothK (P := Try.prog) Try.underlying25 (by kernel_rfl) infoSlot (some ⟨g, 0, none⟩) l.length cap i (i + 1) i ((i : Int) + 1) rfl (by omega) (by omega) (by omega)
  have hsA := run_slice_uptoK (P := Try.prog) Try.underlying25 (by kernel_rfl) infoSlot (some ⟨g, 0, none⟩) l.length cap i i rfl (by omega)
  have hsB := run_slice_fromK (P := Try.prog) Try.underlying25 (by kernel_rfl) infoSlot (some ⟨g, 0, none⟩) l.length cap (i + 1) ((i : Int) + 1) (by simp) (by omega)
  rw [slicedG0] at hsA
  rw [slicedG _ _ _ _ _ (by omega), show l.length - (i + 1) = D by omega] at hsB
  generalize hsx : Go.sliced (some ⟨g, 0, none⟩) i (i + 1) cap 6 = sx at hs0
  have e1 : ((i : Int) == (i : Int) + 1) = false := beq_eq_false_iff_ne.2 (by omega)
  have e2 : ((i : Int) + 1 == (l.length : Int)) = false := beq_eq_false_iff_ne.2 (by omega)
  have hw1 : IntKind.i64.wrap ((i : Int) + 2) = (i : Int) + 2 := by rw [IntKind.wrap_i64]; omega
  have hw2 : IntKind.i64.wrap ((i : Int) + 2 + (D : Int)) = (i : Int) + 2 + D := by rw [IntKind.wrap_i64]; omega
  obtain ⟨N, hN⟩ : ∃ N : Nat, N = i + 2 + D := ⟨_, rfl⟩
  have hNl : (l.take i ++ [a,b] ++ l.drop (i + 1)).length = N := by simp only [List.length_append, htl, hsl, hN]; rfl
  have HN := hide hNl
  have hcz : cvr.size ≠ 0 := by omega
  have hvsrc : ∀ j v, (slE.vs [a,b])[j]? = some v → w.cell? ((⟨vb, 0, none⟩ : Addr).add j) = some v := owns_src (i := 0) hvg hvtk rfl
  have hsrc := owns_src (i := i + 1) hg htk rfl
  have hsC := run_slice_uptoK (P := Try.prog) Try.underlying25 (by kernel_rfl) infoSlot (some ⟨g, 0, none⟩) l.length cap N ((i : Int) + 2 + D) (by rw [hN]; simp) (by omega)
  rw [slicedG0] at hsC
  have hsD := run_slice_fromK (P := Try.prog) Try.underlying25 (by kernel_rfl) infoSlot (some ⟨g, 0, none⟩) N cap (i + 2) ((i : Int) + 2) (by simp) (by omega)
  rw [slicedG _ _ _ _ _ (by omega)] at hsD
  have hsE := run_slice_fromK (P := Try.prog) Try.underlying25 (by kernel_rfl) infoSlot (some ⟨g, 0, none⟩) N cap i ((i : Int)) (by simp) (by omega)
  rw [slicedG _ _ _ _ _ (by omega)] at hsE
  rw [show N - (i + 2) = D by omega] at hsD
  have hm1 : Nat.min D D = D := Nat.min_self D
  have hm2 : Nat.min 2 (N - i) = 2 := Nat.min_eq_left (by omega)
  have hrow := ovw_sm (E := slE) (R := cur.toList) (p := i) (i := i + 2) (P := l.take i) (M := [a, b]) (S := l.drop (i + 1)) hRt htl rfl (by rw [hsl, hRl]; exact Nat.mul_le_mul_right _ (by omega))
  rw [hsl, show i + 2 + D = N from hN.symm, hRl] at hrow
  have hfit1 : (i + 2) * 6 + (slE.vs (l.drop (i + 1))).length ≤ cur.toList.length := by rw [hdl, hRl]; omega
  have hfit2 : i * 6 + (slE.vs [a, b]).length ≤ (ovw cur.toList ((i + 2) * 6) (slE.vs (l.drop (i + 1)))).length := by rw [hrow.2.2, hvl]; omega
  have hone1 : ∀ v ∈ slE.vs (l.drop (i + 1)), v.oneCell' = true := vs_one _
  have hone2 : ∀ v ∈ slE.vs [a, b], v.oneCell' = true := vs_one _
  have HROW := hide hrow
  have hNc : N ≤ cap := by omega
  have hg' : w.heap[g]? = some (.cells cur.toList.toArray 46 (0, 0)) := by rw [Array.toArray_toList]; exact hg
  obtain ⟨R1, hR1⟩ : ∃ R1, ovw cur.toList ((i + 2) * 6) (slE.vs (l.drop (i + 1))) = R1 := ⟨_, rfl⟩
  have HR1 := hide hR1
  rw [hR1] at hfit2
  have e3 : decide ((cap : Int) < (i : Int) + 2 + D) = false := decide_eq_false (by omega)
  have e4 : decide ((i : Int) + 2 ≤ (i : Int) + 1) = false := decide_eq_false (by omega)
  clear hown hvo hsx hi hRt hRl hrow hR1 hg hcs htk hnc hNl hsl htl hr hcm2 hN hgl hvgl hD
  generalize hO1 : (i + 1) * 6 = O1 at *
  generalize hO2 : (i + 2) * 6 = O2 at *
  generalize hO3 : i * 6 = O3 at *
  generalize hC1 : cap - (i + 1) = C1 at *
  generalize hC2 : cap - (i + 2) = C2 at *
  generalize hC3 : cap - i = C3 at *
  generalize hL3 : N - i = L3 at *
  clear hO1 hO2 hO3 hC1 hC2 hC3 hL3
  go_enter Try.func109, Try.ntmps109
  go_upto_region 9 with fail
  go_quiet (fail)
  have hgW : (w.drewN nq).heap[g]? = some (.cells cur.toList.toArray 46 (0, 0)) := hg'
  have hvgW : (w.drewN nq).heap[vb]? = some (.cells cvr 46 (0, 0)) := hvg
  have hsrcW : ∀ j v, (slE.vs (l.drop (i + 1)))[j]? = some v → (w.drewN nq).cell? ((⟨g, O1, none⟩ : Addr).add j) = some v := hsrc
  have hGW : w.grownBy (w.drewN nq) (some g) := ⟨rfl, rfl, rfl, Nat.le_refl _, fun _ _ _ => rfl⟩
  generalize w.drewN nq = W at hgW hvgW hsrcW hGW ⊢
  have hov := fun o lb cb lc cc => ov_apart (o := o) (lb := lb) (cb := cb) (lc := lc) (cc := cc) hgW hvgW hne hcz
  go_upto_region 22 with (simp only [hov])
  go_region_law (refine step_copyG (K := 6) (m := D) (cs := slE.vs (l.drop (i + 1))) Try.underlying25 Try.sizeSlot (by exact hgW) hm1 hdl (by exact hsrcW) hfit1 hone1 rfl rfl (by simp [Act.eval, Act.put] <;> rfl) (by simp [Act.eval, Act.put] <;> rfl) ?_; intro w1 hq1)
  all_goals
    rw [HR1.out] at hq1
    have hvl2 := (Array.getElem?_eq_some_iff.1 hvgW).1
    have hvg1 : w1.heap[vb]? = some (.cells cvr 46 (0, 0)) := (hq1.grw.block vb hvl2 (fun q => hne (by cases q; rfl))).trans hvgW
    have hrow1 := hq1.row
    have hG1 : w.grownBy w1 (some g) := grown_twice hGW ⟨hq1.grw.os, hq1.grw.tape, hq1.grw.output, hq1.grw.size, hq1.grw.block⟩
    have hsrc2 : ∀ j v, (slE.vs [a, b])[j]? = some v → w1.cell? ((⟨vb, 0, none⟩ : Addr).add j) = some v := owns_src (i := 0) hvg1 hvtk rfl
    clear hq1 hov
    go_wp2_with (refine wpList_copyG (K := 6) (m := 2) (cs := slE.vs [a, b]) Try.underlying25 Try.sizeSlot hrow1 hm2 hvl hsrc2 hfit2 hone2 rfl rfl rfl rfl ?_; intro w2 hq2)
    go_ret
    rw [← HR1.out] at hq2
    exact ⟨.slice (some ⟨g, 0, none⟩) N cap, rfl, ⟨by rw [vs_length], .inr ⟨g, cap, _, by rw [HN.out], hbg, hq2.row, by rw [HN.out]; exact hNc, hcm, by rw [List.size_toArray]; exact HROW.out.2.1, by rw [HN.out]; exact HROW.out.1⟩⟩, grown_twice hG1 hq2.grw⟩

set_option maxRecDepth 100000 in
set_option maxHeartbeats 4000000 in
theorem replMid1 (base base2 g vb cap vcap i : Nat) (l : List Sl) (a : Sl) (w : World) (hown : w.ownsRow base 46 6 (.slice (some ⟨g, 0, none⟩) l.length cap) l.length (slE.vs l)) (hi : i + 2 < l.length) (hl : l.length ≤ 1000000) (hvo : w.ownsRow base2 46 6 (.slice (some ⟨vb, 0, none⟩) 1 vcap) 1 (slE.vs [a])) (hne : vb ≠ g) (hbw : base ≤ w.heap.size) :
    Calls Try.prog 109 #[.slice (some ⟨g, 0, none⟩) l.length cap, .int .i64 i, .int .i64 ((i : Int) + 2), .slice (some ⟨vb, 0, none⟩) 1 vcap] w (RepTo w base g (l.take i ++ [a] ++ l.drop (i + 2))) := by
  obtain ⟨g', _, cur, hv0, hbg, hg, hnc, hcm, hcs, htk⟩ := owns_pos hown (by omega)
  simp only [Value.slice.injEq, Option.some.injEq, Addr.mk.injEq] at hv0
  obtain ⟨⟨rfl, -, -⟩, -, rfl⟩ := hv0
  obtain ⟨vb', _, cvr, hv1, hvbg, hvg, hvnc, hvcm, hvcs, hvtk⟩ := owns_pos hvo (by omega)
  simp only [Value.slice.injEq, Option.some.injEq, Addr.mk.injEq] at hv1
  obtain ⟨⟨rfl, -, -⟩, -, rfl⟩ := hv1
  have hcm2 := hcm
  unfold maxLen at hcm2
  obtain ⟨D, hD⟩ : ∃ D : Nat, l.length = i + 2 + D := ⟨l.length - (i + 2), by omega⟩
  have hsl : (l.drop (i + 2)).length = D := by rw [List.length_drop]; omega
  have htl : (l.take i).length = i := by rw [List.length_take]; omega
  have hdl : (slE.vs (l.drop (i + 2))).length = D * 6 := by rw [vs_length, hsl]
  have hvl : (slE.vs [a]).length = 1 * 6 := vs_length _
  have hRt : cur.toList.take (i * 6) = slE.vs (l.take i) := by
    rw [← vs_take, ← htk, List.take_take]
    congr 1
    omega
  have hRl : cur.toList.length = cap * 6 := by rw [Array.length_toList, hcs]
  have hgl : g < w.heap.size := (Array.getElem?_eq_some_iff.1 hg).1
  have hvgl : vb < w.heap.size := (Array.getElem?_eq_some_iff.1 hvg).1
  have hs0 := run_slice_bothK (P := Try.prog) Try.underlying25 (by kernel_rfl) infoSlot (some ⟨g, 0, none⟩) l.length cap i (i + 2) i ((i : Int) + 2) rfl (by omega) (by omega) (by omega)
  have hsA := run_slice_uptoK (P := Try.prog) Try.underlying25 (by kernel_rfl) infoSlot (some ⟨g, 0, none⟩) l.length cap i i rfl (by omega)
  have hsB := run_slice_fromK (P := Try.prog) Try.underlying25 (by kernel_rfl) infoSlot (some ⟨g, 0, none⟩) l.length cap (i + 2) ((i : Int) + 2) (by simp) (by omega)
  rw [slicedG0] at hsA
  rw [slicedG _ _ _ _ _ (by omega), show l.length - (i + 2) = D by omega] at hsB
  generalize hsx : Go.sliced (some ⟨g, 0, none⟩) i (i + 2) cap 6 = sx at hs0
  have e1 : ((i : Int) == (i : Int) + 2) = false := beq_eq_false_iff_ne.2 (by omega)
  have e2 : ((i : Int) + 2 == (l.length : Int)) = false := beq_eq_false_iff_ne.2 (by omega)
  have hw1 : IntKind.i64.wrap ((i : Int) + 1) = (i : Int) + 1 := by rw [IntKind.wrap_i64]; omega
  have hw2 : IntKind.i64.wrap ((i : Int) + 1 + (D : Int)) = (i : Int) + 1 + D := by rw [IntKind.wrap_i64]; omega
  obtain ⟨N, hN⟩ : ∃ N : Nat, N = i + 1 + D := ⟨_, rfl⟩
  have hNl : (l.take i ++ [a] ++ l.drop (i + 2)).length = N := by simp only [List.length_append, htl, hsl, hN]; rfl
  have HN := hide hNl
  have hcz : cvr.size ≠ 0 := by omega
  have hvsrc : ∀ j v, (slE.vs [a])[j]? = some v → w.cell? ((⟨vb, 0, none⟩ : Addr).add j) = some v := owns_src (i := 0) hvg hvtk rfl
  have hsC := run_slice_uptoK (P := Try.prog) Try.underlying25 (by kernel_rfl) infoSlot (some ⟨g, 0, none⟩) l.length cap N ((i : Int) + 1 + D) (by rw [hN]; simp) (by omega)
  rw [slicedG0] at hsC
  have hsD := run_slice_fromK (P := Try.prog) Try.underlying25 (by kernel_rfl) infoSlot (some ⟨g, 0, none⟩) N cap (i + 1) ((i : Int) + 1) (by simp) (by omega)
  rw [slicedG _ _ _ _ _ (by omega)] at hsD
  have hsE := run_slice_fromK (P := Try.prog) Try.underlying25 (by kernel_rfl) infoSlot (some ⟨g, 0, none⟩) N cap i ((i : Int)) (by simp) (by omega)
  rw [slicedG _ _ _ _ _ (by omega)] at hsE
  have hsF := run_slice_fromK (P := Try.prog) Try.underlying25 (by kernel_rfl) infoSlot (some ⟨g, 0, none⟩) l.length cap N ((i : Int) + 1 + D) (by rw [hN]; simp) (by omega)
  rw [slicedG _ _ _ _ _ (by omega)] at hsF
  rw [show N - (i + 1) = D by omega] at hsD
  rw [show l.length - N = 1 by omega] at hsF
  have hm1 : Nat.min D D = D := Nat.min_self D
  have hm2 : Nat.min 1 (N - i) = 1 := Nat.min_eq_left (by omega)
  have hrow := ovw_ms (E := slE) (R := cur.toList) (p := i) (i := i + 1) (P := l.take i) (M := [a]) (S := l.drop (i + 2)) hRt htl rfl (by rw [hsl, hRl]; exact Nat.mul_le_mul_right _ (by omega))
  rw [hsl, show i + 1 + D = N from hN.symm, hRl] at hrow
  have hfit2 : i * 6 + (slE.vs [a]).length ≤ cur.toList.length := by rw [hvl, hRl]; omega
  have hfit1 : (i + 1) * 6 + (slE.vs (l.drop (i + 2))).length ≤ (ovw cur.toList (i * 6) (slE.vs [a])).length := by rw [hrow.2.2, hdl]; omega
  have hone1 : ∀ v ∈ slE.vs (l.drop (i + 2)), v.oneCell' = true := vs_one _
  have hone2 : ∀ v ∈ slE.vs [a], v.oneCell' = true := vs_one _
  have HROW := hide hrow
  have hNc : N ≤ cap := by omega
  have hg' : w.heap[g]? = some (.cells cur.toList.toArray 46 (0, 0)) := by rw [Array.toArray_toList]; exact hg
  have htail : (ovw cur.toList (i * 6) (slE.vs [a])).drop ((i + 2) * 6) = cur.toList.drop ((i + 2) * 6) := by
    have hA : (cur.toList.take (i * 6) ++ slE.vs [a]).length = (i + 1) * 6 := by rw [List.length_append, take_len (by omega), hvl]; omega
    rw [ovw, hvl, show (i + 2) * 6 = (i + 1) * 6 + 6 by omega, ← List.drop_drop, List.drop_left' hA, List.drop_drop]
    congr 1
    omega
  have htl2 : ∀ j v, (slE.vs (l.drop (i + 2)))[j]? = some v → (ovw cur.toList (i * 6) (slE.vs [a])).toArray[(i + 2) * 6 + j]? = some v := by
    intro j v hv
    have hj := (List.getElem?_eq_some_iff.1 hv).1
    rw [hdl] at hj
    rw [List.getElem?_toArray, ← List.getElem?_drop, htail, List.getElem?_drop]
    rw [← vs_drop, List.getElem?_drop, ← htk, List.getElem?_take, if_pos (by omega)] at hv
    exact hv
  obtain ⟨R1, hR1⟩ : ∃ R1, ovw cur.toList (i * 6) (slE.vs [a]) = R1 := ⟨_, rfl⟩
  have HR1 := hide hR1
  rw [hR1] at hfit1 htl2
  have HTL := hide htl2
  have e3 : decide ((cap : Int) < (i : Int) + 1 + D) = false := decide_eq_false (by omega)
  have e4 : decide ((i : Int) + 1 ≤ (i : Int) + 2) = true := decide_eq_true (by omega)
  have hNn : N < cap := by omega
  clear hown hvo hsx hi hRt hRl hrow hR1 hg hcs htk hnc hNl hsl htl hcm2 hN hgl hvgl hD htail htl2
  have hO1b : (i + 2) * 6 = (i + 2) * 6 := rfl
  generalize hO1 : (i + 2) * 6 = O1 at *
  generalize hO2 : (i + 1) * 6 = O2 at *
  generalize hO3 : i * 6 = O3 at *
  generalize hC1 : cap - (i + 2) = C1 at *
  generalize hC2 : cap - (i + 1) = C2 at *
  generalize hC3 : cap - i = C3 at *
  generalize hL3 : N - i = L3 at *
  clear hO1 hO2 hO3 hC1 hC2 hC3 hL3
  go_enter Try.func109, Try.ntmps109
  go_upto_region 9 with fail
  go_quiet (fail)
  have hgW : (w.drewN nq).heap[g]? = some (.cells cur.toList.toArray 46 (0, 0)) := hg'
  have hvgW : (w.drewN nq).heap[vb]? = some (.cells cvr 46 (0, 0)) := hvg
  have hvsW : ∀ j v, (slE.vs [a])[j]? = some v → (w.drewN nq).cell? ((⟨vb, 0, none⟩ : Addr).add j) = some v := hvsrc
  have hGW : w.grownBy (w.drewN nq) (some g) := ⟨rfl, rfl, rfl, Nat.le_refl _, fun _ _ _ => rfl⟩
  generalize w.drewN nq = W at hgW hvgW hvsW hGW ⊢
  go_upto_region 18 with (refine wpList_copyG (K := 6) (m := 1) (cs := slE.vs [a]) Try.underlying25 Try.sizeSlot hgW hm2 hvl hvsW hfit2 hone2 rfl rfl rfl rfl ?_; intro w1 hq1)
  rw [HR1.out] at hq1
  have hrow1 := hq1.row
  have hG1 : w.grownBy w1 (some g) := grown_twice hGW hq1.grw
  have hsrc1 : ∀ j v, (slE.vs (l.drop (i + 2)))[j]? = some v → w1.cell? ((⟨g, O1, none⟩ : Addr).add j) = some v := fun j v hv => by
    rw [Addr.add_lit, cell_of_row _ _ _ _ _ _ hrow1]
    exact HTL.out j v hv
  clear hq1
  go_region_law (refine step_copyG (K := 6) (m := D) (cs := slE.vs (l.drop (i + 2))) Try.underlying25 Try.sizeSlot (by exact hrow1) hm1 hdl (by exact hsrc1) hfit1 hone1 rfl rfl (by simp [Act.eval, Act.put] <;> rfl) (by simp [Act.eval, Act.put] <;> rfl) ?_; intro w2 hq2)
  all_goals
    have hG2 : w.grownBy w2 (some g) := grown_twice hG1 ⟨hq2.grw.os, hq2.grw.tape, hq2.grw.output, hq2.grw.size, hq2.grw.block⟩
    rw [← HR1.out] at hq2
    have how : w2.ownsRow base 46 6 (.slice (some ⟨g, 0, none⟩) N cap) N (slE.vs (l.take i ++ [a] ++ l.drop (i + 2))) := ⟨by rw [vs_length, HN.out], .inr ⟨g, cap, _, rfl, hbg, hq2.row, hNc, hcm, by rw [List.size_toArray]; exact HROW.out.2.1, HROW.out.1⟩⟩
    obtain ⟨w3, hr3, ho3, hg3⟩ := run_clear_behind (K := 6) (ty := 0) (c := cap - N) Try.underlying25 rfl slot_one how hNn zero_slot
    have HO := hide ho3
    have HG := hide (grown_twice hG2 hg3)
    clear hq2 how ho3 hg3
    go_wp2_with fail
    go_ret
    refine ⟨.slice (some ⟨g, 0, none⟩) N cap, rfl, ?_, HG.out⟩
    have e := HN.out
    have o := HO.out
    simp only [List.append_assoc, List.cons_append, List.nil_append] at e o ⊢
    rw [e]
    exact o

end Go.Proofs.Ytoeobhehjnkkkaa
