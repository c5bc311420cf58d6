/-
  Texts joined: AsR3.
-/
import Derived.Test.YtoeobhehjnkkkaaMLocateDoesAsR2
/-
  slices.Replace at slots, as renew calls it: where there is no room. (Written by as21.py.)
-/
namespace Go.Proofs.Ytoeobhehjnkkkaa
open Go.RowKit
set_option linter.unusedVariables false

/-- 'append(s[:i], make(S, k)...)' where there is no room: a new row. -/
theorem grow_zeros {W : World} {g i cap k : Nat} {cur : Array Value} {l : List Sl} (hg : W.heap[g]? = some (.cells cur 46 (0, 0))) (ht : cur.toList.take (i * 6) = slE.vs l) (hl : l.length = i) (hk : 0 < k) (hc : cap < i + k) (h6 : i + k ≤ 2000000) :
    ∃ (G : Nat) (w1 : World) (ROW : List Value), i + k ≤ G ∧ G ≤ maxLen ∧ ROW.length = G * 6 ∧ ROW.take (i * 6) = slE.vs l ∧ (Builtin.append_ #[25, 3] 25 #[.slice (some ⟨g, 0, none⟩) i cap, .int .i64 ((k : Nat) : Int)]).run Try.prog W = .ok (.slice (some ⟨W.heap.size, 0, none⟩) (i + k) G) w1 ∧
      w1.heap[W.heap.size]? = some (.cells ROW.toArray 46 (0, 0)) ∧ Below W.heap.size W w1 := by
  obtain ⟨I, hI, hz0, hzs, hzb⟩ := info_parts infoSlot
  obtain ⟨G, hG⟩ : ∃ G, G = grownCap W (i + k) cap 46 := ⟨_, rfl⟩
  have hGn : i + k ≤ G := by rw [hG]; exact grownCap_ge W _ _ _
  have hGm : G ≤ maxLen := by rw [hG]; exact grownCap_le_maxLen W _ _ _ (by unfold maxLen; omega)
  have hold : (Builtin.firstCells I.size i (.slice (some ⟨g, 0, none⟩) i cap)).run Try.prog W.drew = .ok (slE.vs l).toArray W.drew := by
    rw [hzs]
    exact run_firstCells_some W.drew 6 i ⟨g, 0, none⟩ i cap (slE.vs l) (by rw [vs_length, hl]) (fun j v hj => by
      rw [Addr.add_lit, Nat.zero_add]
      rw [← ht, List.getElem?_take] at hj
      split at hj
      · show W.cell? _ = _
        rw [cell_of_row _ _ _ _ _ _ hg, ← hj]
        simp
      · cases hj)
  obtain ⟨ROW, hROW⟩ : ∃ ROW : List Value, ROW = ((slE.vs l).toArray ++ Builtin.zeroCells (Value.agg #[.string ⟨#[]⟩, .string ⟨#[]⟩, .int .i64 0, .int .i64 0, .int .i64 0, .int .i64 0]).cells k ++ Builtin.zeroCells (Value.agg #[.string ⟨#[]⟩, .string ⟨#[]⟩, .int .i64 0, .int .i64 0, .int .i64 0, .int .i64 0]).cells (G - (i + k))).toList := ⟨_, rfl⟩
  have hz6 : (Value.agg #[.string ⟨#[]⟩, .string ⟨#[]⟩, .int .i64 0, .int .i64 0, .int .i64 0, .int .i64 0]).cells.size = 6 := rfl
  have hRl2 : ROW.length = G * 6 := by
    rw [hROW]
    simp only [Array.length_toList, Array.size_append, size_zeroCells, hz6, List.size_toArray, vs_length, hl]
    omega
  have hRt2 : ROW.take (i * 6) = slE.vs l := by
    have e : i * 6 = (slE.vs l).length := by rw [vs_length, hl]
    rw [hROW, Array.toList_append, Array.toList_append, List.append_assoc, e, List.take_left]
  obtain ⟨w1, hw1⟩ : ∃ w1, w1 = W.drew.alloc (.cells ROW.toArray 46) := ⟨_, rfl⟩
  refine ⟨G, w1, ROW, hGn, hGm, hRl2, hRt2, ?_, ?_, ?_⟩
  · have h := Lib.run_append_grow_zeros (P := Try.prog) W 25 3 25 46 I _ .i64 .i64 Try.underlying25 Try.underlying3 hI hz0 (some ⟨g, 0, none⟩) i cap (slE.vs l) hold k hk (by omega) hc (by omega) (by rw [hzb]; omega) (by rw [hzb]; exact growslice_fits (by omega) (by omega))
    rw [h, hw1, ← hG, hROW, Array.toArray_toList]
  · rw [hw1]; exact heap_alloc_new W.drew _
  · rw [hw1]; exact (Below.drew (Below.refl _ _)).alloc (Nat.le_refl _) _

set_option maxRecDepth 100000 in
set_option maxHeartbeats 4000000 in
theorem replGrow2 (base base2 g vb cap vcap i : Nat) (l : List Sl) (a b : Sl) (w : World) (hown : w.ownsRow base 46 6 (.slice (some ⟨g, 0, none⟩) l.length cap) l.length (slE.vs l)) (hi : i + 1 < l.length) (hl : l.length ≤ 1000000) (hr : cap < l.length + 1) (hvo : w.ownsRow base2 46 6 (.slice (some ⟨vb, 0, none⟩) 2 vcap) 2 (slE.vs [a,b])) (hne : vb ≠ g) (hbw : base ≤ w.heap.size) :
    Calls Try.prog 109 #[.slice (some ⟨g, 0, none⟩) l.length cap, .int .i64 i, .int .i64 ((i : Int) + 1), .slice (some ⟨vb, 0, none⟩) 2 vcap] w (RepTo w base g (l.take i ++ [a,b] ++ l.drop (i + 1))) := by
  obtain ⟨g', _, cur, hv0, hbg, hg, hnc, hcm, hcs, htk⟩ := owns_pos hown (by omega)
  simp only [Value.slice.injEq, Option.some.injEq, Addr.mk.injEq] at hv0
  obtain ⟨⟨rfl, -, -⟩, -, rfl⟩ := hv0
  obtain ⟨vb', _, cvr, hv1, hvbg, hvg, hvnc, hvcm, hvcs, hvtk⟩ := owns_pos hvo (by omega)
  simp only [Value.slice.injEq, Option.some.injEq, Addr.mk.injEq] at hv1
  obtain ⟨⟨rfl, -, -⟩, -, rfl⟩ := hv1
  have hcm2 := hcm
  unfold maxLen at hcm2
  obtain ⟨D, hD⟩ : ∃ D : Nat, l.length = i + 1 + D := ⟨l.length - (i + 1), by omega⟩
  have hsl : (l.drop (i + 1)).length = D := by rw [List.length_drop]; omega
  have htl : (l.take i).length = i := by rw [List.length_take]; omega
  have hdl : (slE.vs (l.drop (i + 1))).length = D * 6 := by rw [vs_length, hsl]
  have hvl : (slE.vs [a,b]).length = 2 * 6 := vs_length _
  have hRt : cur.toList.take (i * 6) = slE.vs (l.take i) := by
    rw [← vs_take, ← htk, List.take_take]
    congr 1
    omega
  have hRl : cur.toList.length = cap * 6 := by rw [Array.length_toList, hcs]
  have hgl : g < w.heap.size := (Array.getElem?_eq_some_iff.1 hg).1
  have hvgl : vb < w.heap.size := (Array.getElem?_eq_some_iff.1 hvg).1
  have hs0 := run_slice_bothK (P := Try.prog) Try.underlying25 (by kernel_rfl) infoSlot (some ⟨g, 0, none⟩) l.length cap i (i + 1) i ((i : Int) + 1) rfl (by omega) (by omega) (by omega)
  have hsA := run_slice_uptoK (P := Try.prog) Try.underlying25 (by kernel_rfl) infoSlot (some ⟨g, 0, none⟩) l.length cap i i rfl (by omega)
  have hsB := run_slice_fromK (P := Try.prog) Try.underlying25 (by kernel_rfl) infoSlot (some ⟨g, 0, none⟩) l.length cap (i + 1) ((i : Int) + 1) (by simp) (by omega)
  rw [slicedG0] at hsA
  rw [slicedG _ _ _ _ _ (by omega), show l.length - (i + 1) = D by omega] at hsB
  generalize hsx : Go.sliced (some ⟨g, 0, none⟩) i (i + 1) cap 6 = sx at hs0
  have e1 : ((i : Int) == (i : Int) + 1) = false := beq_eq_false_iff_ne.2 (by omega)
  have e2 : ((i : Int) + 1 == (l.length : Int)) = false := beq_eq_false_iff_ne.2 (by omega)
  have hw1 : IntKind.i64.wrap ((i : Int) + 2) = (i : Int) + 2 := by rw [IntKind.wrap_i64]; omega
  have hw2 : IntKind.i64.wrap ((i : Int) + 2 + (D : Int)) = (i : Int) + 2 + D := by rw [IntKind.wrap_i64]; omega
  obtain ⟨N, hN⟩ : ∃ N : Nat, N = i + 2 + D := ⟨_, rfl⟩
  have hNl : (l.take i ++ [a,b] ++ l.drop (i + 1)).length = N := by simp only [List.length_append, htl, hsl, hN]; rfl
  have HN := hide hNl
  have hcz : cvr.size ≠ 0 := by omega
  have hvsrc : ∀ j v, (slE.vs [a,b])[j]? = some v → w.cell? ((⟨vb, 0, none⟩ : Addr).add j) = some v := owns_src (i := 0) hvg hvtk rfl
  have hm1 : Nat.min D D = D := Nat.min_self D
  have hm2 : Nat.min 2 (N - i) = 2 := Nat.min_eq_left (by omega)
  have hone1 : ∀ v ∈ slE.vs (l.drop (i + 1)), v.oneCell' = true := vs_one _
  have hone2 : ∀ v ∈ slE.vs [a, b], v.oneCell' = true := vs_one _
  have e3 : decide ((cap : Int) < (i : Int) + 2 + D) = true := decide_eq_true (by omega)
  have hw3 : IntKind.i64.wrap ((i : Int) + 2 + D - (i : Int)) = (i : Int) + 2 + D - i := by rw [IntKind.wrap_i64]; omega
  have hik : i + (2 + D) = N := by omega
  have hcw : cap < i + (2 + D) := by omega
  have HTK := hide htk
  clear hown hvo hsx
  go_enter Try.func109, Try.ntmps109
  go_upto_region 9 with fail
  go_quiet (fail)
  have hgW : (w.drewN nq).heap[g]? = some (.cells cur 46 (0, 0)) := hg
  have hvgW : (w.drewN nq).heap[vb]? = some (.cells cvr 46 (0, 0)) := hvg
  have hBW : Below w.heap.size w (w.drewN nq) := ⟨rfl, rfl, rfl, Nat.le_refl _, fun _ _ => rfl⟩
  generalize w.drewN nq = W at hgW hvgW hBW ⊢
  obtain ⟨G, w1, ROW, hGn, hGm, hRl2, hRt2, hrz, hrow0, hb1⟩ := grow_zeros (k := 2 + D) (cap := cap) hgW hRt htl (by omega) hcw (by omega)
  rw [hik] at hrz hGn
  have hrz1 := hrz
  rw [show ((2 + D : Nat) : Int) = (i : Int) + 2 + D - i by omega] at hrz1
  have hrz2 := hrz
  rw [show ((2 + D : Nat) : Int) = 2 + (D : Int) by omega] at hrz2
  have hGm2 := hGm
  unfold maxLen at hGm2
  have hsD := run_slice_fromK (P := Try.prog) Try.underlying25 (by kernel_rfl) infoSlot (some ⟨W.heap.size, 0, none⟩) N G (i + 2) ((i : Int) + 2) (by simp) (by omega)
  rw [slicedG _ _ _ _ _ (by omega)] at hsD
  have hsE := run_slice_fromK (P := Try.prog) Try.underlying25 (by kernel_rfl) infoSlot (some ⟨W.heap.size, 0, none⟩) N G i ((i : Int)) (by simp) (by omega)
  rw [slicedG _ _ _ _ _ (by omega)] at hsE
  rw [show N - (i + 2) = D by omega] at hsD
  have hrow := ovw_ms (E := slE) (R := ROW) (p := i) (i := i + 2) (P := l.take i) (M := [a, b]) (S := l.drop (i + 1)) hRt2 htl rfl (by rw [hsl, hRl2]; exact Nat.mul_le_mul_right _ (by omega))
  rw [hsl, show i + 2 + D = N from hN.symm, hRl2] at hrow
  have hfit2 : i * 6 + (slE.vs [a, b]).length ≤ ROW.length := by rw [hRl2, hvl]; omega
  have hfit1 : (i + 2) * 6 + (slE.vs (l.drop (i + 1))).length ≤ (ovw ROW (i * 6) (slE.vs [a, b])).length := by rw [hrow.2.2, hdl]; omega
  have HROW := hide hrow
  obtain ⟨R1, hR1⟩ : ∃ R1, ovw ROW (i * 6) (slE.vs [a, b]) = R1 := ⟨_, rfl⟩
  have HR1 := hide hR1
  rw [hR1] at hfit1
  have hgl : g < W.heap.size := (Array.getElem?_eq_some_iff.1 hgW).1
  have hvgl : vb < W.heap.size := (Array.getElem?_eq_some_iff.1 hvgW).1
  have hg1 : w1.heap[g]? = some (.cells cur 46 (0, 0)) := (hb1.block g hgl).trans hgW
  have hvg1 : w1.heap[vb]? = some (.cells cvr 46 (0, 0)) := (hb1.block vb hvgl).trans hvgW
  have hvs1 : ∀ j v, (slE.vs [a, b])[j]? = some v → w1.cell? ((⟨vb, 0, none⟩ : Addr).add j) = some v := owns_src (i := 0) hvg1 hvtk rfl
  have hBW1 : Below w.heap.size w w1 := hBW.trans (hb1.mono hBW.size)
  have hng : g ≠ W.heap.size := by omega
  have hGN : Hid (N ≤ G) := hide hGn
  have HBB := hide (show base ≤ W.heap.size from Nat.le_trans hbw hBW.size)
  have HWW := hide hBW.size
  clear hi hRt hRl hrow hR1 hcs hnc hNl hsl htl hr hcm2 hN hgl hvgl hD hRt2 hRl2 hGn hg hvg hgW hvgW hBW htk hvtk hvsrc hb1 hik hcw hGm2
  generalize hO1 : (i + 1) * 6 = O1 at *
  generalize hO2 : (i + 2) * 6 = O2 at *
  generalize hO3 : i * 6 = O3 at *
  generalize hC1 : cap - (i + 1) = C1 at *
  generalize hC2 : G - (i + 2) = C2 at *
  generalize hC3 : G - i = C3 at *
  generalize hL3 : N - i = L3 at *
  go_upto_region 13 with (first
    | (at_builtin; first | refine Lib.wpList_append_run _ rfl _ _ _ _ rfl _ _ rfl rfl _ _ hrz1 ?_ | refine Lib.wpList_append_run _ rfl _ _ _ _ rfl _ _ rfl rfl _ _ hrz2 ?_ | refine Lib.wpList_append_run _ rfl _ _ _ _ rfl _ _ rfl rfl _ _ hrz ?_)
    | (refine wpList_copyG (K := 6) (m := 2) (cs := slE.vs [a, b]) Try.underlying25 Try.sizeSlot hrow0 hm2 hvl hvs1 hfit2 hone2 rfl rfl rfl rfl ?_; intro w2 hq2))
  rw [HR1.out] at hq2
  have hrow2 := hq2.row
  have hG2 : w.grownBy w2 (some g) := ⟨hq2.grw.os.trans hBW1.os, hq2.grw.tape.trans hBW1.tape, hq2.grw.output.trans hBW1.output, Nat.le_trans hBW1.size hq2.grw.size, fun k hk hne2 => (hq2.grw.block k (Nat.lt_of_lt_of_le hk hBW1.size) (fun q => by have := HWW.out; cases q; omega)).trans (hBW1.block k hk)⟩
  have hg2 : w2.heap[g]? = some (.cells cur 46 (0, 0)) := (hq2.grw.block g (Array.getElem?_eq_some_iff.1 hg1).1 (fun q => hng (by cases q; rfl))).trans hg1
  have hsrc2 : ∀ j v, (slE.vs (l.drop (i + 1)))[j]? = some v → w2.cell? ((⟨g, O1, none⟩ : Addr).add j) = some v := hO1 ▸ owns_src (i := i + 1) hg2 HTK.out rfl
  have hsz2 : W.heap.size < w2.heap.size := (Array.getElem?_eq_some_iff.1 hrow2).1
  clear hq2
  go_region_law (refine step_copyG (K := 6) (m := D) (cs := slE.vs (l.drop (i + 1))) Try.underlying25 Try.sizeSlot (by exact hrow2) hm1 hdl (by exact hsrc2) hfit1 hone1 rfl rfl (by simp [Act.eval, Act.put] <;> rfl) (by simp [Act.eval, Act.put] <;> rfl) ?_; intro w3 hq3)
  all_goals
    go_wp2_with fail
    go_ret
    rw [← HR1.out] at hq3
    have hG3 : w.grownBy w3 (some g) := ⟨hq3.grw.os.trans hG2.os, hq3.grw.tape.trans hG2.tape, hq3.grw.output.trans hG2.output, Nat.le_trans hG2.size hq3.grw.size, fun k hk hne2 => (hq3.grw.block k (Nat.lt_of_lt_of_le hk hG2.size) (fun q => by have := HWW.out; cases q; omega)).trans (hG2.block k hk hne2)⟩
    refine ⟨.slice (some ⟨W.heap.size, 0, none⟩) N G, rfl, ⟨by rw [vs_length], .inr ⟨W.heap.size, G, _, by rw [HN.out], HBB.out, hq3.row, by rw [HN.out]; exact hGN.out, hGm, by rw [List.size_toArray]; exact HROW.out.2.1, by rw [HN.out]; exact HROW.out.1⟩⟩, hG3⟩

end Go.Proofs.Ytoeobhehjnkkkaa
