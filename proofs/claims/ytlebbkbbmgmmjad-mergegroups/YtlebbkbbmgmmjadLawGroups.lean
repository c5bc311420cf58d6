/-
  The walk over the law MergeGroups.
-/
import Derived.Test.YtlebbkbbmgmmjadMergeB2
import Derived.Test.YtlebbkbbmgmmjadGroupsMath
namespace Go.Proofs.Ytlebbkbbmgmmjad
open Go.RowKit

/-- A list of two lists. -/
theorem RdL.two {w : World} {u x : Value} {l m : List Cl} (h : RdC w u l) (k : RdC w x m) (t : TypeId) : RdL (w.alloc (.cells #[u, x] t)) (.slice (some ⟨w.heap.size, 0, none⟩) 2 2) [l, m] := by
  have h1 := Pcs.snoc (Pcs.snoc (Pcs.nil (w.alloc (.cells #[u, x] t))) (h.alloc _)) (k.alloc _)
  refine ⟨[u, x], ⟨some ⟨w.heap.size, 0, none⟩, 2, rfl, Nat.le_refl _, by decide, (fun h => by cases h), fun a ha j v hv => ?_⟩, h1.1, h1.2.1, h1.2.2⟩
  cases ha
  rw [Addr.add_lit, Nat.zero_add]
  refine ((Bk.new w t #[u, x]).cell j).trans ?_
  rw [← hv]
  simp

set_option maxRecDepth 100000 in
set_option maxHeartbeats 4000000 in
theorem mergeGroups_any (v : Value) (z : Int) (ls : List (List Cl)) (w : World) (hv : RdL w v ls) (hz : -9223372036854775808 ≤ z ∧ z ≤ 9223372036854775807) (hb : ∀ l ∈ ls, l.length ≤ 2199023255552) :
    Calls Try.prog 4 #[v, .int .i64 z] w fun e w' => e = .returned (.bool true) ∧ Below w.heap.size w w' := by
  obtain ⟨ao, cap, hvv, hc1, hc2⟩ := hv.shape
  subst hvv
  unfold maxLen at hc2
  have HBL := hide hb
  clear hb
  go_enter Try.func4, Try.ntmps4
  go_wp2_with fail
  refine (mergeBegun_any _).mono ?_
  rintro e w1 ⟨rfl, hb1⟩
  have hz1 := hb1.size
  have hv1 := hv.below hb1
  cases hvast : vastB ls
  case true =>
    go_wp2_with (go_at_call 10; refine (vastLists_any _ ls _ hv1 HBL.out).mono ?_; rintro e w2 ⟨rfl, hb2⟩; rw [hvast])
    go_ret
    exact ⟨rfl, hb1.trans (hb2.mono hz1)⟩
  by_cases hz0 : z < 0
  · have hd : decide (z < 0) = true := by simpa using hz0
    go_wp2_with (go_at_call 10; refine (vastLists_any _ ls _ hv1 HBL.out).mono ?_; rintro e w2 ⟨rfl, hb2⟩; rw [hvast])
    go_ret
    exact ⟨rfl, hb1.trans (hb2.mono hz1)⟩
  have hd : decide (z < 0) = false := by simpa using hz0
  by_cases hzl : (ls.length : Int) < z
  · have hd2 : decide ((ls.length : Int) < z) = true := by simpa using hzl
    go_wp2_with (go_at_call 10; refine (vastLists_any _ ls _ hv1 HBL.out).mono ?_; rintro e w2 ⟨rfl, hb2⟩; rw [hvast])
    go_ret
    exact ⟨rfl, hb1.trans (hb2.mono hz1)⟩
  have hd2 : decide ((ls.length : Int) < z) = false := by simpa using hzl
  obtain ⟨k, hk⟩ : ∃ k : Nat, z = (k : Int) := ⟨z.toNat, by omega⟩
  subst hk
  have hkl : k ≤ ls.length := by omega
  go_wp2_with (go_at_call 10; refine (vastLists_any _ ls _ hv1 HBL.out).mono ?_; rintro e w2 ⟨rfl, hb2⟩; rw [hvast])
  have hb02 : Below w.heap.size w w2 := hb1.trans (hb2.mono hz1)
  have hv2 := hv.below hb02
  have hz2 := hb02.size
  clear hb1 hb2 hz1 hv1 hvast hd hd2 hz0 hzl
  refine (Join_any _ ls _ hv2).mono ?_
  rintro e w3 ⟨vj, rfl, hrj, hb3, hnj⟩
  have hb03 : Below w.heap.size w w3 := hb02.trans (hb3.mono hz2)
  have hz3 := hb03.size
  have hz23 := hb3.size
  obtain ⟨aoj, capj, hvj, _, _⟩ := hrj.shape
  subst hvj
  by_cases hc : (jnR ls).2.1 = 0
  case neg =>
    have hcb : ((jnR ls).2.1 != 0) = true := by simp [hc]
    clear hrj hnj hb3 hc
    generalize (jnR ls).2 = r at *
    obtain ⟨x, y⟩ := r
    simp only at hcb
    unfold fltC
    go_wp2_with fail
    go_ret
    exact ⟨rfl, by go_grown⟩
  obtain ⟨e0, e1, e2, e3, e4, e5⟩ := groups (k := k) hc
  rw [e0] at hrj ⊢
  simp only at hrj ⊢
  have HE1 := hide e1
  have HE2 := hide e2
  have HE3 := hide e3
  have HE4 := hide e4
  have HE5 := hide e5
  have HRJ := hide hrj
  clear e0 e1 e2 e3 e4 e5 hc hrj hnj hb3
  have hs1 := run_slice_upto (P := Try.prog) Try.underlying22 (by kernel_rfl) Try.info30 ao ls.length cap k (k : Int) rfl (by omega)
  have hs2 := run_slice_from (P := Try.prog) Try.underlying22 (by kernel_rfl) Try.info30 ao ls.length cap k (k : Int) rfl hkl
  obtain ⟨hV1, hV2⟩ := hv.part (h := k) hkl
  generalize hg1 : Go.sliced ao 0 k cap 1 = V1 at hs1 hV1
  generalize hg2 : Go.sliced ao k ls.length cap 1 = V2 at hs2 hV2
  clear hg1 hg2
  obtain ⟨vo1, vc1, hw1, _, _⟩ := hV1.shape
  obtain ⟨vo2, vc2, hw2, _, _⟩ := hV2.shape
  have hkt : (ls.take k).length = k := by rw [List.length_take]; omega
  obtain ⟨m2, hm2⟩ : ∃ m2, m2 = (ls.drop k).length := ⟨_, rfl⟩
  rw [hkt] at hw1
  rw [← hm2] at hw2
  subst hw1 hw2
  clear hkt hm2
  have HV1 := hide hV1
  have HV2 := hide hV2
  clear hV1 hV2
  have hbx := hb03.alloc hz3 (.cells #[.int .i64 0, .int .i64 0] 28)
  have HBX := hide hbx
  have hzx : w3.heap.size < (w3.alloc (.cells #[.int .i64 0, .int .i64 0] 28)).heap.size := by simp
  clear hbx
  generalize joinR ls = J at *
  generalize ls.take k = TK at *
  generalize ls.drop k = DK at *
  unfold fltC
  go_wp2_with fail
  refine (Join_any _ TK _ (HV1.out.below HBX.out)).mono ?_
  rintro e w4 ⟨va, rfl, hra, hb4, hna⟩
  rw [HE1.out] at hra ⊢
  simp only at hra ⊢
  have hb04 : Below w.heap.size w w4 := HBX.out.trans (hb4.mono HBX.out.size)
  have hb34 : Below w3.heap.size w3 w4 := (below_alloc' _ _).trans (hb4.mono (by simp))
  obtain ⟨aoa, capa, hva, _, _⟩ := hra.shape
  subst hva
  have HRA := hide hra
  have hz4 := hb04.size
  have hz34 := hb34.size
  have hbx4 := hb04.alloc hz4 (.cells #[.int .i64 0, .int .i64 0] 28)
  have HBX4 := hide hbx4
  clear hb4 hna hra hbx4 HBX hzx
  generalize joinR TK = A at *
  unfold fltC
  go_wp2_with fail
  refine (Join_any _ DK _ (HV2.out.below HBX4.out)).mono ?_
  rintro e w5 ⟨vb, rfl, hrb, hb5, hnb⟩
  rw [HE2.out] at hrb ⊢
  simp only at hrb ⊢
  have hb05 : Below w.heap.size w w5 := HBX4.out.trans (hb5.mono HBX4.out.size)
  have hb45 : Below w4.heap.size w4 w5 := (below_alloc' _ _).trans (hb5.mono (by simp))
  have hF8 := (Bk.new w4 28 #[.int .i64 0, .int .i64 0]).below hb5 (by simp)
  obtain ⟨aob, capb, hvb, _, _⟩ := hrb.shape
  subst hvb
  have hz5 := hb05.size
  have hz45 := hF8.lt
  clear hb5 hnb HBX4
  generalize joinR DK = B at *
  have hF8x := hF8.below (below_alloc' w5 (.cells #[.int .i64 0, .int .i64 0] 28)) hz45
  have hF10x := Bk.new w5 28 #[.int .i64 0, .int .i64 0]
  have hb05x := hb05.alloc hz5 (.cells #[.int .i64 0, .int .i64 0] 28)
  have hb45x := hb45.alloc hb45.size (.cells #[.int .i64 0, .int .i64 0] 28)
  have hrbx := hrb.alloc (.cells #[.int .i64 0, .int .i64 0] 28)
  have hzx5 : (w5.alloc (.cells #[.int .i64 0, .int .i64 0] 28)).heap.size = w5.heap.size + 1 := by simp
  have hrax := HRA.out.below hb45x
  have hb35x := hb34.trans (hb45x.mono hz34)
  have hrjx := HRJ.out.below hb35x
  have f0 := hF8.cell 0
  simp at f0
  have hlAB := RdL.two hrax hrbx 30
  have hFF8 := hF8x.below (below_alloc' _ (.cells #[.slice aoa A.length capa, .slice aob B.length capb] 30)) hF8x.lt
  have hFF10 := hF10x.below (below_alloc' _ (.cells #[.slice aoa A.length capa, .slice aob B.length capb] 30)) hF10x.lt
  have hbb := hb05x.alloc hb05x.size (.cells #[.slice aoa A.length capa, .slice aob B.length capb] 30)
  have hjj := hrjx.alloc (.cells #[.slice aoa A.length capa, .slice aob B.length capb] 30)
  have HAB := hide hlAB
  have HF8 := hide hFF8
  have HF10 := hide hFF10
  have HBB := hide hbb
  have hb3X := hb35x.alloc hb35x.size (.cells #[.slice aoa A.length capa, .slice aob B.length capb] 30)
  have HB3X := hide hb3X
  have hzX : ((w5.alloc (.cells #[.int .i64 0, .int .i64 0] 28)).alloc (.cells #[.slice aoa A.length capa, .slice aob B.length capb] 30)).heap.size = w5.heap.size + 2 := by simp
  have HZX := hide hzX
  rw [hzx5] at HAB
  clear hrax hrbx hrjx hlAB hFF8 hFF10 hbb hjj hF8 hF8x hF10x hb05x hb45x hrb HRA hb34 hb45 hb05 hb04 HV1 HV2 hb35x hb3X hzX hzx5
  unfold fltC
  go_wp2_with fail
  refine (Join_any _ [A, B] _ HAB.out).mono ?_
  rintro e w6 ⟨vc, rfl, hrc, hb6, hnc⟩
  rw [HE3.out] at hrc ⊢
  simp only at hrc ⊢
  have hF8 := HF8.out.below hb6 HF8.out.lt
  have hF10 := HF10.out.below hb6 HF10.out.lt
  have hbw6 : Below w.heap.size w w6 := HBB.out.trans (hb6.mono HBB.out.size)
  have hb36 : Below w3.heap.size w3 w6 := HB3X.out.trans (hb6.mono HB3X.out.size)
  have hnX : New (w5.heap.size + 2) vc := by rw [← HZX.out]; exact hnc
  obtain ⟨aoc, capc, hvc, _, _⟩ := hrc.shape
  subst hvc
  have hz6 := hb6.size
  rw [HZX.out] at hz6
  have hf8l := hF8.lt
  have q0 := hF8.cell 0
  have q1 := hF8.cell 1
  have q2 := hF8.frozen 0
  have q3 := hF8.frozen 1
  simp at q0 q1
  have hne : w5.heap.size ≠ w4.heap.size := by omega
  have hF8s := (hF8.set 0 (.int .i64 0)).set 1 (.int .i64 0)
  have hF10s := (hF10.setP (p := ⟨w4.heap.size, 0, none⟩) hne (.int .i64 0)).setP (p := ⟨w4.heap.size, 1, none⟩) hne (.int .i64 0)
  have hrcs := (hrc.setNew hnX (p := ⟨w4.heap.size, 0, none⟩) (by simp only; omega) (.int .i64 0)).setNew hnX (p := ⟨w4.heap.size, 1, none⟩) (by simp only; omega) (.int .i64 0)
  have hbws := (hbw6.setCell (p := ⟨w4.heap.size, 0, none⟩) hz4 (.int .i64 0)).setCell (p := ⟨w4.heap.size, 1, none⟩) hz4 (.int .i64 0)
  have hb3s := (hb36.setCell (p := ⟨w4.heap.size, 0, none⟩) hz34 (.int .i64 0)).setCell (p := ⟨w4.heap.size, 1, none⟩) hz34 (.int .i64 0)
  have hjs := HRJ.out.below hb3s
  have hzs : ((w6.setCell ⟨w4.heap.size, 0, none⟩ (.int .i64 0)).setCell ⟨w4.heap.size, 1, none⟩ (.int .i64 0)).heap.size = w6.heap.size := by simp
  have hJJ := RdL.two hjs hjs 30
  rw [hzs] at hJJ
  have hF8t := hF8s.below (below_alloc' _ (.cells #[.slice aoj J.length capj, .slice aoj J.length capj] 30)) hF8s.lt
  have hF10t := hF10s.below (below_alloc' _ (.cells #[.slice aoj J.length capj, .slice aoj J.length capj] 30)) hF10s.lt
  have hrct := hrcs.alloc (.cells #[.slice aoj J.length capj, .slice aoj J.length capj] 30)
  have hbwt := hbws.alloc hbws.size (.cells #[.slice aoj J.length capj, .slice aoj J.length capj] 30)
  have hb3t := hb3s.alloc hb3s.size (.cells #[.slice aoj J.length capj, .slice aoj J.length capj] 30)
  have HJL := hide hJJ
  have HF8t := hide hF8t
  have HF10t := hide hF10t
  have HRCt := hide hrct
  have HBWt := hide hbwt
  have HB3t := hide hb3t
  have HNX := hide hnX
  clear hF8 hF10 hbw6 hb36 hnX hnc hrc hb6 hF8s hF10s hrcs hbws hb3s hjs hJJ hF8t hF10t hrct hbwt hb3t HF8 HF10 HBB HB3X HAB hzs
  unfold fltC
  go_wp2_with fail
  refine (Join_any _ [J, J] _ HJL.out).mono ?_
  rintro e w9 ⟨vd, rfl, hrd, hb9, hnd⟩
  rw [HE4.out] at hrd ⊢
  simp only at hrd ⊢
  have hF8 := HF8t.out.below hb9 HF8t.out.lt
  have hF10 := HF10t.out.below hb9 HF10t.out.lt
  have hbw9 : Below w.heap.size w w9 := HBWt.out.trans (hb9.mono HBWt.out.size)
  have hb39 : Below w3.heap.size w3 w9 := HB3t.out.trans (hb9.mono HB3t.out.size)
  have hrc9 := HRCt.out.below hb9
  have hnY : New (w5.heap.size + 2) vd := hnd.mono (by simp; omega)
  obtain ⟨aod, capd, hvd, _, _⟩ := hrd.shape
  subst hvd
  have q4 := hF10.cell 0
  have q5 := hF10.cell 1
  have q6 := hF10.frozen 0
  have q7 := hF10.frozen 1
  have q8 := hF8.cell 0
  simp at q4 q5 q8
  have hf10l := hF10.lt
  have hne2 : w4.heap.size ≠ w5.heap.size := by omega
  have hF8s := (hF8.setP (p := ⟨w5.heap.size, 0, none⟩) hne2 (.int .i64 0)).setP (p := ⟨w5.heap.size, 1, none⟩) hne2 (.int .i64 0)
  have hrcs := (hrc9.setNew HNX.out (p := ⟨w5.heap.size, 0, none⟩) (by simp only; omega) (.int .i64 0)).setNew HNX.out (p := ⟨w5.heap.size, 1, none⟩) (by simp only; omega) (.int .i64 0)
  have hrds := (hrd.setNew hnY (p := ⟨w5.heap.size, 0, none⟩) (by simp only; omega) (.int .i64 0)).setNew hnY (p := ⟨w5.heap.size, 1, none⟩) (by simp only; omega) (.int .i64 0)
  have hbws := (hbw9.setCell (p := ⟨w5.heap.size, 0, none⟩) hz5 (.int .i64 0)).setCell (p := ⟨w5.heap.size, 1, none⟩) hz5 (.int .i64 0)
  have hb3s := (hb39.setCell (p := ⟨w5.heap.size, 0, none⟩) (by simp only; omega) (.int .i64 0)).setCell (p := ⟨w5.heap.size, 1, none⟩) (by simp only; omega) (.int .i64 0)
  have hjs := HRJ.out.below hb3s
  have HF8s := hide hF8s
  have HRCs := hide hrcs
  have HRDs := hide hrds
  have HBWs := hide hbws
  have HJs := hide hjs
  have hfld : ∀ W, (Instr.field 28 (.agg #[.int .i64 0, .int .i64 0]) 0).run Try.prog W = .ok (.int .i64 0) W := fun W => by kernel_rfl
  clear hF8 hF10 hbw9 hb39 hrc9 hnY hnd hrd hb9 hF8s hrcs hrds hbws hb3s hjs HJL HF8t HF10t HRCt HBWt HB3t
  unfold fltC
  go_wp2_with fail
  refine (SameCells_any _ _ J _ HRCs.out HJs.out).mono ?_
  rintro e w11 ⟨rfl, hb11⟩
  have hrd11 := HRDs.out.below hb11
  have hj11 := HJs.out.below hb11
  have hbw11 := HBWs.out.trans (hb11.mono HBWs.out.size)
  go_wp2_with fail
  refine (SameCells_any _ _ J _ hrd11 hj11).mono ?_
  rintro e w12 ⟨rfl, hb12⟩
  have hj12 := hj11.below hb12
  have hbw12 := hbw11.trans (hb12.mono hbw11.size)
  go_wp2_with fail
  refine (CCheck_any _ J _ hj12).mono ?_
  rintro e w13 ⟨rfl, hb13⟩
  rw [HE5.out]
  unfold fltC
  go_wp2_with fail
  go_ret
  exact ⟨rfl, hbw12.trans (hb13.mono hbw12.size)⟩

end Go.Proofs.Ytlebbkbbmgmmjad
