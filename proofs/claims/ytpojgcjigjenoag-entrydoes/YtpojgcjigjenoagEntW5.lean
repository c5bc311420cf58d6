/-
  The walk over entry.Put.
-/
import Derived.Test.YtpojgcjigjenoagEntW4
namespace Go.Proofs.Ytpojgcjigjenoag
open Go.RowKit
set_option linter.unusedVariables false

theorem results3_ttc {P : Program} {fn : Func} {i i2 j : Tmp} {u : TypeId} {tmps : Array Value} {C : Nat} {v1 v2 v3 : Value} {w : World} (h : fn.results = #[.tmp i, .tmp i2, .cell j u]) (hp : tmps[i]?.getD undef = v1) (hp2 : tmps[i2]?.getD undef = v2) (hq : tmps[j]?.getD undef = .pointer (some ⟨C, 0, none⟩)) (hm : (loadVar u ⟨C, 0, none⟩).run P w = .ok v3 w) :
    (results fn tmps).run P w = .ok (.tuple #[v1, v2, v3]) w := by
  simp [results, h, hp, hp2, hq, asAddr, hm]

theorem owns_shapeE {w : World} {base : Nat} {e : TypeId} {K : Nat} {v : Value} {n : Nat} {xs : List Value} (h : w.ownsRow base e K v n xs) : ∃ ao cap, v = .slice ao n cap := by
  rcases h.2 with ⟨rfl, hn⟩ | ⟨g, cap, cur, rfl, _⟩
  · exact ⟨none, 0, by rw [hn]⟩
  · exact ⟨_, _, rfl⟩

/-- Entries never lie in a block of two numbers. -/
theorem RdG.grownEnt {w w' : World} {v : Value} {xs : List Et} {R : Nat} {t : TypeId} {a b : Int} (hr : RdG eE w v xs) (hg : w.grownBy w' (some R)) (hB : Blk w R t #[.int .i64 a, .int .i64 b]) : RdG eE w' v xs := by
  obtain ⟨ao, cap, rfl, h1, h2, h3, h4⟩ := hr
  refine ⟨ao, cap, rfl, h1, h2, h3, fun ad ha j u hu => ?_⟩
  have hc := h4 ad ha j u hu
  have hlt := World.block_lt_of_cell? w _ hc
  have e : (ad.add j).block = ad.block := by unfold Addr.add; split <;> rfl
  have hne : ad.block ≠ R := by
    intro q
    cases xs with
    | nil => simp [En.vs] at hu
    | cons x xs' =>
      have hs := h4 ad ha 1 (.string x.text) (by simp [En.vs, eE])
      have h0 := h4 ad ha 0 (.int .i64 x.term) (by simp [En.vs, eE])
      obtain ⟨b', o, rfl⟩ := add_spot h0
      rw [Addr.add_lit] at hs
      simp only at q
      subst q
      rw [hB.cell (o + 1)] at hs
      match o, hs with
      | 0, hs => simp at hs
      | o + 1, hs => simp at hs
  rw [← hc]
  exact World.cell?_of_block (hg.block _ hlt (by rw [e]; intro q; cases q; exact hne rfl))

set_option maxRecDepth 100000 in
set_option maxHeartbeats 4000000 in
theorem Put_any (v u : Value) (l m : List Et) (n t : Int) (w : World) (hv : RdG eE w v l) (hu : RdG eE w u m) :
    Calls Try.prog 35 #[v, .int .i64 n, .int .i64 t, u] w fun e w' => ∃ v', e = .returned (.tuple #[v', .bool (putI l n t m), flt (putX l n t m)]) ∧ RdG eE w' v' (putL l n t m) ∧ Below w.heap.size w w' := by
  have HF1 : Hid (putL l n t m = if (ptF l n t m).1 ≠ 0 then [] else if hasE l n.toNat t = false then l else if (outF (putGo l n.toNat m)).1 ≠ 0 then [] else putGo l n.toNat m) := hide rfl
  have HF2 : Hid (putI l n t m = if (ptF l n t m).1 ≠ 0 then false else if hasE l n.toNat t = false then false else if (outF (putGo l n.toNat m)).1 ≠ 0 then false else true) := hide rfl
  have HF3 : Hid (putX l n t m = if (ptF l n t m).1 ≠ 0 then ptF l n t m else if hasE l n.toNat t = false then (0, 0) else outF (putGo l n.toNat m)) := hide rfl
  have HI := hide (putFault_any v u l m n t _ (hv.alloc (.cells #[.int .i64 0, .int .i64 0] 29)) (hu.alloc _))
  have HV := hide hv
  have HU := hide hu
  obtain ⟨ao, cap, rfl, _, _⟩ := hv.shape
  obtain ⟨bo, cbp, rfl, _, _⟩ := hu.shape
  have HR0 := hide (Blk.new w 29 #[.int .i64 0, .int .i64 0])
  have HB0 := hide (below_allocG w (.cells #[.int .i64 0, .int .i64 0] 29))
  have HZ := hide (ptF_z l n t m)
  have HOK := hide (fun h => ptF_ok (l := l) (n := n) (t := t) (m := m) h)
  generalize hK : ptF l n t m = K at *
  obtain ⟨x, y⟩ := K
  clear hv hK hu
  generalize putL l n t m = RL at *
  generalize putI l n t m = RI at *
  generalize putX l n t m = RX at *
  go_enter Try.func35, Try.ntmps35
  go_wp2_with fail
  refine HI.out.mono ?_
  rintro e w1 ⟨rfl, hb1⟩
  have HBW := hide ((HB0.out.trans (hb1.mono HB0.out.size)).trans ((below_allocG w1 (.cells #[.int .i64 x, .int .i64 y] 29)).mono (HB0.out.trans (hb1.mono HB0.out.size)).size))
  have HR := hide ((HR0.out.later hb1).later (below_allocG w1 (.cells #[.int .i64 x, .int .i64 y] 29)))
  have hrl := (HR0.out.later hb1).lt
  have HRw := hide (HR0.out.later hb1)
  have HBw := hide (HB0.out.trans (hb1.mono HB0.out.size))
  clear hb1 HI HR0 HB0
  unfold flt
  by_cases hx : x ≠ 0
  · have HE1 := hide (HF1.out.trans (if_pos hx))
    have HE2 := hide (HF2.out.trans (if_pos hx))
    have HE3 := hide (HF3.out.trans (if_pos hx))
    have hq : (x == 0) = false := beq_eq_false_iff_ne.2 hx
    have hq2 : (x != 0) = true := by simp [hx]
    clear hx
    have r0 := HRw.out.cell 0
    have r1 := HRw.out.cell 1
    have z0 := HRw.out.frozen 0
    have z1 := HRw.out.frozen 1
    simp at r0 r1
    go_wp2_with fail
    go_region
    have hbw := HBw.out
    go_wp2_with fail
    refine bodyPost_ret (v := .tuple #[.slice none 0 0, .bool false, .agg #[.int .i64 x, .int .i64 y]]) (results3_ttc Try.results35 rfl rfl rfl (run_loadVar_blk (xs := #[.int .i64 x, .int .i64 y]) (HRw.out.two) Try.underlying29 rfl Try.sizeFaultE)) rfl ?_
    exact ⟨_, by rw [HE2.out, HE3.out]; rfl, by rw [HE1.out]; exact RdG.nil _, by go_grown⟩
  · have HG1 := hide (HF1.out.trans (if_neg hx))
    have HG2 := hide (HF2.out.trans (if_neg hx))
    have HG3 := hide (HF3.out.trans (if_neg hx))
    obtain rfl : x = 0 := Decidable.not_not.1 hx
    obtain rfl : y = 0 := by have := HZ.out rfl; simpa using this
    obtain ⟨k1, k2, k3, k4⟩ := HOK.out rfl
    obtain ⟨n0, n1⟩ := numL_iff.1 k3
    have l1 := (chkE_fine k1).2
    have l2 := (chkE_fine k2).2
    have hnn : n = ((n.toNat : Nat) : Int) := by omega
    have hn2 : n.toNat ≤ 2000000000 := by omega
    clear hx HF1 HF2 HF3 HOK k1 k2 k3 k4
    generalize hN : n.toNat = N at *
    have HHAS := hide (has_any _ l N n t _ (HV.out.below HBW.out) hnn hn2)
    have HNN := hide hnn
    clear hnn hN n0 n1
    cases hh : hasE l N t
    · have HE1 := hide (HG1.out.trans (if_pos hh))
      have HE2 := hide (HG2.out.trans (if_pos hh))
      have HE3 := hide (HG3.out.trans (if_pos hh))
      rw [hh] at HHAS
      have HC := hide (CloneE_any _ l _ (HV.out.below HBW.out) (by omega))
      clear hh
      go_wp2_with (go_at_call 66; refine HHAS.out.mono ?_; rintro e w2 ⟨rfl, rfl⟩)
      refine HC.out.mono ?_
      rintro e w2 ⟨v2, rfl, ho2, hb2⟩
      obtain ⟨so, sc, rfl⟩ := owns_shapeE ho2
      have HO2 := hide ho2
      have HR2 := hide (HR.out.later hb2)
      have HB2 := hide (HBW.out.trans (hb2.mono HBW.out.size))
      clear ho2 hb2
      go_wp2_with (refine wpList_store_blk rfl rfl rfl rfl HR2.out rfl Try.sizeFaultE rfl ?_; intro w8 hR8 hg8; have HR8 := hide hR8; have HG8 := hide hg8; clear hR8 hg8)
      refine bodyPost_ret (v := .tuple #[.slice so l.length sc, .bool false, .agg #[.int .i64 0, .int .i64 0]]) (results3_ttc Try.results35 rfl rfl rfl (run_loadVar_blk HR8.out Try.underlying29 rfl Try.sizeFaultE)) rfl ?_
      exact ⟨_, by rw [HE2.out, HE3.out]; rfl, by rw [HE1.out]; exact RdG.ofOwns (owns_grownO HO2.out HG8.out (.inr (owns_off HO2.out HR2.out (by decide)))), below_grownO HB2.out HG8.out (fun k hk => by cases hk; omega) HB2.out.size⟩
    · have HH1 := hide (HG1.out.trans (if_neg (by rw [hh]; simp)))
      have HH2 := hide (HG2.out.trans (if_neg (by rw [hh]; simp)))
      have HH3 := hide (HG3.out.trans (if_neg (by rw [hh]; simp)))
      have hle := hasE_le hh
      rw [hh] at HHAS
      have HPB := hide (putBehind_any _ _ l m N n _ (HV.out.below HBW.out) (HU.out.below HBW.out) HNN.out hle (by omega) (by omega))
      have HZ2 := hide (outF_z (putGo l N m))
      have HOF := hide (fun V W (h : RdG eE W V (putGo l N m)) => outFault_any V _ W h)
      generalize putGo l N m = PG at *
      generalize hO : outF PG = O at *
      obtain ⟨p, q⟩ := O
      clear hh hO
      go_wp2_with (go_at_call 66; refine HHAS.out.mono ?_; rintro e w2 ⟨rfl, rfl⟩)
      refine HPB.out.mono ?_
      rintro e w2 ⟨v2, rfl, hr2, hb2⟩
      obtain ⟨so, sc, rfl, _, _⟩ := hr2.shape
      have HRD2 := hide hr2
      have HR2 := hide (HR.out.later hb2)
      have HB2 := hide (HBW.out.trans (hb2.mono HBW.out.size))
      clear hr2 hb2
      go_wp2_with fail
      refine (HOF.out _ _ HRD2.out).mono ?_
      rintro e w3 ⟨rfl, hb3⟩
      have HRD3 := hide (HRD2.out.below hb3)
      have HR3 := hide (HR2.out.later hb3)
      have HB3 := hide (HB2.out.trans (hb3.mono HB2.out.size))
      have hrl3 := HR3.out.lt
      clear hb3 HRD2 HR2 HB2
      unfold flt
      by_cases hp : p ≠ 0
      · have HE1 := hide (HH1.out.trans (if_pos hp))
        have HE2 := hide (HH2.out.trans (if_pos hp))
        have hq : (p == 0) = false := beq_eq_false_iff_ne.2 hp
        have hq2 : (p != 0) = true := by simp [hp]
        clear hp
        have r0 := HR3.out.cell 0
        have r1 := HR3.out.cell 1
        have z0 := HR3.out.frozen 0
        have z1 := HR3.out.frozen 1
        simp at r0 r1
        go_wp2_with fail
        go_region
        have hbw := HB3.out
        go_wp2_with fail
        refine bodyPost_ret (v := .tuple #[.slice none 0 0, .bool false, .agg #[.int .i64 p, .int .i64 q]]) (results3_ttc Try.results35 rfl rfl rfl (run_loadVar_blk (xs := #[.int .i64 p, .int .i64 q]) (HR3.out.two) Try.underlying29 rfl Try.sizeFaultE)) rfl ?_
        exact ⟨_, by rw [HE2.out, HH3.out]; rfl, by rw [HE1.out]; exact RdG.nil _, by go_grown⟩
      · have HE1 := hide (HH1.out.trans (if_neg hp))
        have HE2 := hide (HH2.out.trans (if_neg hp))
        obtain rfl : p = 0 := Decidable.not_not.1 hp
        obtain rfl : q = 0 := by have := HZ2.out rfl; simpa using this
        have HR4 := hide (HR3.out.later (below_allocG w3 (.cells #[.int .i64 0, .int .i64 0] 29)))
        have HB4 := hide (HB3.out.trans ((below_allocG w3 (.cells #[.int .i64 0, .int .i64 0] 29)).mono HB3.out.size))
        have HRD4 := hide (HRD3.out.below (below_allocG w3 (.cells #[.int .i64 0, .int .i64 0] 29)))
        clear hp
        go_wp2_with (refine wpList_store_blk rfl rfl rfl rfl HR4.out rfl Try.sizeFaultE rfl ?_; intro w8 hR8 hg8; have HR8 := hide hR8; have HG8 := hide hg8; clear hR8 hg8)
        refine bodyPost_ret (v := .tuple #[.slice so PG.length sc, .bool true, .agg #[.int .i64 0, .int .i64 0]]) (results3_ttc Try.results35 rfl rfl rfl (run_loadVar_blk HR8.out Try.underlying29 rfl Try.sizeFaultE)) rfl ?_
        refine ⟨_, by rw [HE2.out, HH3.out]; rfl, ?_, below_grownO HB4.out HG8.out (fun k hk => by cases hk; omega) HB4.out.size⟩
        rw [HE1.out]
        exact HRD4.out.grownEnt HG8.out HR4.out

end Go.Proofs.Ytpojgcjigjenoag
