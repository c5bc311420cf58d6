/-
  Texts joined: LawSDoes, LawSChooses, Frame, FrameG, CellBase, FrameC, FrameS.
-/
import Derived.Test.YtopnjklloleomaaMSealChooses8
import Derived.ProofKit
import Derived.OpenShut
import Derived.ShutString
import Derived.ChangeOld
import Derived.Below
import Derived.SliceStrings
import Derived.SizedLaws
import Derived.Deep.Slices
import Derived.Lib.SmallJoins
/-
  The walks over the law SealDoes, ownTexts and ownCopy. (Written by lsd.py.)
-/
namespace Go.Proofs.Ytopnjklloleomaa
open Go.RowKit
set_option linter.unusedVariables false

set_option maxRecDepth 100000 in
theorem ownTexts_any (v : Value) (l : List ByteArray) (w : World) (hv : RdG txE w v l) (hl : l.length ≤ 1000) :
    Calls Try.prog 7 #[v] w fun e w' => ∃ v', e = .returned v' ∧ w'.ownsRow w.heap.size 9 1 v' l.length (txE.vs l) ∧ Below w.heap.size w w' := by
  have HV := hide hv
  obtain ⟨ao, cap, rfl, hc1, hc2⟩ := hv.shape
  clear hv
  go_enter Try.func7, Try.ntmps7
  go_wp2_with (refine wpList_append_rdG (E := txE) (cs := []) (v := .slice none 0 0) (n := 0) (base := w.heap.size) (World.ownsRow_nil _ _ _ _) HV.out Try.underlying22 infoText rfl rfl rfl rfl rfl (by omega) (by decide) (Nat.le_refl _) ?_; intro v5 w5 ho5 hb5 hg5; rw [List.nil_append, Nat.zero_add] at ho5; obtain ⟨ao5, cap5, rfl⟩ := owns_shape ho5; have HO5 := hide ho5; have HB5 := hide hb5; clear ho5 hb5 hg5)
  go_ret
  exact ⟨_, rfl, HO5.out, HB5.out⟩

set_option maxRecDepth 100000 in
theorem ownCopy_any (c : Cp) (v : Value) (w : World) (hv : RdG txE w v c.recs) (hl : c.recs.length ≤ 1000) :
    Calls Try.prog 6 #[cpV c v] w fun e w' => ∃ v', e = .returned (cpV c v') ∧ w'.ownsRow w.heap.size 9 1 v' c.recs.length (txE.vs c.recs) ∧ Below w.heap.size w w' := by
  obtain ⟨ao, cap, rfl, hc1, hc2⟩ := hv.shape
  have hA := below_alloc2 w (.cells #[.int .i64 c.ep, .bool c.cl, .slice ao c.recs.length cap, .int .i64 c.en] 24) (.cells #[.int .i64 0, .bool false, .slice none 0 0, .int .i64 0] 24)
  have HO := hide (ownTexts_any _ c.recs _ (hv.below hA) hl)
  have HB0 := hide (Blk.at0of2 w (.cells #[.int .i64 0, .bool false, .slice none 0 0, .int .i64 0] 24) 24 #[.int .i64 c.ep, .bool c.cl, .slice ao c.recs.length cap, .int .i64 c.en])
  have HR0 := hide (Blk.at1 w (.cells #[.int .i64 c.ep, .bool c.cl, .slice ao c.recs.length cap, .int .i64 c.en] 24) 24 #[.int .i64 0, .bool false, .slice none 0 0, .int .i64 0])
  have HA0 := hide hA
  have hsz := hA.size
  have b2 := HB0.out.cell 2
  have bl := HB0.out.lt
  simp at b2 bl
  clear hv hA
  unfold cpV
  go_enter Try.func6, Try.ntmps6
  go_upto_region 2 with (first
    | (go_at_call 7; refine HO.out.mono ?_; rintro e w1 ⟨v1, rfl, ho1, hb1⟩; obtain ⟨ao1, cap1, rfl⟩ := owns_shape ho1; have HB1 := hide (HB0.out.later hb1); have HR1 := hide (HR0.out.later hb1); have HA1 := hide (HA0.out.trans (hb1.mono hsz)); have HO1 := hide (owns_base0 ho1 hsz); clear ho1 hb1)
    | (refine wpList_store_slice (k := 2) rfl rfl rfl rfl HB1.out rfl Try.sizeTexts ?_; intro w2 hB2 hg2; have HB2 := hide hB2; have HR2 := hide (HR1.out.grown hg2 (fun q => by simp at q)); have HO2 := hide (owns_grownO HO1.out hg2 (.inr (owns_off HO1.out HB1.out (by decide)))); have HA2 := hide (below_grownO HA1.out hg2 (fun k hk => by cases hk; omega) HA1.out.size); clear hB2 hg2))
  have HB2 := hide (show Blk w2 w.heap.size 24 #[.int .i64 c.ep, .bool c.cl, .slice ao1 c.recs.length cap1, .int .i64 c.en] from HB2.out)
  go_wp2_with (first
    | (refine wpList_load_blk HB2.out Try.underlying24 rfl Try.sizeCopy rfl rfl rfl ?_)
    | (refine wpList_store_blk rfl rfl rfl rfl HR2.out rfl Try.sizeCopy rfl ?_; intro w3 hR3 hg3; have HR3 := hide hR3; have HO3 := hide (owns_grownO HO2.out hg3 (.inr (owns_off HO2.out HR2.out (by decide)))); have HA3 := hide (below_grownO HA2.out hg3 (fun k hk => by cases hk; omega) HA2.out.size); clear hR3 hg3))
  refine bodyPost_ret (v := .agg #[.int .i64 c.ep, .bool c.cl, .slice ao1 c.recs.length cap1, .int .i64 c.en]) (results1_cell Try.results6 rfl (run_loadVar_blk HR3.out Try.underlying24 rfl Try.sizeCopy)) rfl ?_
  exact ⟨_, rfl, HO3.out, HA3.out⟩

set_option maxRecDepth 100000 in
set_option maxHeartbeats 16000000 in
theorem sealDoes_any (c : Cp) (v : Value) (e_ at_ : Int) (r : ByteArray) (u : Value) (m : List ByteArray) (w : World) (hv : RdG txE w v c.recs) (hu : RdG txE w u m) :
    Calls Try.prog 3 #[cpV c v, .int .i64 e_, .int .i64 at_, .string r, u] w fun e w' => e = .returned (.bool true) ∧ Below w.heap.size w w' := by
  obtain ⟨ao, cap, rfl, hc1, hc2⟩ := hv.shape
  obtain ⟨au, cau, rfl, hu1, hu2⟩ := hu.shape
  unfold maxLen at hc2 hu2
  have hA := below_allocG w (.cells #[.int .i64 c.ep, .bool c.cl, (.slice ao c.recs.length cap), .int .i64 c.en] 24)
  have HCc0 := hide (Blk.new w 24 #[.int .i64 c.ep, .bool c.cl, (.slice ao c.recs.length cap), .int .i64 c.en])
  have HRc0 := hide (hv.below hA)
  have HRm0 := hide (hu.below hA)
  have HA0 := hide hA
  generalize hW : w.alloc (.cells #[.int .i64 c.ep, .bool c.cl, (.slice ao c.recs.length cap), .int .i64 c.en] 24) = W0 at HCc0 HRc0 HRm0 HA0
  have HW := hide hW
  clear hv hu hA hW
  unfold cpV
  go_enter Try.func3, Try.ntmps3
  go_upto_region 1 with fail
  rw [HW.out]
  clear HW
  have HC0 := hide (sealBegun_any W0)
  go_upto_region 3 with (first
    | (go_at_call 5; refine HC0.out.mono ?_; rintro e x1 ⟨rfl, hb⟩))
  have hbX := hb
  have HCc1 := hide (HCc0.out.later hbX)
  have HRc1 := hide (HRc0.out.below hbX)
  have HRm1 := hide (HRm0.out.below hbX)
  have HA1 := hide (HA0.out.trans (hbX.mono HA0.out.size))
  clear HCc0 HRc0 HRm0 HA0
  obtain ⟨W1, hWX⟩ : ∃ W, W = x1 := ⟨_, rfl⟩
  rw [← hWX] at HCc1 HRc1 HRm1 HA1 ⊢
  clear hWX
  clear hb hbX HC0
  have b2 := HCc1.out.cell 2
  have bl := HCc1.out.lt
  simp at b2
  by_cases hg : 300 < c.recs.length ∨ 300 < m.length
  · by_cases hg1 : 300 < c.recs.length
    · have d1 : decide ((300 : Int) < (c.recs.length : Int)) = true := decide_eq_true (by omega)
      clear hg
      go_wp2_with fail
      go_ret
      exact ⟨rfl, HA1.out⟩
    · have hg2 : 300 < m.length := hg.resolve_left hg1
      have d1 : decide ((300 : Int) < (c.recs.length : Int)) = false := decide_eq_false (by omega)
      have d2 : decide ((300 : Int) < (m.length : Int)) = true := decide_eq_true (by omega)
      clear hg
      go_wp2_with fail
      go_ret
      exact ⟨rfl, HA1.out⟩
  have hl1 : c.recs.length ≤ 1000 := by omega
  have hl2 : m.length ≤ 1000 := by omega
  have hg1 : ¬ 300 < c.recs.length := by omega
  have hg2 : ¬ 300 < m.length := by omega
  have d1 : decide ((300 : Int) < (c.recs.length : Int)) = false := decide_eq_false (by omega)
  have d2 : decide ((300 : Int) < (m.length : Int)) = false := decide_eq_false (by omega)
  clear hg
  go_upto_region 5 with fail
  have HL1 := hide hl1
  have HL2 := hide hl2
  clear b2 bl hg1 hg2 hl1 hl2 d1 d2
  have HC1 := hide (ownCopy_any c _ W1 HRc1.out HL1.out)
  go_upto_region 6 with (first
    | (refine wpList_load_blk HCc1.out Try.underlying24 rfl Try.sizeCopy rfl rfl rfl ?_)
    | (go_at_call 6; refine HC1.out.mono ?_; rintro e x2 ⟨vx, rfl, ho, hb⟩; obtain ⟨ax, kx, rfl⟩ := owns_shape ho; unfold cpV))
  have hbT := below_allocG x2 (.cells #[.int .i64 c.ep, .bool c.cl, (.slice ax c.recs.length kx), .int .i64 c.en] 24)
  have hbX := hb.trans (hbT.mono hb.size)
  have HCc2 := hide (HCc1.out.later hbX)
  have HRc2 := hide (HRc1.out.below hbX)
  have HRm2 := hide (HRm1.out.below hbX)
  have HA2 := hide (HA1.out.trans (hbX.mono HA1.out.size))
  have HCx2 := hide (Blk.new x2 24 #[.int .i64 c.ep, .bool c.cl, (.slice ax c.recs.length kx), .int .i64 c.en])
  have HRx2 := hide ((RdG.ofOwns (E := txE) ho).below hbT)
  clear HCc1 HRc1 HRm1 HA1
  generalize hWX : (x2.alloc (.cells #[.int .i64 c.ep, .bool c.cl, (.slice ax c.recs.length kx), .int .i64 c.en] 24)) = W2 at HCc2 HRc2 HRm2 HCx2 HRx2 HA2 ⊢
  clear hWX hbT
  clear hb hbX HC1 ho
  have HC2 := hide (ownTexts_any _ m W2 HRm2.out HL2.out)
  go_upto_region 7 with (first
    | (go_at_call 7; refine HC2.out.mono ?_; rintro e x3 ⟨vy, rfl, ho, hb⟩; obtain ⟨ay, ky, rfl⟩ := owns_shape ho))
  have hbX := hb
  have HCc3 := hide (HCc2.out.later hbX)
  have HRc3 := hide (HRc2.out.below hbX)
  have HRm3 := hide (HRm2.out.below hbX)
  have HCx3 := hide (HCx2.out.later hbX)
  have HRx3 := hide (HRx2.out.below hbX)
  have HA3 := hide (HA2.out.trans (hbX.mono HA2.out.size))
  have HRy3 := hide ((RdG.ofOwns (E := txE) ho))
  clear HCc2 HRc2 HRm2 HCx2 HRx2 HA2
  obtain ⟨W3, hWX⟩ : ∃ W, W = x3 := ⟨_, rfl⟩
  rw [← hWX] at HCc3 HRc3 HRm3 HCx3 HRx3 HRy3 HA3 ⊢
  clear hWX
  clear hb hbX HC2 ho
  obtain ⟨⟨kx_, ky_⟩, hKE⟩ : ∃ K, K = chkC c := ⟨_, rfl⟩
  have HKE := hide hKE
  clear hKE
  have HC3 := hide ((SCheck_any c _ W3 HRx3.out).mono (fun e w' h => (show e = .returned (flt (kx_, ky_)) ∧ Below W3.heap.size W3 w' from ⟨by rw [HKE.out]; exact h.1, h.2⟩)))
  go_upto_region 8 with (first
    | (refine wpList_load_blk HCx3.out Try.underlying24 rfl Try.sizeCopy rfl rfl rfl ?_)
    | (go_at_call 8; refine HC3.out.mono ?_; rintro e x4 ⟨rfl, hb⟩; unfold flt))
  have hbT := below_allocG x4 (.cells #[.int .i64 kx_, .int .i64 ky_] 29)
  have hbX := hb.trans (hbT.mono hb.size)
  have HCc4 := hide (HCc3.out.later hbX)
  have HRc4 := hide (HRc3.out.below hbX)
  have HRm4 := hide (HRm3.out.below hbX)
  have HCx4 := hide (HCx3.out.later hbX)
  have HRx4 := hide (HRx3.out.below hbX)
  have HRy4 := hide (HRy3.out.below hbX)
  have HA4 := hide (HA3.out.trans (hbX.mono HA3.out.size))
  have HKf4 := hide (Blk.new x4 29 #[.int .i64 kx_, .int .i64 ky_])
  clear HCc3 HRc3 HRm3 HCx3 HRx3 HRy3 HA3
  generalize hWX : (x4.alloc (.cells #[.int .i64 kx_, .int .i64 ky_] 29)) = W4 at HCc4 HRc4 HRm4 HCx4 HRx4 HRy4 HKf4 HA4 ⊢
  clear hWX hbT
  clear hb hbX HC3
  obtain ⟨⟨pe, pc, pl, pn⟩, hpC⟩ : ∃ K, K = appC c e_ at_ r := ⟨_, rfl⟩
  obtain ⟨⟨px, py⟩, hpF⟩ : ∃ K, K = appF c e_ at_ r := ⟨_, rfl⟩
  have HpC := hide hpC
  have HpF := hide hpF
  clear hpC hpF
  have HC4 := hide ((Append_any c _ e_ at_ r W4 HRx4.out).mono (fun e w' h => (show ∃ v', e = .returned (.tuple #[cpV ⟨pe, pc, pl, pn⟩ v', flt (px, py)]) ∧ w'.ownsRow W4.heap.size 9 1 v' pl.length (txE.vs pl) ∧ Below W4.heap.size W4 w' from by rw [HpC.out, HpF.out]; rw [show pl = (appC c e_ at_ r).recs by rw [← HpC.out]]; exact h)))
  go_upto_region 9 with (first
    | (refine wpList_load_blk HCx4.out Try.underlying24 rfl Try.sizeCopy rfl rfl rfl ?_)
    | (go_at_call 9; refine HC4.out.mono ?_; rintro e x5 ⟨vp, rfl, ho, hb⟩; obtain ⟨ap, kp, rfl⟩ := owns_shape ho; unfold cpV flt))
  have hbT := below_alloc2 x5 (.cells #[.int .i64 pe, .bool pc, .slice ap pl.length kp, .int .i64 pn] 24) (.cells #[.int .i64 px, .int .i64 py] 29)
  have hbX := hb.trans (hbT.mono hb.size)
  have HCc5 := hide (HCc4.out.later hbX)
  have HRc5 := hide (HRc4.out.below hbX)
  have HRm5 := hide (HRm4.out.below hbX)
  have HCx5 := hide (HCx4.out.later hbX)
  have HRx5 := hide (HRx4.out.below hbX)
  have HRy5 := hide (HRy4.out.below hbX)
  have HKf5 := hide (HKf4.out.later hbX)
  have HA5 := hide (HA4.out.trans (hbX.mono HA4.out.size))
  have HCp5 := hide (Blk.at0of2 x5 (.cells #[.int .i64 px, .int .i64 py] 29) 24 #[.int .i64 pe, .bool pc, .slice ap pl.length kp, .int .i64 pn])
  have HFp5 := hide (Blk.at1 x5 (.cells #[.int .i64 pe, .bool pc, .slice ap pl.length kp, .int .i64 pn] 24) 29 #[.int .i64 px, .int .i64 py])
  have HRp5 := hide ((RdG.ofOwns (E := txE) ho).below hbT)
  clear HCc4 HRc4 HRm4 HCx4 HRx4 HRy4 HKf4 HA4
  generalize hWX : ((x5.alloc (.cells #[.int .i64 pe, .bool pc, .slice ap pl.length kp, .int .i64 pn] 24)).alloc (.cells #[.int .i64 px, .int .i64 py] 29)) = W5 at HCc5 HRc5 HRm5 HCx5 HRx5 HRy5 HKf5 HCp5 HFp5 HRp5 HA5 ⊢
  clear hWX hbT
  clear hb hbX HC4 ho
  obtain ⟨⟨qe, qc, ql, qn⟩, hqC⟩ : ∃ K, K = cloC c e_ := ⟨_, rfl⟩
  obtain ⟨⟨qx, qy⟩, hqF⟩ : ∃ K, K = cloF c e_ := ⟨_, rfl⟩
  have HqC := hide hqC
  have HqF := hide hqF
  clear hqC hqF
  have HC5 := hide ((Close_any c _ e_ W5 HRx5.out).mono (fun e w' h => (show ∃ v', e = .returned (.tuple #[cpV ⟨qe, qc, ql, qn⟩ v', flt (qx, qy)]) ∧ w'.ownsRow W5.heap.size 9 1 v' ql.length (txE.vs ql) ∧ Below W5.heap.size W5 w' from by rw [HqC.out, HqF.out]; rw [show ql = (cloC c e_).recs by rw [← HqC.out]]; exact h)))
  go_upto_region 10 with (first
    | (refine wpList_load_blk HCx5.out Try.underlying24 rfl Try.sizeCopy rfl rfl rfl ?_)
    | (go_at_call 10; refine HC5.out.mono ?_; rintro e x6 ⟨vq, rfl, ho, hb⟩; obtain ⟨aq, kq, rfl⟩ := owns_shape ho; unfold cpV flt))
  have hbT := below_alloc2 x6 (.cells #[.int .i64 qe, .bool qc, .slice aq ql.length kq, .int .i64 qn] 24) (.cells #[.int .i64 qx, .int .i64 qy] 29)
  have hbX := hb.trans (hbT.mono hb.size)
  have HCc6 := hide (HCc5.out.later hbX)
  have HRc6 := hide (HRc5.out.below hbX)
  have HRm6 := hide (HRm5.out.below hbX)
  have HCx6 := hide (HCx5.out.later hbX)
  have HRx6 := hide (HRx5.out.below hbX)
  have HRy6 := hide (HRy5.out.below hbX)
  have HKf6 := hide (HKf5.out.later hbX)
  have HCp6 := hide (HCp5.out.later hbX)
  have HFp6 := hide (HFp5.out.later hbX)
  have HRp6 := hide (HRp5.out.below hbX)
  have HA6 := hide (HA5.out.trans (hbX.mono HA5.out.size))
  have HCq6 := hide (Blk.at0of2 x6 (.cells #[.int .i64 qx, .int .i64 qy] 29) 24 #[.int .i64 qe, .bool qc, .slice aq ql.length kq, .int .i64 qn])
  have HFq6 := hide (Blk.at1 x6 (.cells #[.int .i64 qe, .bool qc, .slice aq ql.length kq, .int .i64 qn] 24) 29 #[.int .i64 qx, .int .i64 qy])
  have HRq6 := hide ((RdG.ofOwns (E := txE) ho).below hbT)
  clear HCc5 HRc5 HRm5 HCx5 HRx5 HRy5 HKf5 HCp5 HFp5 HRp5 HA5
  generalize hWX : ((x6.alloc (.cells #[.int .i64 qe, .bool qc, .slice aq ql.length kq, .int .i64 qn] 24)).alloc (.cells #[.int .i64 qx, .int .i64 qy] 29)) = W6 at HCc6 HRc6 HRm6 HCx6 HRx6 HRy6 HKf6 HCp6 HFp6 HRp6 HCq6 HFq6 HRq6 HA6 ⊢
  clear hWX hbT
  clear hb hbX HC5 ho
  obtain ⟨⟨ze, zc, zl, zn⟩, hzC⟩ : ∃ K, K = endC c e_ m := ⟨_, rfl⟩
  obtain ⟨⟨zx, zy⟩, hzF⟩ : ∃ K, K = endF c e_ m := ⟨_, rfl⟩
  have HzC := hide hzC
  have HzF := hide hzF
  clear hzC hzF
  have HC6 := hide ((End_any c _ _ e_ m W6 HRx6.out HRy6.out).mono (fun e w' h => (show ∃ v', e = .returned (.tuple #[cpV ⟨ze, zc, zl, zn⟩ v', flt (zx, zy)]) ∧ w'.ownsRow W6.heap.size 9 1 v' zl.length (txE.vs zl) ∧ Below W6.heap.size W6 w' from by rw [HzC.out, HzF.out]; rw [show zl = (endC c e_ m).recs by rw [← HzC.out]]; exact h)))
  go_upto_region 11 with (first
    | (refine wpList_load_blk HCx6.out Try.underlying24 rfl Try.sizeCopy rfl rfl rfl ?_)
    | (go_at_call 11; refine HC6.out.mono ?_; rintro e x7 ⟨vz, rfl, ho, hb⟩; obtain ⟨az, kz, rfl⟩ := owns_shape ho; unfold cpV flt))
  have hbT := below_alloc2 x7 (.cells #[.int .i64 ze, .bool zc, .slice az zl.length kz, .int .i64 zn] 24) (.cells #[.int .i64 zx, .int .i64 zy] 29)
  have hbX := hb.trans (hbT.mono hb.size)
  have HCc7 := hide (HCc6.out.later hbX)
  have HRc7 := hide (HRc6.out.below hbX)
  have HRm7 := hide (HRm6.out.below hbX)
  have HCx7 := hide (HCx6.out.later hbX)
  have HRx7 := hide (HRx6.out.below hbX)
  have HRy7 := hide (HRy6.out.below hbX)
  have HKf7 := hide (HKf6.out.later hbX)
  have HCp7 := hide (HCp6.out.later hbX)
  have HFp7 := hide (HFp6.out.later hbX)
  have HRp7 := hide (HRp6.out.below hbX)
  have HCq7 := hide (HCq6.out.later hbX)
  have HFq7 := hide (HFq6.out.later hbX)
  have HRq7 := hide (HRq6.out.below hbX)
  have HA7 := hide (HA6.out.trans (hbX.mono HA6.out.size))
  have HCz7 := hide (Blk.at0of2 x7 (.cells #[.int .i64 zx, .int .i64 zy] 29) 24 #[.int .i64 ze, .bool zc, .slice az zl.length kz, .int .i64 zn])
  have HFz7 := hide (Blk.at1 x7 (.cells #[.int .i64 ze, .bool zc, .slice az zl.length kz, .int .i64 zn] 24) 29 #[.int .i64 zx, .int .i64 zy])
  have HRz7 := hide ((RdG.ofOwns (E := txE) ho).below hbT)
  clear HCc6 HRc6 HRm6 HCx6 HRx6 HRy6 HKf6 HCp6 HFp6 HRp6 HCq6 HFq6 HRq6 HA6
  generalize hWX : ((x7.alloc (.cells #[.int .i64 ze, .bool zc, .slice az zl.length kz, .int .i64 zn] 24)).alloc (.cells #[.int .i64 zx, .int .i64 zy] 29)) = W7 at HCc7 HRc7 HRm7 HCx7 HRx7 HRy7 HKf7 HCp7 HFp7 HRp7 HCq7 HFq7 HRq7 HCz7 HFz7 HRz7 HA7 ⊢
  clear hWX hbT
  clear hb hbX HC6 ho
  have HS7 := hide (SameCopy_eq c _ _ W7 HRx7.out HRc7.out)
  go_upto_region 13 with (first
    | (refine wpList_load_blk HCx7.out Try.underlying24 rfl Try.sizeCopy rfl rfl rfl ?_)
    | (refine wpList_load_blk HCc7.out Try.underlying24 rfl Try.sizeCopy rfl rfl rfl ?_)
    | (go_at_call 12; refine HS7.out.mono ?_; rintro e y1 ⟨rfl, hb1⟩; have HT1 := hide (SameTexts_eq _ _ m y1 (HRy7.out.below hb1) (HRm7.out.below hb1)); have HB1 := hide hb1; clear hb1)
    | (go_at_call 13; refine HT1.out.mono ?_; rintro e y2 ⟨rfl, hb2⟩; have HB2 := hide (HB1.out.trans (hb2.mono HB1.out.size)); clear hb2))
  have hbX := HB2.out
  have HCc8 := hide (HCc7.out.later hbX)
  have HRc8 := hide (HRc7.out.below hbX)
  have HRm8 := hide (HRm7.out.below hbX)
  have HCx8 := hide (HCx7.out.later hbX)
  have HRx8 := hide (HRx7.out.below hbX)
  have HRy8 := hide (HRy7.out.below hbX)
  have HKf8 := hide (HKf7.out.later hbX)
  have HCp8 := hide (HCp7.out.later hbX)
  have HFp8 := hide (HFp7.out.later hbX)
  have HRp8 := hide (HRp7.out.below hbX)
  have HCq8 := hide (HCq7.out.later hbX)
  have HFq8 := hide (HFq7.out.later hbX)
  have HRq8 := hide (HRq7.out.below hbX)
  have HCz8 := hide (HCz7.out.later hbX)
  have HFz8 := hide (HFz7.out.later hbX)
  have HRz8 := hide (HRz7.out.below hbX)
  have HA8 := hide (HA7.out.trans (hbX.mono HA7.out.size))
  clear HCc7 HRc7 HRm7 HCx7 HRx7 HRy7 HKf7 HCp7 HFp7 HRp7 HCq7 HFq7 HRq7 HCz7 HFz7 HRz7 HA7
  clear hbX HB1 HB2 HS7 HT1
  obtain ⟨W8, hWX⟩ : ∃ W, W = y2 := ⟨_, rfl⟩
  rw [← hWX] at HCc8 HRc8 HRm8 HCx8 HRx8 HRy8 HKf8 HCp8 HFp8 HRp8 HCq8 HFq8 HRq8 HCz8 HFz8 HRz8 HA8 ⊢
  clear hWX
  have HC8 := hide ((Appended_any c _ e_ at_ r W8 HRc8.out).mono (fun e w' h => (show ∃ v', e = .returned (.tuple #[cpV ⟨pe, pc, pl, pn⟩ v', flt (px, py)]) ∧ w'.ownsRow W8.heap.size 9 1 v' pl.length (txE.vs pl) ∧ Below W8.heap.size W8 w' from by rw [HpC.out, HpF.out]; rw [show pl = (appC c e_ at_ r).recs by rw [← HpC.out]]; exact h)))
  go_upto_region 14 with (first
    | (refine wpList_load_blk HCc8.out Try.underlying24 rfl Try.sizeCopy rfl rfl rfl ?_)
    | (go_at_call 14; refine HC8.out.mono ?_; rintro e x9 ⟨vg, rfl, ho, hb⟩; obtain ⟨ag, kg, rfl⟩ := owns_shape ho; unfold cpV flt))
  have hbT := below_alloc2 x9 (.cells #[.int .i64 pe, .bool pc, .slice ag pl.length kg, .int .i64 pn] 24) (.cells #[.int .i64 px, .int .i64 py] 29)
  have hbX := hb.trans (hbT.mono hb.size)
  have HCc9 := hide (HCc8.out.later hbX)
  have HRc9 := hide (HRc8.out.below hbX)
  have HRm9 := hide (HRm8.out.below hbX)
  have HCx9 := hide (HCx8.out.later hbX)
  have HRx9 := hide (HRx8.out.below hbX)
  have HRy9 := hide (HRy8.out.below hbX)
  have HKf9 := hide (HKf8.out.later hbX)
  have HCp9 := hide (HCp8.out.later hbX)
  have HFp9 := hide (HFp8.out.later hbX)
  have HRp9 := hide (HRp8.out.below hbX)
  have HCq9 := hide (HCq8.out.later hbX)
  have HFq9 := hide (HFq8.out.later hbX)
  have HRq9 := hide (HRq8.out.below hbX)
  have HCz9 := hide (HCz8.out.later hbX)
  have HFz9 := hide (HFz8.out.later hbX)
  have HRz9 := hide (HRz8.out.below hbX)
  have HA9 := hide (HA8.out.trans (hbX.mono HA8.out.size))
  have HCg9 := hide (Blk.at0of2 x9 (.cells #[.int .i64 px, .int .i64 py] 29) 24 #[.int .i64 pe, .bool pc, .slice ag pl.length kg, .int .i64 pn])
  have HFg9 := hide (Blk.at1 x9 (.cells #[.int .i64 pe, .bool pc, .slice ag pl.length kg, .int .i64 pn] 24) 29 #[.int .i64 px, .int .i64 py])
  have HRg9 := hide ((RdG.ofOwns (E := txE) ho).below hbT)
  clear HCc8 HRc8 HRm8 HCx8 HRx8 HRy8 HKf8 HCp8 HFp8 HRp8 HCq8 HFq8 HRq8 HCz8 HFz8 HRz8 HA8
  generalize hWX : ((x9.alloc (.cells #[.int .i64 pe, .bool pc, .slice ag pl.length kg, .int .i64 pn] 24)).alloc (.cells #[.int .i64 px, .int .i64 py] 29)) = W9 at HCc9 HRc9 HRm9 HCx9 HRx9 HRy9 HKf9 HCp9 HFp9 HRp9 HCq9 HFq9 HRq9 HCz9 HFz9 HRz9 HCg9 HFg9 HRg9 HA9 ⊢
  clear hWX hbT
  clear hb hbX HC8 ho
  have HC9 := hide ((ClosedCopy_any c _ e_ W9 HRc9.out).mono (fun e w' h => (show ∃ v', e = .returned (.tuple #[cpV ⟨qe, qc, ql, qn⟩ v', flt (qx, qy)]) ∧ w'.ownsRow W9.heap.size 9 1 v' ql.length (txE.vs ql) ∧ Below W9.heap.size W9 w' from by rw [HqC.out, HqF.out]; rw [show ql = (cloC c e_).recs by rw [← HqC.out]]; exact h)))
  go_upto_region 15 with (first
    | (refine wpList_load_blk HCc9.out Try.underlying24 rfl Try.sizeCopy rfl rfl rfl ?_)
    | (go_at_call 15; refine HC9.out.mono ?_; rintro e x10 ⟨vh, rfl, ho, hb⟩; obtain ⟨ah, kh, rfl⟩ := owns_shape ho; unfold cpV flt))
  have hbT := below_alloc2 x10 (.cells #[.int .i64 qe, .bool qc, .slice ah ql.length kh, .int .i64 qn] 24) (.cells #[.int .i64 qx, .int .i64 qy] 29)
  have hbX := hb.trans (hbT.mono hb.size)
  have HCc10 := hide (HCc9.out.later hbX)
  have HRc10 := hide (HRc9.out.below hbX)
  have HRm10 := hide (HRm9.out.below hbX)
  have HCx10 := hide (HCx9.out.later hbX)
  have HRx10 := hide (HRx9.out.below hbX)
  have HRy10 := hide (HRy9.out.below hbX)
  have HKf10 := hide (HKf9.out.later hbX)
  have HCp10 := hide (HCp9.out.later hbX)
  have HFp10 := hide (HFp9.out.later hbX)
  have HRp10 := hide (HRp9.out.below hbX)
  have HCq10 := hide (HCq9.out.later hbX)
  have HFq10 := hide (HFq9.out.later hbX)
  have HRq10 := hide (HRq9.out.below hbX)
  have HCz10 := hide (HCz9.out.later hbX)
  have HFz10 := hide (HFz9.out.later hbX)
  have HRz10 := hide (HRz9.out.below hbX)
  have HCg10 := hide (HCg9.out.later hbX)
  have HFg10 := hide (HFg9.out.later hbX)
  have HRg10 := hide (HRg9.out.below hbX)
  have HA10 := hide (HA9.out.trans (hbX.mono HA9.out.size))
  have HCh10 := hide (Blk.at0of2 x10 (.cells #[.int .i64 qx, .int .i64 qy] 29) 24 #[.int .i64 qe, .bool qc, .slice ah ql.length kh, .int .i64 qn])
  have HFh10 := hide (Blk.at1 x10 (.cells #[.int .i64 qe, .bool qc, .slice ah ql.length kh, .int .i64 qn] 24) 29 #[.int .i64 qx, .int .i64 qy])
  have HRh10 := hide ((RdG.ofOwns (E := txE) ho).below hbT)
  clear HCc9 HRc9 HRm9 HCx9 HRx9 HRy9 HKf9 HCp9 HFp9 HRp9 HCq9 HFq9 HRq9 HCz9 HFz9 HRz9 HCg9 HFg9 HRg9 HA9
  generalize hWX : ((x10.alloc (.cells #[.int .i64 qe, .bool qc, .slice ah ql.length kh, .int .i64 qn] 24)).alloc (.cells #[.int .i64 qx, .int .i64 qy] 29)) = W10 at HCc10 HRc10 HRm10 HCx10 HRx10 HRy10 HKf10 HCp10 HFp10 HRp10 HCq10 HFq10 HRq10 HCz10 HFz10 HRz10 HCg10 HFg10 HRg10 HCh10 HFh10 HRh10 HA10 ⊢
  clear hWX hbT
  clear hb hbX HC9 ho
  have HC10 := hide ((EndedCopy_any c _ e_ _ m W10 HRc10.out HRm10.out).mono (fun e w' h => (show ∃ v', e = .returned (.tuple #[cpV ⟨ze, zc, zl, zn⟩ v', flt (zx, zy)]) ∧ w'.ownsRow W10.heap.size 9 1 v' zl.length (txE.vs zl) ∧ Below W10.heap.size W10 w' from by rw [HzC.out, HzF.out]; rw [show zl = (endC c e_ m).recs by rw [← HzC.out]]; exact h)))
  go_upto_region 16 with (first
    | (refine wpList_load_blk HCc10.out Try.underlying24 rfl Try.sizeCopy rfl rfl rfl ?_)
    | (go_at_call 16; refine HC10.out.mono ?_; rintro e x11 ⟨vj, rfl, ho, hb⟩; obtain ⟨aj, kj, rfl⟩ := owns_shape ho; unfold cpV flt))
  have hbT := below_alloc2 x11 (.cells #[.int .i64 ze, .bool zc, .slice aj zl.length kj, .int .i64 zn] 24) (.cells #[.int .i64 zx, .int .i64 zy] 29)
  have hbX := hb.trans (hbT.mono hb.size)
  have HCc11 := hide (HCc10.out.later hbX)
  have HRc11 := hide (HRc10.out.below hbX)
  have HRm11 := hide (HRm10.out.below hbX)
  have HCx11 := hide (HCx10.out.later hbX)
  have HRx11 := hide (HRx10.out.below hbX)
  have HRy11 := hide (HRy10.out.below hbX)
  have HKf11 := hide (HKf10.out.later hbX)
  have HCp11 := hide (HCp10.out.later hbX)
  have HFp11 := hide (HFp10.out.later hbX)
  have HRp11 := hide (HRp10.out.below hbX)
  have HCq11 := hide (HCq10.out.later hbX)
  have HFq11 := hide (HFq10.out.later hbX)
  have HRq11 := hide (HRq10.out.below hbX)
  have HCz11 := hide (HCz10.out.later hbX)
  have HFz11 := hide (HFz10.out.later hbX)
  have HRz11 := hide (HRz10.out.below hbX)
  have HCg11 := hide (HCg10.out.later hbX)
  have HFg11 := hide (HFg10.out.later hbX)
  have HRg11 := hide (HRg10.out.below hbX)
  have HCh11 := hide (HCh10.out.later hbX)
  have HFh11 := hide (HFh10.out.later hbX)
  have HRh11 := hide (HRh10.out.below hbX)
  have HA11 := hide (HA10.out.trans (hbX.mono HA10.out.size))
  have HCj11 := hide (Blk.at0of2 x11 (.cells #[.int .i64 zx, .int .i64 zy] 29) 24 #[.int .i64 ze, .bool zc, .slice aj zl.length kj, .int .i64 zn])
  have HFj11 := hide (Blk.at1 x11 (.cells #[.int .i64 ze, .bool zc, .slice aj zl.length kj, .int .i64 zn] 24) 29 #[.int .i64 zx, .int .i64 zy])
  have HRj11 := hide ((RdG.ofOwns (E := txE) ho).below hbT)
  clear HCc10 HRc10 HRm10 HCx10 HRx10 HRy10 HKf10 HCp10 HFp10 HRp10 HCq10 HFq10 HRq10 HCz10 HFz10 HRz10 HCg10 HFg10 HRg10 HCh10 HFh10 HRh10 HA10
  generalize hWX : ((x11.alloc (.cells #[.int .i64 ze, .bool zc, .slice aj zl.length kj, .int .i64 zn] 24)).alloc (.cells #[.int .i64 zx, .int .i64 zy] 29)) = W11 at HCc11 HRc11 HRm11 HCx11 HRx11 HRy11 HKf11 HCp11 HFp11 HRp11 HCq11 HFq11 HRq11 HCz11 HFz11 HRz11 HCg11 HFg11 HRg11 HCh11 HFh11 HRh11 HCj11 HFj11 HRj11 HA11 ⊢
  clear hWX hbT
  clear hb hbX HC10 ho
  have HDR := hide (show Below W11.heap.size W11 W11.drew from Below.drew (Below.refl _ _))
  have HKEEP : Hid (∀ W, Below W11.heap.size W11 W → W.cell? ⟨x4.heap.size, 0, none⟩ = some (.int .i64 kx_) ∧ W.cell? ⟨x4.heap.size, 1, none⟩ = some (.int .i64 ky_) ∧ W.cell? ⟨w.heap.size, 0, none⟩ = some (.int .i64 c.ep) ∧ W.cell? ⟨w.heap.size, 1, none⟩ = some (.bool c.cl) ∧ W.cell? ⟨w.heap.size, 2, none⟩ = some ((.slice ao c.recs.length cap)) ∧ W.cell? ⟨w.heap.size, 3, none⟩ = some (.int .i64 c.en) ∧ W.cell? ⟨x5.heap.size + 1, 0, none⟩ = some (.int .i64 px) ∧ W.cell? ⟨x5.heap.size + 1, 1, none⟩ = some (.int .i64 py) ∧ W.cell? ⟨x9.heap.size + 1, 0, none⟩ = some (.int .i64 px) ∧ W.cell? ⟨x9.heap.size + 1, 1, none⟩ = some (.int .i64 py) ∧ W.cell? ⟨x6.heap.size + 1, 0, none⟩ = some (.int .i64 qx) ∧ W.cell? ⟨x6.heap.size + 1, 1, none⟩ = some (.int .i64 qy) ∧ W.cell? ⟨x10.heap.size + 1, 0, none⟩ = some (.int .i64 qx) ∧ W.cell? ⟨x10.heap.size + 1, 1, none⟩ = some (.int .i64 qy) ∧ W.cell? ⟨x7.heap.size + 1, 0, none⟩ = some (.int .i64 zx) ∧ W.cell? ⟨x7.heap.size + 1, 1, none⟩ = some (.int .i64 zy) ∧ W.cell? ⟨x11.heap.size + 1, 0, none⟩ = some (.int .i64 zx) ∧ W.cell? ⟨x11.heap.size + 1, 1, none⟩ = some (.int .i64 zy) ∧ W.cell? ⟨x5.heap.size, 0, none⟩ = some (.int .i64 pe) ∧ W.cell? ⟨x5.heap.size, 1, none⟩ = some (.bool pc) ∧ W.cell? ⟨x5.heap.size, 2, none⟩ = some (.slice ap pl.length kp) ∧ W.cell? ⟨x5.heap.size, 3, none⟩ = some (.int .i64 pn) ∧ W.cell? ⟨x9.heap.size, 0, none⟩ = some (.int .i64 pe) ∧ W.cell? ⟨x9.heap.size, 1, none⟩ = some (.bool pc) ∧ W.cell? ⟨x9.heap.size, 2, none⟩ = some (.slice ag pl.length kg) ∧ W.cell? ⟨x9.heap.size, 3, none⟩ = some (.int .i64 pn) ∧ W.cell? ⟨x6.heap.size, 0, none⟩ = some (.int .i64 qe) ∧ W.cell? ⟨x6.heap.size, 1, none⟩ = some (.bool qc) ∧ W.cell? ⟨x6.heap.size, 2, none⟩ = some (.slice aq ql.length kq) ∧ W.cell? ⟨x6.heap.size, 3, none⟩ = some (.int .i64 qn) ∧ W.cell? ⟨x10.heap.size, 0, none⟩ = some (.int .i64 qe) ∧ W.cell? ⟨x10.heap.size, 1, none⟩ = some (.bool qc) ∧ W.cell? ⟨x10.heap.size, 2, none⟩ = some (.slice ah ql.length kh) ∧ W.cell? ⟨x10.heap.size, 3, none⟩ = some (.int .i64 qn) ∧ W.cell? ⟨x7.heap.size, 0, none⟩ = some (.int .i64 ze) ∧ W.cell? ⟨x7.heap.size, 1, none⟩ = some (.bool zc) ∧ W.cell? ⟨x7.heap.size, 2, none⟩ = some (.slice az zl.length kz) ∧ W.cell? ⟨x7.heap.size, 3, none⟩ = some (.int .i64 zn) ∧ W.cell? ⟨x11.heap.size, 0, none⟩ = some (.int .i64 ze) ∧ W.cell? ⟨x11.heap.size, 1, none⟩ = some (.bool zc) ∧ W.cell? ⟨x11.heap.size, 2, none⟩ = some (.slice aj zl.length kj) ∧ W.cell? ⟨x11.heap.size, 3, none⟩ = some (.int .i64 zn)) := hide (fun W hW => ⟨(HKf11.out.later hW).cell 0, (HKf11.out.later hW).cell 1, (HCc11.out.later hW).cell 0, (HCc11.out.later hW).cell 1, (HCc11.out.later hW).cell 2, (HCc11.out.later hW).cell 3, (HFp11.out.later hW).cell 0, (HFp11.out.later hW).cell 1, (HFg11.out.later hW).cell 0, (HFg11.out.later hW).cell 1, (HFq11.out.later hW).cell 0, (HFq11.out.later hW).cell 1, (HFh11.out.later hW).cell 0, (HFh11.out.later hW).cell 1, (HFz11.out.later hW).cell 0, (HFz11.out.later hW).cell 1, (HFj11.out.later hW).cell 0, (HFj11.out.later hW).cell 1, (HCp11.out.later hW).cell 0, (HCp11.out.later hW).cell 1, (HCp11.out.later hW).cell 2, (HCp11.out.later hW).cell 3, (HCg11.out.later hW).cell 0, (HCg11.out.later hW).cell 1, (HCg11.out.later hW).cell 2, (HCg11.out.later hW).cell 3, (HCq11.out.later hW).cell 0, (HCq11.out.later hW).cell 1, (HCq11.out.later hW).cell 2, (HCq11.out.later hW).cell 3, (HCh11.out.later hW).cell 0, (HCh11.out.later hW).cell 1, (HCh11.out.later hW).cell 2, (HCh11.out.later hW).cell 3, (HCz11.out.later hW).cell 0, (HCz11.out.later hW).cell 1, (HCz11.out.later hW).cell 2, (HCz11.out.later hW).cell 3, (HCj11.out.later hW).cell 0, (HCj11.out.later hW).cell 1, (HCj11.out.later hW).cell 2, (HCj11.out.later hW).cell 3⟩)
  have HQ0 := hide (fun W (hW : Below W11.heap.size W11 W) => (CopyFault_any c _ W (HRc11.out.below hW)).mono (fun e w' h => (show e = .returned (flt (kx_, ky_)) ∧ Below W.heap.size W w' from ⟨by rw [HKE.out]; exact h.1, h.2⟩)))
  unfold cpV flt at HQ0
  have HQ1 := hide (fun W (hW : Below W11.heap.size W11 W) => SameCopy_eq ⟨pe, pc, pl, pn⟩ _ _ W (HRp11.out.below hW) (HRg11.out.below hW))
  unfold cpV at HQ1
  dsimp only at HQ1
  have HQ2 := hide (fun W (hW : Below W11.heap.size W11 W) => SameCopy_eq ⟨qe, qc, ql, qn⟩ _ _ W (HRq11.out.below hW) (HRh11.out.below hW))
  unfold cpV at HQ2
  dsimp only at HQ2
  have HQ3 := hide (fun W (hW : Below W11.heap.size W11 W) => SameCopy_eq ⟨ze, zc, zl, zn⟩ _ _ W (HRz11.out.below hW) (HRj11.out.below hW))
  unfold cpV at HQ3
  dsimp only at HQ3
  dsimp only at HQ0
  refine wp_region_heldD (S := fun W => W.cell? ⟨x4.heap.size, 0, none⟩ = some (.int .i64 kx_) ∧ W.cell? ⟨x4.heap.size, 1, none⟩ = some (.int .i64 ky_) ∧ W.cell? ⟨w.heap.size, 0, none⟩ = some (.int .i64 c.ep) ∧ W.cell? ⟨w.heap.size, 1, none⟩ = some (.bool c.cl) ∧ W.cell? ⟨w.heap.size, 2, none⟩ = some ((.slice ao c.recs.length cap)) ∧ W.cell? ⟨w.heap.size, 3, none⟩ = some (.int .i64 c.en) ∧ W.cell? ⟨x5.heap.size + 1, 0, none⟩ = some (.int .i64 px) ∧ W.cell? ⟨x5.heap.size + 1, 1, none⟩ = some (.int .i64 py) ∧ W.cell? ⟨x9.heap.size + 1, 0, none⟩ = some (.int .i64 px) ∧ W.cell? ⟨x9.heap.size + 1, 1, none⟩ = some (.int .i64 py) ∧ W.cell? ⟨x6.heap.size + 1, 0, none⟩ = some (.int .i64 qx) ∧ W.cell? ⟨x6.heap.size + 1, 1, none⟩ = some (.int .i64 qy) ∧ W.cell? ⟨x10.heap.size + 1, 0, none⟩ = some (.int .i64 qx) ∧ W.cell? ⟨x10.heap.size + 1, 1, none⟩ = some (.int .i64 qy) ∧ W.cell? ⟨x7.heap.size + 1, 0, none⟩ = some (.int .i64 zx) ∧ W.cell? ⟨x7.heap.size + 1, 1, none⟩ = some (.int .i64 zy) ∧ W.cell? ⟨x11.heap.size + 1, 0, none⟩ = some (.int .i64 zx) ∧ W.cell? ⟨x11.heap.size + 1, 1, none⟩ = some (.int .i64 zy) ∧ W.cell? ⟨x5.heap.size, 0, none⟩ = some (.int .i64 pe) ∧ W.cell? ⟨x5.heap.size, 1, none⟩ = some (.bool pc) ∧ W.cell? ⟨x5.heap.size, 2, none⟩ = some (.slice ap pl.length kp) ∧ W.cell? ⟨x5.heap.size, 3, none⟩ = some (.int .i64 pn) ∧ W.cell? ⟨x9.heap.size, 0, none⟩ = some (.int .i64 pe) ∧ W.cell? ⟨x9.heap.size, 1, none⟩ = some (.bool pc) ∧ W.cell? ⟨x9.heap.size, 2, none⟩ = some (.slice ag pl.length kg) ∧ W.cell? ⟨x9.heap.size, 3, none⟩ = some (.int .i64 pn) ∧ W.cell? ⟨x6.heap.size, 0, none⟩ = some (.int .i64 qe) ∧ W.cell? ⟨x6.heap.size, 1, none⟩ = some (.bool qc) ∧ W.cell? ⟨x6.heap.size, 2, none⟩ = some (.slice aq ql.length kq) ∧ W.cell? ⟨x6.heap.size, 3, none⟩ = some (.int .i64 qn) ∧ W.cell? ⟨x10.heap.size, 0, none⟩ = some (.int .i64 qe) ∧ W.cell? ⟨x10.heap.size, 1, none⟩ = some (.bool qc) ∧ W.cell? ⟨x10.heap.size, 2, none⟩ = some (.slice ah ql.length kh) ∧ W.cell? ⟨x10.heap.size, 3, none⟩ = some (.int .i64 qn) ∧ W.cell? ⟨x7.heap.size, 0, none⟩ = some (.int .i64 ze) ∧ W.cell? ⟨x7.heap.size, 1, none⟩ = some (.bool zc) ∧ W.cell? ⟨x7.heap.size, 2, none⟩ = some (.slice az zl.length kz) ∧ W.cell? ⟨x7.heap.size, 3, none⟩ = some (.int .i64 zn) ∧ W.cell? ⟨x11.heap.size, 0, none⟩ = some (.int .i64 ze) ∧ W.cell? ⟨x11.heap.size, 1, none⟩ = some (.bool zc) ∧ W.cell? ⟨x11.heap.size, 2, none⟩ = some (.slice aj zl.length kj) ∧ W.cell? ⟨x11.heap.size, 3, none⟩ = some (.int .i64 zn)) (n := 35) (l := (upB 35 0).toArray) (by kernel_rfl) (by kernel_rfl) (by kernel_rfl) (by kernel_rfl) (HKEEP.out _ HDR.out) (fun HNS hHeld => ?_)
  refine wpAnyH_takeD (l' := (upB 35 1).toArray) (i := 0) (fuel := 34) (v := ?v1x0) rfl HNS.out (by kernel_rfl) (by kernel_rfl) (by kernel_rfl) (fun _ _ _ h => h) (by kernel_rfl) ?y1x0 hHeld ?r1x0
  case y1x0 => (intro W hSw; (try dsimp only at hSw); go_simp; first | done | with_reducible rfl)
  try simp only [Act.put, List.setIfInBounds_toArray, List.set_cons_zero, List.set_cons_succ]
  refine wpAnyH_takeD (l' := (upB 35 2).toArray) (i := 1) (fuel := 33) (v := ?v1x1) rfl HNS.out (by kernel_rfl) (by kernel_rfl) (by kernel_rfl) (fun _ _ _ h => h) (by kernel_rfl) ?y1x1 hHeld ?r1x1
  case y1x1 => (intro W hSw; (try dsimp only at hSw); go_simp; first | done | with_reducible rfl)
  try simp only [Act.put, List.setIfInBounds_toArray, List.set_cons_zero, List.set_cons_succ]
  refine wpAnyH_oneD (l' := (upB 35 3).toArray) (i := 2) (fuel := 32) rfl (by kernel_rfl) (by kernel_rfl) (fun Kc hK => ?_)
  go_simp
  go_at_call 17
  refine (HQ0.out _ HDR.out).mono ?_
  rintro e y3 ⟨rfl, hb1⟩
  have HB0 := hide (HDR.out.trans (hb1.mono HDR.out.size))
  clear hb1
  go_wp2_with fail
  refine hK.out _ _ (HKEEP.out _ HB0.out) (fun _ => ?_)
  clear hK Kc
  try simp only [Act.put, List.setIfInBounds_toArray, List.set_cons_zero, List.set_cons_succ]
  refine wpAnyH_takeD (l' := (upB 35 4).toArray) (i := 3) (fuel := 31) (v := ?v1x3) rfl HNS.out (by kernel_rfl) (by kernel_rfl) (by kernel_rfl) (fun _ _ _ h => h) (by kernel_rfl) ?y1x3 (HKEEP.out _ HB0.out) ?r1x3
  case y1x3 => (intro W hSw; go_simp; first | done | with_reducible rfl)
  try simp only [Act.put, List.setIfInBounds_toArray, List.set_cons_zero, List.set_cons_succ]
  refine wpAnyH_takeD (l' := (upB 35 5).toArray) (i := 4) (fuel := 30) (v := ?v1x4) rfl HNS.out (by kernel_rfl) (by kernel_rfl) (by kernel_rfl) (fun _ _ _ h => h) (by kernel_rfl) ?y1x4 (HKEEP.out _ HB0.out) ?r1x4
  case y1x4 => (intro W hSw; go_simp; first | done | with_reducible rfl)
  try simp only [Act.put, List.setIfInBounds_toArray, List.set_cons_zero, List.set_cons_succ]
  refine wpAnyH_takeD (l' := (upB 35 6).toArray) (i := 5) (fuel := 29) (v := ?v1x5) rfl HNS.out (by kernel_rfl) (by kernel_rfl) (by kernel_rfl) (fun _ _ _ h => h) (by kernel_rfl) ?y1x5 (HKEEP.out _ HB0.out) ?r1x5
  case y1x5 => (intro W hSw; (try dsimp only at hSw); go_simp; first | done | with_reducible rfl)
  try simp only [Act.put, List.setIfInBounds_toArray, List.set_cons_zero, List.set_cons_succ]
  refine wpAnyH_takeD (l' := (upB 35 7).toArray) (i := 6) (fuel := 28) (v := ?v1x6) rfl HNS.out (by kernel_rfl) (by kernel_rfl) (by kernel_rfl) (fun _ _ _ h => h) (by kernel_rfl) ?y1x6 (HKEEP.out _ HB0.out) ?r1x6
  case y1x6 => (intro W hSw; (try dsimp only at hSw); go_simp; first | done | with_reducible rfl)
  try simp only [Act.put, List.setIfInBounds_toArray, List.set_cons_zero, List.set_cons_succ]
  refine wpAnyH_takeD (l' := (upB 35 8).toArray) (i := 7) (fuel := 27) (v := ?v1x7) rfl HNS.out (by kernel_rfl) (by kernel_rfl) (by kernel_rfl) (fun _ _ _ h => h) (by kernel_rfl) ?y1x7 (HKEEP.out _ HB0.out) ?r1x7
  case y1x7 => (intro W hSw; go_simp; first | done | with_reducible rfl)
  try simp only [Act.put, List.setIfInBounds_toArray, List.set_cons_zero, List.set_cons_succ]
  refine wpAnyH_takeD (l' := (upB 35 9).toArray) (i := 8) (fuel := 26) (v := ?v1x8) rfl HNS.out (by kernel_rfl) (by kernel_rfl) (by kernel_rfl) (fun _ _ _ h => h) (by kernel_rfl) ?y1x8 (HKEEP.out _ HB0.out) ?r1x8
  case y1x8 => (intro W hSw; go_simp; first | done | with_reducible rfl)
  try simp only [Act.put, List.setIfInBounds_toArray, List.set_cons_zero, List.set_cons_succ]
  refine wpAnyH_takeD (l' := (upB 35 10).toArray) (i := 9) (fuel := 25) (v := ?v1x9) rfl HNS.out (by kernel_rfl) (by kernel_rfl) (by kernel_rfl) (fun _ _ _ h => h) (by kernel_rfl) ?y1x9 (HKEEP.out _ HB0.out) ?r1x9
  case y1x9 => (intro W hSw; go_simp; first | done | with_reducible rfl)
  try simp only [Act.put, List.setIfInBounds_toArray, List.set_cons_zero, List.set_cons_succ]
  refine wpAnyH_takeD (l' := (upB 35 11).toArray) (i := 10) (fuel := 24) (v := ?v1x10) rfl HNS.out (by kernel_rfl) (by kernel_rfl) (by kernel_rfl) (fun _ _ _ h => h) (by kernel_rfl) ?y1x10 (HKEEP.out _ HB0.out) ?r1x10
  case y1x10 => (intro W hSw; (try dsimp only at hSw); go_simp; first | done | with_reducible rfl)
  try simp only [Act.put, List.setIfInBounds_toArray, List.set_cons_zero, List.set_cons_succ]
  refine wpAnyH_takeD (l' := (upB 35 12).toArray) (i := 11) (fuel := 23) (v := ?v1x11) rfl HNS.out (by kernel_rfl) (by kernel_rfl) (by kernel_rfl) (fun _ _ _ h => h) (by kernel_rfl) ?y1x11 (HKEEP.out _ HB0.out) ?r1x11
  case y1x11 => (intro W hSw; (try dsimp only at hSw); go_simp; first | done | with_reducible rfl)
  try simp only [Act.put, List.setIfInBounds_toArray, List.set_cons_zero, List.set_cons_succ]
  refine wpAnyH_takeD (l' := (upB 35 13).toArray) (i := 12) (fuel := 22) (v := ?v1x12) rfl HNS.out (by kernel_rfl) (by kernel_rfl) (by kernel_rfl) (fun _ _ _ h => h) (by kernel_rfl) ?y1x12 (HKEEP.out _ HB0.out) ?r1x12
  case y1x12 => (intro W hSw; go_simp; first | done | with_reducible rfl)
  try simp only [Act.put, List.setIfInBounds_toArray, List.set_cons_zero, List.set_cons_succ]
  refine wpAnyH_takeD (l' := (upB 35 14).toArray) (i := 13) (fuel := 21) (v := ?v1x13) rfl HNS.out (by kernel_rfl) (by kernel_rfl) (by kernel_rfl) (fun _ _ _ h => h) (by kernel_rfl) ?y1x13 (HKEEP.out _ HB0.out) ?r1x13
  case y1x13 => (intro W hSw; go_simp; first | done | with_reducible rfl)
  try simp only [Act.put, List.setIfInBounds_toArray, List.set_cons_zero, List.set_cons_succ]
  refine wpAnyH_takeD (l' := (upB 35 15).toArray) (i := 14) (fuel := 20) (v := ?v1x14) rfl HNS.out (by kernel_rfl) (by kernel_rfl) (by kernel_rfl) (fun _ _ _ h => h) (by kernel_rfl) ?y1x14 (HKEEP.out _ HB0.out) ?r1x14
  case y1x14 => (intro W hSw; go_simp; first | done | with_reducible rfl)
  try simp only [Act.put, List.setIfInBounds_toArray, List.set_cons_zero, List.set_cons_succ]
  refine wpAnyH_takeD (l' := (upB 35 16).toArray) (i := 15) (fuel := 19) (v := ?v1x15) rfl HNS.out (by kernel_rfl) (by kernel_rfl) (by kernel_rfl) (fun _ _ _ h => h) (by kernel_rfl) ?y1x15 (HKEEP.out _ HB0.out) ?r1x15
  case y1x15 => (intro W hSw; (try dsimp only at hSw); go_simp; first | done | with_reducible rfl)
  try simp only [Act.put, List.setIfInBounds_toArray, List.set_cons_zero, List.set_cons_succ]
  refine wpAnyH_takeD (l' := (upB 35 17).toArray) (i := 16) (fuel := 18) (v := ?v1x16) rfl HNS.out (by kernel_rfl) (by kernel_rfl) (by kernel_rfl) (fun _ _ _ h => h) (by kernel_rfl) ?y1x16 (HKEEP.out _ HB0.out) ?r1x16
  case y1x16 => (intro W hSw; (try dsimp only at hSw); go_simp; first | done | with_reducible rfl)
  try simp only [Act.put, List.setIfInBounds_toArray, List.set_cons_zero, List.set_cons_succ]
  refine wpAnyH_takeD (l' := (upB 35 18).toArray) (i := 17) (fuel := 17) (v := ?v1x17) rfl HNS.out (by kernel_rfl) (by kernel_rfl) (by kernel_rfl) (fun _ _ _ h => h) (by kernel_rfl) ?y1x17 (HKEEP.out _ HB0.out) ?r1x17
  case y1x17 => (intro W hSw; go_simp; first | done | with_reducible rfl)
  try simp only [Act.put, List.setIfInBounds_toArray, List.set_cons_zero, List.set_cons_succ]
  refine wpAnyH_takeD (l' := (upB 35 19).toArray) (i := 18) (fuel := 16) (v := ?v1x18) rfl HNS.out (by kernel_rfl) (by kernel_rfl) (by kernel_rfl) (fun _ _ _ h => h) (by kernel_rfl) ?y1x18 (HKEEP.out _ HB0.out) ?r1x18
  case y1x18 => (intro W hSw; go_simp; first | done | with_reducible rfl)
  try simp only [Act.put, List.setIfInBounds_toArray, List.set_cons_zero, List.set_cons_succ]
  refine wpAnyH_takeD (l' := (upB 35 20).toArray) (i := 19) (fuel := 15) (v := ?v1x19) rfl HNS.out (by kernel_rfl) (by kernel_rfl) (by kernel_rfl) (fun _ _ _ h => h) (by kernel_rfl) ?y1x19 (HKEEP.out _ HB0.out) ?r1x19
  case y1x19 => (intro W hSw; go_simp; first | done | with_reducible rfl)
  try simp only [Act.put, List.setIfInBounds_toArray, List.set_cons_zero, List.set_cons_succ]
  refine wpAnyH_takeD (l' := (upB 35 21).toArray) (i := 20) (fuel := 14) (v := ?v1x20) rfl HNS.out (by kernel_rfl) (by kernel_rfl) (by kernel_rfl) (fun _ _ _ h => h) (by kernel_rfl) ?y1x20 (HKEEP.out _ HB0.out) ?r1x20
  case y1x20 => (intro W hSw; (try dsimp only at hSw); go_simp; first | done | with_reducible rfl)
  try simp only [Act.put, List.setIfInBounds_toArray, List.set_cons_zero, List.set_cons_succ]
  refine wpAnyH_takeD (l' := (upB 35 22).toArray) (i := 21) (fuel := 13) (v := ?v1x21) rfl HNS.out (by kernel_rfl) (by kernel_rfl) (by kernel_rfl) (fun _ _ _ h => h) (by kernel_rfl) ?y1x21 (HKEEP.out _ HB0.out) ?r1x21
  case y1x21 => (intro W hSw; (try dsimp only at hSw); go_simp; first | done | with_reducible rfl)
  try simp only [Act.put, List.setIfInBounds_toArray, List.set_cons_zero, List.set_cons_succ]
  refine wpAnyH_oneD (l' := (upB 35 23).toArray) (i := 22) (fuel := 12) rfl (by kernel_rfl) (by kernel_rfl) (fun Kc hK => ?_)
  go_simp
  go_at_call 12
  refine (HQ1.out _ HB0.out).mono ?_
  rintro e y4 ⟨rfl, hb1⟩
  have HB1 := hide (HB0.out.trans (hb1.mono HB0.out.size))
  clear hb1
  go_wp2_with fail
  refine hK.out _ _ (HKEEP.out _ HB1.out) (fun _ => ?_)
  clear hK Kc
  try simp only [Act.put, List.setIfInBounds_toArray, List.set_cons_zero, List.set_cons_succ]
  refine wpAnyH_takeD (l' := (upB 35 24).toArray) (i := 23) (fuel := 11) (v := ?v1x23) rfl HNS.out (by kernel_rfl) (by kernel_rfl) (by kernel_rfl) (fun _ _ _ h => h) (by kernel_rfl) ?y1x23 (HKEEP.out _ HB1.out) ?r1x23
  case y1x23 => (intro W hSw; go_simp; first | done | with_reducible rfl)
  try simp only [Act.put, List.setIfInBounds_toArray, List.set_cons_zero, List.set_cons_succ]
  refine wpAnyH_takeD (l' := (upB 35 25).toArray) (i := 24) (fuel := 10) (v := ?v1x24) rfl HNS.out (by kernel_rfl) (by kernel_rfl) (by kernel_rfl) (fun _ _ _ h => h) (by kernel_rfl) ?y1x24 (HKEEP.out _ HB1.out) ?r1x24
  case y1x24 => (intro W hSw; go_simp; first | done | with_reducible rfl)
  try simp only [Act.put, List.setIfInBounds_toArray, List.set_cons_zero, List.set_cons_succ]
  refine wpAnyH_takeD (l' := (upB 35 26).toArray) (i := 25) (fuel := 9) (v := ?v1x25) rfl HNS.out (by kernel_rfl) (by kernel_rfl) (by kernel_rfl) (fun _ _ _ h => h) (by kernel_rfl) ?y1x25 (HKEEP.out _ HB1.out) ?r1x25
  case y1x25 => (intro W hSw; (try dsimp only at hSw); go_simp; first | done | with_reducible rfl)
  try simp only [Act.put, List.setIfInBounds_toArray, List.set_cons_zero, List.set_cons_succ]
  refine wpAnyH_takeD (l' := (upB 35 27).toArray) (i := 26) (fuel := 8) (v := ?v1x26) rfl HNS.out (by kernel_rfl) (by kernel_rfl) (by kernel_rfl) (fun _ _ _ h => h) (by kernel_rfl) ?y1x26 (HKEEP.out _ HB1.out) ?r1x26
  case y1x26 => (intro W hSw; (try dsimp only at hSw); go_simp; first | done | with_reducible rfl)
  try simp only [Act.put, List.setIfInBounds_toArray, List.set_cons_zero, List.set_cons_succ]
  refine wpAnyH_oneD (l' := (upB 35 28).toArray) (i := 27) (fuel := 7) rfl (by kernel_rfl) (by kernel_rfl) (fun Kc hK => ?_)
  go_simp
  go_at_call 12
  refine (HQ2.out _ HB1.out).mono ?_
  rintro e y5 ⟨rfl, hb1⟩
  have HB2 := hide (HB1.out.trans (hb1.mono HB1.out.size))
  clear hb1
  go_wp2_with fail
  refine hK.out _ _ (HKEEP.out _ HB2.out) (fun _ => ?_)
  clear hK Kc
  try simp only [Act.put, List.setIfInBounds_toArray, List.set_cons_zero, List.set_cons_succ]
  refine wpAnyH_takeD (l' := (upB 35 29).toArray) (i := 28) (fuel := 6) (v := ?v1x28) rfl HNS.out (by kernel_rfl) (by kernel_rfl) (by kernel_rfl) (fun _ _ _ h => h) (by kernel_rfl) ?y1x28 (HKEEP.out _ HB2.out) ?r1x28
  case y1x28 => (intro W hSw; go_simp; first | done | with_reducible rfl)
  try simp only [Act.put, List.setIfInBounds_toArray, List.set_cons_zero, List.set_cons_succ]
  refine wpAnyH_takeD (l' := (upB 35 30).toArray) (i := 29) (fuel := 5) (v := ?v1x29) rfl HNS.out (by kernel_rfl) (by kernel_rfl) (by kernel_rfl) (fun _ _ _ h => h) (by kernel_rfl) ?y1x29 (HKEEP.out _ HB2.out) ?r1x29
  case y1x29 => (intro W hSw; go_simp; first | done | with_reducible rfl)
  try simp only [Act.put, List.setIfInBounds_toArray, List.set_cons_zero, List.set_cons_succ]
  refine wpAnyH_takeD (l' := (upB 35 31).toArray) (i := 30) (fuel := 4) (v := ?v1x30) rfl HNS.out (by kernel_rfl) (by kernel_rfl) (by kernel_rfl) (fun _ _ _ h => h) (by kernel_rfl) ?y1x30 (HKEEP.out _ HB2.out) ?r1x30
  case y1x30 => (intro W hSw; (try dsimp only at hSw); go_simp; first | done | with_reducible rfl)
  try simp only [Act.put, List.setIfInBounds_toArray, List.set_cons_zero, List.set_cons_succ]
  refine wpAnyH_takeD (l' := (upB 35 32).toArray) (i := 31) (fuel := 3) (v := ?v1x31) rfl HNS.out (by kernel_rfl) (by kernel_rfl) (by kernel_rfl) (fun _ _ _ h => h) (by kernel_rfl) ?y1x31 (HKEEP.out _ HB2.out) ?r1x31
  case y1x31 => (intro W hSw; (try dsimp only at hSw); go_simp; first | done | with_reducible rfl)
  try simp only [Act.put, List.setIfInBounds_toArray, List.set_cons_zero, List.set_cons_succ]
  refine wpAnyH_oneD (l' := (upB 35 33).toArray) (i := 32) (fuel := 2) rfl (by kernel_rfl) (by kernel_rfl) (fun Kc hK => ?_)
  go_simp
  go_at_call 12
  refine (HQ3.out _ HB2.out).mono ?_
  rintro e y6 ⟨rfl, hb1⟩
  have HB3 := hide (HB2.out.trans (hb1.mono HB2.out.size))
  clear hb1
  go_wp2_with fail
  refine hK.out _ _ (HKEEP.out _ HB3.out) (fun _ => ?_)
  clear hK Kc
  try simp only [Act.put, List.setIfInBounds_toArray, List.set_cons_zero, List.set_cons_succ]
  refine wpAnyH_takeD (l' := (upB 35 34).toArray) (i := 33) (fuel := 1) (v := ?v1x33) rfl HNS.out (by kernel_rfl) (by kernel_rfl) (by kernel_rfl) (fun _ _ _ h => h) (by kernel_rfl) ?y1x33 (HKEEP.out _ HB3.out) ?r1x33
  case y1x33 => (intro W hSw; go_simp; first | done | with_reducible rfl)
  try simp only [Act.put, List.setIfInBounds_toArray, List.set_cons_zero, List.set_cons_succ]
  refine wpAnyH_takeD (l' := (upB 35 35).toArray) (i := 34) (fuel := 0) (v := ?v1x34) rfl HNS.out (by kernel_rfl) (by kernel_rfl) (by kernel_rfl) (fun _ _ _ h => h) (by kernel_rfl) ?y1x34 (HKEEP.out _ HB3.out) ?r1x34
  case y1x34 => (intro W hSw; go_simp; first | done | with_reducible rfl)
  try simp only [Act.put, List.setIfInBounds_toArray, List.set_cons_zero, List.set_cons_succ]
  refine wpAnyH_done (by kernel_rfl) ?_ _
  go_wp2_with fail
  go_ret
  exact ⟨rfl, HA11.out.trans (HB3.out.mono HA11.out.size)⟩

/-- The same in the order in which the row's arguments come. -/
theorem sealDoes_fr {p1 p2 : Prop} (e_ at_ : Int) (u : Value) (c : Cp) (v : Value) (r : ByteArray) (m : List ByteArray) (w : World) (hv : RdG txE w v c.recs) (_ : p1) (_ : p2) (hu : RdG txE w u m) :
    Calls Try.prog 3 #[cpV c v, .int .i64 e_, .int .i64 at_, .string r, u] w fun e w' => e = .returned (.bool true) ∧ Below w.heap.size w w' := sealDoes_any c v e_ at_ r u m w hv hu

end Go.Proofs.Ytopnjklloleomaa

/-
  The walk over the law SealChooses. (Written by scl.py.)
-/
namespace Go.Proofs.Ytopnjklloleomaa
open Go.RowKit
set_option linter.unusedVariables false

/-- A copy whose texts lie in a row of one's own. -/
def QfO (w : World) (base : Nat) (f : Qf) (c : Cp) : Prop := f.ep = c.ep ∧ f.cl = c.cl ∧ f.en = c.en ∧ w.ownsRow base 9 1 (.slice f.ao f.len f.cap) c.recs.length (txE.vs c.recs)

theorem QfO.is {w : World} {base : Nat} {f : Qf} {c : Cp} (h : QfO w base f c) : f.is w c := ⟨h.1, h.2.1, h.2.2.1, RdG.ofOwns (E := txE) h.2.2.2⟩

theorem QfO.snoc {w : World} {base k : Nat} {fs : List Qf} {cs : List Cp} {f : Qf} {c : Cp} (hk : fs.length = k) (hall : ∀ (i : Nat) g d, fs[i]? = some g → cs[i]? = some d → QfO w base g d) (hc : cs[k]? = some c) (hf : QfO w base f c) :
    ∀ (i : Nat) g d, (fs ++ [f])[i]? = some g → cs[i]? = some d → QfO w base g d := by
  intro i g d hg hd
  subst hk
  by_cases q : i < fs.length
  · rw [List.getElem?_append_left q] at hg
    exact hall i g d hg hd
  · rw [List.getElem?_append_right (by omega)] at hg
    by_cases q2 : i = fs.length
    · subst q2
      simp at hg
      rw [hc] at hd
      cases hd
      exact hg ▸ hf
    · rw [List.getElem?_eq_none (by simp; omega)] at hg
      cases hg

set_option maxRecDepth 100000 in
set_option maxHeartbeats 8000000 in
theorem sealChooses_any (n : Int) (v : Value) (cs : List Cp) (w : World) (hv : RdQ w v cs) :
    Calls Try.prog 4 #[.int .i64 n, v] w fun e w' => e = .returned (.bool true) ∧ Below w.heap.size w w' := by
  have HV := hide hv
  obtain ⟨ao, cap, rfl, hc1, hc2⟩ := hv.shape
  unfold maxLen at hc2
  clear hv
  have HC0 := hide (sealBegun_any w)
  go_enter Try.func4, Try.ntmps4
  go_upto_region 3 with (first
    | (go_at_call 5; refine HC0.out.mono ?_; rintro e x1 ⟨rfl, hb⟩))
  have HA1 := hide hb
  clear hb HC0
  by_cases hg : 20 < cs.length
  · have d1 : decide ((20 : Int) < (cs.length : Int)) = true := decide_eq_true (by omega)
    clear hg
    go_wp2_with fail
    go_ret
    exact ⟨rfl, HA1.out⟩
  have d1 : decide ((20 : Int) < (cs.length : Int)) = false := decide_eq_false (by omega)
  have H20 := hide (show cs.length ≤ 20 by omega)
  clear hg
  go_upto_region 6 with fail
  clear d1
  go_wp2_with fail
  go_loopw [5, 6] (fun xv iv wr => ∃ (k : Nat) (fs : List Qf), k ≤ cs.length ∧ iv = .int .i64 k ∧ fs.length = k ∧ wr.ownsRow w.heap.size 24 4 xv k (qfE.vs fs) ∧ (∀ (i : Nat) f c, fs[i]? = some f → cs[i]? = some c → QfO wr w.heap.size f c) ∧ Below w.heap.size w wr)
    (fun _ iv _ => cs.length - (intOf iv).toNat)
  case atStart => exact ⟨0, [], by omega, rfl, rfl, World.ownsRow_nil _ _ _ _, fun i f c h => by simp at h, HA1.out⟩
  case round =>
    obtain ⟨k, fs, hk, rfl, hfl, hown, hall, hbr⟩ := hrel
    obtain ⟨xo, xcap, rfl⟩ := owns_shapeK hown
    by_cases hlt : k < cs.length
    · obtain ⟨c, hc⟩ : ∃ c, cs[k]? = some c := ⟨_, List.getElem?_eq_getElem hlt⟩
      obtain ⟨b, off, ao', cap', rfl, hb, q0, q1, q2, q3, hr⟩ := HV.out.here hc
      have r0 := cell_belowG q0 hbr
      have r1 := cell_belowG q1 hbr
      have r2 := cell_belowG q2 hbr
      have r3 := cell_belowG q3 hbr
      have hb' : b < wr.heap.size := Nat.lt_of_lt_of_le hb hbr.size
      have hk1 : (0 : Int) ≤ (k : Int) := by omega
      have hk2 : (k : Int) < (cs.length : Int) := by omega
      have HRR := hide (hr.below hbr)
      have HCC := hide hc
      have HOW := hide hown
      have HAL := hide hall
      have HBR := hide hbr
      have HFL := hide hfl
      obtain ⟨ep, cl, l, en⟩ := c
      simp only at r0 r1 r2 r3 HRR HCC
      clear q0 q1 q2 q3 hr hc hb hown hall hbr hfl
      by_cases hg : 300 < l.length
      · have d1 : decide ((300 : Int) < (l.length : Int)) = true := decide_eq_true (by omega)
        clear hg
        go_wp2_with fail
        go_ret
        exact ⟨rfl, HBR.out⟩
      have d1 : decide ((300 : Int) < (l.length : Int)) = false := decide_eq_false (by omega)
      have h20 := H20.out
      have HOC := hide (ownCopy_any ⟨ep, cl, l, en⟩ _ wr HRR.out (show l.length ≤ 1000 by omega))
      unfold cpV at HOC
      dsimp only at HOC
      clear hg
      go_wp2_with (first
        | (go_at_call 6; refine HOC.out.mono ?_; rintro e w2 ⟨v2, rfl, ho2, hb2⟩; obtain ⟨ao2, cap2, rfl⟩ := owns_shape ho2; have HOW2 := hide (owns_below HOW.out hb2); have HAL2 := hide (fun i f c h1 h2 => (⟨(HAL.out i f c h1 h2).1, (HAL.out i f c h1 h2).2.1, (HAL.out i f c h1 h2).2.2.1, owns_below (HAL.out i f c h1 h2).2.2.2 hb2⟩ : QfO w2 w.heap.size f c)); have HO2 := hide (owns_base0 ho2 HBR.out.size); have HB2 := hide (HBR.out.trans (hb2.mono HBR.out.size)); have hsz := HB2.out.size; clear ho2 hb2)
        | (at_builtin; refine wpList_append_oneG (E := qfE) (c := ⟨ep, cl, ao2, l.length, cap2, en⟩) HOW2.out rfl Try.underlying38 infoCopy rfl rfl rfl rfl rfl (by omega) (by decide) hsz ?_; intro v3 w3 ho3 hb3 hg3; have HO3 := hide ho3; have HB3 := hide (HB2.out.trans hb3); have HG3 := hide hg3; clear ho3 hb3 hg3))
      clear hsz
      go_roundw
      case rel => exact ⟨k + 1, _, by omega, by go_num, by rw [List.length_append, HFL.out]; rfl, HO3.out, QfO.snoc HFL.out (fun i f c h1 h2 => ⟨(HAL2.out i f c h1 h2).1, (HAL2.out i f c h1 h2).2.1, (HAL2.out i f c h1 h2).2.2.1, owns_grownO (HAL2.out i f c h1 h2).2.2.2 HG3.out (owns_ne (HAL2.out i f c h1 h2).2.2.2 HOW2.out (by decide))⟩) HCC.out ⟨rfl, rfl, rfl, owns_grownO HO2.out HG3.out (owns_ne HO2.out HOW2.out (by decide))⟩, HB3.out⟩
      case measure => simp [intOf]; omega
    have hke : k = cs.length := by omega
    subst hke
    have HX : Hid (RdQ wr (.slice xo cs.length xcap) cs) := hide ⟨fs, RdG.ofOwns hown, hfl, fun i f c h1 h2 => (hall i f c h1 h2).is⟩
    have HBR := hide hbr
    clear hown hall hbr hfl hlt hk HA1
    obtain ⟨⟨px, py⟩, hP⟩ : ∃ K, K = chooseF n cs := ⟨_, rfl⟩
    obtain ⟨L, hL⟩ : ∃ L, L = choL n cs := ⟨_, rfl⟩
    have HP := hide hP
    have HL := hide hL
    clear hP hL
    have HC1 := hide ((Choose_any n _ cs wr HX.out).mono (fun e w' h => (show ∃ v', e = .returned (.tuple #[v', flt (px, py)]) ∧ w'.ownsRow wr.heap.size 9 1 v' L.length (txE.vs L) ∧ Below wr.heap.size wr w' from by rw [HP.out, HL.out]; exact h)))
    go_upto_region 13 with (go_at_call 18; refine HC1.out.mono ?_; rintro e x2 ⟨va, rfl, ho, hb⟩; obtain ⟨aa, ka, rfl⟩ := owns_shape ho; unfold flt)
    have hbT := below_allocG x2 (.cells #[.int .i64 px, .int .i64 py] 29)
    have hbX := hb.trans (hbT.mono hb.size)
    have HX2 := hide (HX.out.below hbX)
    have HA2 := hide (HBR.out.trans (hbX.mono HBR.out.size))
    have HF2 := hide (Blk.new x2 29 #[.int .i64 px, .int .i64 py])
    have HR2 := hide ((RdG.ofOwns (E := txE) ho).below hbT)
    generalize hWX : x2.alloc (.cells #[.int .i64 px, .int .i64 py] 29) = W2 at HX2 HA2 HF2 HR2 ⊢
    clear hWX hbT hbX hb ho HC1 HX HBR
    go_wp2_with fail
    go_loopw [9] (fun iv wr => ∃ j : Nat, j ≤ cs.length ∧ iv = .int .i64 j ∧ Below W2.heap.size W2 wr)
      (fun iv _ => cs.length - (intOf iv).toNat)
    case atStart => exact ⟨0, by omega, rfl, Below.refl _ _⟩
    case round =>
      obtain ⟨j, hj, rfl, hbl⟩ := hrel
      have HBL := hide hbl
      have HA3 := hide (HA2.out.trans (hbl.mono HA2.out.size))
      have HX3 := hide (HX2.out.below hbl)
      clear hbl
      by_cases hlt : j < cs.length
      · obtain ⟨c, hc⟩ : ∃ c, cs[j]? = some c := ⟨_, List.getElem?_eq_getElem hlt⟩
        obtain ⟨b, off, ao', cap', rfl, hb, q0, q1, q2, q3, hr⟩ := HV.out.here hc
        obtain ⟨xb, xf, bo, bcap, rfl, hxb, p0, p1, p2, p3, hxr⟩ := HX3.out.here hc
        have r0 := cell_belowG q0 HA3.out
        have r1 := cell_belowG q1 HA3.out
        have r2 := cell_belowG q2 HA3.out
        have r3 := cell_belowG q3 HA3.out
        have hk1 : (0 : Int) ≤ (j : Int) := by omega
        have hk2 : (j : Int) < (cs.length : Int) := by omega
        obtain ⟨ep, cl, l, en⟩ := c
        simp only at r0 r1 r2 r3 p0 p1 p2 p3 hr hxr
        have HSC := hide (fun W (hW : Below wr.heap.size wr W) => SameCopy_eq ⟨ep, cl, l, en⟩ _ _ W (hxr.below hW) ((hr.below HA3.out).below hW))
        unfold cpV at HSC
        dsimp only at HSC
        have HKEEP : Hid (∀ W, Below wr.heap.size wr W → W.cell? ⟨xb, xf + j * 4, none⟩ = some (.int .i64 ep) ∧ W.cell? ⟨xb, xf + j * 4 + 1, none⟩ = some (.bool cl) ∧ W.cell? ⟨xb, xf + j * 4 + 2, none⟩ = some (.slice bo l.length bcap) ∧ W.cell? ⟨xb, xf + j * 4 + 3, none⟩ = some (.int .i64 en) ∧ W.cell? ⟨b, off + j * 4, none⟩ = some (.int .i64 ep) ∧ W.cell? ⟨b, off + j * 4 + 1, none⟩ = some (.bool cl) ∧ W.cell? ⟨b, off + j * 4 + 2, none⟩ = some ((.slice ao' l.length cap')) ∧ W.cell? ⟨b, off + j * 4 + 3, none⟩ = some (.int .i64 en)) := hide (fun W hW => ⟨cell_belowG p0 hW, cell_belowG p1 hW, cell_belowG p2 hW, cell_belowG p3 hW, cell_belowG r0 hW, cell_belowG r1 hW, cell_belowG r2 hW, cell_belowG r3 hW⟩)
        have HDR := hide (show Below wr.heap.size wr wr.drew from Below.drew (Below.refl _ _))
        clear q0 q1 q2 q3 r0 r1 r2 r3 p0 p1 p2 p3 hr hxr hc hb hxb
        go_upto_region 16 with fail
        refine wp_region_heldD (S := fun W => W.cell? ⟨xb, xf + j * 4, none⟩ = some (.int .i64 ep) ∧ W.cell? ⟨xb, xf + j * 4 + 1, none⟩ = some (.bool cl) ∧ W.cell? ⟨xb, xf + j * 4 + 2, none⟩ = some (.slice bo l.length bcap) ∧ W.cell? ⟨xb, xf + j * 4 + 3, none⟩ = some (.int .i64 en) ∧ W.cell? ⟨b, off + j * 4, none⟩ = some (.int .i64 ep) ∧ W.cell? ⟨b, off + j * 4 + 1, none⟩ = some (.bool cl) ∧ W.cell? ⟨b, off + j * 4 + 2, none⟩ = some ((.slice ao' l.length cap')) ∧ W.cell? ⟨b, off + j * 4 + 3, none⟩ = some (.int .i64 en)) (n := 10) (l := (upB 10 0).toArray) (by kernel_rfl) (by kernel_rfl) (by kernel_rfl) (by kernel_rfl) (HKEEP.out _ HDR.out) (fun HNS hHeld => ?_)
        refine wpAnyH_takeD (l' := (upB 10 1).toArray) (i := 0) (fuel := 9) (v := ?v1x0) rfl HNS.out (by kernel_rfl) (by kernel_rfl) (by kernel_rfl) (fun _ _ _ h => h) (by kernel_rfl) ?y1x0 hHeld ?r1x0
        case y1x0 => (intro W hSw; go_simp; first | done | with_reducible rfl)
        try simp only [Act.put, List.setIfInBounds_toArray, List.set_cons_zero, List.set_cons_succ]
        refine wpAnyH_takeD (l' := (upB 10 2).toArray) (i := 1) (fuel := 8) (v := ?v1x1) rfl HNS.out (by kernel_rfl) (by kernel_rfl) (by kernel_rfl) (fun _ _ _ h => h) (by kernel_rfl) ?y1x1 hHeld ?r1x1
        case y1x1 => (intro W hSw; go_simp; first | done | with_reducible rfl)
        try simp only [Act.put, List.setIfInBounds_toArray, List.set_cons_zero, List.set_cons_succ]
        refine wpAnyH_takeD (l' := (upB 10 3).toArray) (i := 2) (fuel := 7) (v := ?v1x2) rfl HNS.out (by kernel_rfl) (by kernel_rfl) (by kernel_rfl) (fun _ _ _ h => h) (by kernel_rfl) ?y1x2 hHeld ?r1x2
        case y1x2 => (intro W hSw; go_simp; first | done | with_reducible rfl)
        try simp only [Act.put, List.setIfInBounds_toArray, List.set_cons_zero, List.set_cons_succ]
        refine wpAnyH_takeD (l' := (upB 10 4).toArray) (i := 3) (fuel := 6) (v := ?v1x3) rfl HNS.out (by kernel_rfl) (by kernel_rfl) (by kernel_rfl) (fun _ _ _ h => h) (by kernel_rfl) ?y1x3 hHeld ?r1x3
        case y1x3 => (intro W hSw; (try dsimp only at hSw); go_simp; first | done | with_reducible rfl)
        try simp only [Act.put, List.setIfInBounds_toArray, List.set_cons_zero, List.set_cons_succ]
        refine wpAnyH_takeD (l' := (upB 10 5).toArray) (i := 4) (fuel := 5) (v := ?v1x4) rfl HNS.out (by kernel_rfl) (by kernel_rfl) (by kernel_rfl) (fun _ _ _ h => h) (by kernel_rfl) ?y1x4 hHeld ?r1x4
        case y1x4 => (intro W hSw; go_simp; first | done | with_reducible rfl)
        try simp only [Act.put, List.setIfInBounds_toArray, List.set_cons_zero, List.set_cons_succ]
        refine wpAnyH_takeD (l' := (upB 10 6).toArray) (i := 5) (fuel := 4) (v := ?v1x5) rfl HNS.out (by kernel_rfl) (by kernel_rfl) (by kernel_rfl) (fun _ _ _ h => h) (by kernel_rfl) ?y1x5 hHeld ?r1x5
        case y1x5 => (intro W hSw; go_simp; first | done | with_reducible rfl)
        try simp only [Act.put, List.setIfInBounds_toArray, List.set_cons_zero, List.set_cons_succ]
        refine wpAnyH_takeD (l' := (upB 10 7).toArray) (i := 6) (fuel := 3) (v := ?v1x6) rfl HNS.out (by kernel_rfl) (by kernel_rfl) (by kernel_rfl) (fun _ _ _ h => h) (by kernel_rfl) ?y1x6 hHeld ?r1x6
        case y1x6 => (intro W hSw; go_simp; first | done | with_reducible rfl)
        try simp only [Act.put, List.setIfInBounds_toArray, List.set_cons_zero, List.set_cons_succ]
        refine wpAnyH_takeD (l' := (upB 10 8).toArray) (i := 7) (fuel := 2) (v := ?v1x7) rfl HNS.out (by kernel_rfl) (by kernel_rfl) (by kernel_rfl) (fun _ _ _ h => h) (by kernel_rfl) ?y1x7 hHeld ?r1x7
        case y1x7 => (intro W hSw; (try dsimp only at hSw); go_simp; first | done | with_reducible rfl)
        try simp only [Act.put, List.setIfInBounds_toArray, List.set_cons_zero, List.set_cons_succ]
        refine wpAnyH_oneD (l' := (upB 10 9).toArray) (i := 8) (fuel := 1) rfl (by kernel_rfl) (by kernel_rfl) (fun Kc hK => ?_)
        go_simp
        go_at_call 12
        refine (HSC.out _ HDR.out).mono ?_
        rintro e y3 ⟨rfl, hb1⟩
        have HB0 := hide (HDR.out.trans (hb1.mono HDR.out.size))
        clear hb1
        go_wp2_with fail
        refine hK.out _ _ (HKEEP.out _ HB0.out) (fun _ => ?_)
        clear hK Kc
        try simp only [Act.put, List.setIfInBounds_toArray, List.set_cons_zero, List.set_cons_succ]
        refine wpAnyH_takeD (l' := (upB 10 10).toArray) (i := 9) (fuel := 0) (v := ?v1x9) rfl HNS.out (by kernel_rfl) (by kernel_rfl) (by kernel_rfl) (fun _ _ _ h => h) (by kernel_rfl) ?y1x9 (HKEEP.out _ HB0.out) ?r1x9
        case y1x9 => (intro W hSw; go_simp; first | done | with_reducible rfl)
        try simp only [Act.put, List.setIfInBounds_toArray, List.set_cons_zero, List.set_cons_succ]
        refine wpAnyH_done (by kernel_rfl) ?_ _
        go_wp2_with fail
        go_roundw
        case rel => exact ⟨j + 1, by omega, by go_num, HBL.out.trans (HB0.out.mono HBL.out.size)⟩
        case measure => simp [intOf]; omega
      have hje : j = cs.length := by omega
      subst hje
      clear hlt hj
      have HF3 := hide (HF2.out.later HBL.out)
      have HR3 := hide (HR2.out.below HBL.out)
      have HC2 := hide ((Chosen_any n _ cs wr (HV.out.below HA3.out) H20.out).mono (fun e w' h => (show ∃ v', e = .returned (.tuple #[v', flt (px, py)]) ∧ w'.ownsRow wr.heap.size 9 1 v' L.length (txE.vs L) ∧ Below wr.heap.size wr w' from by rw [HP.out, HL.out]; exact h)))
      go_upto_region 19 with (go_at_call 19; refine HC2.out.mono ?_; rintro e x5 ⟨vb, rfl, ho, hb⟩; obtain ⟨ab, kb, rfl⟩ := owns_shape ho; unfold flt)
      have hbT := below_allocG x5 (.cells #[.int .i64 px, .int .i64 py] 29)
      have hbX := hb.trans (hbT.mono hb.size)
      have HA4 := hide (HA3.out.trans (hbX.mono HA3.out.size))
      have HF4 := hide (HF3.out.later hbX)
      have HR4 := hide (HR3.out.below hbX)
      have HG4 := hide (Blk.new x5 29 #[.int .i64 px, .int .i64 py])
      have HQ4 := hide ((RdG.ofOwns (E := txE) ho).below hbT)
      generalize hWX : x5.alloc (.cells #[.int .i64 px, .int .i64 py] 29) = W4 at HA4 HF4 HR4 HG4 HQ4 ⊢
      clear hWX hbT hbX hb ho HC2
      have HST := hide (SameTexts_eq _ _ L W4 HR4.out HQ4.out)
      go_wp2_with (first
        | (refine wpList_load_blk HF4.out Try.underlying29 rfl Try.sizeFaultS rfl rfl rfl ?_)
        | (refine wpList_load_blk HG4.out Try.underlying29 rfl Try.sizeFaultS rfl rfl rfl ?_)
        | (go_at_call 13; refine HST.out.mono ?_; rintro e x6 ⟨rfl, hb⟩; have HA5 := hide (HA4.out.trans (hb.mono HA4.out.size)); clear hb))
      go_ret
      exact ⟨rfl, HA5.out⟩

/-- The same in the order in which the row's arguments come. -/
theorem sealChooses_fr {p1 : Prop} (n : Int) (v : Value) (cs : List Cp) (w : World) (_ : p1) (hv : RdQ w v cs) :
    Calls Try.prog 4 #[.int .i64 n, v] w fun e w' => e = .returned (.bool true) ∧ Below w.heap.size w w' := sealChooses_any n v cs w hv

end Go.Proofs.Ytopnjklloleomaa

/-
  From the arguments as the row reads them to what the walks ask of them. Nothing of a program stands here.
-/
namespace Go.Proofs.Ytopnjklloleomaa
open Go.ChangeShapes Go.WideShapes Go.ChangeAt Go.RowKit

section
variable {H : Type} {enc : TypeId × Value → H} {P : Program} {W : World}

theorem rd_of_cells {w : World} {a : Addr} {len cap : Nat} {xs : List Value} (hl : xs.length = len) (h1 : len ≤ cap) (h2 : cap ≤ maxLen) (h : ∀ i, i < len → w.cell? (a.add i) = xs[i]?) : Rd w (.slice (some a) len cap) xs := by
  refine ⟨some a, cap, by rw [hl], by omega, h2, (fun h => by cases h), fun b hb j u hu => ?_⟩
  cases hb
  rw [h j (by have := (List.getElem?_eq_some_iff.1 hu).1; omega), hu]

theorem open_ic {t e : TypeId} {a : Option Addr} {len cap : Nat} {d : DataW H} {ps : List MemPlace} (ht : P.underlying t = some (.slice e)) (he : P.underlying e = some (.int .i64)) (hc : P.cellsOf e = 1)
    (h : DataW.Trod enc P W 0 (fun _ => true) true t (.slice a len cap) d ps) : ∃ zs : List Int, Rd W (.slice a len cap) (ic zs) := by
  obtain ⟨fuel, hf⟩ := h
  rcases open_ints ht he hc hf with ⟨hcs, _⟩ | ⟨x, l, c, zs, hcs, _, hl, hm, hz, _, hcell, hwz⟩
  · simp [Value.cells] at hcs
    obtain ⟨rfl, rfl, rfl⟩ := hcs
    exact ⟨[], Rd.nil _⟩
  · simp [Value.cells] at hcs
    obtain ⟨rfl, rfl, rfl⟩ := hcs
    simp at hz
    refine ⟨zs.take len, rd_of_cells (by rw [ic_length, List.length_take]; omega) hl hm fun i hi => ?_⟩
    rw [hcell i (by omega)]
    simp [ic, List.getD, hi, show i < zs.length by omega]

theorem open_bc {t e : TypeId} {a : Option Addr} {len cap fuel : Nat} {d : DataW H} {ps : List MemPlace} (ht : P.underlying t = some (.slice e)) (he : P.underlying e = some (.int .u8)) (hc : P.cellsOf e = 1)
    (hf : DataW.trod enc P W 0 (fun _ => true) true fuel t [.slice a len cap] = some (d, ps)) : ∃ bs : List UInt8, Rd W (.slice a len cap) (bc bs) := by
  rcases open_ints ht he hc hf with ⟨hcs, _⟩ | ⟨x, l, c, zs, hcs, _, hl, hm, hz, _, hcell, hwz⟩
  · simp at hcs
    obtain ⟨rfl, rfl, rfl⟩ := hcs
    exact ⟨[], Rd.nil _⟩
  · simp at hcs
    obtain ⟨rfl, rfl, rfl⟩ := hcs
    simp at hz
    refine ⟨(zs.take len).map fun n => UInt8.ofNat n.toNat, rd_of_cells (by rw [bc_length, List.length_map, List.length_take]; omega) hl hm fun i hi => ?_⟩
    rw [hcell i (by omega)]
    have hi' : i < zs.length := by omega
    have hb := bounds_u8 (hwz zs[i] (List.getElem_mem hi'))
    have e : ((UInt8.ofNat zs[i].toNat).toNat : Int) = zs[i] := by
      simp only [UInt8.toNat_ofNat']
      omega
    simp only [bc, List.getElem?_map, List.getElem?_take, if_pos hi, List.getElem?_eq_getElem hi', Option.map_some, List.getD, Option.getD_some, e]

theorem open_bc' {t e : TypeId} {a : Option Addr} {len cap : Nat} {d : DataW H} {ps : List MemPlace} (ht : P.underlying t = some (.slice e)) (he : P.underlying e = some (.int .u8)) (hc : P.cellsOf e = 1)
    (h : DataW.Trod enc P W 0 (fun _ => true) true t (.slice a len cap) d ps) : ∃ bs : List UInt8, Rd W (.slice a len cap) (bc bs) := by
  obtain ⟨fuel, hf⟩ := h
  exact open_bc ht he hc (by simpa [Value.cells] using hf)

theorem weightsAll_mem {e : TypeId} : ∀ {l : List (DataW H)} {d : DataW H} {n : Nat}, d ∈ l → n ∈ d.weights P e → n ∈ DataW.weightsAll P e l
  | x :: l, d, n, hd, hn => by
    simp only [DataW.weightsAll, List.mem_append]
    rcases List.mem_cons.1 hd with rfl | hd
    · exact .inl hn
    · exact .inr (weightsAll_mem hd hn)

/-- A list of texts; none is longer than the form's reach. -/
theorem open_sc {t e : TypeId} {a : Option Addr} {len cap : Nat} {d : DataW H} {ps : List MemPlace} (ht : P.underlying t = some (.slice e)) (he : P.underlying e = some .string) (hc : P.cellsOf e = 1)
    (h : DataW.Trod enc P W 0 (fun _ => true) true t (.slice a len cap) d ps) (hw : ∀ n ∈ d.weights P t, n ≤ reachBytes) : ∃ ss : List (List UInt8), Rd W (.slice a len cap) (sc ss) ∧ ∀ s ∈ ss, s.length ≤ 140737488351232 := by
  obtain ⟨fuel, hf⟩ := h
  rcases open_strings ht he hc hf with ⟨hcs, _⟩ | ⟨x, l, c, zs, hcs, _, hl, hm, hz, hx, hcell, hwz⟩
  · simp [Value.cells] at hcs
    obtain ⟨rfl, rfl, rfl⟩ := hcs
    exact ⟨[], Rd.nil _, by simp⟩
  · simp [Value.cells] at hcs
    obtain ⟨rfl, rfl, rfl⟩ := hcs
    simp at hz
    simp only [Prod.mk.injEq] at hx
    obtain ⟨rfl, _⟩ := hx
    refine ⟨(zs.take len).map fun s => s.data.toList, rd_of_cells (by rw [sc_length, List.length_map, List.length_take]; omega) hl hm fun i hi => ?_, fun s hs => ?_⟩
    · rw [hcell i (by omega)]
      have hi' : i < zs.length := by omega
      simp only [sc, List.getElem?_map, List.getElem?_take, if_pos hi, List.getElem?_eq_getElem hi', Option.map_some, List.getD, Option.getD_some, Array.toArray_toList]
    · obtain ⟨y, hy, rfl⟩ := List.mem_map.1 hs
      have := hw y.data.toList.length (by
        simp only [DataW.weights, ht, List.mem_cons, List.mem_append]
        refine .inr (.inl (weightsAll_mem (d := .lit (.string y.data.toList)) (List.mem_map.2 ⟨y, hy, rfl⟩) ?_))
        simp [DataW.weights])
      simpa [reachBytes] using this

end
end Go.Proofs.Ytopnjklloleomaa

/-
  From lists of flat structures as the row reads them to what the walks ask of them. Nothing of a program stands here.
-/
namespace Go.Proofs.Ytopnjklloleomaa
open Go.ChangeShapes Go.WideShapes Go.ChangeAt Go.RowKit Go.Joins Go.Deep

section
variable {H : Type} {enc : TypeId × Value → H} {P : Program} {W : World}

theorem choose_listG {α : Type} {p : Nat → α → Prop} : ∀ (n : Nat), (∀ i, i < n → ∃ x, p i x) → ∃ l : List α, l.length = n ∧ ∀ i x, l[i]? = some x → p i x
  | 0, _ => ⟨[], rfl, fun i x h => by simp at h⟩
  | n + 1, h => by
    obtain ⟨l, hl, hp⟩ := choose_listG n (fun i hi => h i (by omega))
    obtain ⟨x, hx⟩ := h n (by omega)
    refine ⟨l ++ [x], by simp [hl], fun i y hy => ?_⟩
    by_cases hi : i < n
    · rw [List.getElem?_append_left (by omega)] at hy
      exact hp i y hy
    · have hlt := (List.getElem?_eq_some_iff.1 hy).1
      simp at hlt
      have e : i = n := by omega
      subst e
      rw [List.getElem?_append_right (by omega), hl] at hy
      simp at hy
      subst hy
      exact hx

theorem vs_div {α : Type} {K : Nat} {E : En α K} {cs : List α} {j : Nat} {u : Value} (h : (E.vs cs)[j]? = some u) : ∃ i k c, j = i * K + k ∧ k < K ∧ cs[i]? = some c ∧ (E.v c)[k]? = some u := by
  have hl := (List.getElem?_eq_some_iff.1 h).1
  rw [vs_length] at hl
  have hp := E.pos
  have hi : j / K < cs.length := Nat.div_lt_of_lt_mul (by rw [Nat.mul_comm]; exact hl)
  have hk : j % K < K := Nat.mod_lt _ hp
  have e : j = j / K * K + j % K := by rw [Nat.mul_comm]; exact (Nat.div_add_mod j K).symm
  refine ⟨j / K, j % K, cs[j / K], e, hk, List.getElem?_eq_getElem hi, ?_⟩
  rw [← vs_get (E := E) cs (j / K) hi (j % K) hk, ← e, h]

/-- A list of flat structures; 'hel': what one of them reads as. -/
theorem open_gl {α : Type} {K : Nat} (E : En α K) (ok : α → Prop) {t e : TypeId} {a : Option Addr} {len cap : Nat} {d : DataW H} {ps : List MemPlace} (ht : P.underlying t = some (.slice e)) (hC : P.cellsOf e = K)
    (hel : ∀ (fuel : Nat) (cs : List Value) (y : DataW H × List MemPlace), cs.length = K → DataW.trod enc P W 0 (fun _ => true) true fuel e cs = some y → ∃ c : α, cs = E.v c ∧ ok c)
    (h : DataW.Trod enc P W 0 (fun _ => true) true t (.slice a len cap) d ps) : ∃ xs : List α, RdG E W (.slice a len cap) xs ∧ ∀ x ∈ xs, ok x := by
  obtain ⟨fuel, hf⟩ := h
  have hf' : DataW.trod enc P W 0 (fun _ => true) true fuel t [.slice a len cap] = some (d, ps) := by simpa [Value.cells] using hf
  rcases open_slice ht hf' with ⟨hcs, _⟩ | ⟨b, len', cap', m, n, D, Pl, hcs, hb, hl, hm, hmm, hxx, hx⟩
  · simp only [List.cons.injEq, and_true] at hcs
    rw [hcs]
    exact ⟨[], RdG.nil _, by simp⟩
  · simp only [List.cons.injEq, and_true] at hcs
    rw [hcs]
    have hlm : len' ≤ m := by rw [hmm]; split <;> omega
    have each : ∀ i, i < len' → ∃ c : α, (∀ k u, (E.v c)[k]? = some u → W.cell? (b.add (i * K + k)) = some u) ∧ ok c := by
      intro i hi
      obtain ⟨cs', g1, g2⟩ := hx i (by omega)
      rw [hC] at g1
      obtain ⟨_, hlen, hcell⟩ := World.cells?_some g1
      obtain ⟨c, hc, hok⟩ := hel _ cs' _ (by simpa using hlen) g2
      refine ⟨c, fun k u hu => ?_, hok⟩
      have hk : k < K := by have := (List.getElem?_eq_some_iff.1 hu).1; rwa [E.len] at this
      have := hcell k hk
      rw [add_add] at this
      rw [this, hc, hu]
    obtain ⟨cs, hcl, hcp⟩ := choose_listG len' each
    refine ⟨cs, ⟨some b, cap', by rw [hcl], by omega, hm, (fun h => by cases h), fun b' hb' j u hu => ?_⟩, fun c hc => ?_⟩
    · cases hb'
      obtain ⟨i, k, c, rfl, _, hi, hk⟩ := vs_div hu
      exact (hcp i c hi).1 k u hk
    · obtain ⟨i, hi, e⟩ := List.getElem_of_mem hc
      exact (hcp i c (by rw [List.getElem?_eq_getElem hi, e])).2

end
end Go.Proofs.Ytopnjklloleomaa

/-
  Cells, and lists of cells, as values and in memory. Nothing of a program stands here.
-/
namespace Go.Proofs.Ytopnjklloleomaa
open Go.RowKit

theorem below_alloc' (w : World) (o : Obj) : Below w.heap.size w (w.alloc o) := (Below.refl _ _).alloc (Nat.le_refl _) o

/-- A cell of a table. -/
structure Cl where
  row : ByteArray
  col : ByteArray
  time : Int
  gone : Bool
  val : ByteArray

/-- A cell's five places in memory. -/
def cv (c : Cl) : List Value := [.string c.row, .string c.col, .int .i64 c.time, .bool c.gone, .string c.val]
/-- A cell as a value. -/
def cA (c : Cl) : Value := .agg #[.string c.row, .string c.col, .int .i64 c.time, .bool c.gone, .string c.val]
/-- A list's places in memory. -/
def cc (cs : List Cl) : List Value := cs.flatMap cv
/-- The cell without anything. -/
def zeroC : Cl := ⟨⟨#[]⟩, ⟨#[]⟩, 0, false, ⟨#[]⟩⟩

theorem cc_nil : cc [] = [] := rfl
theorem cc_cons (c : Cl) (cs : List Cl) : cc (c :: cs) = cv c ++ cc cs := rfl
theorem cc_append (a b : List Cl) : cc (a ++ b) = cc a ++ cc b := by simp [cc]
theorem cc_length : ∀ cs : List Cl, (cc cs).length = cs.length * 5
  | [] => rfl
  | c :: cs => by rw [cc_cons, List.length_append, cc_length cs]; simp [cv]; omega

theorem cc_one (cs : List Cl) : ∀ u ∈ cc cs, u.oneCell' = true := by
  intro u hu
  simp only [cc, List.mem_flatMap] at hu
  obtain ⟨c, _, hu⟩ := hu
  simp only [cv, List.mem_cons, List.not_mem_nil, or_false] at hu
  rcases hu with rfl | rfl | rfl | rfl | rfl <;> rfl

theorem cc_get : ∀ (cs : List Cl) (j : Nat) (h : j < cs.length) (k : Nat), k < 5 → (cc cs)[j * 5 + k]? = (cv cs[j])[k]?
  | [], j, h, _, _ => by simp at h
  | c :: cs, 0, h, k, hk => by
    rw [cc_cons, List.getElem?_append_left (by simp [cv]; omega)]
    simp
  | c :: cs, j + 1, h, k, hk => by
    rw [cc_cons, List.getElem?_append_right (by simp [cv]; omega)]
    have ih := cc_get cs j (by simpa using h) k hk
    have e : (j + 1) * 5 + k - (cv c).length = j * 5 + k := by simp [cv]; omega
    rw [e, ih]
    simp

theorem cc_drop : ∀ (cs : List Cl) (k : Nat), (cc cs).drop (k * 5) = cc (cs.drop k)
  | cs, 0 => by simp
  | [], k + 1 => by simp [cc]
  | c :: cs, k + 1 => by
    rw [cc_cons, List.drop_append, List.drop_of_length_le (by simp [cv]; omega)]
    simp only [List.drop_succ_cons, List.nil_append]
    rw [← cc_drop cs k]
    congr 1
    simp [cv]
    omega

theorem cc_take : ∀ (cs : List Cl) (k : Nat), (cc cs).take (k * 5) = cc (cs.take k)
  | cs, 0 => by simp [cc]
  | [], k + 1 => by simp [cc]
  | c :: cs, k + 1 => by
    rw [cc_cons, List.take_append, List.take_of_length_le (by simp [cv]; omega)]
    simp only [List.take_succ_cons, cc_cons]
    rw [← cc_take cs k]
    congr 2
    simp [cv]
    omega

/-- The slice v reads as the cells cs. -/
def RdC (w : World) (v : Value) (cs : List Cl) : Prop :=
  ∃ ao cap, v = .slice ao cs.length cap ∧ cs.length ≤ cap ∧ cap ≤ maxLen ∧ (ao = none → cap = 0) ∧ ∀ a, ao = some a → ∀ j u, (cc cs)[j]? = some u → w.cell? (a.add j) = some u

theorem RdC.nil (w : World) : RdC w (.slice none 0 0) [] := ⟨none, 0, rfl, Nat.le_refl _, Nat.zero_le _, fun _ => rfl, fun a h => by cases h⟩

theorem RdC.ofOwns {w : World} {base : Nat} {e : TypeId} {v : Value} {n : Nat} {cs : List Cl} (h : w.ownsRow base e 5 v n (cc cs)) : RdC w v cs := by
  have hl : cs.length = n := by have := h.1; rw [cc_length] at this; omega
  rcases h.2 with ⟨rfl, hn⟩ | ⟨g, cap, cur, rfl, hb, hg, hnc, hcm, hcs, htake⟩
  · have : cs = [] := List.eq_nil_of_length_eq_zero (by omega)
    subst this
    exact RdC.nil w
  · refine ⟨some ⟨g, 0, none⟩, cap, by rw [hl], (by omega), hcm, (fun h => by cases h), fun a ha j u hu => ?_⟩
    cases ha
    exact h.cells (by simp [Value.ownBlock]) j u hu

theorem RdC.below {w w' : World} {v : Value} {cs : List Cl} (h : RdC w v cs) (hb : Below w.heap.size w w') : RdC w' v cs := by
  obtain ⟨ao, cap, hv, h1, h2, h3, h4⟩ := h
  refine ⟨ao, cap, hv, h1, h2, h3, fun a ha j u hu => ?_⟩
  have hc := h4 a ha j u hu
  have hlt := World.block_lt_of_cell? w _ hc
  rw [hb.cell hlt]
  exact hc

theorem RdC.drew {w : World} {v : Value} {cs : List Cl} (h : RdC w v cs) : RdC w.drew v cs := h
theorem RdC.drewN {w : World} {v : Value} {cs : List Cl} (h : RdC w v cs) (n : Nat) : RdC (w.drewN n) v cs := h
theorem RdC.alloc {w : World} {v : Value} {cs : List Cl} (h : RdC w v cs) (o : Obj) : RdC (w.alloc o) v cs := h.below ((Below.refl _ _).alloc (Nat.le_refl _) o)

theorem RdC.shape {w : World} {v : Value} {cs : List Cl} (h : RdC w v cs) : ∃ ao cap, v = .slice ao cs.length cap ∧ cs.length ≤ cap ∧ cap ≤ maxLen := by
  obtain ⟨ao, cap, hv, h1, h2, _⟩ := h
  exact ⟨ao, cap, hv, h1, h2⟩

/-- Where the cells lie, five places each. -/
theorem RdC.open {w : World} {v : Value} {cs : List Cl} (h : RdC w v cs) :
    ∃ ao cap, v = .slice ao cs.length cap ∧ cs.length ≤ cap ∧ cap ≤ maxLen ∧ ∀ j, (hj : j < cs.length) → ∃ b off, ao = some ⟨b, off, none⟩ ∧ b < w.heap.size ∧ ∀ i, (hi : i < cs.length) → ∀ k, k < 5 → w.cell? ⟨b, off + i * 5 + k, none⟩ = (cv cs[i])[k]? := by
  obtain ⟨ao, cap, hv, h1, h2, h3, h4⟩ := h
  refine ⟨ao, cap, hv, h1, h2, fun j hj => ?_⟩
  cases ao with
  | none => have := h3 rfl; omega
  | some a =>
    have hl : 0 < (cc cs).length := by rw [cc_length]; omega
    have h0 := h4 a rfl 0 (cc cs)[0] (by simp)
    obtain ⟨b, o, rfl⟩ := add_spot h0
    refine ⟨b, o, rfl, World.block_lt_of_cell? w _ h0, fun i hi k hk => ?_⟩
    have hg := cc_get cs i hi k hk
    have hs : (cv cs[i])[k]? = some ((cv cs[i])[k]'(by simp [cv]; omega)) := List.getElem?_eq_getElem _
    have := h4 _ rfl (i * 5 + k) _ (hg.trans hs)
    rw [Addr.add_lit] at this
    rw [Nat.add_assoc, this, hs]

/-- The five places of one cell. -/
structure At (w : World) (b off : Nat) (c : Cl) : Prop where
  c0 : w.cell? ⟨b, off, none⟩ = some (.string c.row)
  c1 : w.cell? ⟨b, off + 1, none⟩ = some (.string c.col)
  c2 : w.cell? ⟨b, off + 2, none⟩ = some (.int .i64 c.time)
  c3 : w.cell? ⟨b, off + 3, none⟩ = some (.bool c.gone)
  c4 : w.cell? ⟨b, off + 4, none⟩ = some (.string c.val)

theorem At.lt {w : World} {b off : Nat} {c : Cl} (h : At w b off c) : b < w.heap.size := World.block_lt_of_cell? w _ h.c0

theorem At.below {w w' : World} {b off : Nat} {c : Cl} (h : At w b off c) (hb : Below w.heap.size w w') : At w' b off c := by
  have hl := h.lt
  exact ⟨(hb.cell hl).trans h.c0, (hb.cell hl).trans h.c1, (hb.cell hl).trans h.c2, (hb.cell hl).trans h.c3, (hb.cell hl).trans h.c4⟩

theorem RdC.at {w : World} {v : Value} {cs : List Cl} (h : RdC w v cs) :
    ∃ ao cap, v = .slice ao cs.length cap ∧ cs.length ≤ cap ∧ cap ≤ maxLen ∧ ∀ j, (hj : j < cs.length) → ∃ b off, ao = some ⟨b, off, none⟩ ∧ b < w.heap.size ∧ ∀ i, (hi : i < cs.length) → At w b (off + i * 5) cs[i] := by
  obtain ⟨ao, cap, hv, h1, h2, h3⟩ := h.open
  refine ⟨ao, cap, hv, h1, h2, fun j hj => ?_⟩
  obtain ⟨b, off, ha, hb, hc⟩ := h3 j hj
  exact ⟨b, off, ha, hb, fun i hi => ⟨hc i hi 0 (by omega), hc i hi 1 (by omega), hc i hi 2 (by omega), hc i hi 3 (by omega), hc i hi 4 (by omega)⟩⟩

theorem RdC.setNew {w : World} {v : Value} {cs : List Cl} {B : Nat} (h : RdC w v cs) (hn : New B v) {p : Addr} (hp : p.block < B) (u : Value) : RdC (w.setCell p u) v cs := by
  obtain ⟨ao, cap, hv, h1, h2, h3, h4⟩ := h
  refine ⟨ao, cap, hv, h1, h2, h3, fun a ha j x hx => ?_⟩
  have hc := h4 a ha j x hx
  have e : (a.add j).block = a.block := by unfold Addr.add; split <;> rfl
  have hb : B ≤ a.block := hn a _ _ (by rw [hv, ha])
  rw [← hc]
  exact World.cell?_of_block (heap_setCell_other w p _ u (by rw [e]; omega))

theorem RdC.new (w : World) (c : Cl) (e : TypeId) : RdC (w.alloc (.cells #[.string c.row, .string c.col, .int .i64 c.time, .bool c.gone, .string c.val] e)) (.slice (some ⟨w.heap.size, 0, none⟩) 1 1) [c] :=
  ⟨some ⟨w.heap.size, 0, none⟩, 1, rfl, Nat.le_refl _, by decide, (fun h => by cases h), fun a ha j v hv => by
    cases ha
    rw [cc_cons, cc_nil, List.append_nil] at hv
    rw [Addr.add_lit, Nat.zero_add, ← hv]
    have := cell_of_row (w.alloc (.cells #[.string c.row, .string c.col, .int .i64 c.time, .bool c.gone, .string c.val] e)) w.heap.size j _ e (0, 0) (heap_alloc_new w _)
    rw [this]
    simp [cv]⟩

/-- 'append(out, xs...)' of cells, out the call's own. -/
theorem wpList_append_rdC {P : Program} {w : World} {ops : Array Oper} {rest : List Oper} {o : Oper} {a : Act} {Q : Exit → Act → World → Prop} {s x : Operand} {t : TypeId} {base : Nat} {e : TypeId} {z : Value} {bytes : Nat}
    {v : Value} {n : Nat} {cs : List Cl} {vx : Value} {news : List Cl}
    (hown : w.ownsRow base e 5 v n (cc cs)) (hrd : RdC w vx news)
    (ht : P.underlying t = some (.slice e)) (hinf : (P.info? e).map (fun i => (i.zero, i.size, i.bytes)) = some (some z, 5, bytes)) (hzs : z.cells.size = 5)
    (hgd : o.guard = none) (ho : o.op = .call { callee := .builtin .append, args := #[s, x], argTypes := #[t, t] })
    (hs : a.eval s = v) (hx : a.eval x = vx)
    (h63 : n + news.length ≤ 1000000000) (hbytes : bytes ≤ 64) (hbase : base ≤ w.heap.size)
    (h : ∀ v' w', w'.ownsRow base e 5 v' (n + news.length) (cc (cs ++ news)) → Below base w w' → w.grownBy w' v.ownBlock → wpList P ops Q rest (a.put o.dst v') w') : wpList P ops Q (o :: rest) a w := by
  obtain ⟨i, hi, hz, hsize, hby⟩ := info_parts hinf
  have hlt := hown.lt
  have hbytes' : (n + news.length) * bytes ≤ 1000000000 * 64 := Nat.mul_le_mul h63 hbytes
  obtain ⟨ao, cap, hvx, h2, h3, h4, h5⟩ := hrd
  cases ao with
  | none =>
    have hc := h4 rfl
    have hnews : news = [] := List.eq_nil_of_length_eq_zero (by omega)
    subst hnews
    subst hc
    refine wpList_append_own_none hgd s x t ho base e i 5 ht hi v n (cc cs) hs hown (hx.trans hvx) ?_
    exact h v w (by simpa using hown) (Below.refl _ _) (World.grownBy.refl _ _)
  | some ad =>
    refine wpList_append_own w hgd s x t ho base e i z 5 bytes ht hi hz hsize hby hzs (by decide) v n (cc cs) hs hown ad news.length cap (cc news) (hx.trans hvx) (cc_length _) (h5 ad rfl) (cc_one _) (by simp [maxLen]; omega) (by omega) hbase ?_
    intro v' w' ho' hg' _
    rw [← cc_append] at ho'
    exact h v' w' ho' ((Below.refl _ _).grown hg' hbase (fun k hk => (hlt k hk).1)) hg'

/-- 'append(out, c)' of a cell that was laid in a block of its own just ahead. -/
theorem wpList_append_oneC {P : Program} {w : World} {c : Cl} {ops : Array Oper} {rest : List Oper} {o : Oper} {a : Act} {Q : Exit → Act → World → Prop} {s x : Operand} {t : TypeId} {base : Nat} {e : TypeId} {z : Value} {bytes : Nat}
    {v : Value} {n : Nat} {cs : List Cl}
    (hown : w.ownsRow base e 5 v n (cc cs))
    (ht : P.underlying t = some (.slice e)) (hinf : (P.info? e).map (fun i => (i.zero, i.size, i.bytes)) = some (some z, 5, bytes)) (hzs : z.cells.size = 5)
    (hgd : o.guard = none) (ho : o.op = .call { callee := .builtin .append, args := #[s, x], argTypes := #[t, t] })
    (hs : a.eval s = v) (hx : a.eval x = .slice (some ⟨w.heap.size, 0, none⟩) 1 1)
    (h63 : n ≤ 100000000) (hbytes : bytes ≤ 64) (hbase : base ≤ w.heap.size)
    (h : ∀ v' w', w'.ownsRow base e 5 v' (n + 1) (cc (cs ++ [c])) → Below base w w' → w.grownBy w' v.ownBlock → wpList P ops Q rest (a.put o.dst v') w') : wpList P ops Q (o :: rest) a (w.alloc (.cells #[.string c.row, .string c.col, .int .i64 c.time, .bool c.gone, .string c.val] e)) := by
  refine wpList_append_rdC (hown.alloc _) (RdC.new _ c _) ht hinf hzs hgd ho hs hx (by simp; omega) hbytes (by simp; omega) ?_
  intro v' w' h2 h3 h4
  refine h v' w' h2 (((Below.refl _ _).alloc hbase _).trans h3) ⟨h4.os, h4.tape, h4.output, ?_, fun k hk hne => ?_⟩
  · have := h4.size; simp at this; omega
  · rw [h4.block k (by simp; omega) hne, Below.heap_alloc _ _ _ hk]

theorem RdC.hereD {w : World} {ao : Option Addr} {n cap : Nat} {cs : List Cl} (h : RdC w (.slice ao n cap) cs) {i : Nat} {c : Cl} (hi : cs[i]? = some c) :
    ∃ b off, ao = some ⟨b, off, none⟩ ∧ b < w.heap.size ∧ At w b (off + i * 5) c := by
  obtain ⟨ao', cap', hv, _, _, hat⟩ := h.at
  simp only [Value.slice.injEq] at hv
  obtain ⟨rfl, _, _⟩ := hv
  obtain ⟨hl, e⟩ := List.getElem?_eq_some_iff.1 hi
  obtain ⟨b, off, ha, hb, hc⟩ := hat i hl
  exact ⟨b, off, ha, hb, e ▸ hc i hl⟩

end Go.Proofs.Ytopnjklloleomaa

/-
  From lists of cells, and asks, as the row reads them to what the walks ask of them. Nothing of a program stands here.
-/
namespace Go.Proofs.Ytopnjklloleomaa
open Go.ChangeShapes Go.WideShapes Go.ChangeAt Go.RowKit Go.Joins Go.Deep

section
variable {H : Type} {enc : TypeId × Value → H} {P : Program} {W : World}

theorem choose_list {α : Type} {p : Nat → α → Prop} : ∀ (n : Nat), (∀ i, i < n → ∃ x, p i x) → ∃ l : List α, l.length = n ∧ ∀ i x, l[i]? = some x → p i x
  | 0, _ => ⟨[], rfl, fun i x h => by simp at h⟩
  | n + 1, h => by
    obtain ⟨l, hl, hp⟩ := choose_list n (fun i hi => h i (by omega))
    obtain ⟨x, hx⟩ := h n (by omega)
    refine ⟨l ++ [x], by simp [hl], fun i y hy => ?_⟩
    by_cases hi : i < n
    · rw [List.getElem?_append_left (by omega)] at hy
      exact hp i y hy
    · have hlt := (List.getElem?_eq_some_iff.1 hy).1
      simp at hlt
      have e : i = n := by omega
      subst e
      rw [List.getElem?_append_right (by omega), hl] at hy
      simp at hy
      subst hy
      exact hx

theorem cc_div {cs : List Cl} {j : Nat} {u : Value} (h : (cc cs)[j]? = some u) : ∃ i k c, j = i * 5 + k ∧ k < 5 ∧ cs[i]? = some c ∧ (cv c)[k]? = some u := by
  have hl := (List.getElem?_eq_some_iff.1 h).1
  rw [cc_length] at hl
  have hi : j / 5 < cs.length := by omega
  refine ⟨j / 5, j % 5, cs[j / 5], by omega, by omega, List.getElem?_eq_getElem hi, ?_⟩
  rw [← cc_get cs (j / 5) hi (j % 5) (by omega), ← h]
  congr 1
  omega

/-- A list of cells. -/
theorem open_cells {t e : TypeId} {f0 f1 f2 f3 f4 : Field} {v : Value} {fuel : Nat} {y : DataW H × List MemPlace} (ht : P.underlying t = some (.slice e)) (he : P.underlying e = some (.struct #[f0, f1, f2, f3, f4])) (hone : oneCellFields P #[f0, f1, f2, f3, f4] = true) (hC : P.cellsOf e = 5)
    (h0 : P.underlying f0.type = some .string) (h1 : P.underlying f1.type = some .string) (h2 : P.underlying f2.type = some (.int .i64)) (h3 : P.underlying f3.type = some .bool) (h4 : P.underlying f4.type = some .string)
    (h : DataW.trod enc P W 0 (fun _ => true) true fuel t [v] = some y) : ∃ cs : List Cl, RdC W v cs ∧ ∀ c ∈ cs, -9223372036854775808 ≤ c.time ∧ c.time ≤ 9223372036854775807 := by
  rcases open_slice ht h with ⟨hcs, _⟩ | ⟨a, len, cap, m, n, D, Pl, hcs, hb, hl, hm, hmm, hxx, hx⟩
  · simp only [List.cons.injEq, and_true] at hcs
    subst hcs
    exact ⟨[], RdC.nil _, by simp⟩
  · simp only [List.cons.injEq, and_true] at hcs
    subst hcs
    obtain ⟨o0, k0⟩ := hone_of hone 0 f0 rfl
    obtain ⟨o1, k1⟩ := hone_of hone 1 f1 rfl
    obtain ⟨o2, k2⟩ := hone_of hone 2 f2 rfl
    obtain ⟨o3, k3⟩ := hone_of hone 3 f3 rfl
    obtain ⟨o4, k4⟩ := hone_of hone 4 f4 rfl
    have hlm : len ≤ m := by rw [hmm]; split <;> omega
    have each : ∀ i, i < len → ∃ c : Cl, (∀ k u, (cv c)[k]? = some u → W.cell? (a.add (i * 5 + k)) = some u) ∧ -9223372036854775808 ≤ c.time ∧ c.time ≤ 9223372036854775807 := by
      intro i hi
      obtain ⟨cs', g1, g2⟩ := hx i (by omega)
      rw [hC] at g1
      obtain ⟨_, hlen, hcell⟩ := World.cells?_some g1
      obtain ⟨xs, k, hk, hxy, _, hxl, hf⟩ := DataW.trod_struct he g2
      match xs, hxl, cs', hlen with
      | [y0, y1, y2, y3, y4], _, [v0, v1, v2, v3, v4], _ =>
        have q0 := hf 0 f0 rfl
        have q1 := hf 1 f1 rfl
        have q2 := hf 2 f2 rfl
        have q3 := hf 3 f3 rfl
        have q4 := hf 4 f4 rfl
        simp [o0, o1, o2, o3, o4, k0, k1, k2, k3, k4] at q0 q1 q2 q3 q4
        obtain ⟨s0, e0, _, _⟩ := DataW.trod_string h0 q0
        obtain ⟨s1, e1, _, _⟩ := DataW.trod_string h1 q1
        obtain ⟨s2, e2, _, w2⟩ := DataW.trod_int h2 q2
        obtain ⟨s3, e3, _⟩ := DataW.trod_bool h3 q3
        obtain ⟨s4, e4, _, _⟩ := DataW.trod_string h4 q4
        simp only [List.cons.injEq, and_true] at e0 e1 e2 e3 e4
        subst e0 e1 e2 e3 e4
        refine ⟨⟨s0, s1, s2, s3, s4⟩, fun k u hu => ?_, bounds_i64 w2⟩
        have hk5 : k < 5 := by have := (List.getElem?_eq_some_iff.1 hu).1; simpa [cv] using this
        have := hcell k hk5
        rw [add_add] at this
        rw [this, ← hu]
        rfl
    obtain ⟨cs, hcl, hcp⟩ := choose_list len each
    refine ⟨cs, ⟨some a, cap, by rw [hcl], by omega, hm, (fun h => by cases h), fun b hb' j u hu => ?_⟩, fun c hc => ?_⟩
    · cases hb'
      obtain ⟨i, k, c, rfl, _, hi, hk⟩ := cc_div hu
      exact (hcp i c hi).1 k u hk
    · obtain ⟨i, hi, e⟩ := List.getElem_of_mem hc
      exact (hcp i c (by rw [List.getElem?_eq_getElem hi, e])).2

theorem open_cellsV {t e : TypeId} {f0 f1 f2 f3 f4 : Field} {a : Option Addr} {len cap : Nat} {d : DataW H} {ps : List MemPlace} (ht : P.underlying t = some (.slice e)) (he : P.underlying e = some (.struct #[f0, f1, f2, f3, f4])) (hone : oneCellFields P #[f0, f1, f2, f3, f4] = true) (hC : P.cellsOf e = 5)
    (h0 : P.underlying f0.type = some .string) (h1 : P.underlying f1.type = some .string) (h2 : P.underlying f2.type = some (.int .i64)) (h3 : P.underlying f3.type = some .bool) (h4 : P.underlying f4.type = some .string)
    (h : DataW.Trod enc P W 0 (fun _ => true) true t (.slice a len cap) d ps) : ∃ cs : List Cl, RdC W (.slice a len cap) cs ∧ ∀ c ∈ cs, -9223372036854775808 ≤ c.time ∧ c.time ≤ 9223372036854775807 := by
  obtain ⟨fuel, hf⟩ := h
  exact open_cells ht he hone hC h0 h1 h2 h3 h4 (y := (d, ps)) (by simpa [Value.cells] using hf)

/-- An ask: two texts and two numbers. -/
theorem open_ask {r : Reach} {b0 : Nat} {t : TypeId} {f0 f1 f2 f3 : Field} {v : Value} {d : DataW H} {p : List MemPlace} (hs : P.underlying t = some (.struct #[f0, f1, f2, f3])) (hone : oneCellFields P #[f0, f1, f2, f3] = true) (hC : P.cellsOf t = 4)
    (h0 : P.underlying f0.type = some .string) (h1 : P.underlying f1.type = some .string) (h2 : P.underlying f2.type = some (.int .i64)) (h3 : P.underlying f3.type = some (.int .i64))
    (hv : Value.okWide P W r b0 t v) (h : DataW.Trod enc P W 0 (fun _ => true) true t v d p) :
    ∃ (a b : ByteArray) (x y : Int), v = .agg #[.string a, .string b, .int .i64 x, .int .i64 y] ∧ (-9223372036854775808 ≤ x ∧ x ≤ 9223372036854775807) ∧ -9223372036854775808 ≤ y ∧ y ≤ 9223372036854775807 := by
  obtain ⟨c0, c1, c2, c3, y0, y1, y2, y3, m, rfl, rfl, rfl, hy0, hy1, hy2, hy3⟩ := open_agg4 hs hone hC hv h
  obtain ⟨s0, e0, _, _⟩ := DataW.trod_string h0 hy0
  obtain ⟨s1, e1, _, _⟩ := DataW.trod_string h1 hy1
  obtain ⟨s2, e2, _, w2⟩ := DataW.trod_int h2 hy2
  obtain ⟨s3, e3, _, w3⟩ := DataW.trod_int h3 hy3
  simp only [List.cons.injEq, and_true] at e0 e1 e2 e3
  subst e0 e1 e2 e3
  exact ⟨s0, s1, s2, s3, rfl, bounds_i64 w2, bounds_i64 w3⟩

end
end Go.Proofs.Ytopnjklloleomaa

/-
  Texts that come in: how long they can be.
-/
namespace Go.Proofs.Ytopnjklloleomaa
open Go.ChangeShapes Go.WideShapes Go.ChangeAt Go.RowKit

theorem okWide_stringB {P : Program} {w : World} {base : Nat} {t : TypeId} {v : Value} (ht : P.underlying t = some .string) (h : Value.okWide P w .any base t v) : ∃ s, v = .string s ∧ s.size ≤ 9223372036854775807 := by
  obtain ⟨s, rfl⟩ := okWide_string ht h
  refine ⟨s, rfl, ?_⟩
  simp [Value.okWide, Cell.okWide, Cell.ok, ht] at h
  have h2 : IntKind.i64.max = 9223372036854775807 := rfl
  omega

end Go.Proofs.Ytopnjklloleomaa
