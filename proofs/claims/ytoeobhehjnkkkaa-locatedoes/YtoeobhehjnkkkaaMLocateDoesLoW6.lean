/-
  Texts joined: LoW6.
-/
import Derived.Test.YtoeobhehjnkkkaaMLocateDoesLoW5
/-
  The walk over locate.Learn. (Written by lo6.py.)
-/
namespace Go.Proofs.Ytoeobhehjnkkkaa
open Go.RowKit Go.Maps
set_option linter.unusedVariables false

/-- What is wrong with learning one. -/
def lrnF (l : List Kn) (k : Kn) : Int × Int :=
  if (chkK l).1 ≠ 0 then chkK l else if codeKn k.p ≠ 0 then (codeKn k.p, -1) else if 200 < (lrn l k).length then (2, -2) else (0, 0)

/-- What is known then. -/
def lrnL (l : List Kn) (k : Kn) : List Kn := if (lrnF l k).1 = 0 then lrn l k else []

theorem two_atK (w : World) (a b : Array Value) (t1 t2 : TypeId) :
    Blk ((w.alloc (.cells a t1)).alloc (.cells b t2)) w.heap.size t1 a ∧ Blk ((w.alloc (.cells a t1)).alloc (.cells b t2)) (w.heap.size + 1) t2 b ∧ Below w.heap.size w ((w.alloc (.cells a t1)).alloc (.cells b t2)) := by
  refine ⟨Blk.at0of2 w _ t1 a, Blk.at1 w _ t2 b, below_alloc2 w _ _⟩

set_option maxRecDepth 100000 in
set_option maxHeartbeats 8000000 in
theorem Learn_any (v : Value) (l : List Kn) (k : Kn) (w : World) (hv : RdG knE w v l) (hl : l.length ≤ 1000) :
    Calls Try.prog 24 #[v, .agg #[.string k.p.fr, .string k.p.to_, .int .i64 k.p.id, .int .i64 k.ho, .int .i64 k.tu]] w fun e w' => ∃ v', e = .returned (.tuple #[v', flt (lrnF l k)]) ∧ w'.ownsRow w.heap.size 61 5 v' (lrnL l k).length (knE.vs (lrnL l k)) ∧ Below w.heap.size w w' := by
  have HFF := hide (fun h => chkK_z (l := l) h)
  have HLF : Hid (lrnF l k = if (chkK l).1 ≠ 0 then chkK l else if codeKn k.p ≠ 0 then (codeKn k.p, -1) else if 200 < (lrn l k).length then (2, -2) else (0, 0)) := hide rfl
  have HLL : Hid (lrnL l k = if (lrnF l k).1 = 0 then lrn l k else []) := hide rfl
  obtain ⟨hK0, hR0, hA0⟩ := two_atK w #[.string k.p.fr, .string k.p.to_, .int .i64 k.p.id, .int .i64 k.ho, .int .i64 k.tu] #[.int .i64 0, .int .i64 0] 61 30
  have HK0 := hide hK0
  have HR0 := hide hR0
  have HB0 := hide hA0
  have HLN := hide (fun W (hW : Below w.heap.size w W) => learntK_any v l k W (hv.below hW) hl)
  have HPC := hide (fun W => partCode_any k.p W)
  have HCK := hide (KCheck_any v l _ (hv.below HB0.out))
  obtain ⟨ao, cap, rfl, hc1, hc2⟩ := hv.shape
  clear hv hK0 hR0 hA0
  generalize chkK l = K at *
  generalize lrnF l k = F at *
  generalize lrnL l k = L at *
  generalize hRR : lrn l k = R at *
  generalize codeKn k.p = C at *
  obtain ⟨x, y⟩ := K
  generalize hW0 : ((w.alloc (.cells #[.string k.p.fr, .string k.p.to_, .int .i64 k.p.id, .int .i64 k.ho, .int .i64 k.tu] 61)).alloc (.cells #[.int .i64 0, .int .i64 0] 30)) = W0 at HCK HR0 HB0 HK0
  clear hRR
  unfold flt at HCK
  unfold flt
  go_enter Try.func24, Try.ntmps24
  go_upto_region 1 with fail
  clear hW0
  go_upto_region 2 with (go_at_call 22; refine HCK.out.mono ?_; rintro e w1 ⟨rfl, hb1⟩; have HX1 := hide hb1; clear hb1)
  have hbT := below_allocG w1 (.cells #[.int .i64 x, .int .i64 y] 30)
  have hbX := HX1.out.trans (hbT.mono HX1.out.size)
  have HR1 := hide (HR0.out.later hbX)
  have HK1 := hide (HK0.out.later hbX)
  have HA1 := hide (HB0.out.trans (hbX.mono HB0.out.size))
  have HT1 := hide (Blk.new w1 30 #[.int .i64 x, .int .i64 y])
  have HNT := hide (show w.heap.size + 1 < w1.heap.size from (HR0.out.later HX1.out).lt)
  generalize hwX : w1.alloc (.cells #[.int .i64 x, .int .i64 y] 30) = X1 at HR1 HA1 HT1 HK1 ⊢
  clear hwX hbT hbX HX1 HR0 HB0 HCK HK0
  by_cases hx : x ≠ 0
  · have q1 : (x != 0) = true := by simp [hx]
    have q2 : (x == 0) = false := beq_eq_false_iff_ne.2 hx
    have HE := hide (HLF.out.trans (if_pos hx))
    have HE2 := hide (HLL.out.trans (if_neg (by rw [HE.out]; exact hx)))
    clear hx HLF HLL HFF HLN HPC
    go_upto_region 3 with (refine wpList_load_blk HT1.out Try.underlying30 rfl Try.sizeFaultA rfl rfl rfl ?_)
    have HR2 := hide (show Blk X1.drew (w.heap.size + 1) _ _ from HR1.out)
    have HT2 := hide (show Blk X1.drew (w1.heap.size) _ _ from HT1.out)
    have HA2 := hide (HA1.out.trans (Below.drew (Below.refl w.heap.size X1)))
    refine wp_region_heldD (S := fun W => W.cell? ⟨w1.heap.size, 0, none⟩ = some (.int .i64 x) ∧ W.cell? ⟨w1.heap.size, 1, none⟩ = some (.int .i64 y)) (n := 3) (l := (upB 3 0).toArray) (by kernel_rfl) (by kernel_rfl) (by kernel_rfl) (by kernel_rfl) ⟨HT2.out.cell 0, HT2.out.cell 1⟩ (fun HNS hHeld => ?_)
    refine wpAnyH_takeD (l' := (upB 3 1).toArray) (i := 0) (fuel := 2) (v := ?v1x0) rfl HNS.out (by kernel_rfl) (by kernel_rfl) (by kernel_rfl) (fun _ _ _ h => h) (by kernel_rfl) ?y1x0 hHeld ?r1x0
    case y1x0 => (intro W hSw; (try dsimp only at hSw); go_simp; first | done | with_reducible rfl)
    try simp only [Act.put, List.setIfInBounds_toArray, List.set_cons_zero, List.set_cons_succ]
    refine wpAnyH_takeD (l' := (upB 3 2).toArray) (i := 1) (fuel := 1) (v := ?v1x1) rfl HNS.out (by kernel_rfl) (by kernel_rfl) (by kernel_rfl) (fun _ _ _ h => h) (by kernel_rfl) ?y1x1 hHeld ?r1x1
    case y1x1 => (intro W hSw; go_simp; first | done | with_reducible rfl)
    try simp only [Act.put, List.setIfInBounds_toArray, List.set_cons_zero, List.set_cons_succ]
    refine wpAnyH_oneD (l' := (upB 3 3).toArray) (i := 2) (fuel := 0) rfl (by kernel_rfl) (by kernel_rfl) (fun Kc hK => ?_)
    refine step_store_blk rfl rfl rfl rfl HR2.out rfl Try.sizeFaultA rfl ?_
    intro w3 hR3 hg3
    have HR3 := hide hR3
    have HA3 := hide (below_grownO HA2.out hg3 (fun k hk => by cases hk; omega) HA2.out.size)
    have HT3 := hide (HT2.out.grown hg3 (fun q => by simp at q; have := HNT.out; omega))
    clear hR3 hg3
    refine hK.out _ _ ⟨HT3.out.cell 0, HT3.out.cell 1⟩ (fun _ => ?_)
    clear hK Kc
    try simp only [Act.put]
    refine wpAnyH_done (by kernel_rfl) ?_ _
    go_wp2_with fail
    refine bodyPost_ret (v := .tuple #[.slice none 0 0, .agg #[.int .i64 x, .int .i64 y]]) (results2_tc Try.results24 rfl rfl (run_loadVar_blk HR3.out Try.underlying30 rfl Try.sizeFaultA)) rfl ?_
    exact ⟨_, by rw [HE.out], by rw [HE2.out]; exact World.ownsRow_nil _ _ _ _, HA3.out⟩
  obtain rfl : x = 0 := Decidable.not_not.1 hx
  obtain rfl : y = 0 := by have := HFF.out rfl; simpa using this
  have HE := hide (HLF.out.trans (if_neg hx))
  have HPC1 := hide (HPC.out X1)
  have k0 := HK1.out.cell 0
  have k1 := HK1.out.cell 1
  have k2 := HK1.out.cell 2
  have kl := HK1.out.lt
  simp at k0 k1 k2
  clear hx HLF HFF HPC
  go_upto_region 5 with (first
    | (refine wpList_load_blk HT1.out Try.underlying30 rfl Try.sizeFaultA rfl rfl rfl ?_)
    | (go_at_call 49; refine HPC1.out.mono ?_; rintro e w4 ⟨rfl, hb4⟩; have HR4 := hide (HR1.out.later hb4); have HK4 := hide (HK1.out.later hb4); have HA4 := hide (HA1.out.trans (hb4.mono HA1.out.size)); clear hb4))
  clear HR1 HK1 HA1 HT1 HNT k0 k1 k2 kl HPC1
  by_cases hC : C ≠ 0
  · have q1 : (C != 0) = true := by simp [hC]
    have q2 : (C == 0) = false := beq_eq_false_iff_ne.2 hC
    have HE1 := hide (HE.out.trans (if_pos hC))
    have HE2 := hide (HLL.out.trans (if_neg (by rw [HE1.out]; exact hC)))
    clear hC HE HLL HLN
    go_wp2_with (refine wpList_store_blk rfl rfl rfl rfl HR4.out rfl Try.sizeFaultA rfl ?_; intro w8 hR8 hg8; have HR8 := hide hR8; have HA8 := hide (below_grownO HA4.out hg8 (fun k hk => by cases hk; omega) HA4.out.size); clear hR8 hg8)
    refine bodyPost_ret (v := .tuple #[.slice none 0 0, .agg #[.int .i64 C, .int .i64 (-1)]]) (results2_tc Try.results24 rfl rfl (run_loadVar_blk HR8.out Try.underlying30 rfl Try.sizeFaultA)) rfl ?_
    exact ⟨_, by rw [HE1.out], by rw [HE2.out]; exact World.ownsRow_nil _ _ _ _, HA8.out⟩
  obtain rfl : C = 0 := Decidable.not_not.1 hC
  have HE1 := hide (HE.out.trans (if_neg hC))
  have HLN4 := hide (HLN.out _ HA4.out)
  clear hC HE HLN
  go_upto_region 8 with (first
    | (refine wpList_load_blk HK4.out Try.underlying61 rfl Try.sizeKnown rfl rfl rfl ?_)
    | (go_at_call 50; refine HLN4.out.mono ?_; rintro e w5 ⟨v5, rfl, ho5, hb5⟩; obtain ⟨o5, k5, rfl⟩ := owns_shapeA ho5; have HO5 := hide (owns_base1 ho5 HA4.out.size); have HR5 := hide (HR4.out.later hb5); have HA5 := hide (HA4.out.trans (hb5.mono HA4.out.size)); clear ho5 hb5))
  clear HR4 HK4 HA4 HLN4
  by_cases h2 : 200 < R.length
  · have HE2 := hide (HE1.out.trans (if_pos h2))
    have HE3 := hide (HLL.out.trans (if_neg (by rw [HE2.out]; decide)))
    have q1 : (200 : Int) < (R.length : Int) := by omega
    clear h2 HE1 HLL
    go_wp2_with (refine wpList_store_blk rfl rfl rfl rfl HR5.out rfl Try.sizeFaultA rfl ?_; intro w8 hR8 hg8; have HR8 := hide hR8; have HA8 := hide (below_grownO HA5.out hg8 (fun k hk => by cases hk; omega) HA5.out.size); clear hR8 hg8)
    refine bodyPost_ret (v := .tuple #[.slice none 0 0, .agg #[.int .i64 2, .int .i64 (-2)]]) (results2_tc Try.results24 rfl rfl (run_loadVar_blk HR8.out Try.underlying30 rfl Try.sizeFaultA)) rfl ?_
    exact ⟨_, by rw [HE2.out], by rw [HE3.out]; exact World.ownsRow_nil _ _ _ _, HA8.out⟩
  · have HE2 := hide (HE1.out.trans (if_neg h2))
    have HE3 := hide (HLL.out.trans (if_pos (by rw [HE2.out])))
    have q1 : ¬ ((200 : Int) < (R.length : Int)) := by omega
    have HRL := hide (show R.length ≤ 200 by omega)
    clear h2 HE1 HLL
    go_wp2_with (refine wpList_store_blk rfl rfl rfl rfl HR5.out rfl Try.sizeFaultA rfl ?_; intro w8 hR8 hg8; have HR8 := hide hR8; have HO8 := hide (owns_grownO HO5.out hg8 (.inr (owns_off HO5.out HR5.out (by decide)))); have HA8 := hide (below_grownO HA5.out hg8 (fun k hk => by cases hk; omega) HA5.out.size); clear hR8 hg8)
    refine bodyPost_ret (v := .tuple #[.slice o5 R.length k5, .agg #[.int .i64 0, .int .i64 0]]) (results2_tc Try.results24 rfl rfl (run_loadVar_blk HR8.out Try.underlying30 rfl Try.sizeFaultA)) rfl ?_
    exact ⟨_, by rw [HE2.out], by rw [HE3.out]; exact HO8.out, HA8.out⟩

end Go.Proofs.Ytoeobhehjnkkkaa
