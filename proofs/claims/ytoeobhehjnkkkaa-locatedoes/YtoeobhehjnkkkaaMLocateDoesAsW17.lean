/-
  Texts joined: AsW17.
-/
import Derived.Test.YtoeobhehjnkkkaaMLocateDoesAsW16
import Derived.Test.YtoeobhehjnkkkaaMLocateDoes4
/-
  The walk over Do of package assign; split's and join's contracts are hypotheses here. (Written by as17.py.)
-/
namespace Go.Proofs.Ytoeobhehjnkkkaa
open Go.RowKit Go.Maps
set_option linter.unusedVariables false

theorem KpB.below {w1 w2 : World} {base B : Nat} {b : Bd} {hv sv : Value} (h : KpB w1 w2 B hv sv) (hb : BdAt w1 base B b hv sv) (hC : base ≤ w1.heap.size) : Below base w1 w2 :=
  ⟨h.os, h.tape, h.output, h.size, fun k hk => h.block k (by omega) (fun q => by have := hb.low; omega) (fun q => by have := (hb.hos.lt k q.symm).1; omega) (fun q => by have := (hb.slo.lt k q.symm).1; omega)⟩

theorem four_atA (w : World) (a b c d : Array Value) (t1 t2 t3 t4 : TypeId) :
    Blk ((((w.alloc (.cells a t1)).alloc (.cells b t2)).alloc (.cells c t3)).alloc (.cells d t4)) w.heap.size t1 a ∧ Blk ((((w.alloc (.cells a t1)).alloc (.cells b t2)).alloc (.cells c t3)).alloc (.cells d t4)) (w.heap.size + 1) t2 b ∧ Blk ((((w.alloc (.cells a t1)).alloc (.cells b t2)).alloc (.cells c t3)).alloc (.cells d t4)) (w.heap.size + 2) t3 c ∧ Blk ((((w.alloc (.cells a t1)).alloc (.cells b t2)).alloc (.cells c t3)).alloc (.cells d t4)) (w.heap.size + 3) t4 d ∧ Below w.heap.size w ((((w.alloc (.cells a t1)).alloc (.cells b t2)).alloc (.cells c t3)).alloc (.cells d t4)) := by
  refine ⟨(Blk.at0of3 w _ _ _ _).later (below_allocG _ _), (Blk.at1of3 w _ _ _ _).later (below_allocG _ _), (Blk.at2 w _ _ _ _).later (below_allocG _ _), ?_, (below_alloc3 w _ _ _).trans ((below_allocG _ _).mono (by simp; omega))⟩
  have := Blk.new (((w.alloc (.cells a t1)).alloc (.cells b t2)).alloc (.cells c t3)) t4 d
  simpa using this

/-- What Do tells, and answers. -/
def doFF (b : Bd) (f : Int × Int) : Int × Int := if (chkB b).1 ≠ 0 then chkB b else f
def doBB (b : Bd) (f : Int × Int) (b' : Bd) : Bd := if (doFF b f).1 = 0 then b' else zeroBd

set_option maxRecDepth 100000 in
set_option maxHeartbeats 8000000 in
theorem ADo_any (b : Bd) (hv sv : Value) (o : Od) (fs fj : Int × Int) (bs bj : Bd) (w : World) (hh : RdG hoE w hv b.hs) (hs : RdG slE w sv b.sl) (hl1 : b.hs.length ≤ 1000) (hl : b.sl.length ≤ 1000) (hwp : WfP (parts b.sl)) (hwf : ∀ s ∈ b.sl, (Lit.int .i64 s.ho).wf = true) (hz : (doF b o fs fj).1 = 0 → doF b o fs fj = (0, 0))
    (hsp : (chkB b).1 = 0 → ∀ W base B hv sv, BdAt W base B b hv sv → base ≤ W.heap.size → Calls Try.prog 65 #[.pointer (some ⟨B, 0, none⟩), .int .i64 o.id, .string o.row] W (DoneB W base B hv sv bs fs))
    (hjn : (chkB b).1 = 0 → ∀ W base B hv sv, BdAt W base B b hv sv → base ≤ W.heap.size → Calls Try.prog 66 #[.pointer (some ⟨B, 0, none⟩), .int .i64 o.id] W (DoneB W base B hv sv bj fj)) :
    Calls Try.prog 15 #[bdV hv sv b, odV o] w fun e w' => ∃ hv' sv', e = .returned (.tuple #[bdV hv' sv' (doBB b (doF b o fs fj) (doB b o bs bj)), flt (doFF b (doF b o fs fj))]) ∧ w'.ownsRow w.heap.size 42 3 hv' (doBB b (doF b o fs fj) (doB b o bs bj)).hs.length (hoE.vs (doBB b (doF b o fs fj) (doB b o bs bj)).hs) ∧ w'.ownsRow w.heap.size 46 6 sv' (doBB b (doF b o fs fj) (doB b o bs bj)).sl.length (slE.vs (doBB b (doF b o fs fj) (doB b o bs bj)).sl) ∧ Below w.heap.size w w' := by
  have HCK := hide (fun W (hW : Below w.heap.size w W) => ACheck_any b hv sv W (hh.below hW) (hs.below hW) hl hwp hwf)
  have HCP := hide (fun W (hW : Below w.heap.size w W) => copiedA_any b hv sv W (hh.below hW) (hs.below hW) hl1 hl)
  have HDO := hide (fun (h0 : (chkB b).1 = 0) W base B hv sv (hb : BdAt W base B b hv sv) (hbw : base ≤ W.heap.size) => do_any base B b hv sv o fs fj bs bj W hb (OkB.of h0) hbw (fun W h => hsp h0 W base B hv sv h) (fun W h => hjn h0 W base B hv sv h))
  have HZC := hide (fun h => chkB_z (b := b) h)
  have HZ := hide hz
  have HFF : Hid (∀ f, doFF b f = if (chkB b).1 ≠ 0 then chkB b else f) := hide (fun f => rfl)
  have HBB : Hid (∀ f b', doBB b f b' = if (doFF b f).1 = 0 then b' else zeroBd) := hide (fun f b' => rfl)
  obtain ⟨ah, ch, rfl, _, _⟩ := hh.shape
  obtain ⟨as_, cs, rfl, _, _⟩ := hs.shape
  obtain ⟨hB, hO, hR, hQ, hA⟩ := four_atA w #[.slice ah b.hs.length ch, .slice as_ b.sl.length cs, .int .i64 b.tu, .int .i64 b.nx] #[.int .i64 o.kind, .int .i64 o.id, .int .i64 o.ho, .int .i64 o.tu, .string o.row] #[.slice none 0 0, .slice none 0 0, .int .i64 0, .int .i64 0] #[.int .i64 0, .int .i64 0] 27 50 27 30
  have HB0 := hide hB
  have HO0 := hide hO
  have HR0 := hide hR
  have HQ0 := hide hQ
  have HA0 := hide hA
  generalize hW : ((((w.alloc (.cells #[.slice ah b.hs.length ch, .slice as_ b.sl.length cs, .int .i64 b.tu, .int .i64 b.nx] 27)).alloc (.cells #[.int .i64 o.kind, .int .i64 o.id, .int .i64 o.ho, .int .i64 o.tu, .string o.row] 50)).alloc (.cells #[.slice none 0 0, .slice none 0 0, .int .i64 0, .int .i64 0] 27)).alloc (.cells #[.int .i64 0, .int .i64 0] 30)) = W0 at HB0 HO0 HR0 HQ0 HA0
  have HW := hide hW
  have HN := hide (show some (w.heap.size + 3) ≠ some (w.heap.size + 2) from fun q => by simp at q)
  generalize hDF : doF b o fs fj = DF at *
  generalize hDB : doB b o bs bj = DB at *
  generalize hCKv : chkB b = K at *
  obtain ⟨x, y⟩ := K
  obtain ⟨dx, dy⟩ := DF
  have HCK0 := hide (HCK.out _ HA0.out)
  clear hh hs hl1 hl hwp hwf hz hsp hjn hB hO hR hQ hA hW hDF hDB hCKv HCK
  unfold bdV flt at HCK0
  unfold bdV odV flt
  go_enter Try.func15, Try.ntmps15
  go_upto_region 1 with fail
  rw [HW.out]
  clear HW
  go_upto_region 2 with (first
    | (refine wpList_load_blk HB0.out Try.underlying27 rfl Try.sizeBoard rfl rfl rfl ?_)
    | (go_at_call 35; refine HCK0.out.mono ?_; rintro e w1 ⟨rfl, hb1⟩; have HX1 := hide hb1; clear hb1))
  have hbT := below_allocG w1 (.cells #[.int .i64 x, .int .i64 y] 30)
  have hbX := HX1.out.trans (hbT.mono HX1.out.size)
  have HB1 := hide (HB0.out.later hbX)
  have HO1 := hide (HO0.out.later hbX)
  have HR1 := hide (HR0.out.later hbX)
  have HQ1 := hide (HQ0.out.later hbX)
  have HA1 := hide (HA0.out.trans (hbX.mono HA0.out.size))
  have HT1 := hide (Blk.new w1 30 #[.int .i64 x, .int .i64 y])
  have HNT := hide (show w.heap.size + 3 < w1.heap.size from (HQ0.out.later HX1.out).lt)
  generalize hwX : w1.alloc (.cells #[.int .i64 x, .int .i64 y] 30) = X1 at HB1 HO1 HR1 HQ1 HA1 HT1 ⊢
  clear hwX hbT hbX HX1 HB0 HO0 HR0 HQ0 HA0 HCK0
  by_cases hx : x ≠ 0
  · have q1 : (x != 0) = true := by simp [hx]
    have q2 : (x == 0) = false := beq_eq_false_iff_ne.2 hx
    have HE := hide ((HFF.out (dx, dy)).trans (if_pos hx))
    have HE2 := hide ((HBB.out (dx, dy) DB).trans (if_neg (by rw [HE.out]; exact hx)))
    clear hx HFF HBB HDO HZ HZC HCP
    as_aux_lemma =>
      go_upto_region 3 with (refine wpList_load_blk HT1.out Try.underlying30 rfl Try.sizeFaultA rfl rfl rfl ?_)
      have HR2 := hide (show Blk X1.drew (w.heap.size + 2) _ _ from HR1.out)
      have HQ2 := hide (show Blk X1.drew (w.heap.size + 3) _ _ from HQ1.out)
      have HT2 := hide (show Blk X1.drew (w1.heap.size) _ _ from HT1.out)
      have HA2 := hide (HA1.out.trans (Below.drew (Below.refl w.heap.size X1)))
      refine wp_region_heldD (S := fun W => W.cell? ⟨w1.heap.size, 0, none⟩ = some (.int .i64 x) ∧ W.cell? ⟨w1.heap.size, 1, none⟩ = some (.int .i64 y)) (n := 4) (l := (upB 4 0).toArray) (by kernel_rfl) (by kernel_rfl) (by kernel_rfl) (by kernel_rfl) ⟨HT2.out.cell 0, HT2.out.cell 1⟩ (fun HNS hHeld => ?_)
      refine wpAnyH_takeD (l' := (upB 4 1).toArray) (i := 0) (fuel := 3) (v := ?v1x0) rfl HNS.out (by kernel_rfl) (by kernel_rfl) (by kernel_rfl) (fun _ _ _ h => h) (by kernel_rfl) ?y1x0 hHeld ?r1x0
      case y1x0 => (intro W hSw; go_simp; first | done | with_reducible rfl)
      try simp only [Act.put, List.setIfInBounds_toArray, List.set_cons_zero, List.set_cons_succ]
      refine wpAnyH_takeD (l' := (upB 4 2).toArray) (i := 1) (fuel := 2) (v := ?v1x1) rfl HNS.out (by kernel_rfl) (by kernel_rfl) (by kernel_rfl) (fun _ _ _ h => h) (by kernel_rfl) ?y1x1 hHeld ?r1x1
      case y1x1 => (intro W hSw; (try dsimp only at hSw); go_simp; first | done | with_reducible rfl)
      try simp only [Act.put, List.setIfInBounds_toArray, List.set_cons_zero, List.set_cons_succ]
      refine wpAnyH_oneD (l' := (upB 4 3).toArray) (i := 2) (fuel := 1) rfl (by kernel_rfl) (by kernel_rfl) (fun Kc hK => ?_)
      refine step_store_blk rfl rfl rfl rfl HR2.out rfl Try.sizeBoard rfl ?_
      intro w3 hR3 hg3
      have HR3 := hide hR3
      have HQ3 := hide (HQ2.out.grown hg3 HN.out)
      have HT3 := hide (HT2.out.grown hg3 (fun q => by simp at q; have := HNT.out; omega))
      have HA3 := hide (below_grownO HA2.out hg3 (fun k hk => by cases hk; omega) HA2.out.size)
      clear hR3 hg3
      refine hK.out _ _ ⟨HT3.out.cell 0, HT3.out.cell 1⟩ (fun _ => ?_)
      clear hK Kc
      try simp only [Act.put]
      refine wpAnyH_oneD (l' := (upB 4 4).toArray) (i := 3) (fuel := 0) rfl (by kernel_rfl) (by kernel_rfl) (fun Kc hK => ?_)
      refine step_store_blk rfl rfl rfl rfl HQ3.out rfl Try.sizeFaultA rfl ?_
      intro w4 hQ4 hg4
      have HQ4 := hide hQ4
      have HR4 := hide (HR3.out.grown hg4 HN.out.symm)
      have HT4 := hide (HT3.out.grown hg4 (fun q => by simp at q; have := HNT.out; omega))
      have HA4 := hide (below_grownO HA3.out hg4 (fun k hk => by cases hk; omega) HA3.out.size)
      clear hQ4 hg4
      refine hK.out _ _ ⟨HT4.out.cell 0, HT4.out.cell 1⟩ (fun _ => ?_)
      clear hK Kc
      try simp only [Act.put]
      refine wpAnyH_done (by kernel_rfl) ?_ _
      go_wp2_with fail
      refine bodyPost_ret (v := .tuple #[.agg #[.slice none 0 0, .slice none 0 0, .int .i64 0, .int .i64 0], .agg #[.int .i64 x, .int .i64 y]]) (results2_cells Try.results15 rfl rfl (run_loadVar_blk HR4.out Try.underlying27 rfl Try.sizeBoard) (run_loadVar_blk HQ4.out Try.underlying30 rfl Try.sizeFaultA)) rfl ?_
      rw [HE.out, HE2.out]
      exact ⟨.slice none 0 0, .slice none 0 0, rfl, World.ownsRow_nil _ _ _ _, World.ownsRow_nil _ _ _ _, HA4.out⟩
  obtain rfl : x = 0 := Decidable.not_not.1 hx
  obtain rfl : y = 0 := by have := HZC.out rfl; simpa using this
  have HE := hide ((HFF.out (dx, dy)).trans (if_neg (by simp)))
  have HCP1 := hide (HCP.out _ HA1.out)
  have HDO1 := hide (HDO.out rfl)
  have hz1 := HA1.out.size
  clear hx HFF HCP HDO HZC
  unfold bdV at HCP1
  go_upto_region 5 with (first
    | (refine wpList_load_blk HT1.out Try.underlying30 rfl Try.sizeFaultA rfl rfl rfl ?_)
    | (refine wpList_load_blk HB1.out Try.underlying27 rfl Try.sizeBoard rfl rfl rfl ?_)
    | (go_at_call 36; refine HCP1.out.mono ?_; rintro e w2 ⟨hv2, sv2, rfl, ho2, hp2, hb2⟩; obtain ⟨a2, k2, rfl⟩ := owns_shapeA ho2; obtain ⟨a3, k3, rfl⟩ := owns_shapeA hp2; have HX2 := hide hb2; have HP2 := hide ho2; have HP3 := hide hp2; clear hb2 ho2 hp2))
  have hbT := below_allocG w2 (.cells #[.slice a2 b.hs.length k2, .slice a3 b.sl.length k3, .int .i64 b.tu, .int .i64 b.nx] 80)
  have hbX := HX2.out.trans (hbT.mono HX2.out.size)
  have HO3 := hide (HO1.out.later hbX)
  have HR3 := hide (HR1.out.later hbX)
  have HQ3 := hide (HQ1.out.later hbX)
  have HA3 := hide (HA1.out.trans (hbX.mono hz1))
  have hsz2 : w.heap.size ≤ w2.heap.size := Nat.le_trans hz1 HX2.out.size
  have HBD := hide (BdAt.mk (base := w.heap.size) (B := w2.heap.size) (b := b) (Blk.new w2 80 #[.slice a2 b.hs.length k2, .slice a3 b.sl.length k3, .int .i64 b.tu, .int .i64 b.nx]) (owns_laterA (owns_base1 HP2.out hz1) hbT) (owns_laterA (owns_base1 HP3.out hz1) hbT) hsz2)
  have HNB := hide (show w.heap.size + 3 < w2.heap.size from (HQ1.out.later HX2.out).lt)
  generalize hwX : w2.alloc (.cells #[.slice a2 b.hs.length k2, .slice a3 b.sl.length k3, .int .i64 b.tu, .int .i64 b.nx] 80) = X2 at HO3 HR3 HQ3 HA3 HBD ⊢
  clear hwX hbT hbX HX2 HP2 HP3 HB1 HO1 HR1 HQ1 HT1 HNT HA1 hz1 HCP1 hsz2
  have HD2 := hide (HDO1.out X2 w.heap.size w2.heap.size _ _ HBD.out HA3.out.size)
  unfold odV at HD2
  go_upto_region 6 with (first
    | (refine wpList_load_blk HO3.out Try.underlying50 rfl Try.sizeOrder rfl rfl rfl ?_)
    | (go_at_call 33; refine HD2.out.mono ?_; rintro e w3 ⟨rfl, hbd, hkp⟩; have HX3 := hide (hkp.below HBD.out HA3.out.size); have HR4_ := hide (hkp.blk HBD.out HR3.out (by decide) (by decide) (by decide)); have HQ4_ := hide (hkp.blk HBD.out HQ3.out (by decide) (by decide) (by decide)); have HBE := hide hbd; have HZ3 := hide hkp.size; clear hbd hkp; unfold flt))
  have hbT := below_allocG w3 (.cells #[.int .i64 dx, .int .i64 dy] 30)
  obtain ⟨hv4, sv4, hb4⟩ := HBE.out
  have HB5 := hide (hb4.later hbT)
  have HR1 := hide (HR4_.out.later hbT)
  have HQ1 := hide (HQ4_.out.later hbT)
  have HA1 := hide ((HA3.out.trans HX3.out).trans (hbT.mono (HA3.out.trans HX3.out).size))
  have HT1 := hide (Blk.new w3 30 #[.int .i64 dx, .int .i64 dy])
  have HNT := hide (show w.heap.size + 3 < w3.heap.size from HQ4_.out.lt)
  generalize hwX : w3.alloc (.cells #[.int .i64 dx, .int .i64 dy] 30) = X3 at HB5 HR1 HQ1 HA1 HT1 ⊢
  clear hwX hbT hb4 HBE HR4_ HQ4_ HX3 HZ3 HO3 HR3 HQ3 HA3 HBD HD2 HDO1
  by_cases hd : dx ≠ 0
  · have q1 : (dx != 0) = true := by simp [hd]
    have q2 : (dx == 0) = false := beq_eq_false_iff_ne.2 hd
    have HE2 := hide ((HBB.out (dx, dy) DB).trans (if_neg (by rw [HE.out]; exact hd)))
    clear hd HBB HZ
    as_aux_lemma =>
      go_upto_region 7 with (refine wpList_load_blk HT1.out Try.underlying30 rfl Try.sizeFaultA rfl rfl rfl ?_)
      have HR2 := hide (show Blk X3.drew (w.heap.size + 2) _ _ from HR1.out)
      have HQ2 := hide (show Blk X3.drew (w.heap.size + 3) _ _ from HQ1.out)
      have HT2 := hide (show Blk X3.drew (w3.heap.size) _ _ from HT1.out)
      have HA2 := hide (HA1.out.trans (Below.drew (Below.refl w.heap.size X3)))
      refine wp_region_heldD (S := fun W => W.cell? ⟨w3.heap.size, 0, none⟩ = some (.int .i64 dx) ∧ W.cell? ⟨w3.heap.size, 1, none⟩ = some (.int .i64 dy)) (n := 4) (l := (upB 4 0).toArray) (by kernel_rfl) (by kernel_rfl) (by kernel_rfl) (by kernel_rfl) ⟨HT2.out.cell 0, HT2.out.cell 1⟩ (fun HNS hHeld => ?_)
      refine wpAnyH_takeD (l' := (upB 4 1).toArray) (i := 0) (fuel := 3) (v := ?v2x0) rfl HNS.out (by kernel_rfl) (by kernel_rfl) (by kernel_rfl) (fun _ _ _ h => h) (by kernel_rfl) ?y2x0 hHeld ?r2x0
      case y2x0 => (intro W hSw; go_simp; first | done | with_reducible rfl)
      try simp only [Act.put, List.setIfInBounds_toArray, List.set_cons_zero, List.set_cons_succ]
      refine wpAnyH_takeD (l' := (upB 4 2).toArray) (i := 1) (fuel := 2) (v := ?v2x1) rfl HNS.out (by kernel_rfl) (by kernel_rfl) (by kernel_rfl) (fun _ _ _ h => h) (by kernel_rfl) ?y2x1 hHeld ?r2x1
      case y2x1 => (intro W hSw; (try dsimp only at hSw); go_simp; first | done | with_reducible rfl)
      try simp only [Act.put, List.setIfInBounds_toArray, List.set_cons_zero, List.set_cons_succ]
      refine wpAnyH_oneD (l' := (upB 4 3).toArray) (i := 2) (fuel := 1) rfl (by kernel_rfl) (by kernel_rfl) (fun Kc hK => ?_)
      refine step_store_blk rfl rfl rfl rfl HR2.out rfl Try.sizeBoard rfl ?_
      intro w3 hR3 hg3
      have HR3 := hide hR3
      have HQ3 := hide (HQ2.out.grown hg3 HN.out)
      have HT3 := hide (HT2.out.grown hg3 (fun q => by simp at q; have := HNT.out; omega))
      have HA3 := hide (below_grownO HA2.out hg3 (fun k hk => by cases hk; omega) HA2.out.size)
      clear hR3 hg3
      refine hK.out _ _ ⟨HT3.out.cell 0, HT3.out.cell 1⟩ (fun _ => ?_)
      clear hK Kc
      try simp only [Act.put]
      refine wpAnyH_oneD (l' := (upB 4 4).toArray) (i := 3) (fuel := 0) rfl (by kernel_rfl) (by kernel_rfl) (fun Kc hK => ?_)
      refine step_store_blk rfl rfl rfl rfl HQ3.out rfl Try.sizeFaultA rfl ?_
      intro w4 hQ4 hg4
      have HQ4 := hide hQ4
      have HR4 := hide (HR3.out.grown hg4 HN.out.symm)
      have HT4 := hide (HT3.out.grown hg4 (fun q => by simp at q; have := HNT.out; omega))
      have HA4 := hide (below_grownO HA3.out hg4 (fun k hk => by cases hk; omega) HA3.out.size)
      clear hQ4 hg4
      refine hK.out _ _ ⟨HT4.out.cell 0, HT4.out.cell 1⟩ (fun _ => ?_)
      clear hK Kc
      try simp only [Act.put]
      refine wpAnyH_done (by kernel_rfl) ?_ _
      go_wp2_with fail
      refine bodyPost_ret (v := .tuple #[.agg #[.slice none 0 0, .slice none 0 0, .int .i64 0, .int .i64 0], .agg #[.int .i64 dx, .int .i64 dy]]) (results2_cells Try.results15 rfl rfl (run_loadVar_blk HR4.out Try.underlying27 rfl Try.sizeBoard) (run_loadVar_blk HQ4.out Try.underlying30 rfl Try.sizeFaultA)) rfl ?_
      rw [HE.out, HE2.out]
      exact ⟨.slice none 0 0, .slice none 0 0, rfl, World.ownsRow_nil _ _ _ _, World.ownsRow_nil _ _ _ _, HA4.out⟩
  obtain rfl : dx = 0 := Decidable.not_not.1 hd
  obtain rfl : dy = 0 := by have := HZ.out rfl; simpa using this
  have HE2 := hide ((HBB.out (0, 0) DB).trans (if_pos (by rw [HE.out])))
  clear hd HBB HZ
  obtain ⟨a5, k5, rfl⟩ := owns_shapeA HB5.out.hos
  obtain ⟨a6, k6, rfl⟩ := owns_shapeA HB5.out.slo
  go_wp2_with (first
    | (refine wpList_load_blk HT1.out Try.underlying30 rfl Try.sizeFaultA rfl rfl rfl ?_)
    | (refine wpList_load_blk HB5.out.blk Try.underlying27 rfl Try.sizeBoard rfl rfl rfl ?_)
    | (refine wpList_store_blk rfl rfl rfl rfl HR1.out rfl Try.sizeBoard rfl ?_; intro w7 hR7 hg7; have HR7 := hide hR7; have HQ7 := hide (HQ1.out.grown hg7 HN.out); have HO7 := hide (owns_grownO HB5.out.hos hg7 (.inr (owns_off HB5.out.hos HR1.out (by decide)))); have HP7 := hide (owns_grownO HB5.out.slo hg7 (.inr (owns_off HB5.out.slo HR1.out (by decide)))); have HA7 := hide (below_grownO HA1.out hg7 (fun k hk => by cases hk; omega) HA1.out.size); clear hR7 hg7)
    | (refine wpList_store_blk rfl rfl rfl rfl HQ7.out rfl Try.sizeFaultA rfl ?_; intro w8 hQ8 hg8; have HQ8 := hide hQ8; have HR8 := hide (HR7.out.grown hg8 HN.out.symm); have HO8 := hide (owns_grownO HO7.out hg8 (.inr (owns_off HO7.out HQ7.out (by decide)))); have HP8 := hide (owns_grownO HP7.out hg8 (.inr (owns_off HP7.out HQ7.out (by decide)))); have HA8 := hide (below_grownO HA7.out hg8 (fun k hk => by cases hk; omega) HA7.out.size); clear hQ8 hg8))
  refine bodyPost_ret (v := .tuple #[.agg #[.slice a5 DB.hs.length k5, .slice a6 DB.sl.length k6, .int .i64 DB.tu, .int .i64 DB.nx], .agg #[.int .i64 0, .int .i64 0]]) (results2_cells Try.results15 rfl rfl (run_loadVar_blk HR8.out Try.underlying27 rfl Try.sizeBoard) (run_loadVar_blk HQ8.out Try.underlying30 rfl Try.sizeFaultA)) rfl ?_
  rw [HE.out, HE2.out]
  exact ⟨_, _, rfl, HO8.out, HP8.out, HA8.out⟩

end Go.Proofs.Ytoeobhehjnkkkaa
