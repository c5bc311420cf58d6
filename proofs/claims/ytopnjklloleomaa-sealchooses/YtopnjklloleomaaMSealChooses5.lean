/-
  Texts joined: GenH, SealR3, SealR4, SealR5, SealP1, SealP2, SealP3.
-/
import Derived.Test.YtopnjklloleomaaMSealChooses4
import Derived.Deep.RegionHeld3
import Derived.Maps.AppendAt
/-
  Regions that draw their order, step by step: an operation is taken out of the region's list by its place; what is done is told by a list that is written out. Nothing of a program stands here.
-/
namespace Go.Proofs.Ytopnjklloleomaa
open Go.RowKit Go.Maps

/-- Of n the first k are done. -/
def upB : Nat → Nat → List Bool
  | 0, _ => []
  | n + 1, 0 => false :: upB n 0
  | n + 1, k + 1 => true :: upB n k

section
variable {P : Program} {ops : Array Oper} {Q : Exit → Act → World → Prop} {md : Region.Mode} {S : World → Prop}

theorem at_of_drop {i : Nat} {oi : Oper} (hi : (ops.toList.drop i).head? = some oi) : ops[i]? = some oi := by
  rw [List.head?_drop] at hi
  simpa using hi

/-- Number i is taken first. -/
theorem wpAnyH_takeD {l l' : Array Bool} {i : Nat} {oi : Oper} {v : Value} {fuel : Nat} {a : Act} {w : World} (hi : (ops.toList.drop i).head? = some oi)
    (hs : Region.noSelect ops = true) (hf : Region.free md ops l i = true) (hr : (Region.ready md ops l).contains i = true) (hl : l.setIfInBounds i true = l')
    (hQ : ∀ c a w, Q (.panic c) (a.put oi.dst v) w → Q (.panic c) a w) (hw : Region.wanted oi (yielded ops a.tmps) = true) (hy : ∀ w, S w → (execOp a.eval oi).run P w = .ok (.value v) w) (hS : S w)
    (h : wpAnyH P md ops Q S fuel l' (a.put oi.dst v) w) : wpAnyH P md ops Q S (fuel + 1) l a w :=
  wpAnyH_take (at_of_drop hi) hs hf hr hQ (.inl ⟨hw, hy⟩) hS (by rw [hl]; exact h)

/-- Number i is not wanted. -/
theorem wpAnyH_skipD {l l' : Array Bool} {i : Nat} {oi : Oper} {fuel : Nat} {a : Act} {w : World} (hi : (ops.toList.drop i).head? = some oi)
    (hs : Region.noSelect ops = true) (hf : Region.free md ops l i = true) (hr : (Region.ready md ops l).contains i = true) (hl : l.setIfInBounds i true = l')
    (hQ : ∀ c a w, Q (.panic c) (a.put oi.dst undef) w → Q (.panic c) a w) (hw : Region.wanted oi (yielded ops a.tmps) = false) (hS : S w)
    (h : wpAnyH P md ops Q S fuel l' (a.put oi.dst undef) w) : wpAnyH P md ops Q S (fuel + 1) l a w :=
  wpAnyH_take (at_of_drop hi) hs hf hr hQ (.inr ⟨hw, rfl⟩) hS (by rw [hl]; exact h)

/-- Number i comes up, and nothing else can. -/
theorem wpAnyH_oneD {l l' : Array Bool} {fuel : Nat} {a : Act} {w : World} {i : Nat} {o : Oper} (hi : (ops.toList.drop i).head? = some o) (hr : Region.ready md ops l = [i]) (hl : l.setIfInBounds i true = l')
    (h : ∀ K' : Act → World → Prop, Shut (∀ a w, S w → (S w → wpAnyH P md ops Q S fuel l' a w) → K' a w) → if Region.wanted o (yielded ops a.tmps) = true then Oper.wp P o a w K' Q else K' (a.put o.dst undef) w) : wpAnyH P md ops Q S (fuel + 1) l a w :=
  wpAnyH_ready hr (by simp) (AllReadyH.cons (at_of_drop hi) (by rw [hl]; exact h) AllReadyH.nil)

/-- The beginning. -/
theorem wp_region_heldD {l : Array Bool} {n id : Nat} {a : Act} {w : World} (hm : P.follows .mixedOrders = true) (hn : ops.size = n) (hl : Array.replicate n false = l) (hs : Region.noSelect ops = true) (hS : S w.drew)
    (h : Hid (Region.noSelect ops = true) → S w.drew → wpAnyH P .any ops Q S n l a w.drew) : (Code.region id ops true).wp P Q a w :=
  wp_region_held_drew hm hS (fun k => by rw [hn, hl]; exact h (hide hs) k)

end
end Go.Proofs.Ytopnjklloleomaa

/-
  The walks over the document's ClosedCopy and EndedCopy. (Written by sr3.py.)
-/
namespace Go.Proofs.Ytopnjklloleomaa
open Go.RowKit
set_option linter.unusedVariables false

set_option maxRecDepth 100000 in
set_option maxHeartbeats 4000000 in
theorem ClosedCopy_any (c : Cp) (v : Value) (e_ : Int) (w : World) (hv : RdG txE w v c.recs) :
    Calls Try.prog 15 #[cpV c v, .int .i64 e_] w fun e w' => ∃ v', e = .returned (.tuple #[cpV (cloC c e_) v', flt (cloF c e_)]) ∧ w'.ownsRow w.heap.size 9 1 v' (cloC c e_).recs.length (txE.vs (cloC c e_).recs) ∧ Below w.heap.size w w' := by
  have hlen := fun h => epF_len (c := c) (e_ := e_) (g := (0, 0)) h
  have hz := epF_z (c := c) (ep := e_) (g := (0, 0))
  have hcc : cloC c e_ = if (epF c e_ (0, 0)).1 = 0 then ⟨e_, true, c.recs, c.en⟩ else noCp := rfl
  have hcf : cloF c e_ = epF c e_ (0, 0) := rfl
  obtain ⟨ao, cap, rfl, hc1, hc2⟩ := hv.shape
  obtain ⟨hB, hR, hQ, hA⟩ := three_atS w (cpA c (.slice ao c.recs.length cap)) #[.int .i64 0, .bool false, .slice none 0 0, .int .i64 0] #[.int .i64 0, .int .i64 0] 24 24 29
  have hI := CopyAsked_any c _ e_ (0, 0) (fun _ => rfl) _ (hv.below hA)
  have HV0 := hide (hv.below hA)
  generalize hK : epF c e_ (0, 0) = K at *
  obtain ⟨x, y⟩ := K
  obtain ⟨ep, cl, l, en⟩ := c
  have HB0 := hide hB
  have HR0 := hide hR
  have HQ0 := hide hQ
  have HA0 := hide hA
  have HI := hide hI
  have HZ := hide hz
  have HLEN := hide hlen
  have HCC := hide hcc
  have HCF := hide hcf
  have HN := hide (show some (w.heap.size + 1 + 1) ≠ some (w.heap.size + 1) from fun q => by simp at q)
  have hsz := hA.size
  clear hv hB hR hQ hA hI hz hlen hcc hcf hK hc1 hc2
  unfold cpA at HB0 HR0 HQ0 HA0 HI hsz HV0
  unfold cpV flt at HI
  unfold cpV flt
  dsimp only at HLEN HCC HB0 HI HV0 ⊢
  go_enter Try.func15, Try.ntmps15
  go_wp2_with (refine wpList_load_blk HB0.out Try.underlying24 rfl Try.sizeCopy rfl rfl rfl ?_)
  refine HI.out.mono ?_
  rintro e w1 ⟨rfl, hb1⟩
  have hbT := below_allocG w1 (.cells #[.int .i64 x, .int .i64 y] 29)
  have hbX := hb1.trans (hbT.mono hb1.size)
  have HV1 := hide (HV0.out.below hbX)
  have HB1 := hide (HB0.out.later hbX)
  have HR1 := hide (HR0.out.later hbX)
  have HQ1 := hide (HQ0.out.later hbX)
  have HA1 := hide (HA0.out.trans (hbX.mono hsz))
  have HT1 := hide (Blk.new w1 29 #[.int .i64 x, .int .i64 y])
  have HNT := hide (show w.heap.size + 1 + 1 < w1.heap.size from (HQ0.out.later hb1).lt)
  have t0 := HT1.out.cell 0
  have tl := HT1.out.lt
  simp at t0 tl
  clear hb1 hbT hbX HI HB0 HR0 HQ0 HA0 HV0
  by_cases hx : x ≠ 0
  · have hq : (x != 0) = true := by simp [hx]
    have HE := hide (HCC.out.trans (if_neg hx))
    clear hx
    go_upto_region 3 with fail
    generalize hwX : w1.alloc (.cells #[.int .i64 x, .int .i64 y] 29) = wX at HV1 HB1 HR1 HQ1 HA1 HT1 t0 tl ⊢
    have HR2 := hide (show Blk wX.drew (w.heap.size + 1) _ _ from HR1.out)
    have HQ2 := hide (show Blk wX.drew (w.heap.size + 1 + 1) _ _ from HQ1.out)
    have HT2 := hide (show Blk wX.drew w1.heap.size _ _ from HT1.out)
    have HA2 := hide (HA1.out.trans (Below.drew (Below.refl w.heap.size wX)))
    clear t0 tl hwX
    refine wp_region_heldD (S := fun W => W.cell? ⟨w1.heap.size, 0, none⟩ = some (.int .i64 x) ∧ W.cell? ⟨w1.heap.size, 1, none⟩ = some (.int .i64 y)) (n := 4) (l := (upB 4 0).toArray) (by kernel_rfl) (by kernel_rfl) (by kernel_rfl) (by kernel_rfl) ⟨HT2.out.cell 0, HT2.out.cell 1⟩ (fun HNS hHeld => ?_)
    refine wpAnyH_takeD (l' := (upB 4 1).toArray) (i := 0) (fuel := 3) (v := ?v1x0) rfl HNS.out (by kernel_rfl) (by kernel_rfl) (by kernel_rfl) (fun _ _ _ h => h) (by kernel_rfl) ?y1x0 hHeld ?r1x0
    case y1x0 => (intro W hSw; go_simp; first | done | with_reducible rfl)
    try simp only [Act.put, List.setIfInBounds_toArray, List.set_cons_zero, List.set_cons_succ]
    refine wpAnyH_takeD (l' := (upB 4 2).toArray) (i := 1) (fuel := 2) (v := ?v1x1) rfl HNS.out (by kernel_rfl) (by kernel_rfl) (by kernel_rfl) (fun _ _ _ h => h) (by kernel_rfl) ?y1x1 hHeld ?r1x1
    case y1x1 => (intro W hSw; (try dsimp only at hSw); go_simp; first | done | with_reducible rfl)
    try simp only [Act.put, List.setIfInBounds_toArray, List.set_cons_zero, List.set_cons_succ]
    refine wpAnyH_oneD (l' := (upB 4 3).toArray) (i := 2) (fuel := 1) rfl (by kernel_rfl) (by kernel_rfl) (fun Kc hK => ?_)
    refine step_store_blk rfl rfl rfl rfl HR2.out rfl Try.sizeCopy rfl ?_
    intro w3 hR3 hg3
    have HR3 := hide hR3
    have HQ3 := hide (HQ2.out.grown hg3 HN.out)
    have HT3 := hide (HT2.out.grown hg3 (fun q => by simp at q; have := HNT.out; omega))
    have HA3 := hide (below_grownO HA2.out hg3 (fun k hk => by cases hk; omega) HA2.out.size)
    clear hR3 hg3
    refine hK.out _ _ ⟨HT3.out.cell 0, HT3.out.cell 1⟩ (fun _ => ?_)
    clear hK Kc
    try simp only [Act.put]
    refine wpAnyH_oneD (l' := (upB 4 4).toArray) (i := 3) (fuel := 0) rfl (by kernel_rfl) (by kernel_rfl) (fun Kc hK => ?_)
    refine step_store_blk rfl rfl rfl rfl HQ3.out rfl Try.sizeFaultS rfl ?_
    intro w4 hQ4 hg4
    have HQ4 := hide hQ4
    have HR4 := hide (HR3.out.grown hg4 HN.out.symm)
    have HT4 := hide (HT3.out.grown hg4 (fun q => by simp at q; have := HNT.out; omega))
    have HA4 := hide (below_grownO HA3.out hg4 (fun k hk => by cases hk; omega) HA3.out.size)
    clear hQ4 hg4
    refine hK.out _ _ ⟨HT4.out.cell 0, HT4.out.cell 1⟩ (fun _ => ?_)
    clear hK Kc
    try simp only [Act.put]
    refine wpAnyH_done (by kernel_rfl) ?_ _
    go_wp2_with fail
    refine bodyPost_ret (v := .tuple #[.agg #[.int .i64 0, .bool false, .slice none 0 0, .int .i64 0], .agg #[.int .i64 x, .int .i64 y]]) (results2_cells Try.results15 rfl rfl (run_loadVar_blk HR4.out Try.underlying24 rfl Try.sizeCopy) (run_loadVar_blk HQ4.out Try.underlying29 rfl Try.sizeFaultS)) rfl ?_
    exact ⟨.slice none 0 0, by rw [HE.out, HCF.out]; rfl, by rw [HE.out]; exact World.ownsRow_nil _ _ _ _, HA4.out⟩
  · obtain rfl : x = 0 := Decidable.not_not.1 hx
    obtain rfl : y = 0 := by have := HZ.out rfl; simpa using this
    have HE := hide (HCC.out.trans (if_pos rfl))
    have hl := HLEN.out rfl
    clear hx
    go_upto_region 4 with fail
    generalize hwX : w1.alloc (.cells #[.int .i64 0, .int .i64 0] 29) = wX at HV1 HB1 HR1 HQ1 HA1 HT1 t0 tl ⊢
    clear t0 tl hwX
    refine wp_region_heldD (S := fun W => W.cell? ⟨w.heap.size, 2, none⟩ = some (.slice ao l.length cap) ∧ W.cell? ⟨w.heap.size, 3, none⟩ = some (.int .i64 en) ∧ W.cell? ⟨w1.heap.size, 0, none⟩ = some (.int .i64 0) ∧ W.cell? ⟨w1.heap.size, 1, none⟩ = some (.int .i64 0)) (n := 10) (l := (upB 10 0).toArray) (by kernel_rfl) (by kernel_rfl) (by kernel_rfl) (by kernel_rfl) ⟨HB1.out.cell 2, HB1.out.cell 3, HT1.out.cell 0, HT1.out.cell 1⟩ (fun HNS hHeld => ?_)
    refine wpAnyH_takeD (l' := (upB 10 1).toArray) (i := 0) (fuel := 9) (v := ?v2x0) rfl HNS.out (by kernel_rfl) (by kernel_rfl) (by kernel_rfl) (fun _ _ _ h => h) (by kernel_rfl) ?y2x0 hHeld ?r2x0
    case y2x0 => (intro W hSw; go_simp; first | done | with_reducible rfl)
    try simp only [Act.put, List.setIfInBounds_toArray, List.set_cons_zero, List.set_cons_succ]
    refine wpAnyH_takeD (l' := (upB 10 2).toArray) (i := 1) (fuel := 8) (v := ?v2x1) rfl HNS.out (by kernel_rfl) (by kernel_rfl) (by kernel_rfl) (fun _ _ _ h => h) (by kernel_rfl) ?y2x1 hHeld ?r2x1
    case y2x1 => (intro W hSw; go_simp; first | done | with_reducible rfl)
    try simp only [Act.put, List.setIfInBounds_toArray, List.set_cons_zero, List.set_cons_succ]
    refine wpAnyH_takeD (l' := (upB 10 3).toArray) (i := 2) (fuel := 7) (v := ?v2x2) rfl HNS.out (by kernel_rfl) (by kernel_rfl) (by kernel_rfl) (fun _ _ _ h => h) (by kernel_rfl) ?y2x2 hHeld ?r2x2
    case y2x2 => (intro W hSw; (try dsimp only at hSw); go_simp; first | done | with_reducible rfl)
    try simp only [Act.put, List.setIfInBounds_toArray, List.set_cons_zero, List.set_cons_succ]
    refine wpAnyH_takeD (l' := #[true, true, true, false, true, false, false, false, false, false]) (i := 4) (fuel := 6) (v := ?v2x4) rfl HNS.out (by kernel_rfl) (by kernel_rfl) (by kernel_rfl) (fun _ _ _ h => h) (by kernel_rfl) ?y2x4 hHeld ?r2x4
    case y2x4 => (intro W hSw; go_simp; first | done | with_reducible rfl)
    try simp only [Act.put, List.setIfInBounds_toArray, List.set_cons_zero, List.set_cons_succ]
    refine wpAnyH_takeD (l' := #[true, true, true, false, true, true, false, false, false, false]) (i := 5) (fuel := 5) (v := ?v2x5) rfl HNS.out (by kernel_rfl) (by kernel_rfl) (by kernel_rfl) (fun _ _ _ h => h) (by kernel_rfl) ?y2x5 hHeld ?r2x5
    case y2x5 => (intro W hSw; (try dsimp only at hSw); go_simp; first | done | with_reducible rfl)
    try simp only [Act.put, List.setIfInBounds_toArray, List.set_cons_zero, List.set_cons_succ]
    refine wpAnyH_takeD (l' := #[true, true, true, false, true, true, false, true, false, false]) (i := 7) (fuel := 4) (v := ?v2x7) rfl HNS.out (by kernel_rfl) (by kernel_rfl) (by kernel_rfl) (fun _ _ _ h => h) (by kernel_rfl) ?y2x7 hHeld ?r2x7
    case y2x7 => (intro W hSw; (try dsimp only at hSw); go_simp; first | done | with_reducible rfl)
    try simp only [Act.put, List.setIfInBounds_toArray, List.set_cons_zero, List.set_cons_succ]
    refine wpAnyH_oneD (l' := #[true, true, true, true, true, true, false, true, false, false]) (i := 3) (fuel := 3) rfl (by kernel_rfl) (by kernel_rfl) (fun Kc hK => ?_)
    refine step_append_rdK (E := txE) (cs := []) (v := .slice none 0 0) (n := 0) (base := wX.heap.size) (show wX.drew.ownsRow wX.heap.size 9 1 (.slice none 0 0) 0 [] from World.ownsRow_nil _ _ _ _) (show RdG txE wX.drew (.slice ao l.length cap) l from HV1.out) Try.underlying22 infoText rfl (by rfl) (by rfl) (by rfl) (by rfl) (by omega) (by decide) (Nat.le_refl _) ?_
    intro v5 w5 ho5 hg5
    rw [List.nil_append, Nat.zero_add] at ho5
    obtain ⟨ao5, cap5, rfl⟩ := owns_shape ho5
    have hb5 : Below wX.heap.size wX w5 := below_grownO (C := wX.heap.size) (Below.drew (Below.refl wX.heap.size wX)) hg5 (fun k hk => by cases hk) (Nat.le_refl _)
    have HO2 := hide (owns_base0 ho5 HA1.out.size)
    have HR2 := hide (HR1.out.later hb5)
    have HQ2 := hide (HQ1.out.later hb5)
    have HT2 := hide (HT1.out.later hb5)
    have HB2 := hide (HB1.out.later hb5)
    have HA2 := hide (HA1.out.trans (hb5.mono HA1.out.size))
    clear ho5 hg5 hb5
    refine hK.out _ _ ⟨HB2.out.cell 2, HB2.out.cell 3, HT2.out.cell 0, HT2.out.cell 1⟩ (fun _ => ?_)
    clear hK Kc
    try simp only [Act.put, List.setIfInBounds_toArray, List.set_cons_zero, List.set_cons_succ]
    refine wpAnyH_takeD (l' := (upB 10 8).toArray) (i := 6) (fuel := 2) (v := ?v2x6) rfl HNS.out (by kernel_rfl) (by kernel_rfl) (by kernel_rfl) (fun _ _ _ h => h) (by kernel_rfl) ?y2x6 ⟨HB2.out.cell 2, HB2.out.cell 3, HT2.out.cell 0, HT2.out.cell 1⟩ ?r2x6
    case y2x6 => (intro W hSw; go_simp; first | done | with_reducible rfl)
    try simp only [Act.put, List.setIfInBounds_toArray, List.set_cons_zero, List.set_cons_succ]
    refine wpAnyH_oneD (l' := (upB 10 9).toArray) (i := 8) (fuel := 1) rfl (by kernel_rfl) (by kernel_rfl) (fun Kc hK => ?_)
    refine step_store_blk rfl rfl rfl rfl HR2.out rfl Try.sizeCopy rfl ?_
    intro w3 hR3 hg3
    have HR3 := hide hR3
    have HQ3 := hide (HQ2.out.grown hg3 HN.out)
    have HT3 := hide (HT2.out.grown hg3 (fun q => by simp at q; have := HNT.out; omega))
    have HA3 := hide (below_grownO HA2.out hg3 (fun k hk => by cases hk; omega) HA2.out.size)
    have HO3 := hide (owns_grownO HO2.out hg3 (.inr (owns_off HO2.out HR2.out (by decide))))
    have HB3 := hide (HB2.out.grown hg3 (fun q => by simp at q <;> omega))
    clear hR3 hg3
    refine hK.out _ _ ⟨HB3.out.cell 2, HB3.out.cell 3, HT3.out.cell 0, HT3.out.cell 1⟩ (fun _ => ?_)
    clear hK Kc
    try simp only [Act.put]
    refine wpAnyH_oneD (l' := (upB 10 10).toArray) (i := 9) (fuel := 0) rfl (by kernel_rfl) (by kernel_rfl) (fun Kc hK => ?_)
    refine step_store_blk rfl rfl rfl rfl HQ3.out rfl Try.sizeFaultS rfl ?_
    intro w4 hQ4 hg4
    have HQ4 := hide hQ4
    have HR4 := hide (HR3.out.grown hg4 HN.out.symm)
    have HT4 := hide (HT3.out.grown hg4 (fun q => by simp at q; have := HNT.out; omega))
    have HA4 := hide (below_grownO HA3.out hg4 (fun k hk => by cases hk; omega) HA3.out.size)
    have HO4 := hide (owns_grownO HO3.out hg4 (.inr (owns_off HO3.out HQ3.out (by decide))))
    have HB4 := hide (HB3.out.grown hg4 (fun q => by simp at q <;> omega))
    clear hQ4 hg4
    refine hK.out _ _ ⟨HB4.out.cell 2, HB4.out.cell 3, HT4.out.cell 0, HT4.out.cell 1⟩ (fun _ => ?_)
    clear hK Kc
    try simp only [Act.put]
    refine wpAnyH_done (by kernel_rfl) ?_ _
    go_wp2_with fail
    refine bodyPost_ret (v := .tuple #[.agg #[.int .i64 e_, .bool true, .slice ao5 l.length cap5, .int .i64 en], .agg #[.int .i64 0, .int .i64 0]]) (results2_cells Try.results15 rfl rfl (run_loadVar_blk HR4.out Try.underlying24 rfl Try.sizeCopy) (run_loadVar_blk HQ4.out Try.underlying29 rfl Try.sizeFaultS)) rfl ?_
    exact ⟨_, by rw [HE.out, HCF.out], by rw [HE.out]; exact HO4.out, HA4.out⟩

end Go.Proofs.Ytopnjklloleomaa

/-
  The walks over the document's EndedCopy. (Written by sr4.py.)
-/
namespace Go.Proofs.Ytopnjklloleomaa
open Go.RowKit
set_option linter.unusedVariables false

set_option maxRecDepth 100000 in
set_option maxHeartbeats 8000000 in
theorem EndedCopy_any (c : Cp) (v : Value) (e_ : Int) (u : Value) (m : List ByteArray) (w : World) (hv : RdG txE w v c.recs) (hu : RdG txE w u m) :
    Calls Try.prog 16 #[cpV c v, .int .i64 e_, u] w fun e w' => ∃ v', e = .returned (.tuple #[cpV (endC c e_ m) v', flt (endF c e_ m)]) ∧ w'.ownsRow w.heap.size 9 1 v' (endC c e_ m).recs.length (txE.vs (endC c e_ m).recs) ∧ Below w.heap.size w w' := by
  have hz := epF_z (c := c) (ep := e_) (g := chosF m)
  have hcc : endC c e_ m = if (epF c e_ (chosF m)).1 = 0 then ⟨e_, true, m, e_⟩ else noCp := rfl
  have hcf : endF c e_ m = epF c e_ (chosF m) := rfl
  have hch : chosF m = if 100 < m.length then (2, -2) else if 0 ≤ longI m 0 then (8, longI m 0) else (0, 0) := rfl
  have hlen : (epF c e_ (chosF m)).1 = 0 → m.length ≤ 1000 := by
    intro h
    by_cases hm : 100 < m.length
    · exfalso
      rw [hch, if_pos hm] at h
      unfold epF at h
      split at h
      · contradiction
      split at h
      · cases h
      rw [if_pos (by decide)] at h
      cases h
    · omega
  obtain ⟨ao, cap, rfl, hc1, hc2⟩ := hv.shape
  have HU := hide hu
  obtain ⟨au, cau, rfl, hu1, hu2⟩ := hu.shape
  obtain ⟨hB, hR, hQ, hL, hA⟩ := four_at w (cpA c (.slice ao c.recs.length cap)) #[.int .i64 0, .bool false, .slice none 0 0, .int .i64 0] #[.int .i64 0, .int .i64 0] #[.int .i64 0, .int .i64 0] 24 24 29 29
  have HTL := hide (fun W (hW : Below w.heap.size w W) => TooLong_any _ m W (hu.below hW))
  have hI := fun W (hW : Below w.heap.size w W) => CopyAsked_any c _ e_ (chosF m) (chosF_z m) W (hv.below hW)
  generalize hK : epF c e_ (chosF m) = K at *
  obtain ⟨x, y⟩ := K
  obtain ⟨ep, cl, l, en⟩ := c
  generalize hJ : longI m 0 = J at *
  generalize hG : chosF m = G at *
  obtain ⟨gx, gy⟩ := G
  have HB0 := hide hB
  have HR0 := hide hR
  have HQ0 : Hid (Blk _ (w.heap.size + 1 + 1) _ _) := hide hQ
  have HL0 : Hid (Blk _ (w.heap.size + 1 + 1 + 1) _ _) := hide hL
  have HA0 := hide hA
  have HI := hide hI
  have HZ := hide hz
  have HLEN := hide hlen
  have HCC := hide hcc
  have HCF := hide hcf
  have HCH := hide hch
  have HN := hide (show some (w.heap.size + 1 + 1) ≠ some (w.heap.size + 1) from fun q => by simp at q)
  unfold maxLen at hu2
  clear hv hu hB hR hQ hL hA hI hz hlen hcc hcf hch hK hJ hG hc1 hc2
  unfold cpA at HB0 HR0 HQ0 HL0 HA0
  unfold cpV flt at HI
  unfold cpV flt
  dsimp only at HCC HB0 HI HLEN HCH ⊢
  go_enter Try.func16, Try.ntmps16
  go_upto_if 13 with fail
  generalize hW4 : ((((w.alloc (.cells #[.int .i64 ep, .bool cl, .slice ao l.length cap, .int .i64 en] 24)).alloc (.cells #[.int .i64 0, .bool false, .slice none 0 0, .int .i64 0] 24)).alloc (.cells #[.int .i64 0, .int .i64 0] 29)).alloc (.cells #[.int .i64 0, .int .i64 0] 29)) = W4 at HB0 HR0 HQ0 HL0 HA0 ⊢
  clear hW4
  generalize hPB : decide ((100 : Int) < (m.length : Int)) = PB
  have HPB := hide hPB
  clear hPB
  go_cut [] (fun wc => Blk wc (w.heap.size) 24 #[.int .i64 ep, .bool cl, .slice ao l.length cap, .int .i64 en] ∧ Blk wc (w.heap.size + 1) 24 #[.int .i64 0, .bool false, .slice none 0 0, .int .i64 0] ∧ Blk wc (w.heap.size + 1 + 1) 29 #[.int .i64 0, .int .i64 0] ∧ Blk wc (w.heap.size + 1 + 1 + 1) 29 #[.int .i64 gx, .int .i64 gy] ∧ Below w.heap.size w wc)
  case first =>
    by_cases hm : 100 < m.length
    · have hpb := HPB.out
      rw [decide_eq_true (by omega : (100 : Int) < (m.length : Int))] at hpb
      subst hpb
      have HE := hide (HCH.out.trans (if_pos hm))
      clear hm
      go_wp2_with (first
        | (go_at_call 32; refine (lF_any 2 (-2) _).mono ?_; rintro e w5 ⟨rfl, hb5⟩; have HB5 := hide (HB0.out.later hb5); have HR5 := hide (HR0.out.later hb5); have HQ5 := hide (HQ0.out.later hb5); have HL5 := hide (HL0.out.later hb5); have HA5 := hide (HA0.out.trans (hb5.mono HA0.out.size)); clear hb5; unfold flt)
        | (refine wpList_store_blk rfl rfl rfl rfl HL5.out rfl Try.sizeFaultS rfl ?_; intro w6 hL6 hg6; have HL6 := hide hL6; have HB6 := hide (HB5.out.grown hg6 (fun q => by simp at q <;> omega)); have HR6 := hide (HR5.out.grown hg6 (fun q => by simp at q <;> omega)); have HQ6 := hide (HQ5.out.grown hg6 (fun q => by simp at q <;> omega)); have HA6 := hide (below_grownO HA5.out hg6 (fun k hk => by cases hk; omega) HA5.out.size); clear hL6 hg6))
      go_meet
      case rel =>
        have he := HE.out
        simp only [Prod.mk.injEq] at he
        obtain ⟨rfl, rfl⟩ := he
        exact ⟨HB6.out, HR6.out, HQ6.out, HL6.out, HA6.out⟩
    have hpb := HPB.out
    rw [decide_eq_false (by omega : ¬ (100 : Int) < (m.length : Int))] at hpb
    subst hpb
    have HC2 := hide (HCH.out.trans (if_neg hm))
    clear hm
    by_cases hj : 0 ≤ J
    · have hq3 : decide (0 ≤ J) = true := decide_eq_true hj
      have HE := hide (HC2.out.trans (if_pos hj))
      clear hj
      go_wp2_with (first
        | (go_at_call 33; refine (HTL.out _ HA0.out).mono ?_; rintro e w5 ⟨rfl, rfl⟩)
        | (go_at_call 32; refine (lF_any 8 J _).mono ?_; rintro e w5 ⟨rfl, hb5⟩; have HB5 := hide (HB0.out.later hb5); have HR5 := hide (HR0.out.later hb5); have HQ5 := hide (HQ0.out.later hb5); have HL5 := hide (HL0.out.later hb5); have HA5 := hide (HA0.out.trans (hb5.mono HA0.out.size)); clear hb5; unfold flt)
        | (refine wpList_store_blk rfl rfl rfl rfl HL5.out rfl Try.sizeFaultS rfl ?_; intro w6 hL6 hg6; have HL6 := hide hL6; have HB6 := hide (HB5.out.grown hg6 (fun q => by simp at q <;> omega)); have HR6 := hide (HR5.out.grown hg6 (fun q => by simp at q <;> omega)); have HQ6 := hide (HQ5.out.grown hg6 (fun q => by simp at q <;> omega)); have HA6 := hide (below_grownO HA5.out hg6 (fun k hk => by cases hk; omega) HA5.out.size); clear hL6 hg6))
      go_meet
      case rel =>
        have he := HE.out
        simp only [Prod.mk.injEq] at he
        obtain ⟨rfl, rfl⟩ := he
        exact ⟨HB6.out, HR6.out, HQ6.out, HL6.out, HA6.out⟩
    · have hq3 : decide (0 ≤ J) = false := decide_eq_false hj
      have HE := hide (HC2.out.trans (if_neg hj))
      clear hj
      go_wp2_with (go_at_call 33; refine (HTL.out _ HA0.out).mono ?_; rintro e w5 ⟨rfl, rfl⟩)
      go_meet
      case rel =>
        have he := HE.out
        simp only [Prod.mk.injEq] at he
        obtain ⟨rfl, rfl⟩ := he
        exact ⟨HB0.out, HR0.out, HQ0.out, HL0.out, HA0.out⟩
  case rest =>
    obtain ⟨hB6, hR6, hQ6, hL6, hA6⟩ := hcut
    have HI6 := hide (HI.out _ hA6)
    have HU6 := hide (HU.out.below hA6)
    have HB6 := hide hB6
    have HR6 := hide hR6
    have HQ6 := hide hQ6
    have HL6 := hide hL6
    have HA6 := hide hA6
    have hsz := hA6.size
    clear HB0 HR0 HQ0 HL0 HA0 HI HU hB6 hR6 hQ6 hL6 hA6 HTL HCH
    go_upto_region 7 with (first
      | (refine wpList_load_blk HB6.out Try.underlying24 rfl Try.sizeCopy rfl rfl rfl ?_)
      | (refine wpList_load_blk HL6.out Try.underlying29 rfl Try.sizeFaultS rfl rfl rfl ?_)
      | (go_at_call 31; refine HI6.out.mono ?_; rintro e w1 ⟨rfl, hb1⟩; have HR7 := hide (HR6.out.later hb1); have HQ7 := hide (HQ6.out.later hb1); have HB7 := hide hb1; clear hb1))
    have hbT := below_allocG w1 (.cells #[.int .i64 x, .int .i64 y] 29)
    have hbX := HB7.out.trans (hbT.mono HB7.out.size)
    have HU1 := hide (HU6.out.below hbX)
    have HR1 := hide (HR6.out.later hbX)
    have HQ1 := hide (HQ6.out.later hbX)
    have HA1 := hide (HA6.out.trans (hbX.mono hsz))
    have HT1 := hide (Blk.new w1 29 #[.int .i64 x, .int .i64 y])
    have HNT := hide (show w.heap.size + 1 + 1 < w1.heap.size from HQ7.out.lt)
    have t0 := HT1.out.cell 0
    have tl := HT1.out.lt
    simp at t0 tl
    clear hbT hbX HI6 HB6 HR6 HQ6 HA6 HU6 HL6 HR7 HQ7 HB7
    by_cases hx : x ≠ 0
    · have hq : (x != 0) = true := by simp [hx]
      have HE := hide (HCC.out.trans (if_neg hx))
      clear hx
      go_upto_region 8 with fail
      generalize hwX : w1.alloc (.cells #[.int .i64 x, .int .i64 y] 29) = wX at HU1 HR1 HQ1 HA1 HT1 t0 tl ⊢
      have HR2 := hide (show Blk wX.drew (w.heap.size + 1) _ _ from HR1.out)
      have HQ2 := hide (show Blk wX.drew (w.heap.size + 1 + 1) _ _ from HQ1.out)
      have HT2 := hide (show Blk wX.drew w1.heap.size _ _ from HT1.out)
      have HA2 := hide (HA1.out.trans (Below.drew (Below.refl w.heap.size wX)))
      clear t0 tl hwX
      refine wp_region_heldD (S := fun W => W.cell? ⟨w1.heap.size, 0, none⟩ = some (.int .i64 x) ∧ W.cell? ⟨w1.heap.size, 1, none⟩ = some (.int .i64 y)) (n := 4) (l := (upB 4 0).toArray) (by kernel_rfl) (by kernel_rfl) (by kernel_rfl) (by kernel_rfl) ⟨HT2.out.cell 0, HT2.out.cell 1⟩ (fun HNS hHeld => ?_)
      refine wpAnyH_takeD (l' := (upB 4 1).toArray) (i := 0) (fuel := 3) (v := ?v1x0) rfl HNS.out (by kernel_rfl) (by kernel_rfl) (by kernel_rfl) (fun _ _ _ h => h) (by kernel_rfl) ?y1x0 hHeld ?r1x0
      case y1x0 => (intro W hSw; go_simp; first | done | with_reducible rfl)
      try simp only [Act.put, List.setIfInBounds_toArray, List.set_cons_zero, List.set_cons_succ]
      refine wpAnyH_takeD (l' := (upB 4 2).toArray) (i := 1) (fuel := 2) (v := ?v1x1) rfl HNS.out (by kernel_rfl) (by kernel_rfl) (by kernel_rfl) (fun _ _ _ h => h) (by kernel_rfl) ?y1x1 hHeld ?r1x1
      case y1x1 => (intro W hSw; (try dsimp only at hSw); go_simp; first | done | with_reducible rfl)
      try simp only [Act.put, List.setIfInBounds_toArray, List.set_cons_zero, List.set_cons_succ]
      refine wpAnyH_oneD (l' := (upB 4 3).toArray) (i := 2) (fuel := 1) rfl (by kernel_rfl) (by kernel_rfl) (fun Kc hK => ?_)
      refine step_store_blk rfl rfl rfl rfl HR2.out rfl Try.sizeCopy rfl ?_
      intro w3 hR3 hg3
      have HR3 := hide hR3
      have HQ3 := hide (HQ2.out.grown hg3 HN.out)
      have HT3 := hide (HT2.out.grown hg3 (fun q => by simp at q; have := HNT.out; omega))
      have HA3 := hide (below_grownO HA2.out hg3 (fun k hk => by cases hk; omega) HA2.out.size)
      clear hR3 hg3
      refine hK.out _ _ ⟨HT3.out.cell 0, HT3.out.cell 1⟩ (fun _ => ?_)
      clear hK Kc
      try simp only [Act.put]
      refine wpAnyH_oneD (l' := (upB 4 4).toArray) (i := 3) (fuel := 0) rfl (by kernel_rfl) (by kernel_rfl) (fun Kc hK => ?_)
      refine step_store_blk rfl rfl rfl rfl HQ3.out rfl Try.sizeFaultS rfl ?_
      intro w4 hQ4 hg4
      have HQ4 := hide hQ4
      have HR4 := hide (HR3.out.grown hg4 HN.out.symm)
      have HT4 := hide (HT3.out.grown hg4 (fun q => by simp at q; have := HNT.out; omega))
      have HA4 := hide (below_grownO HA3.out hg4 (fun k hk => by cases hk; omega) HA3.out.size)
      clear hQ4 hg4
      refine hK.out _ _ ⟨HT4.out.cell 0, HT4.out.cell 1⟩ (fun _ => ?_)
      clear hK Kc
      try simp only [Act.put]
      refine wpAnyH_done (by kernel_rfl) ?_ _
      go_wp2_with fail
      refine bodyPost_ret (v := .tuple #[.agg #[.int .i64 0, .bool false, .slice none 0 0, .int .i64 0], .agg #[.int .i64 x, .int .i64 y]]) (results2_cells Try.results16 rfl rfl (run_loadVar_blk HR4.out Try.underlying24 rfl Try.sizeCopy) (run_loadVar_blk HQ4.out Try.underlying29 rfl Try.sizeFaultS)) rfl ?_
      exact ⟨.slice none 0 0, by rw [HE.out, HCF.out]; rfl, by rw [HE.out]; exact World.ownsRow_nil _ _ _ _, HA4.out⟩
    · obtain rfl : x = 0 := Decidable.not_not.1 hx
      obtain rfl : y = 0 := by have := HZ.out rfl; simpa using this
      have HE := hide (HCC.out.trans (if_pos rfl))
      have hl := HLEN.out rfl
      clear hx
      go_upto_region 9 with fail
      generalize hwX : w1.alloc (.cells #[.int .i64 0, .int .i64 0] 29) = wX at HU1 HR1 HQ1 HA1 HT1 t0 tl ⊢
      clear t0 tl hwX
      refine wp_region_heldD (S := fun W => W.cell? ⟨w1.heap.size, 0, none⟩ = some (.int .i64 0) ∧ W.cell? ⟨w1.heap.size, 1, none⟩ = some (.int .i64 0)) (n := 8) (l := (upB 8 0).toArray) (by kernel_rfl) (by kernel_rfl) (by kernel_rfl) (by kernel_rfl) ⟨HT1.out.cell 0, HT1.out.cell 1⟩ (fun HNS hHeld => ?_)
      refine wpAnyH_takeD (l' := (upB 8 1).toArray) (i := 0) (fuel := 7) (v := ?v2x0) rfl HNS.out (by kernel_rfl) (by kernel_rfl) (by kernel_rfl) (fun _ _ _ h => h) (by kernel_rfl) ?y2x0 hHeld ?r2x0
      case y2x0 => (intro W hSw; go_simp; first | done | with_reducible rfl)
      try simp only [Act.put, List.setIfInBounds_toArray, List.set_cons_zero, List.set_cons_succ]
      refine wpAnyH_takeD (l' := (upB 8 2).toArray) (i := 1) (fuel := 6) (v := ?v2x1) rfl HNS.out (by kernel_rfl) (by kernel_rfl) (by kernel_rfl) (fun _ _ _ h => h) (by kernel_rfl) ?y2x1 hHeld ?r2x1
      case y2x1 => (intro W hSw; go_simp; first | done | with_reducible rfl)
      try simp only [Act.put, List.setIfInBounds_toArray, List.set_cons_zero, List.set_cons_succ]
      refine wpAnyH_takeD (l' := #[true, true, false, true, false, false, false, false]) (i := 3) (fuel := 5) (v := ?v2x3) rfl HNS.out (by kernel_rfl) (by kernel_rfl) (by kernel_rfl) (fun _ _ _ h => h) (by kernel_rfl) ?y2x3 hHeld ?r2x3
      case y2x3 => (intro W hSw; go_simp; first | done | with_reducible rfl)
      try simp only [Act.put, List.setIfInBounds_toArray, List.set_cons_zero, List.set_cons_succ]
      refine wpAnyH_takeD (l' := #[true, true, false, true, false, true, false, false]) (i := 5) (fuel := 4) (v := ?v2x5) rfl HNS.out (by kernel_rfl) (by kernel_rfl) (by kernel_rfl) (fun _ _ _ h => h) (by kernel_rfl) ?y2x5 hHeld ?r2x5
      case y2x5 => (intro W hSw; (try dsimp only at hSw); go_simp; first | done | with_reducible rfl)
      try simp only [Act.put, List.setIfInBounds_toArray, List.set_cons_zero, List.set_cons_succ]
      refine wpAnyH_oneD (l' := #[true, true, true, true, false, true, false, false]) (i := 2) (fuel := 3) rfl (by kernel_rfl) (by kernel_rfl) (fun Kc hK => ?_)
      refine step_append_rdK (E := txE) (cs := []) (v := .slice none 0 0) (n := 0) (base := wX.heap.size) (show wX.drew.ownsRow wX.heap.size 9 1 (.slice none 0 0) 0 [] from World.ownsRow_nil _ _ _ _) (show RdG txE wX.drew (.slice au m.length cau) m from HU1.out) Try.underlying22 infoText rfl (by rfl) (by rfl) (by rfl) (by rfl) (by omega) (by decide) (Nat.le_refl _) ?_
      intro v5 w5 ho5 hg5
      rw [List.nil_append, Nat.zero_add] at ho5
      obtain ⟨ao5, cap5, rfl⟩ := owns_shape ho5
      have hb5 : Below wX.heap.size wX w5 := below_grownO (C := wX.heap.size) (Below.drew (Below.refl wX.heap.size wX)) hg5 (fun k hk => by cases hk) (Nat.le_refl _)
      have HO2 := hide (owns_base0 ho5 HA1.out.size)
      have HR2 := hide (HR1.out.later hb5)
      have HQ2 := hide (HQ1.out.later hb5)
      have HT2 := hide (HT1.out.later hb5)
      have HA2 := hide (HA1.out.trans (hb5.mono HA1.out.size))
      clear ho5 hg5 hb5
      refine hK.out _ _ ⟨HT2.out.cell 0, HT2.out.cell 1⟩ (fun _ => ?_)
      clear hK Kc
      try simp only [Act.put, List.setIfInBounds_toArray, List.set_cons_zero, List.set_cons_succ]
      refine wpAnyH_takeD (l' := (upB 8 6).toArray) (i := 4) (fuel := 2) (v := ?v2x4) rfl HNS.out (by kernel_rfl) (by kernel_rfl) (by kernel_rfl) (fun _ _ _ h => h) (by kernel_rfl) ?y2x4 ⟨HT2.out.cell 0, HT2.out.cell 1⟩ ?r2x4
      case y2x4 => (intro W hSw; go_simp; first | done | with_reducible rfl)
      try simp only [Act.put, List.setIfInBounds_toArray, List.set_cons_zero, List.set_cons_succ]
      refine wpAnyH_oneD (l' := (upB 8 7).toArray) (i := 6) (fuel := 1) rfl (by kernel_rfl) (by kernel_rfl) (fun Kc hK => ?_)
      refine step_store_blk rfl rfl rfl rfl HR2.out rfl Try.sizeCopy rfl ?_
      intro w3 hR3 hg3
      have HR3 := hide hR3
      have HQ3 := hide (HQ2.out.grown hg3 HN.out)
      have HT3 := hide (HT2.out.grown hg3 (fun q => by simp at q; have := HNT.out; omega))
      have HA3 := hide (below_grownO HA2.out hg3 (fun k hk => by cases hk; omega) HA2.out.size)
      have HO3 := hide (owns_grownO HO2.out hg3 (.inr (owns_off HO2.out HR2.out (by decide))))
      clear hR3 hg3
      refine hK.out _ _ ⟨HT3.out.cell 0, HT3.out.cell 1⟩ (fun _ => ?_)
      clear hK Kc
      try simp only [Act.put]
      refine wpAnyH_oneD (l' := (upB 8 8).toArray) (i := 7) (fuel := 0) rfl (by kernel_rfl) (by kernel_rfl) (fun Kc hK => ?_)
      refine step_store_blk rfl rfl rfl rfl HQ3.out rfl Try.sizeFaultS rfl ?_
      intro w4 hQ4 hg4
      have HQ4 := hide hQ4
      have HR4 := hide (HR3.out.grown hg4 HN.out.symm)
      have HT4 := hide (HT3.out.grown hg4 (fun q => by simp at q; have := HNT.out; omega))
      have HA4 := hide (below_grownO HA3.out hg4 (fun k hk => by cases hk; omega) HA3.out.size)
      have HO4 := hide (owns_grownO HO3.out hg4 (.inr (owns_off HO3.out HQ3.out (by decide))))
      clear hQ4 hg4
      refine hK.out _ _ ⟨HT4.out.cell 0, HT4.out.cell 1⟩ (fun _ => ?_)
      clear hK Kc
      try simp only [Act.put]
      refine wpAnyH_done (by kernel_rfl) ?_ _
      go_wp2_with fail
      refine bodyPost_ret (v := .tuple #[.agg #[.int .i64 e_, .bool true, .slice ao5 m.length cap5, .int .i64 e_], .agg #[.int .i64 0, .int .i64 0]]) (results2_cells Try.results16 rfl rfl (run_loadVar_blk HR4.out Try.underlying24 rfl Try.sizeCopy) (run_loadVar_blk HQ4.out Try.underlying29 rfl Try.sizeFaultS)) rfl ?_
      exact ⟨_, by rw [HE.out, HCF.out], by rw [HE.out]; exact HO4.out, HA4.out⟩

end Go.Proofs.Ytopnjklloleomaa

/-
  The walks over the document's Appended. (Written by sr5.py.)
-/
namespace Go.Proofs.Ytopnjklloleomaa
open Go.RowKit
set_option linter.unusedVariables false

theorem ba_injT {a b : ByteArray} (h : a.toList = b.toList) : a = b := by
  rw [ByteArray.toList_eq, ByteArray.toList_eq] at h
  cases a
  cases b
  simpa using h

theorem apF_of {c : Cp} {e_ at_ : Int} {r : ByteArray} (h : (epF c e_ (0, 0)).1 = 0) : appF c e_ at_ r = apF c at_ r := by
  unfold appF
  rw [if_neg (by simp [h])]

theorem appC_bad {c : Cp} {e_ at_ : Int} {r : ByteArray} {f : Int × Int} (h : appF c e_ at_ r = f) (h0 : f.1 ≠ 0) : appC c e_ at_ r = noCp := by
  unfold appC
  rw [h, if_neg h0]

theorem ended_zero {c : Cp} {e_ : Int} {g : Int × Int} (h : (epF c e_ g).1 = 0) (hc : c.cl = false) : c.en = 0 ∧ c.recs.length ≤ 100 := by
  unfold epF at h
  split at h
  · contradiction
  rename_i h1
  have h2 : (chkC c).1 = 0 := Decidable.not_not.1 h1
  unfold chkC at h2
  split at h2
  · simp at h2
  rename_i h3
  split at h2
  · simp at h2
  rename_i h4
  split at h2
  · simp at h2
  rename_i h5
  have h6 : numL c.en = true := (Decidable.not_not.1 h3).2
  unfold numL at h6
  simp only [decide_eq_true_eq] at h6
  have h7 : ¬ (0 < c.en ∧ c.cl = false) := fun q => h4 (.inr q)
  refine ⟨?_, by omega⟩
  by_cases h8 : 0 < c.en
  · exact absurd ⟨h8, hc⟩ h7
  · omega

set_option maxRecDepth 100000 in
set_option maxHeartbeats 8000000 in
theorem Appended_any (c : Cp) (v : Value) (e_ at_ : Int) (r : ByteArray) (w : World) (hv : RdG txE w v c.recs) :
    Calls Try.prog 14 #[cpV c v, .int .i64 e_, .int .i64 at_, .string r] w fun e w' => ∃ v', e = .returned (.tuple #[cpV (appC c e_ at_ r) v', flt (appF c e_ at_ r)]) ∧ w'.ownsRow w.heap.size 9 1 v' (appC c e_ at_ r).recs.length (txE.vs (appC c e_ at_ r).recs) ∧ Below w.heap.size w w' := by
  have hz := epF_z (c := c) (ep := e_) (g := (0, 0))
  have hen := fun h hc => ended_zero (c := c) (e_ := e_) (g := (0, 0)) h hc
  have hbad := fun f h h0 => appC_bad (c := c) (e_ := e_) (at_ := at_) (r := r) (f := f) h h0
  have hap := fun h => apF_of (c := c) (e_ := e_) (at_ := at_) (r := r) h
  have hap2 : (epF c e_ (0, 0)).1 ≠ 0 → appF c e_ at_ r = epF c e_ (0, 0) := fun h => if_pos h
  have haf : apF c at_ r = if c.cl = true then (11, -2) else if 200 < r.size then (8, -2) else if at_ < 0 ∨ (c.recs.length : Int) < at_ then (3, -2) else if at_ < (c.recs.length : Int) ∧ c.recs[at_.toNat]? ≠ some r then (7, -2) else if at_ = 100 then (2, -2) else (0, 0) := rfl
  have hac : appF c e_ at_ r = (0, 0) → appC c e_ at_ r = ⟨e_, c.cl, if at_ = (c.recs.length : Int) then c.recs ++ [r] else c.recs, c.en⟩ := fun h => by unfold appC; rw [h, if_pos rfl]
  obtain ⟨ao, cap, rfl, hc1, hc2⟩ := hv.shape
  unfold maxLen at hc2
  obtain ⟨hB, hR, hQ, hA⟩ := three_atS w (cpA c (.slice ao c.recs.length cap)) #[.int .i64 0, .bool false, .slice none 0 0, .int .i64 0] #[.int .i64 0, .int .i64 0] 24 24 29
  have hI := CopyAsked_any c _ e_ (0, 0) (fun _ => rfl) _ (hv.below hA)
  have HV0 := hide (hv.below hA)
  generalize hK : epF c e_ (0, 0) = K at *
  generalize hGF : appF c e_ at_ r = GF at *
  generalize hGC : appC c e_ at_ r = GC at *
  generalize hGA : apF c at_ r = GA at *
  obtain ⟨x, y⟩ := K
  obtain ⟨ep, cl, l, en⟩ := c
  have HB0 := hide hB
  have HR0 := hide hR
  have HQ0 := hide hQ
  have HA0 := hide hA
  have HI := hide hI
  have HZ := hide hz
  have HEN := hide hen
  have HBAD := hide hbad
  have HAP := hide hap
  have HAP2 := hide hap2
  have HAF := hide haf
  have HAC := hide hac
  have HN := hide (show some (w.heap.size + 1 + 1) ≠ some (w.heap.size + 1) from fun q => by simp at q)
  have hsz := hA.size
  clear hv hB hR hQ hA hI hz hen hbad hap hap2 haf hac hK hGF hGC hGA hc1
  unfold cpA at HB0 HR0 HQ0 HA0 HI hsz HV0
  unfold cpV flt at HI
  unfold cpV flt
  dsimp only at HEN HAF HAC HB0 HI HV0 hc2 ⊢
  go_enter Try.func14, Try.ntmps14
  go_wp2_with (refine wpList_load_blk HB0.out Try.underlying24 rfl Try.sizeCopy rfl rfl rfl ?_)
  refine HI.out.mono ?_
  rintro e w1 ⟨rfl, hb1⟩
  have hbT := below_allocG w1 (.cells #[.int .i64 x, .int .i64 y] 29)
  have hbX := hb1.trans (hbT.mono hb1.size)
  have HV1 := hide (HV0.out.below hbX)
  have HB1 := hide (HB0.out.later hbX)
  have HR1 := hide (HR0.out.later hbX)
  have HQ1 := hide (HQ0.out.later hbX)
  have HA1 := hide (HA0.out.trans (hbX.mono hsz))
  have HT1 := hide (Blk.new w1 29 #[.int .i64 x, .int .i64 y])
  have HNT := hide (show w.heap.size + 1 + 1 < w1.heap.size from (HQ0.out.later hb1).lt)
  clear hb1 hbT hbX HI HB0 HR0 HQ0 HA0 HV0
  go_upto_region 2 with fail
  generalize hwX : w1.alloc (.cells #[.int .i64 x, .int .i64 y] 29) = wX at HV1 HB1 HR1 HQ1 HA1 HT1 ⊢
  have t0 := HT1.out.cell 0
  have tl := HT1.out.lt
  have cc1 := HB1.out.cell 1
  have cc2 := HB1.out.cell 2
  have ccl := HB1.out.lt
  simp at t0 cc1 cc2
  clear hwX
  by_cases hx : x ≠ 0
  · have hq : (x != 0) = true := by simp [hx]
    have hq2 : (x == 0) = false := beq_eq_false_iff_ne.2 hx
    have HF := hide (HAP2.out hx)
    have HE := hide (HBAD.out _ HF.out hx)
    clear hx
    as_aux_lemma =>
      go_upto_region 13 with fail
      clear t0 tl cc1 cc2 ccl
      have HR2 := hide (show Blk wX.drew (w.heap.size + 1) _ _ from HR1.out)
      have HQ2 := hide (show Blk wX.drew (w.heap.size + 1 + 1) _ _ from HQ1.out)
      have HT2 := hide (show Blk wX.drew w1.heap.size _ _ from HT1.out)
      have HA2 := hide (HA1.out.trans (Below.drew (Below.refl w.heap.size wX)))
      refine wp_region_heldD (S := fun W => W.cell? ⟨w1.heap.size, 0, none⟩ = some (.int .i64 x) ∧ W.cell? ⟨w1.heap.size, 1, none⟩ = some (.int .i64 y)) (n := 4) (l := (upB 4 0).toArray) (by kernel_rfl) (by kernel_rfl) (by kernel_rfl) (by kernel_rfl) ⟨HT2.out.cell 0, HT2.out.cell 1⟩ (fun HNS hHeld => ?_)
      refine wpAnyH_takeD (l' := (upB 4 1).toArray) (i := 0) (fuel := 3) (v := ?v1x0) rfl HNS.out (by kernel_rfl) (by kernel_rfl) (by kernel_rfl) (fun _ _ _ h => h) (by kernel_rfl) ?y1x0 hHeld ?r1x0
      case y1x0 => (intro W hSw; go_simp; first | done | with_reducible rfl)
      try simp only [Act.put, List.setIfInBounds_toArray, List.set_cons_zero, List.set_cons_succ]
      refine wpAnyH_takeD (l' := (upB 4 2).toArray) (i := 1) (fuel := 2) (v := ?v1x1) rfl HNS.out (by kernel_rfl) (by kernel_rfl) (by kernel_rfl) (fun _ _ _ h => h) (by kernel_rfl) ?y1x1 hHeld ?r1x1
      case y1x1 => (intro W hSw; (try dsimp only at hSw); go_simp; first | done | with_reducible rfl)
      try simp only [Act.put, List.setIfInBounds_toArray, List.set_cons_zero, List.set_cons_succ]
      refine wpAnyH_oneD (l' := (upB 4 3).toArray) (i := 2) (fuel := 1) rfl (by kernel_rfl) (by kernel_rfl) (fun Kc hK => ?_)
      refine step_store_blk rfl rfl rfl rfl HR2.out rfl Try.sizeCopy rfl ?_
      intro w3 hR3 hg3
      have HR3 := hide hR3
      have HQ3 := hide (HQ2.out.grown hg3 HN.out)
      have HT3 := hide (HT2.out.grown hg3 (fun q => by simp at q; have := HNT.out; omega))
      have HA3 := hide (below_grownO HA2.out hg3 (fun k hk => by cases hk; omega) HA2.out.size)
      clear hR3 hg3
      refine hK.out _ _ ⟨HT3.out.cell 0, HT3.out.cell 1⟩ (fun _ => ?_)
      clear hK Kc
      try simp only [Act.put]
      refine wpAnyH_oneD (l' := (upB 4 4).toArray) (i := 3) (fuel := 0) rfl (by kernel_rfl) (by kernel_rfl) (fun Kc hK => ?_)
      refine step_store_blk rfl rfl rfl rfl HQ3.out rfl Try.sizeFaultS rfl ?_
      intro w4 hQ4 hg4
      have HQ4 := hide hQ4
      have HR4 := hide (HR3.out.grown hg4 HN.out.symm)
      have HT4 := hide (HT3.out.grown hg4 (fun q => by simp at q; have := HNT.out; omega))
      have HA4 := hide (below_grownO HA3.out hg4 (fun k hk => by cases hk; omega) HA3.out.size)
      clear hQ4 hg4
      refine hK.out _ _ ⟨HT4.out.cell 0, HT4.out.cell 1⟩ (fun _ => ?_)
      clear hK Kc
      try simp only [Act.put]
      refine wpAnyH_done (by kernel_rfl) ?_ _
      go_wp2_with fail
      refine bodyPost_ret (v := .tuple #[.agg #[.int .i64 0, .bool false, .slice none 0 0, .int .i64 0], .agg #[.int .i64 x, .int .i64 y]]) (results2_cells Try.results14 rfl rfl (run_loadVar_blk HR4.out Try.underlying24 rfl Try.sizeCopy) (run_loadVar_blk HQ4.out Try.underlying29 rfl Try.sizeFaultS)) rfl ?_
      exact ⟨.slice none 0 0, by rw [HE.out, HF.out]; rfl, by rw [HE.out]; exact World.ownsRow_nil _ _ _ _, HA4.out⟩
  obtain rfl : x = 0 := Decidable.not_not.1 hx
  obtain rfl : y = 0 := by have := HZ.out rfl; simpa using this
  have HF0 := hide ((HAP.out rfl).trans HAF.out)
  clear hx HAP HAP2 HAF
  by_cases h0 : cl = true
  · have HF := hide (HF0.out.trans (if_pos h0))
    have HE := hide (HBAD.out _ HF.out (by simp))
    obtain rfl := h0
    as_aux_lemma =>
      go_upto_region 4 with (first
        | (go_at_call 32; refine (lF_any 11 (-2) _).mono ?_; rintro e w5 ⟨rfl, hb5⟩; have HR5 := hide (HR1.out.later hb5); have HQ5 := hide (HQ1.out.later hb5); have HT5 := hide (HT1.out.later hb5); have HA5 := hide (HA1.out.trans (hb5.mono HA1.out.size)); clear hb5; unfold flt)
        | (refine wpList_store_blk rfl rfl rfl rfl HT5.out rfl Try.sizeFaultS rfl ?_; intro w6 hT6 hg6; have f6 := hT6.cell 0; have fl6 := hT6.lt; simp at f6; have HT6 := hide hT6; have HR6 := hide (HR5.out.grown hg6 (fun q => by simp at q; have := HNT.out; omega)); have HQ6 := hide (HQ5.out.grown hg6 (fun q => by simp at q; have := HNT.out; omega)); have HA6 := hide (below_grownO HA5.out hg6 (fun k hk => by cases hk; have := HNT.out; omega) HA5.out.size); clear hT6 hg6))
      try dsimp only [Act.put]
      clear t0 tl cc1 cc2 ccl HR1 HQ1 HT1 HA1 HB1 HV1
      go_upto_region 13 with fail
      clear f6 fl6
      have HR1 := HR6
      have HQ1 := HQ6
      have HT1 := HT6
      have HA1 := HA6
      clear HR5 HQ5 HT5 HA5 HR6 HQ6 HT6 HA6
      have HR2 := hide (show Blk w6.drew (w.heap.size + 1) _ _ from HR1.out)
      have HQ2 := hide (show Blk w6.drew (w.heap.size + 1 + 1) _ _ from HQ1.out)
      have HT2 := hide (show Blk w6.drew w1.heap.size _ _ from HT1.out)
      have HA2 := hide (HA1.out.trans (Below.drew (Below.refl w.heap.size w6)))
      refine wp_region_heldD (S := fun W => W.cell? ⟨w1.heap.size, 0, none⟩ = some (.int .i64 11) ∧ W.cell? ⟨w1.heap.size, 1, none⟩ = some (.int .i64 (-2))) (n := 4) (l := (upB 4 0).toArray) (by kernel_rfl) (by kernel_rfl) (by kernel_rfl) (by kernel_rfl) ⟨HT2.out.cell 0, HT2.out.cell 1⟩ (fun HNS hHeld => ?_)
      refine wpAnyH_takeD (l' := (upB 4 1).toArray) (i := 0) (fuel := 3) (v := ?v2x0) rfl HNS.out (by kernel_rfl) (by kernel_rfl) (by kernel_rfl) (fun _ _ _ h => h) (by kernel_rfl) ?y2x0 hHeld ?r2x0
      case y2x0 => (intro W hSw; go_simp; first | done | with_reducible rfl)
      try simp only [Act.put, List.setIfInBounds_toArray, List.set_cons_zero, List.set_cons_succ]
      refine wpAnyH_takeD (l' := (upB 4 2).toArray) (i := 1) (fuel := 2) (v := ?v2x1) rfl HNS.out (by kernel_rfl) (by kernel_rfl) (by kernel_rfl) (fun _ _ _ h => h) (by kernel_rfl) ?y2x1 hHeld ?r2x1
      case y2x1 => (intro W hSw; (try dsimp only at hSw); go_simp; first | done | with_reducible rfl)
      try simp only [Act.put, List.setIfInBounds_toArray, List.set_cons_zero, List.set_cons_succ]
      refine wpAnyH_oneD (l' := (upB 4 3).toArray) (i := 2) (fuel := 1) rfl (by kernel_rfl) (by kernel_rfl) (fun Kc hK => ?_)
      refine step_store_blk rfl rfl rfl rfl HR2.out rfl Try.sizeCopy rfl ?_
      intro w3 hR3 hg3
      have HR3 := hide hR3
      have HQ3 := hide (HQ2.out.grown hg3 HN.out)
      have HT3 := hide (HT2.out.grown hg3 (fun q => by simp at q; have := HNT.out; omega))
      have HA3 := hide (below_grownO HA2.out hg3 (fun k hk => by cases hk; omega) HA2.out.size)
      clear hR3 hg3
      refine hK.out _ _ ⟨HT3.out.cell 0, HT3.out.cell 1⟩ (fun _ => ?_)
      clear hK Kc
      try simp only [Act.put]
      refine wpAnyH_oneD (l' := (upB 4 4).toArray) (i := 3) (fuel := 0) rfl (by kernel_rfl) (by kernel_rfl) (fun Kc hK => ?_)
      refine step_store_blk rfl rfl rfl rfl HQ3.out rfl Try.sizeFaultS rfl ?_
      intro w4 hQ4 hg4
      have HQ4 := hide hQ4
      have HR4 := hide (HR3.out.grown hg4 HN.out.symm)
      have HT4 := hide (HT3.out.grown hg4 (fun q => by simp at q; have := HNT.out; omega))
      have HA4 := hide (below_grownO HA3.out hg4 (fun k hk => by cases hk; omega) HA3.out.size)
      clear hQ4 hg4
      refine hK.out _ _ ⟨HT4.out.cell 0, HT4.out.cell 1⟩ (fun _ => ?_)
      clear hK Kc
      try simp only [Act.put]
      refine wpAnyH_done (by kernel_rfl) ?_ _
      go_wp2_with fail
      refine bodyPost_ret (v := .tuple #[.agg #[.int .i64 0, .bool false, .slice none 0 0, .int .i64 0], .agg #[.int .i64 11, .int .i64 (-2)]]) (results2_cells Try.results14 rfl rfl (run_loadVar_blk HR4.out Try.underlying24 rfl Try.sizeCopy) (run_loadVar_blk HQ4.out Try.underlying29 rfl Try.sizeFaultS)) rfl ?_
      exact ⟨.slice none 0 0, by rw [HE.out, HF.out]; rfl, by rw [HE.out]; exact World.ownsRow_nil _ _ _ _, HA4.out⟩
  have HF1 := hide (HF0.out.trans (if_neg h0))
  obtain rfl : cl = false := Bool.eq_false_iff.2 h0
  by_cases h1 : 200 < r.size
  · have HF := hide (HF1.out.trans (if_pos h1))
    have HE := hide (HBAD.out _ HF.out (by simp))
    have d1 : decide (200 < r.size) = true := decide_eq_true h1
    have d1' : decide ((200 : Int) < (r.size : Int)) = true := decide_eq_true (by omega)
    as_aux_lemma =>
      go_upto_region 6 with (first
        | (go_at_call 32; refine (lF_any 8 (-2) _).mono ?_; rintro e w5 ⟨rfl, hb5⟩; have HR5 := hide (HR1.out.later hb5); have HQ5 := hide (HQ1.out.later hb5); have HT5 := hide (HT1.out.later hb5); have HA5 := hide (HA1.out.trans (hb5.mono HA1.out.size)); clear hb5; unfold flt)
        | (refine wpList_store_blk rfl rfl rfl rfl HT5.out rfl Try.sizeFaultS rfl ?_; intro w6 hT6 hg6; have f6 := hT6.cell 0; have fl6 := hT6.lt; simp at f6; have HT6 := hide hT6; have HR6 := hide (HR5.out.grown hg6 (fun q => by simp at q; have := HNT.out; omega)); have HQ6 := hide (HQ5.out.grown hg6 (fun q => by simp at q; have := HNT.out; omega)); have HA6 := hide (below_grownO HA5.out hg6 (fun k hk => by cases hk; have := HNT.out; omega) HA5.out.size); clear hT6 hg6))
      try dsimp only [Act.put]
      clear t0 tl cc1 cc2 ccl HR1 HQ1 HT1 HA1 HB1 HV1
      go_upto_region 13 with fail
      clear f6 fl6
      have HR1 := HR6
      have HQ1 := HQ6
      have HT1 := HT6
      have HA1 := HA6
      clear HR5 HQ5 HT5 HA5 HR6 HQ6 HT6 HA6
      have HR2 := hide (show Blk w6.drew (w.heap.size + 1) _ _ from HR1.out)
      have HQ2 := hide (show Blk w6.drew (w.heap.size + 1 + 1) _ _ from HQ1.out)
      have HT2 := hide (show Blk w6.drew w1.heap.size _ _ from HT1.out)
      have HA2 := hide (HA1.out.trans (Below.drew (Below.refl w.heap.size w6)))
      refine wp_region_heldD (S := fun W => W.cell? ⟨w1.heap.size, 0, none⟩ = some (.int .i64 8) ∧ W.cell? ⟨w1.heap.size, 1, none⟩ = some (.int .i64 (-2))) (n := 4) (l := (upB 4 0).toArray) (by kernel_rfl) (by kernel_rfl) (by kernel_rfl) (by kernel_rfl) ⟨HT2.out.cell 0, HT2.out.cell 1⟩ (fun HNS hHeld => ?_)
      refine wpAnyH_takeD (l' := (upB 4 1).toArray) (i := 0) (fuel := 3) (v := ?v3x0) rfl HNS.out (by kernel_rfl) (by kernel_rfl) (by kernel_rfl) (fun _ _ _ h => h) (by kernel_rfl) ?y3x0 hHeld ?r3x0
      case y3x0 => (intro W hSw; go_simp; first | done | with_reducible rfl)
      try simp only [Act.put, List.setIfInBounds_toArray, List.set_cons_zero, List.set_cons_succ]
      refine wpAnyH_takeD (l' := (upB 4 2).toArray) (i := 1) (fuel := 2) (v := ?v3x1) rfl HNS.out (by kernel_rfl) (by kernel_rfl) (by kernel_rfl) (fun _ _ _ h => h) (by kernel_rfl) ?y3x1 hHeld ?r3x1
      case y3x1 => (intro W hSw; (try dsimp only at hSw); go_simp; first | done | with_reducible rfl)
      try simp only [Act.put, List.setIfInBounds_toArray, List.set_cons_zero, List.set_cons_succ]
      refine wpAnyH_oneD (l' := (upB 4 3).toArray) (i := 2) (fuel := 1) rfl (by kernel_rfl) (by kernel_rfl) (fun Kc hK => ?_)
      refine step_store_blk rfl rfl rfl rfl HR2.out rfl Try.sizeCopy rfl ?_
      intro w3 hR3 hg3
      have HR3 := hide hR3
      have HQ3 := hide (HQ2.out.grown hg3 HN.out)
      have HT3 := hide (HT2.out.grown hg3 (fun q => by simp at q; have := HNT.out; omega))
      have HA3 := hide (below_grownO HA2.out hg3 (fun k hk => by cases hk; omega) HA2.out.size)
      clear hR3 hg3
      refine hK.out _ _ ⟨HT3.out.cell 0, HT3.out.cell 1⟩ (fun _ => ?_)
      clear hK Kc
      try simp only [Act.put]
      refine wpAnyH_oneD (l' := (upB 4 4).toArray) (i := 3) (fuel := 0) rfl (by kernel_rfl) (by kernel_rfl) (fun Kc hK => ?_)
      refine step_store_blk rfl rfl rfl rfl HQ3.out rfl Try.sizeFaultS rfl ?_
      intro w4 hQ4 hg4
      have HQ4 := hide hQ4
      have HR4 := hide (HR3.out.grown hg4 HN.out.symm)
      have HT4 := hide (HT3.out.grown hg4 (fun q => by simp at q; have := HNT.out; omega))
      have HA4 := hide (below_grownO HA3.out hg4 (fun k hk => by cases hk; omega) HA3.out.size)
      clear hQ4 hg4
      refine hK.out _ _ ⟨HT4.out.cell 0, HT4.out.cell 1⟩ (fun _ => ?_)
      clear hK Kc
      try simp only [Act.put]
      refine wpAnyH_done (by kernel_rfl) ?_ _
      go_wp2_with fail
      refine bodyPost_ret (v := .tuple #[.agg #[.int .i64 0, .bool false, .slice none 0 0, .int .i64 0], .agg #[.int .i64 8, .int .i64 (-2)]]) (results2_cells Try.results14 rfl rfl (run_loadVar_blk HR4.out Try.underlying24 rfl Try.sizeCopy) (run_loadVar_blk HQ4.out Try.underlying29 rfl Try.sizeFaultS)) rfl ?_
      exact ⟨.slice none 0 0, by rw [HE.out, HF.out]; rfl, by rw [HE.out]; exact World.ownsRow_nil _ _ _ _, HA4.out⟩
  have HF2 := hide (HF1.out.trans (if_neg h1))
  have d1 : decide (200 < r.size) = false := decide_eq_false h1
  have d1' : decide ((200 : Int) < (r.size : Int)) = false := decide_eq_false (by omega)
  by_cases h2 : at_ < 0 ∨ (l.length : Int) < at_
  · have HF := hide (HF2.out.trans (if_pos h2))
    have HE := hide (HBAD.out _ HF.out (by simp))
    by_cases h2' : at_ < 0
    · have d2 : decide (at_ < 0) = true := decide_eq_true h2'
      clear h2
      as_aux_lemma =>
        go_upto_region 8 with (first
          | (go_at_call 32; refine (lF_any 3 (-2) _).mono ?_; rintro e w5 ⟨rfl, hb5⟩; have HR5 := hide (HR1.out.later hb5); have HQ5 := hide (HQ1.out.later hb5); have HT5 := hide (HT1.out.later hb5); have HA5 := hide (HA1.out.trans (hb5.mono HA1.out.size)); clear hb5; unfold flt)
          | (refine wpList_store_blk rfl rfl rfl rfl HT5.out rfl Try.sizeFaultS rfl ?_; intro w6 hT6 hg6; have f6 := hT6.cell 0; have fl6 := hT6.lt; simp at f6; have HT6 := hide hT6; have HR6 := hide (HR5.out.grown hg6 (fun q => by simp at q; have := HNT.out; omega)); have HQ6 := hide (HQ5.out.grown hg6 (fun q => by simp at q; have := HNT.out; omega)); have HA6 := hide (below_grownO HA5.out hg6 (fun k hk => by cases hk; have := HNT.out; omega) HA5.out.size); clear hT6 hg6))
        try dsimp only [Act.put]
        clear t0 tl cc1 cc2 ccl HR1 HQ1 HT1 HA1 HB1 HV1
        go_upto_region 13 with fail
        clear f6 fl6
        have HR1 := HR6
        have HQ1 := HQ6
        have HT1 := HT6
        have HA1 := HA6
        clear HR5 HQ5 HT5 HA5 HR6 HQ6 HT6 HA6
        have HR2 := hide (show Blk w6.drew (w.heap.size + 1) _ _ from HR1.out)
        have HQ2 := hide (show Blk w6.drew (w.heap.size + 1 + 1) _ _ from HQ1.out)
        have HT2 := hide (show Blk w6.drew w1.heap.size _ _ from HT1.out)
        have HA2 := hide (HA1.out.trans (Below.drew (Below.refl w.heap.size w6)))
        refine wp_region_heldD (S := fun W => W.cell? ⟨w1.heap.size, 0, none⟩ = some (.int .i64 3) ∧ W.cell? ⟨w1.heap.size, 1, none⟩ = some (.int .i64 (-2))) (n := 4) (l := (upB 4 0).toArray) (by kernel_rfl) (by kernel_rfl) (by kernel_rfl) (by kernel_rfl) ⟨HT2.out.cell 0, HT2.out.cell 1⟩ (fun HNS hHeld => ?_)
        refine wpAnyH_takeD (l' := (upB 4 1).toArray) (i := 0) (fuel := 3) (v := ?v4x0) rfl HNS.out (by kernel_rfl) (by kernel_rfl) (by kernel_rfl) (fun _ _ _ h => h) (by kernel_rfl) ?y4x0 hHeld ?r4x0
        case y4x0 => (intro W hSw; go_simp; first | done | with_reducible rfl)
        try simp only [Act.put, List.setIfInBounds_toArray, List.set_cons_zero, List.set_cons_succ]
        refine wpAnyH_takeD (l' := (upB 4 2).toArray) (i := 1) (fuel := 2) (v := ?v4x1) rfl HNS.out (by kernel_rfl) (by kernel_rfl) (by kernel_rfl) (fun _ _ _ h => h) (by kernel_rfl) ?y4x1 hHeld ?r4x1
        case y4x1 => (intro W hSw; (try dsimp only at hSw); go_simp; first | done | with_reducible rfl)
        try simp only [Act.put, List.setIfInBounds_toArray, List.set_cons_zero, List.set_cons_succ]
        refine wpAnyH_oneD (l' := (upB 4 3).toArray) (i := 2) (fuel := 1) rfl (by kernel_rfl) (by kernel_rfl) (fun Kc hK => ?_)
        refine step_store_blk rfl rfl rfl rfl HR2.out rfl Try.sizeCopy rfl ?_
        intro w3 hR3 hg3
        have HR3 := hide hR3
        have HQ3 := hide (HQ2.out.grown hg3 HN.out)
        have HT3 := hide (HT2.out.grown hg3 (fun q => by simp at q; have := HNT.out; omega))
        have HA3 := hide (below_grownO HA2.out hg3 (fun k hk => by cases hk; omega) HA2.out.size)
        clear hR3 hg3
        refine hK.out _ _ ⟨HT3.out.cell 0, HT3.out.cell 1⟩ (fun _ => ?_)
        clear hK Kc
        try simp only [Act.put]
        refine wpAnyH_oneD (l' := (upB 4 4).toArray) (i := 3) (fuel := 0) rfl (by kernel_rfl) (by kernel_rfl) (fun Kc hK => ?_)
        refine step_store_blk rfl rfl rfl rfl HQ3.out rfl Try.sizeFaultS rfl ?_
        intro w4 hQ4 hg4
        have HQ4 := hide hQ4
        have HR4 := hide (HR3.out.grown hg4 HN.out.symm)
        have HT4 := hide (HT3.out.grown hg4 (fun q => by simp at q; have := HNT.out; omega))
        have HA4 := hide (below_grownO HA3.out hg4 (fun k hk => by cases hk; omega) HA3.out.size)
        clear hQ4 hg4
        refine hK.out _ _ ⟨HT4.out.cell 0, HT4.out.cell 1⟩ (fun _ => ?_)
        clear hK Kc
        try simp only [Act.put]
        refine wpAnyH_done (by kernel_rfl) ?_ _
        go_wp2_with fail
        refine bodyPost_ret (v := .tuple #[.agg #[.int .i64 0, .bool false, .slice none 0 0, .int .i64 0], .agg #[.int .i64 3, .int .i64 (-2)]]) (results2_cells Try.results14 rfl rfl (run_loadVar_blk HR4.out Try.underlying24 rfl Try.sizeCopy) (run_loadVar_blk HQ4.out Try.underlying29 rfl Try.sizeFaultS)) rfl ?_
        exact ⟨.slice none 0 0, by rw [HE.out, HF.out]; rfl, by rw [HE.out]; exact World.ownsRow_nil _ _ _ _, HA4.out⟩
    · have d2 : decide (at_ < 0) = false := decide_eq_false h2'
      have d3 : decide ((l.length : Int) < at_) = true := decide_eq_true (by omega)
      clear h2
      as_aux_lemma =>
        go_upto_region 8 with (first
          | (go_at_call 32; refine (lF_any 3 (-2) _).mono ?_; rintro e w5 ⟨rfl, hb5⟩; have HR5 := hide (HR1.out.later hb5); have HQ5 := hide (HQ1.out.later hb5); have HT5 := hide (HT1.out.later hb5); have HA5 := hide (HA1.out.trans (hb5.mono HA1.out.size)); clear hb5; unfold flt)
          | (refine wpList_store_blk rfl rfl rfl rfl HT5.out rfl Try.sizeFaultS rfl ?_; intro w6 hT6 hg6; have f6 := hT6.cell 0; have fl6 := hT6.lt; simp at f6; have HT6 := hide hT6; have HR6 := hide (HR5.out.grown hg6 (fun q => by simp at q; have := HNT.out; omega)); have HQ6 := hide (HQ5.out.grown hg6 (fun q => by simp at q; have := HNT.out; omega)); have HA6 := hide (below_grownO HA5.out hg6 (fun k hk => by cases hk; have := HNT.out; omega) HA5.out.size); clear hT6 hg6))
        try dsimp only [Act.put]
        clear t0 tl cc1 cc2 ccl HR1 HQ1 HT1 HA1 HB1 HV1
        go_upto_region 13 with fail
        clear f6 fl6
        have HR1 := HR6
        have HQ1 := HQ6
        have HT1 := HT6
        have HA1 := HA6
        clear HR5 HQ5 HT5 HA5 HR6 HQ6 HT6 HA6
        have HR2 := hide (show Blk w6.drew (w.heap.size + 1) _ _ from HR1.out)
        have HQ2 := hide (show Blk w6.drew (w.heap.size + 1 + 1) _ _ from HQ1.out)
        have HT2 := hide (show Blk w6.drew w1.heap.size _ _ from HT1.out)
        have HA2 := hide (HA1.out.trans (Below.drew (Below.refl w.heap.size w6)))
        refine wp_region_heldD (S := fun W => W.cell? ⟨w1.heap.size, 0, none⟩ = some (.int .i64 3) ∧ W.cell? ⟨w1.heap.size, 1, none⟩ = some (.int .i64 (-2))) (n := 4) (l := (upB 4 0).toArray) (by kernel_rfl) (by kernel_rfl) (by kernel_rfl) (by kernel_rfl) ⟨HT2.out.cell 0, HT2.out.cell 1⟩ (fun HNS hHeld => ?_)
        refine wpAnyH_takeD (l' := (upB 4 1).toArray) (i := 0) (fuel := 3) (v := ?v5x0) rfl HNS.out (by kernel_rfl) (by kernel_rfl) (by kernel_rfl) (fun _ _ _ h => h) (by kernel_rfl) ?y5x0 hHeld ?r5x0
        case y5x0 => (intro W hSw; go_simp; first | done | with_reducible rfl)
        try simp only [Act.put, List.setIfInBounds_toArray, List.set_cons_zero, List.set_cons_succ]
        refine wpAnyH_takeD (l' := (upB 4 2).toArray) (i := 1) (fuel := 2) (v := ?v5x1) rfl HNS.out (by kernel_rfl) (by kernel_rfl) (by kernel_rfl) (fun _ _ _ h => h) (by kernel_rfl) ?y5x1 hHeld ?r5x1
        case y5x1 => (intro W hSw; (try dsimp only at hSw); go_simp; first | done | with_reducible rfl)
        try simp only [Act.put, List.setIfInBounds_toArray, List.set_cons_zero, List.set_cons_succ]
        refine wpAnyH_oneD (l' := (upB 4 3).toArray) (i := 2) (fuel := 1) rfl (by kernel_rfl) (by kernel_rfl) (fun Kc hK => ?_)
        refine step_store_blk rfl rfl rfl rfl HR2.out rfl Try.sizeCopy rfl ?_
        intro w3 hR3 hg3
        have HR3 := hide hR3
        have HQ3 := hide (HQ2.out.grown hg3 HN.out)
        have HT3 := hide (HT2.out.grown hg3 (fun q => by simp at q; have := HNT.out; omega))
        have HA3 := hide (below_grownO HA2.out hg3 (fun k hk => by cases hk; omega) HA2.out.size)
        clear hR3 hg3
        refine hK.out _ _ ⟨HT3.out.cell 0, HT3.out.cell 1⟩ (fun _ => ?_)
        clear hK Kc
        try simp only [Act.put]
        refine wpAnyH_oneD (l' := (upB 4 4).toArray) (i := 3) (fuel := 0) rfl (by kernel_rfl) (by kernel_rfl) (fun Kc hK => ?_)
        refine step_store_blk rfl rfl rfl rfl HQ3.out rfl Try.sizeFaultS rfl ?_
        intro w4 hQ4 hg4
        have HQ4 := hide hQ4
        have HR4 := hide (HR3.out.grown hg4 HN.out.symm)
        have HT4 := hide (HT3.out.grown hg4 (fun q => by simp at q; have := HNT.out; omega))
        have HA4 := hide (below_grownO HA3.out hg4 (fun k hk => by cases hk; omega) HA3.out.size)
        clear hQ4 hg4
        refine hK.out _ _ ⟨HT4.out.cell 0, HT4.out.cell 1⟩ (fun _ => ?_)
        clear hK Kc
        try simp only [Act.put]
        refine wpAnyH_done (by kernel_rfl) ?_ _
        go_wp2_with fail
        refine bodyPost_ret (v := .tuple #[.agg #[.int .i64 0, .bool false, .slice none 0 0, .int .i64 0], .agg #[.int .i64 3, .int .i64 (-2)]]) (results2_cells Try.results14 rfl rfl (run_loadVar_blk HR4.out Try.underlying24 rfl Try.sizeCopy) (run_loadVar_blk HQ4.out Try.underlying29 rfl Try.sizeFaultS)) rfl ?_
        exact ⟨.slice none 0 0, by rw [HE.out, HF.out]; rfl, by rw [HE.out]; exact World.ownsRow_nil _ _ _ _, HA4.out⟩
  have HF3 := hide (HF2.out.trans (if_neg h2))
  have d2 : decide (at_ < 0) = false := decide_eq_false (by omega)
  have d3 : decide ((l.length : Int) < at_) = false := decide_eq_false (by omega)
  obtain ⟨j, hj⟩ : ∃ j : Nat, at_ = j := ⟨at_.toNat, by omega⟩
  subst hj
  rw [Int.toNat_natCast] at HF3
  have hjl : j ≤ l.length := by omega
  obtain ⟨hen, hll⟩ := HEN.out rfl rfl
  have hj1 : (0 : Int) ≤ (j : Int) := by omega
  have d3' : decide (l.length < j) = false := decide_eq_false (by omega)
  clear h2 HF0 HF1 HF2
  by_cases h3 : j < l.length
  · have d4 : decide ((j : Int) < (l.length : Int)) = true := decide_eq_true (by omega)
    have d4' : decide (j < l.length) = true := decide_eq_true h3
    have hj2 : (j : Int) < (l.length : Int) := by omega
    obtain ⟨z, hzz⟩ : ∃ z, l[j]? = some z := ⟨_, List.getElem?_eq_getElem h3⟩
    obtain ⟨b, off, rfl, hb, hc⟩ := HV1.out.hereT hzz
    by_cases h4 : z = r
    · obtain rfl := h4
      have q1 : (z.toList != z.toList) = false := by simp
      have q2 : (z.toList == z.toList) = true := by simp
      have d5 : ((j : Int) == (l.length : Int)) = false := beq_eq_false_iff_ne.2 (by omega)
      have d6 : (j == l.length) = false := beq_eq_false_iff_ne.2 (by omega)
      have HF := hide ((HF3.out.trans (if_neg (fun q => q.2 hzz))).trans (if_neg (by omega)))
      have HE := hide (HAC.out HF.out)
      rw [if_neg (by omega)] at HE
      obtain rfl := hen
      clear h3 hzz hjl
      as_aux_lemma =>
        have tlX := HT1.out.lt
        go_upto_region 14 with fail
        clear t0 tl cc1
        go_upto_region 15 with (refine wpList_append_rdG (E := txE) (cs := []) (v := .slice none 0 0) (n := 0) (base := wX.heap.size) (World.ownsRow_nil _ _ _ _) HV1.out Try.underlying22 infoText rfl rfl rfl rfl rfl (by omega) (by decide) (Nat.le_refl _) ?_; intro v5 w5 ho5 hb5 hg5; rw [List.nil_append, Nat.zero_add] at ho5; obtain ⟨ao5, cap5, rfl⟩ := owns_shape ho5; have HO5 := hide ho5; have HB5 := hide hb5; clear ho5 hb5 hg5)
        have hbO := below_allocG w5 (.cells #[.int .i64 e_, .bool false, .slice ao5 l.length cap5, .int .i64 0] 24)
        have hbY := HB5.out.trans (hbO.mono HB5.out.size)
        have HR1 := hide (HR1.out.later hbY)
        have HQ1 := hide (HQ1.out.later hbY)
        have HT1 := hide (HT1.out.later hbY)
        have HC1 := hide (HB1.out.later hbY)
        have HA7 := hide (HA1.out.trans (hbY.mono HA1.out.size))
        have HO1 := hide (owns_base0 (HO5.out.alloc (.cells #[.int .i64 e_, .bool false, .slice ao5 l.length cap5, .int .i64 0] 24)) HA1.out.size)
        have HP1 := hide (Blk.new w5 24 #[.int .i64 e_, .bool false, .slice ao5 l.length cap5, .int .i64 0])
        have HNP := hide (show w1.heap.size < w5.heap.size from Nat.lt_of_lt_of_le tlX HB5.out.size)
        generalize hwY : w5.alloc (.cells #[.int .i64 e_, .bool false, .slice ao5 l.length cap5, .int .i64 0] 24) = wY at HR1 HQ1 HT1 HC1 HA7 HO1 HP1 ⊢
        have cc2 := HC1.out.cell 2
        have ccl := HC1.out.lt
        simp at cc2
        clear hbO hbY HO5 HB5 hwY
        try dsimp only [Act.put]
        go_upto_region 17 with fail
        clear cc2 ccl
        have HR2 := hide (show Blk wY.drew (w.heap.size + 1) _ _ from HR1.out)
        have HQ2 := hide (show Blk wY.drew (w.heap.size + 1 + 1) _ _ from HQ1.out)
        have HT2 := hide (show Blk wY.drew w1.heap.size _ _ from HT1.out)
        have HP2 := hide (show Blk wY.drew w5.heap.size _ _ from HP1.out)
        have HO2 := hide (show World.ownsRow wY.drew w.heap.size 9 1 (.slice ao5 l.length cap5) l.length _ from HO1.out)
        have HA2 := hide (HA7.out.trans (Below.drew (Below.refl w.heap.size wY)))
        refine wp_region_heldD (S := fun W => W.cell? ⟨w5.heap.size, 0, none⟩ = some (.int .i64 e_) ∧ W.cell? ⟨w5.heap.size, 1, none⟩ = some (.bool false) ∧ W.cell? ⟨w5.heap.size, 2, none⟩ = some (.slice ao5 l.length cap5) ∧ W.cell? ⟨w5.heap.size, 3, none⟩ = some (.int .i64 0) ∧ W.cell? ⟨w1.heap.size, 0, none⟩ = some (.int .i64 0) ∧ W.cell? ⟨w1.heap.size, 1, none⟩ = some (.int .i64 0)) (n := 4) (l := (upB 4 0).toArray) (by kernel_rfl) (by kernel_rfl) (by kernel_rfl) (by kernel_rfl) ⟨HP2.out.cell 0, HP2.out.cell 1, HP2.out.cell 2, HP2.out.cell 3, HT2.out.cell 0, HT2.out.cell 1⟩ (fun HNS hHeld => ?_)
        refine wpAnyH_takeD (l' := (upB 4 1).toArray) (i := 0) (fuel := 3) (v := ?v8x0) rfl HNS.out (by kernel_rfl) (by kernel_rfl) (by kernel_rfl) (fun _ _ _ h => h) (by kernel_rfl) ?y8x0 hHeld ?r8x0
        case y8x0 => (intro W hSw; (try dsimp only at hSw); go_simp; first | done | with_reducible rfl)
        try simp only [Act.put, List.setIfInBounds_toArray, List.set_cons_zero, List.set_cons_succ]
        refine wpAnyH_takeD (l' := (upB 4 2).toArray) (i := 1) (fuel := 2) (v := ?v8x1) rfl HNS.out (by kernel_rfl) (by kernel_rfl) (by kernel_rfl) (fun _ _ _ h => h) (by kernel_rfl) ?y8x1 hHeld ?r8x1
        case y8x1 => (intro W hSw; (try dsimp only at hSw); go_simp; first | done | with_reducible rfl)
        try simp only [Act.put, List.setIfInBounds_toArray, List.set_cons_zero, List.set_cons_succ]
        refine wpAnyH_oneD (l' := (upB 4 3).toArray) (i := 2) (fuel := 1) rfl (by kernel_rfl) (by kernel_rfl) (fun Kc hK => ?_)
        refine step_store_blk rfl rfl rfl rfl HR2.out rfl Try.sizeCopy rfl ?_
        intro w3 hR3 hg3
        have HR3 := hide hR3
        have HQ3 := hide (HQ2.out.grown hg3 HN.out)
        have HT3 := hide (HT2.out.grown hg3 (fun q => by simp at q; have := HNT.out; omega))
        have HA3 := hide (below_grownO HA2.out hg3 (fun k hk => by cases hk; omega) HA2.out.size)
        have HO3 := hide (owns_grownO HO2.out hg3 (.inr (owns_off HO2.out HR2.out (by decide))))
        have HP3 := hide (HP2.out.grown hg3 (fun q => by simp at q; have := HNT.out; have := HNP.out; omega))
        clear hR3 hg3
        refine hK.out _ _ ⟨HP3.out.cell 0, HP3.out.cell 1, HP3.out.cell 2, HP3.out.cell 3, HT3.out.cell 0, HT3.out.cell 1⟩ (fun _ => ?_)
        clear hK Kc
        try simp only [Act.put]
        refine wpAnyH_oneD (l' := (upB 4 4).toArray) (i := 3) (fuel := 0) rfl (by kernel_rfl) (by kernel_rfl) (fun Kc hK => ?_)
        refine step_store_blk rfl rfl rfl rfl HQ3.out rfl Try.sizeFaultS rfl ?_
        intro w4 hQ4 hg4
        have HQ4 := hide hQ4
        have HR4 := hide (HR3.out.grown hg4 HN.out.symm)
        have HT4 := hide (HT3.out.grown hg4 (fun q => by simp at q; have := HNT.out; omega))
        have HA4 := hide (below_grownO HA3.out hg4 (fun k hk => by cases hk; omega) HA3.out.size)
        have HO4 := hide (owns_grownO HO3.out hg4 (.inr (owns_off HO3.out HQ3.out (by decide))))
        have HP4 := hide (HP3.out.grown hg4 (fun q => by simp at q; have := HNT.out; have := HNP.out; omega))
        clear hQ4 hg4
        refine hK.out _ _ ⟨HP4.out.cell 0, HP4.out.cell 1, HP4.out.cell 2, HP4.out.cell 3, HT4.out.cell 0, HT4.out.cell 1⟩ (fun _ => ?_)
        clear hK Kc
        try simp only [Act.put]
        refine wpAnyH_done (by kernel_rfl) ?_ _
        go_wp2_with fail
        refine bodyPost_ret (v := .tuple #[.agg #[.int .i64 e_, .bool false, .slice ao5 l.length cap5, .int .i64 0], .agg #[.int .i64 0, .int .i64 0]]) (results2_cells Try.results14 rfl rfl (run_loadVar_blk HR4.out Try.underlying24 rfl Try.sizeCopy) (run_loadVar_blk HQ4.out Try.underlying29 rfl Try.sizeFaultS)) rfl ?_
        exact ⟨_, by rw [HE.out, HF.out], by rw [HE.out]; exact HO4.out, HA4.out⟩
    · have q1 : (z.toList != r.toList) = true := by simp; exact fun q => h4 (ba_injT q)
      have q2 : (z.toList == r.toList) = false := by simp; exact fun q => h4 (ba_injT q)
      have HF := hide (HF3.out.trans (if_pos ⟨by omega, by rw [hzz]; simpa using h4⟩))
      have HE := hide (HBAD.out _ HF.out (by simp))
      clear h3 h4 hzz hjl hen hll
      as_aux_lemma =>
        go_upto_region 10 with (first
          | (go_at_call 32; refine (lF_any 7 (-2) _).mono ?_; rintro e w5 ⟨rfl, hb5⟩; have HR5 := hide (HR1.out.later hb5); have HQ5 := hide (HQ1.out.later hb5); have HT5 := hide (HT1.out.later hb5); have HA5 := hide (HA1.out.trans (hb5.mono HA1.out.size)); clear hb5; unfold flt)
          | (refine wpList_store_blk rfl rfl rfl rfl HT5.out rfl Try.sizeFaultS rfl ?_; intro w6 hT6 hg6; have f6 := hT6.cell 0; have fl6 := hT6.lt; simp at f6; have HT6 := hide hT6; have HR6 := hide (HR5.out.grown hg6 (fun q => by simp at q; have := HNT.out; omega)); have HQ6 := hide (HQ5.out.grown hg6 (fun q => by simp at q; have := HNT.out; omega)); have HA6 := hide (below_grownO HA5.out hg6 (fun k hk => by cases hk; have := HNT.out; omega) HA5.out.size); clear hT6 hg6))
        try dsimp only [Act.put]
        clear t0 tl cc1 cc2 ccl HR1 HQ1 HT1 HA1 HB1 HV1
        go_upto_region 13 with fail
        clear f6 fl6
        have HR1 := HR6
        have HQ1 := HQ6
        have HT1 := HT6
        have HA1 := HA6
        clear HR5 HQ5 HT5 HA5 HR6 HQ6 HT6 HA6
        have HR2 := hide (show Blk w6.drew (w.heap.size + 1) _ _ from HR1.out)
        have HQ2 := hide (show Blk w6.drew (w.heap.size + 1 + 1) _ _ from HQ1.out)
        have HT2 := hide (show Blk w6.drew w1.heap.size _ _ from HT1.out)
        have HA2 := hide (HA1.out.trans (Below.drew (Below.refl w.heap.size w6)))
        refine wp_region_heldD (S := fun W => W.cell? ⟨w1.heap.size, 0, none⟩ = some (.int .i64 7) ∧ W.cell? ⟨w1.heap.size, 1, none⟩ = some (.int .i64 (-2))) (n := 4) (l := (upB 4 0).toArray) (by kernel_rfl) (by kernel_rfl) (by kernel_rfl) (by kernel_rfl) ⟨HT2.out.cell 0, HT2.out.cell 1⟩ (fun HNS hHeld => ?_)
        refine wpAnyH_takeD (l' := (upB 4 1).toArray) (i := 0) (fuel := 3) (v := ?v6x0) rfl HNS.out (by kernel_rfl) (by kernel_rfl) (by kernel_rfl) (fun _ _ _ h => h) (by kernel_rfl) ?y6x0 hHeld ?r6x0
        case y6x0 => (intro W hSw; go_simp; first | done | with_reducible rfl)
        try simp only [Act.put, List.setIfInBounds_toArray, List.set_cons_zero, List.set_cons_succ]
        refine wpAnyH_takeD (l' := (upB 4 2).toArray) (i := 1) (fuel := 2) (v := ?v6x1) rfl HNS.out (by kernel_rfl) (by kernel_rfl) (by kernel_rfl) (fun _ _ _ h => h) (by kernel_rfl) ?y6x1 hHeld ?r6x1
        case y6x1 => (intro W hSw; (try dsimp only at hSw); go_simp; first | done | with_reducible rfl)
        try simp only [Act.put, List.setIfInBounds_toArray, List.set_cons_zero, List.set_cons_succ]
        refine wpAnyH_oneD (l' := (upB 4 3).toArray) (i := 2) (fuel := 1) rfl (by kernel_rfl) (by kernel_rfl) (fun Kc hK => ?_)
        refine step_store_blk rfl rfl rfl rfl HR2.out rfl Try.sizeCopy rfl ?_
        intro w3 hR3 hg3
        have HR3 := hide hR3
        have HQ3 := hide (HQ2.out.grown hg3 HN.out)
        have HT3 := hide (HT2.out.grown hg3 (fun q => by simp at q; have := HNT.out; omega))
        have HA3 := hide (below_grownO HA2.out hg3 (fun k hk => by cases hk; omega) HA2.out.size)
        clear hR3 hg3
        refine hK.out _ _ ⟨HT3.out.cell 0, HT3.out.cell 1⟩ (fun _ => ?_)
        clear hK Kc
        try simp only [Act.put]
        refine wpAnyH_oneD (l' := (upB 4 4).toArray) (i := 3) (fuel := 0) rfl (by kernel_rfl) (by kernel_rfl) (fun Kc hK => ?_)
        refine step_store_blk rfl rfl rfl rfl HQ3.out rfl Try.sizeFaultS rfl ?_
        intro w4 hQ4 hg4
        have HQ4 := hide hQ4
        have HR4 := hide (HR3.out.grown hg4 HN.out.symm)
        have HT4 := hide (HT3.out.grown hg4 (fun q => by simp at q; have := HNT.out; omega))
        have HA4 := hide (below_grownO HA3.out hg4 (fun k hk => by cases hk; omega) HA3.out.size)
        clear hQ4 hg4
        refine hK.out _ _ ⟨HT4.out.cell 0, HT4.out.cell 1⟩ (fun _ => ?_)
        clear hK Kc
        try simp only [Act.put]
        refine wpAnyH_done (by kernel_rfl) ?_ _
        go_wp2_with fail
        refine bodyPost_ret (v := .tuple #[.agg #[.int .i64 0, .bool false, .slice none 0 0, .int .i64 0], .agg #[.int .i64 7, .int .i64 (-2)]]) (results2_cells Try.results14 rfl rfl (run_loadVar_blk HR4.out Try.underlying24 rfl Try.sizeCopy) (run_loadVar_blk HQ4.out Try.underlying29 rfl Try.sizeFaultS)) rfl ?_
        exact ⟨.slice none 0 0, by rw [HE.out, HF.out]; rfl, by rw [HE.out]; exact World.ownsRow_nil _ _ _ _, HA4.out⟩
  · have d4 : decide ((j : Int) < (l.length : Int)) = false := decide_eq_false (by omega)
    obtain rfl : j = l.length := by omega
    have HF4 := hide (HF3.out.trans (if_neg (fun q => by omega)))
    by_cases h4 : l.length = 100
    · have d7 : decide ((100 : Int) ≤ (l.length : Int)) = true := decide_eq_true (by omega)
      have d8 : decide (100 ≤ l.length) = true := decide_eq_true (by omega)
      have HF := hide (HF4.out.trans (if_pos (by omega)))
      have HE := hide (HBAD.out _ HF.out (by simp))
      clear h3 h4 hjl hen hll
      as_aux_lemma =>
        go_upto_region 12 with (first
          | (go_at_call 32; refine (lF_any 2 (-2) _).mono ?_; rintro e w5 ⟨rfl, hb5⟩; have HR5 := hide (HR1.out.later hb5); have HQ5 := hide (HQ1.out.later hb5); have HT5 := hide (HT1.out.later hb5); have HA5 := hide (HA1.out.trans (hb5.mono HA1.out.size)); clear hb5; unfold flt)
          | (refine wpList_store_blk rfl rfl rfl rfl HT5.out rfl Try.sizeFaultS rfl ?_; intro w6 hT6 hg6; have f6 := hT6.cell 0; have fl6 := hT6.lt; simp at f6; have HT6 := hide hT6; have HR6 := hide (HR5.out.grown hg6 (fun q => by simp at q; have := HNT.out; omega)); have HQ6 := hide (HQ5.out.grown hg6 (fun q => by simp at q; have := HNT.out; omega)); have HA6 := hide (below_grownO HA5.out hg6 (fun k hk => by cases hk; have := HNT.out; omega) HA5.out.size); clear hT6 hg6))
        try dsimp only [Act.put]
        clear t0 tl cc1 cc2 ccl HR1 HQ1 HT1 HA1 HB1 HV1
        go_upto_region 13 with fail
        clear f6 fl6
        have HR1 := HR6
        have HQ1 := HQ6
        have HT1 := HT6
        have HA1 := HA6
        clear HR5 HQ5 HT5 HA5 HR6 HQ6 HT6 HA6
        have HR2 := hide (show Blk w6.drew (w.heap.size + 1) _ _ from HR1.out)
        have HQ2 := hide (show Blk w6.drew (w.heap.size + 1 + 1) _ _ from HQ1.out)
        have HT2 := hide (show Blk w6.drew w1.heap.size _ _ from HT1.out)
        have HA2 := hide (HA1.out.trans (Below.drew (Below.refl w.heap.size w6)))
        refine wp_region_heldD (S := fun W => W.cell? ⟨w1.heap.size, 0, none⟩ = some (.int .i64 2) ∧ W.cell? ⟨w1.heap.size, 1, none⟩ = some (.int .i64 (-2))) (n := 4) (l := (upB 4 0).toArray) (by kernel_rfl) (by kernel_rfl) (by kernel_rfl) (by kernel_rfl) ⟨HT2.out.cell 0, HT2.out.cell 1⟩ (fun HNS hHeld => ?_)
        refine wpAnyH_takeD (l' := (upB 4 1).toArray) (i := 0) (fuel := 3) (v := ?v7x0) rfl HNS.out (by kernel_rfl) (by kernel_rfl) (by kernel_rfl) (fun _ _ _ h => h) (by kernel_rfl) ?y7x0 hHeld ?r7x0
        case y7x0 => (intro W hSw; go_simp; first | done | with_reducible rfl)
        try simp only [Act.put, List.setIfInBounds_toArray, List.set_cons_zero, List.set_cons_succ]
        refine wpAnyH_takeD (l' := (upB 4 2).toArray) (i := 1) (fuel := 2) (v := ?v7x1) rfl HNS.out (by kernel_rfl) (by kernel_rfl) (by kernel_rfl) (fun _ _ _ h => h) (by kernel_rfl) ?y7x1 hHeld ?r7x1
        case y7x1 => (intro W hSw; (try dsimp only at hSw); go_simp; first | done | with_reducible rfl)
        try simp only [Act.put, List.setIfInBounds_toArray, List.set_cons_zero, List.set_cons_succ]
        refine wpAnyH_oneD (l' := (upB 4 3).toArray) (i := 2) (fuel := 1) rfl (by kernel_rfl) (by kernel_rfl) (fun Kc hK => ?_)
        refine step_store_blk rfl rfl rfl rfl HR2.out rfl Try.sizeCopy rfl ?_
        intro w3 hR3 hg3
        have HR3 := hide hR3
        have HQ3 := hide (HQ2.out.grown hg3 HN.out)
        have HT3 := hide (HT2.out.grown hg3 (fun q => by simp at q; have := HNT.out; omega))
        have HA3 := hide (below_grownO HA2.out hg3 (fun k hk => by cases hk; omega) HA2.out.size)
        clear hR3 hg3
        refine hK.out _ _ ⟨HT3.out.cell 0, HT3.out.cell 1⟩ (fun _ => ?_)
        clear hK Kc
        try simp only [Act.put]
        refine wpAnyH_oneD (l' := (upB 4 4).toArray) (i := 3) (fuel := 0) rfl (by kernel_rfl) (by kernel_rfl) (fun Kc hK => ?_)
        refine step_store_blk rfl rfl rfl rfl HQ3.out rfl Try.sizeFaultS rfl ?_
        intro w4 hQ4 hg4
        have HQ4 := hide hQ4
        have HR4 := hide (HR3.out.grown hg4 HN.out.symm)
        have HT4 := hide (HT3.out.grown hg4 (fun q => by simp at q; have := HNT.out; omega))
        have HA4 := hide (below_grownO HA3.out hg4 (fun k hk => by cases hk; omega) HA3.out.size)
        clear hQ4 hg4
        refine hK.out _ _ ⟨HT4.out.cell 0, HT4.out.cell 1⟩ (fun _ => ?_)
        clear hK Kc
        try simp only [Act.put]
        refine wpAnyH_done (by kernel_rfl) ?_ _
        go_wp2_with fail
        refine bodyPost_ret (v := .tuple #[.agg #[.int .i64 0, .bool false, .slice none 0 0, .int .i64 0], .agg #[.int .i64 2, .int .i64 (-2)]]) (results2_cells Try.results14 rfl rfl (run_loadVar_blk HR4.out Try.underlying24 rfl Try.sizeCopy) (run_loadVar_blk HQ4.out Try.underlying29 rfl Try.sizeFaultS)) rfl ?_
        exact ⟨.slice none 0 0, by rw [HE.out, HF.out]; rfl, by rw [HE.out]; exact World.ownsRow_nil _ _ _ _, HA4.out⟩
    · have d7 : decide ((100 : Int) ≤ (l.length : Int)) = false := decide_eq_false (by omega)
      have d8 : decide (100 ≤ l.length) = false := decide_eq_false (by omega)
      have HF := hide (HF4.out.trans (if_neg (by omega)))
      have HE := hide (HAC.out HF.out)
      rw [if_pos (by omega)] at HE
      obtain rfl := hen
      clear h3 h4 hjl
      as_aux_lemma =>
        have tlX := HT1.out.lt
        go_upto_region 14 with fail
        clear t0 tl cc1
        go_upto_region 15 with (refine wpList_append_rdG (E := txE) (cs := []) (v := .slice none 0 0) (n := 0) (base := wX.heap.size) (World.ownsRow_nil _ _ _ _) HV1.out Try.underlying22 infoText rfl rfl rfl rfl rfl (by omega) (by decide) (Nat.le_refl _) ?_; intro v5 w5 ho5 hb5 hg5; rw [List.nil_append, Nat.zero_add] at ho5; obtain ⟨ao5, cap5, rfl⟩ := owns_shape ho5; have HO5 := hide ho5; have HB5 := hide hb5; clear ho5 hb5 hg5)
        have hbO := below_allocG w5 (.cells #[.int .i64 e_, .bool false, .slice ao5 l.length cap5, .int .i64 0] 24)
        have hbY := HB5.out.trans (hbO.mono HB5.out.size)
        have HR1 := hide (HR1.out.later hbY)
        have HQ1 := hide (HQ1.out.later hbY)
        have HT1 := hide (HT1.out.later hbY)
        have HC1 := hide (HB1.out.later hbY)
        have HA7 := hide (HA1.out.trans (hbY.mono HA1.out.size))
        have HO1 := hide (owns_base0 (HO5.out.alloc (.cells #[.int .i64 e_, .bool false, .slice ao5 l.length cap5, .int .i64 0] 24)) HA1.out.size)
        have HP1 := hide (Blk.new w5 24 #[.int .i64 e_, .bool false, .slice ao5 l.length cap5, .int .i64 0])
        have HNP := hide (show w1.heap.size < w5.heap.size from Nat.lt_of_lt_of_le tlX HB5.out.size)
        generalize hwY : w5.alloc (.cells #[.int .i64 e_, .bool false, .slice ao5 l.length cap5, .int .i64 0] 24) = wY at HR1 HQ1 HT1 HC1 HA7 HO1 HP1 ⊢
        have cc2 := HC1.out.cell 2
        have ccl := HC1.out.lt
        simp at cc2
        clear hbO hbY HO5 HB5 hwY
        have p2 := HP1.out.cell 2
        have pl := HP1.out.lt
        simp at p2
        have hsA := HA7.out.size
        go_upto_region 17 with (first
          | (at_builtin; refine wpList_append_oneG (E := txE) (c := r) HO1.out rfl Try.underlying22 infoText rfl rfl rfl rfl rfl (by omega) (by decide) hsA ?_; intro v6 w6 ho6 hb6 hg6; obtain ⟨ao6, cap6, rfl⟩ := owns_shape ho6; have HO6 := hide ho6; have HR6 := hide (HR1.out.grown hg6 (owns_off HO1.out HR1.out (by decide)).symm); have HQ6 := hide (HQ1.out.grown hg6 (owns_off HO1.out HQ1.out (by decide)).symm); have HT6 := hide (HT1.out.grown hg6 (owns_off HO1.out HT1.out (by decide)).symm); have HP6 := hide (HP1.out.grown hg6 (owns_off HO1.out HP1.out (by decide)).symm); have HA6 := hide (HA7.out.trans hb6); clear ho6 hb6 hg6)
          | (refine wpList_store_slice (k := 2) rfl rfl rfl rfl HP6.out rfl Try.sizeTexts ?_; intro w7 hP7 hg7; have HP7 := hide hP7; have HR7 := hide (HR6.out.grown hg7 (fun q => by simp at q; have := HNT.out; have := HNP.out; omega)); have HQ7 := hide (HQ6.out.grown hg7 (fun q => by simp at q; have := HNT.out; have := HNP.out; omega)); have HT7 := hide (HT6.out.grown hg7 (fun q => by simp at q; have := HNP.out; omega)); have HO7 := hide (owns_grownO HO6.out hg7 (.inr (owns_off HO6.out HP6.out (by decide)))); have HA8 := hide (below_grownO HA6.out hg7 (fun k hk => by cases hk; have := HNT.out; have := HNP.out; omega) HA6.out.size); clear hP7 hg7))
        clear p2 pl cc2 ccl HR1 HQ1 HT1 HO1 HA7 HP1 hsA HR6 HQ6 HT6 HP6 HA6 HO6
        have HR1 := HR7
        have HQ1 := HQ7
        have HT1 := HT7
        have HP1 := HP7
        have HO1 := HO7
        have HA7 := HA8
        clear HR7 HQ7 HT7 HP7 HO7 HA8
        have HR2 := hide (show Blk w7.drew (w.heap.size + 1) _ _ from HR1.out)
        have HQ2 := hide (show Blk w7.drew (w.heap.size + 1 + 1) _ _ from HQ1.out)
        have HT2 := hide (show Blk w7.drew w1.heap.size _ _ from HT1.out)
        have HP2 := hide (show Blk w7.drew w5.heap.size _ _ from HP1.out)
        have HO2 := hide (show World.ownsRow w7.drew w.heap.size 9 1 (.slice ao6 (l.length + 1) cap6) (l.length + 1) _ from HO1.out)
        have HA2 := hide (HA7.out.trans (Below.drew (Below.refl w.heap.size w7)))
        refine wp_region_heldD (S := fun W => W.cell? ⟨w5.heap.size, 0, none⟩ = some (.int .i64 e_) ∧ W.cell? ⟨w5.heap.size, 1, none⟩ = some (.bool false) ∧ W.cell? ⟨w5.heap.size, 2, none⟩ = some (.slice ao6 (l.length + 1) cap6) ∧ W.cell? ⟨w5.heap.size, 3, none⟩ = some (.int .i64 0) ∧ W.cell? ⟨w1.heap.size, 0, none⟩ = some (.int .i64 0) ∧ W.cell? ⟨w1.heap.size, 1, none⟩ = some (.int .i64 0)) (n := 4) (l := (upB 4 0).toArray) (by kernel_rfl) (by kernel_rfl) (by kernel_rfl) (by kernel_rfl) ⟨HP2.out.cell 0, HP2.out.cell 1, HP2.out.cell 2, HP2.out.cell 3, HT2.out.cell 0, HT2.out.cell 1⟩ (fun HNS hHeld => ?_)
        refine wpAnyH_takeD (l' := (upB 4 1).toArray) (i := 0) (fuel := 3) (v := ?v9x0) rfl HNS.out (by kernel_rfl) (by kernel_rfl) (by kernel_rfl) (fun _ _ _ h => h) (by kernel_rfl) ?y9x0 hHeld ?r9x0
        case y9x0 => (intro W hSw; (try dsimp only at hSw); go_simp; first | done | with_reducible rfl)
        try simp only [Act.put, List.setIfInBounds_toArray, List.set_cons_zero, List.set_cons_succ]
        refine wpAnyH_takeD (l' := (upB 4 2).toArray) (i := 1) (fuel := 2) (v := ?v9x1) rfl HNS.out (by kernel_rfl) (by kernel_rfl) (by kernel_rfl) (fun _ _ _ h => h) (by kernel_rfl) ?y9x1 hHeld ?r9x1
        case y9x1 => (intro W hSw; (try dsimp only at hSw); go_simp; first | done | with_reducible rfl)
        try simp only [Act.put, List.setIfInBounds_toArray, List.set_cons_zero, List.set_cons_succ]
        refine wpAnyH_oneD (l' := (upB 4 3).toArray) (i := 2) (fuel := 1) rfl (by kernel_rfl) (by kernel_rfl) (fun Kc hK => ?_)
        refine step_store_blk rfl rfl rfl rfl HR2.out rfl Try.sizeCopy rfl ?_
        intro w3 hR3 hg3
        have HR3 := hide hR3
        have HQ3 := hide (HQ2.out.grown hg3 HN.out)
        have HT3 := hide (HT2.out.grown hg3 (fun q => by simp at q; have := HNT.out; omega))
        have HA3 := hide (below_grownO HA2.out hg3 (fun k hk => by cases hk; omega) HA2.out.size)
        have HO3 := hide (owns_grownO HO2.out hg3 (.inr (owns_off HO2.out HR2.out (by decide))))
        have HP3 := hide (HP2.out.grown hg3 (fun q => by simp at q; have := HNT.out; have := HNP.out; omega))
        clear hR3 hg3
        refine hK.out _ _ ⟨HP3.out.cell 0, HP3.out.cell 1, HP3.out.cell 2, HP3.out.cell 3, HT3.out.cell 0, HT3.out.cell 1⟩ (fun _ => ?_)
        clear hK Kc
        try simp only [Act.put]
        refine wpAnyH_oneD (l' := (upB 4 4).toArray) (i := 3) (fuel := 0) rfl (by kernel_rfl) (by kernel_rfl) (fun Kc hK => ?_)
        refine step_store_blk rfl rfl rfl rfl HQ3.out rfl Try.sizeFaultS rfl ?_
        intro w4 hQ4 hg4
        have HQ4 := hide hQ4
        have HR4 := hide (HR3.out.grown hg4 HN.out.symm)
        have HT4 := hide (HT3.out.grown hg4 (fun q => by simp at q; have := HNT.out; omega))
        have HA4 := hide (below_grownO HA3.out hg4 (fun k hk => by cases hk; omega) HA3.out.size)
        have HO4 := hide (owns_grownO HO3.out hg4 (.inr (owns_off HO3.out HQ3.out (by decide))))
        have HP4 := hide (HP3.out.grown hg4 (fun q => by simp at q; have := HNT.out; have := HNP.out; omega))
        clear hQ4 hg4
        refine hK.out _ _ ⟨HP4.out.cell 0, HP4.out.cell 1, HP4.out.cell 2, HP4.out.cell 3, HT4.out.cell 0, HT4.out.cell 1⟩ (fun _ => ?_)
        clear hK Kc
        try simp only [Act.put]
        refine wpAnyH_done (by kernel_rfl) ?_ _
        go_wp2_with fail
        refine bodyPost_ret (v := .tuple #[.agg #[.int .i64 e_, .bool false, .slice ao6 (l.length + 1) cap6, .int .i64 0], .agg #[.int .i64 0, .int .i64 0]]) (results2_cells Try.results14 rfl rfl (run_loadVar_blk HR4.out Try.underlying24 rfl Try.sizeCopy) (run_loadVar_blk HQ4.out Try.underlying29 rfl Try.sizeFaultS)) rfl ?_
        exact ⟨_, by rw [HE.out, HF.out], by rw [HE.out]; exact (by simpa using HO4.out), HA4.out⟩

end Go.Proofs.Ytopnjklloleomaa

/-
  The walks over seal.playFault, has, slices.Contains of ints. (Written by sp1.py.)
-/
namespace Go.Proofs.Ytopnjklloleomaa
open Go.RowKit
set_option linter.unusedVariables false

set_option maxRecDepth 100000 in
theorem ContainsLong_any (v : Value) (l : List ByteArray) (w : World) (hv : RdG txE w v l) :
    Calls Try.prog 45 #[v, .func (.func 41) #[] #[]] w fun e w' => e = .returned (.bool (decide (0 ≤ longI l 0))) ∧ Below w.heap.size w w' := by
  have HI := hide (IndexLong_any v l w hv)
  obtain ⟨ao, cap, rfl, _, _⟩ := hv.shape
  generalize longI l 0 = I at *
  clear hv
  go_enter Try.func45, Try.ntmps45
  go_wp2_with fail
  refine HI.out.mono ?_
  rintro e w1 ⟨rfl, hb1⟩
  have HB1 := hide hb1
  clear hb1
  go_wp2_with fail
  go_ret
  exact ⟨rfl, HB1.out⟩

/-- What is wrong ahead of all deeds. -/
def plyF (n : Int) (l : List ByteArray) (nd : Int) : Int × Int :=
  if ¬ (1 ≤ n ∧ n ≤ 7) then (3, -1) else if 2000 < nd then (2, -1) else if 100 < l.length then (2, -2) else if 0 ≤ longI l 0 then (8, -2) else (0, 0)

set_option maxRecDepth 100000 in
set_option maxHeartbeats 1000000 in
theorem playFaultS_any (n nd : Int) (v : Value) (l : List ByteArray) (w : World) (hv : RdG txE w v l) :
    Calls Try.prog 37 #[.int .i64 n, v, .int .i64 nd] w fun e w' => e = .returned (flt (plyF n l nd)) ∧ Below w.heap.size w w' := by
  have HF : Hid (plyF n l nd = if ¬ (1 ≤ n ∧ n ≤ 7) then (3, -1) else if 2000 < nd then (2, -1) else if 100 < l.length then (2, -2) else if 0 ≤ longI l 0 then (8, -2) else (0, 0)) := hide rfl
  have HCL := hide (ContainsLong_any v l _ (hv.alloc (.cells #[.int .i64 0, .int .i64 0] 29)))
  obtain ⟨ao, cap, rfl, _, _⟩ := hv.shape
  have HR0 := hide (Blk.new w 29 #[.int .i64 0, .int .i64 0])
  have HB0 := hide (below_allocG w (.cells #[.int .i64 0, .int .i64 0] 29))
  generalize longI l 0 = I at *
  clear hv
  by_cases h1 : 1 ≤ n ∧ n ≤ 7
  case neg =>
    have HE := hide (HF.out.trans (if_pos h1))
    have HN := hide (decide_eq_false h1)
    have HI : Hid (decide (0 ≤ I) = decide (0 ≤ I)) := hide rfl
    go_enter Try.func37, Try.ntmps37
    go_wp2_with (first
      | (go_at_call 44; refine (isNodes_any n _).mono ?_; rw [HN.out]; rintro e w9 ⟨rfl, rfl⟩)
      | (go_at_call 45; refine HCL.out.mono ?_; rw [HI.out]; rintro e w1 ⟨rfl, hb1⟩; have HR1 := hide (HR0.out.later hb1); have HB1 := hide (HB0.out.trans (hb1.mono HB0.out.size)); clear hb1)
      | (refine wpList_store_blk rfl rfl rfl rfl HR1.out rfl Try.sizeFaultS rfl ?_; intro w8 hR8 hg8; have HR8 := hide hR8; have HG8 := hide hg8; clear hR8 hg8))
    exact bodyPost_ret (v := flt (3, -1)) (by simp [results, Try.results37, go_sem, flt]) rfl ⟨by rw [HE.out], by go_grown⟩
  have HFa := hide (HF.out.trans (if_neg (fun q => q h1)))
  have HN := hide (decide_eq_true h1)
  clear HF h1
  by_cases h2 : 2000 < nd
  · have HE := hide (HFa.out.trans (if_pos h2))
    have HI : Hid (decide (0 ≤ I) = decide (0 ≤ I)) := hide rfl
    go_enter Try.func37, Try.ntmps37
    go_wp2_with (first
      | (go_at_call 44; refine (isNodes_any n _).mono ?_; rw [HN.out]; rintro e w9 ⟨rfl, rfl⟩)
      | (go_at_call 45; refine HCL.out.mono ?_; rw [HI.out]; rintro e w1 ⟨rfl, hb1⟩; have HR1 := hide (HR0.out.later hb1); have HB1 := hide (HB0.out.trans (hb1.mono HB0.out.size)); clear hb1)
      | (refine wpList_store_blk rfl rfl rfl rfl HR1.out rfl Try.sizeFaultS rfl ?_; intro w8 hR8 hg8; have HR8 := hide hR8; have HG8 := hide hg8; clear hR8 hg8))
    exact bodyPost_ret (v := flt (2, -1)) (by simp [results, Try.results37, go_sem, flt]) rfl ⟨by rw [HE.out], by go_grown⟩
  have HFb := hide (HFa.out.trans (if_neg h2))
  clear HFa
  by_cases h3 : 100 < l.length
  · have HE := hide (HFb.out.trans (if_pos h3))
    have HI : Hid (decide (0 ≤ I) = decide (0 ≤ I)) := hide rfl
    go_enter Try.func37, Try.ntmps37
    go_wp2_with (first
      | (go_at_call 44; refine (isNodes_any n _).mono ?_; rw [HN.out]; rintro e w9 ⟨rfl, rfl⟩)
      | (go_at_call 45; refine HCL.out.mono ?_; rw [HI.out]; rintro e w1 ⟨rfl, hb1⟩; have HR1 := hide (HR0.out.later hb1); have HB1 := hide (HB0.out.trans (hb1.mono HB0.out.size)); clear hb1)
      | (refine wpList_store_blk rfl rfl rfl rfl HR1.out rfl Try.sizeFaultS rfl ?_; intro w8 hR8 hg8; have HR8 := hide hR8; have HG8 := hide hg8; clear hR8 hg8))
    exact bodyPost_ret (v := flt (2, -2)) (by simp [results, Try.results37, go_sem, flt]) rfl ⟨by rw [HE.out], by go_grown⟩
  have HFc := hide (HFb.out.trans (if_neg h3))
  clear HFb
  by_cases h4 : 0 ≤ I
  · have HE := hide (HFc.out.trans (if_pos h4))
    have HI := hide (decide_eq_true h4)
    clear h4
    go_enter Try.func37, Try.ntmps37
    go_wp2_with (first
      | (go_at_call 44; refine (isNodes_any n _).mono ?_; rw [HN.out]; rintro e w9 ⟨rfl, rfl⟩)
      | (go_at_call 45; refine HCL.out.mono ?_; rw [HI.out]; rintro e w1 ⟨rfl, hb1⟩; have HR1 := hide (HR0.out.later hb1); have HB1 := hide (HB0.out.trans (hb1.mono HB0.out.size)); clear hb1)
      | (refine wpList_store_blk rfl rfl rfl rfl HR1.out rfl Try.sizeFaultS rfl ?_; intro w8 hR8 hg8; have HR8 := hide hR8; have HG8 := hide hg8; clear hR8 hg8))
    refine bodyPost_ret (v := .agg #[.int .i64 (8), .int .i64 (-2)]) (results1_cell Try.results37 rfl (run_loadVar_blk HR8.out Try.underlying29 rfl Try.sizeFaultS)) rfl ?_
    exact ⟨by rw [HE.out] <;> rfl, below_grownO HB1.out HG8.out (fun k hk => by cases hk; omega) HB1.out.size⟩
  · have HE := hide (HFc.out.trans (if_neg h4))
    have HI := hide (decide_eq_false h4)
    clear h4
    go_enter Try.func37, Try.ntmps37
    go_wp2_with (first
      | (go_at_call 44; refine (isNodes_any n _).mono ?_; rw [HN.out]; rintro e w9 ⟨rfl, rfl⟩)
      | (go_at_call 45; refine HCL.out.mono ?_; rw [HI.out]; rintro e w1 ⟨rfl, hb1⟩; have HR1 := hide (HR0.out.later hb1); have HB1 := hide (HB0.out.trans (hb1.mono HB0.out.size)); clear hb1)
      | (refine wpList_store_blk rfl rfl rfl rfl HR1.out rfl Try.sizeFaultS rfl ?_; intro w8 hR8 hg8; have HR8 := hide hR8; have HG8 := hide hg8; clear hR8 hg8))
    refine bodyPost_ret (v := .agg #[.int .i64 (0), .int .i64 (0)]) (results1_cell Try.results37 rfl (run_loadVar_blk HR8.out Try.underlying29 rfl Try.sizeFaultS)) rfl ?_
    exact ⟨by rw [HE.out] <;> rfl, below_grownO HB1.out HG8.out (fun k hk => by cases hk; omega) HB1.out.size⟩

set_option maxRecDepth 100000 in
theorem hasC_any (ao : Option Addr) (m cap : Nat) (n : Int) (w : World) : Calls Try.prog 53 #[.slice ao m cap, .int .i64 n] w fun e w' => e = .returned (.bool (decide (0 ≤ n ∧ n < (m : Int)))) ∧ w' = w := by
  by_cases h1 : 0 ≤ n
  · have hd : decide (0 ≤ n) = true := by simpa using h1
    go_enter Try.func53, Try.ntmps53
    go_wp2_with fail
    go_ret
    exact ⟨by simp [h1], rfl⟩
  · have hd : decide (0 ≤ n) = false := by simpa using h1
    go_enter Try.func53, Try.ntmps53
    go_wp2_with fail
    go_ret
    exact ⟨by simp, rfl⟩

set_option maxRecDepth 100000 in
theorem hasT_any (ao : Option Addr) (m cap : Nat) (n : Int) (w : World) : Calls Try.prog 54 #[.slice ao m cap, .int .i64 n] w fun e w' => e = .returned (.bool (decide (0 ≤ n ∧ n < (m : Int)))) ∧ w' = w := by
  by_cases h1 : 0 ≤ n
  · have hd : decide (0 ≤ n) = true := by simpa using h1
    go_enter Try.func54, Try.ntmps54
    go_wp2_with fail
    go_ret
    exact ⟨by simp [h1], rfl⟩
  · have hd : decide (0 ≤ n) = false := by simpa using h1
    go_enter Try.func54, Try.ntmps54
    go_wp2_with fail
    go_ret
    exact ⟨by simp, rfl⟩

set_option maxRecDepth 100000 in
theorem hasH_any (ao : Option Addr) (m cap : Nat) (n : Int) (w : World) : Calls Try.prog 56 #[.slice ao m cap, .int .i64 n] w fun e w' => e = .returned (.bool (decide (0 ≤ n ∧ n < (m : Int)))) ∧ w' = w := by
  by_cases h1 : 0 ≤ n
  · have hd : decide (0 ≤ n) = true := by simpa using h1
    go_enter Try.func56, Try.ntmps56
    go_wp2_with fail
    go_ret
    exact ⟨by simp [h1], rfl⟩
  · have hd : decide (0 ≤ n) = false := by simpa using h1
    go_enter Try.func56, Try.ntmps56
    go_wp2_with fail
    go_ret
    exact ⟨by simp, rfl⟩

end Go.Proofs.Ytopnjklloleomaa

/-
  The walks over slices.Index and slices.Contains of ints.
-/
namespace Go.Proofs.Ytopnjklloleomaa
open Go.RowKit
set_option linter.unusedVariables false

theorem RdG.hereN {w : World} {ao : Option Addr} {n cap : Nat} {zs : List Int} (h : RdG iE w (.slice ao n cap) zs) {i : Nat} {x : Int} (hi : zs[i]? = some x) :
    ∃ b off, ao = some ⟨b, off, none⟩ ∧ b < w.heap.size ∧ w.cell? ⟨b, off + i, none⟩ = some (.int .i64 x) := by
  obtain ⟨b, off, e, hb, hat⟩ := h.here hi
  have := hat 0 _ rfl
  rw [Nat.mul_one, Nat.add_zero] at this
  exact ⟨b, off, e, hb, this⟩

set_option maxRecDepth 100000 in
set_option maxHeartbeats 1000000 in
theorem IndexI_any (v : Value) (l : List Int) (x : Int) (w : World) (hv : RdG iE w v l) :
    Calls Try.prog 66 #[v, .int .i64 x] w fun e w' => ∃ i : Int, e = .returned (.int .i64 i) ∧ decide (0 ≤ i) = decide (x ∈ l) ∧ w' = w := by
  have HV := hide hv
  obtain ⟨ao, cap, rfl, hc1, hc2⟩ := hv.shape
  unfold maxLen at hc2
  clear hv
  go_enter Try.func66, Try.ntmps66
  go_wp2_with fail
  go_loopw [8] (fun iv wr => ∃ j : Nat, j ≤ l.length ∧ iv = .int .i64 j ∧ (∀ (k : Nat) y, k < j → l[k]? = some y → y ≠ x) ∧ w = wr)
    (fun iv _ => l.length - (intOf iv).toNat)
  case atStart => exact ⟨0, by omega, rfl, fun k y h => by omega, rfl⟩
  case round =>
    obtain ⟨j, hj, rfl, hno, rfl⟩ := hrel
    have HNO := hide hno
    clear hno
    by_cases hlt : j < l.length
    · obtain ⟨y, hy⟩ : ∃ c, l[j]? = some c := ⟨_, List.getElem?_eq_getElem hlt⟩
      obtain ⟨b, off, rfl, hbb, q⟩ := HV.out.hereN hy
      have hk1 : (0 : Int) ≤ (j : Int) := by omega
      have hk2 : (j : Int) < (l.length : Int) := by omega
      have HY := hide hy
      clear hy
      by_cases hq : x = y
      · have hb : (x == y) = true := beq_iff_eq.2 hq
        have HM := hide (show decide (0 ≤ (j : Int)) = decide (x ∈ l) by rw [decide_eq_true hk1, decide_eq_true (by rw [hq]; exact List.mem_of_getElem? HY.out)])
        clear hq
        go_wp2_with fail
        go_ret
        exact ⟨_, rfl, HM.out, rfl⟩
      · have hb : (x == y) = false := beq_eq_false_iff_ne.2 hq
        have HQ := hide hq
        clear hq
        go_wp2_with fail
        go_roundw
        case rel => exact ⟨j + 1, by omega, by go_num, fun k z h1 h2 => by
          by_cases e : k = j
          · subst e
            rw [HY.out] at h2
            cases h2
            exact fun q => HQ.out q.symm
          · exact HNO.out k z (by omega) h2, trivial⟩
        case measure => simp [intOf]; omega
    · have hje : j = l.length := by omega
      subst hje
      have HM := hide (show decide (0 ≤ (-1 : Int)) = decide (x ∈ l) by
        rw [decide_eq_false (by omega), decide_eq_false]
        intro hm
        obtain ⟨k, hk, e⟩ := List.mem_iff_getElem.1 hm
        exact HNO.out k x hk (by rw [List.getElem?_eq_getElem hk, e]) rfl)
      go_wp2_with fail
      go_ret
      exact ⟨_, rfl, HM.out, rfl⟩

set_option maxRecDepth 100000 in
theorem ContainsI_any (v : Value) (l : List Int) (x : Int) (w : World) (hv : RdG iE w v l) :
    Calls Try.prog 64 #[v, .int .i64 x] w fun e w' => e = .returned (.bool (decide (x ∈ l))) ∧ w' = w := by
  have HI := hide (IndexI_any v l x w hv)
  obtain ⟨ao, cap, rfl, _, _⟩ := hv.shape
  clear hv
  go_enter Try.func64, Try.ntmps64
  go_wp2_with fail
  refine HI.out.mono ?_
  rintro e w1 ⟨i, rfl, hi, rfl⟩
  have HD := hide hi
  clear hi
  go_wp2_with fail
  go_ret
  exact ⟨by rw [← HD.out]; rfl, rfl⟩

end Go.Proofs.Ytopnjklloleomaa

/-
  An append of one, with the place where its row lies; the walk over seal.putOnce.
-/
namespace Go.Proofs.Ytopnjklloleomaa
open Go.RowKit Go.Maps
set_option linter.unusedVariables false

theorem infoIntS : (Try.prog.info? 3).map (fun i => (i.zero, i.size, i.bytes)) = some (some (.int .i64 0), 1, 8) := by kernel_rfl

/-- 'append(out, c)' of a structure that was laid in a block of its own just ahead; where the row then lies. -/
theorem wpList_append_oneAt {α : Type} {K : Nat} {E : En α K} {P : Program} {w : World} {c : α} {vs : Array Value} {ops : Array Oper} {rest : List Oper} {o : Oper} {a : Act} {Q : Exit → Act → World → Prop} {s x : Operand} {t : TypeId} {base : Nat} {e : TypeId} {z : Value} {bytes : Nat}
    {v : Value} {n : Nat} {cs : List α}
    (hown : w.ownsRow base e K v n (E.vs cs)) (hvs : vs.toList = E.v c)
    (ht : P.underlying t = some (.slice e)) (hinf : (P.info? e).map (fun i => (i.zero, i.size, i.bytes)) = some (some z, K, bytes)) (hzs : z.cells.size = K)
    (hgd : o.guard = none) (ho : o.op = .call { callee := .builtin .append, args := #[s, x], argTypes := #[t, t] })
    (hs : a.eval s = v) (hx : a.eval x = .slice (some ⟨w.heap.size, 0, none⟩) 1 1)
    (h63 : n ≤ 100000000) (hbytes : bytes ≤ 128) (hbase : base ≤ w.heap.size)
    (h : ∀ v' w', w'.ownsRow base e K v' (n + 1) (E.vs (cs ++ [c])) → w.grownBy w' v.ownBlock → (v'.ownBlock = v.ownBlock ∨ v'.ownBlock = some (w.heap.size + 1)) → wpList P ops Q rest (a.put o.dst v') w') : wpList P ops Q (o :: rest) a (w.alloc (.cells vs e)) := by
  obtain ⟨i, hi, hz, hsize, hby⟩ := info_parts hinf
  have hrd := RdG.newL (E := E) w [c] e vs (by rw [hvs, vs_one1]) (by simp)
  obtain ⟨ao, cap, hv, h2, h3, h4, h5⟩ := hrd
  simp only [Value.slice.injEq] at hv
  obtain ⟨rfl, _, rfl⟩ := hv
  have hbytes' : (n + 1) * bytes ≤ 1000000000 * 128 := Nat.mul_le_mul (by omega) hbytes
  refine wpList_append_own_at (w := w.alloc (.cells vs e)) hgd s x t ho base e i z K bytes ht hi hz hsize hby hzs E.pos v n (E.vs cs) hs (hown.alloc _) ⟨w.heap.size, 0, none⟩ 1 1 (E.vs [c]) hx (by rw [vs_length]; rfl) (h5 _ rfl) (vs_one _) (by simp [maxLen]; omega) (by omega) (by simp; omega) ?_
  intro v' w' ho' hg' _ hloc
  rw [← vs_append] at ho'
  refine h v' w' ho' ⟨hg'.os, hg'.tape, hg'.output, ?_, fun k hk hne => ?_⟩ (by simpa using hloc)
  · have := hg'.size; simp at this; omega
  · rw [hg'.block k (by simp; omega) hne, Below.heap_alloc _ _ _ hk]

theorem set_same {xs : Array Value} {k : Nat} {v : Value} (h : xs[k]? = some v) : xs.setIfInBounds k v = xs := by
  apply Array.ext_getElem?
  intro i
  rw [Array.getElem?_setIfInBounds]
  by_cases q : k = i
  · subst q
    obtain ⟨hl, e⟩ := Array.getElem?_eq_some_iff.1 h
    simp [hl, e]
  · simp [q]

/-- A number behind the others, unless it is there. -/
def putL (l : List Int) (x : Int) : List Int := if x ∈ l then l else l ++ [x]

set_option maxRecDepth 100000 in
set_option maxHeartbeats 2000000 in
theorem putOnce_any (B k : Nat) (t : TypeId) (xs : Array Value) (v : Value) (base : Nat) (l : List Int) (x : Int) (w : World) (hB : Blk w B t xs) (hk : xs[k]? = some v) (ht : 3 ≠ t) (hown : w.ownsRow base 3 1 v l.length (iE.vs l)) (hl : l.length ≤ 1000000) (hbase : base ≤ w.heap.size) :
    Calls Try.prog 59 #[.pointer (some ⟨B, k, none⟩), .int .i64 x] w fun e w' => ∃ v', e = .returned (.bool (!decide (x ∈ l))) ∧ Blk w' B t (xs.setIfInBounds k v') ∧ w'.ownsRow base 3 1 v' (putL l x).length (iE.vs (putL l x)) ∧ Kp2 w w' B v.ownBlock ∧ (v'.ownBlock = v.ownBlock ∨ ∃ b, v'.ownBlock = some b ∧ w.heap.size ≤ b) := by
  have HC := hide (ContainsI_any v l x w (RdG.ofOwns hown))
  obtain ⟨ao, cap, rfl⟩ := owns_shape hown
  have d0 := (hB.cell k).trans hk
  have dz := hB.frozen k
  have dl := hB.lt
  have HB := hide hB
  have HOW := hide hown
  have HK := hide hk
  have HOFF := hide (owns_off hown hB ht)
  by_cases hx : x ∈ l
  · have HD := hide (decide_eq_true hx)
    have HP := hide (show putL l x = l from if_pos hx)
    clear hx hB hown hk
    go_enter Try.func59, Try.ntmps59
    go_wp2_with (go_at_call 64; refine HC.out.mono ?_; rw [HD.out]; rintro e w1 ⟨rfl, rfl⟩)
    go_ret
    exact ⟨_, by rw [HD.out]; rfl, by rw [set_same HK.out]; exact HB.out, by rw [HP.out]; exact HOW.out, ⟨rfl, rfl, rfl, Nat.le_refl _, fun _ _ _ _ => rfl⟩, .inl rfl⟩
  · have HD := hide (decide_eq_false hx)
    have HP := hide (show putL l x = l ++ [x] from if_neg hx)
    have hl2 : l.length ≤ 100000000 := by omega
    clear hx hB hown hk
    go_enter Try.func59, Try.ntmps59
    go_wp2_with (first
      | (go_at_call 64; refine HC.out.mono ?_; rw [HD.out]; rintro e w1 ⟨rfl, rfl⟩)
      | (at_builtin; go_must (refine wpList_append_oneAt (E := iE) (c := x) HOW.out rfl Try.underlying53 infoIntS rfl rfl rfl rfl rfl hl2 (by decide) hbase ?_); intro v5 w5 ho5 hg5 hloc5; obtain ⟨ao5, cap5, hv5⟩ := owns_shapeK ho5; subst hv5; have hB5 := HB.out.grown hg5 (fun q => HOFF.out q.symm); have k0 := (hB5.cell k).trans HK.out; have k1 := hB5.frozen k; have k2 := hB5.lt))
    have HB6 := hide (hB5.set k (.slice ao5 (l.length + 1) cap5))
    have HO6 := hide (owns_setOther ho5 (p := ⟨B, k, none⟩) (owns_off ho5 hB5 ht) (.slice ao5 (l.length + 1) cap5))
    have HK6 := hide (Kp2.of (Below.refl _ _) hg5 B k (.slice ao5 (l.length + 1) cap5))
    have HL6 := hide hloc5
    clear ho5 hg5 hB5 hloc5 k0 k1 k2 d0 dz dl
    go_ret
    exact ⟨_, by rw [HD.out]; rfl, HB6.out, by rw [HP.out, List.length_append]; exact HO6.out, HK6.out, HL6.out.elim .inl (fun q => .inr ⟨_, q, by omega⟩)⟩

end Go.Proofs.Ytopnjklloleomaa
