/-
  Texts joined: LoW5.
-/
import Derived.Test.YtoeobhehjnkkkaaMLocateDoesLoW4
import Derived.Test.YtoeobhehjnkkkaaMLocateDoes4
/-
  The walks over locate.Look and locate.Learn. (Written by lo5.py.)
-/
namespace Go.Proofs.Ytoeobhehjnkkkaa
open Go.RowKit Go.Maps
set_option linter.unusedVariables false

theorem results3_ttcK {P : Program} {fn : Func} {i i2 j : Tmp} {u : TypeId} {tmps : Array Value} {C : Nat} {v1 v2 v3 : Value} {w : World} (h : fn.results = #[.tmp i, .tmp i2, .cell j u]) (hp : tmps[i]?.getD undef = v1) (hp2 : tmps[i2]?.getD undef = v2) (hq : tmps[j]?.getD undef = .pointer (some ⟨C, 0, none⟩)) (hm : (loadVar u ⟨C, 0, none⟩).run P w = .ok v3 w) :
    (results fn tmps).run P w = .ok (.tuple #[v1, v2, v3]) w := by
  simp [results, h, hp, hp2, hq, asAddr, hm]

/-- What Look tells: the place, and whether there is one. -/
def lookP (l : List Kn) (row : ByteArray) : Int × Bool := if (chkK l).1 = 0 then (lookN l row, (havK l row).isSome) else (0, false)

theorem posI_look (l : List Kn) (row : ByteArray) : max 0 (posI (havK l row)) = lookN l row := by
  unfold lookN
  cases havK l row <;> simp [posI]
  omega

theorem posI_ge (l : List Kn) (row : ByteArray) : decide (0 ≤ posI (havK l row)) = (havK l row).isSome := by
  cases havK l row <;> simp [posI]

set_option maxRecDepth 100000 in
set_option maxHeartbeats 4000000 in
theorem Look_any (v : Value) (l : List Kn) (row : ByteArray) (w : World) (hv : RdG knE w v l) (hl : l.length ≤ 1000) :
    Calls Try.prog 23 #[v, .string row] w fun e w' => e = .returned (.tuple #[.int .i64 (lookP l row).1, .bool (lookP l row).2, flt (chkK l)]) ∧ Below w.heap.size w w' := by
  have HFF := hide (fun h => chkK_z (l := l) h)
  have HV := hide hv
  have HLP : Hid (lookP l row = if (chkK l).1 = 0 then (lookN l row, (havK l row).isSome) else (0, false)) := hide rfl
  have HPL := hide (posI_look l row)
  have HPG := hide (posI_ge l row)
  have HR0 := hide (Blk.new w 30 #[.int .i64 0, .int .i64 0])
  have HB0 := hide (below_allocG w (.cells #[.int .i64 0, .int .i64 0] 30))
  have HHV := hide (fun W (hW : Below w.heap.size w W) => having_any v l row W (hv.below hW))
  have HCK := hide (KCheck_any v l (w.alloc (.cells #[.int .i64 0, .int .i64 0] 30)) (hv.below HB0.out))
  have HIL : Hid (∀ i, havK l row = some i → i < 2000) := hide (fun i hi => by
    obtain ⟨x, _, h2, _⟩ := idxP_some hi
    have := (List.getElem?_eq_some_iff.1 h2).1
    omega)
  obtain ⟨ao, cap, rfl, hc1, hc2⟩ := hv.shape
  clear hv
  generalize hK : chkK l = K at *
  obtain ⟨x, y⟩ := K
  have hW : (w.alloc (.cells #[.int .i64 0, .int .i64 0] 30)) = w.alloc (.cells #[.int .i64 0, .int .i64 0] 30) := rfl
  generalize hW0 : w.alloc (.cells #[.int .i64 0, .int .i64 0] 30) = W0 at HCK HR0 HB0
  clear hW hK
  unfold flt at HCK
  unfold flt
  go_enter Try.func23, Try.ntmps23
  go_upto_region 1 with fail
  clear hW0
  go_upto_region 2 with (go_at_call 22; refine HCK.out.mono ?_; rintro e w1 ⟨rfl, hb1⟩; have HX1 := hide hb1; clear hb1)
  have hbT := below_allocG w1 (.cells #[.int .i64 x, .int .i64 y] 30)
  have hbX := HX1.out.trans (hbT.mono HX1.out.size)
  have HR1 := hide (HR0.out.later hbX)
  have HA1 := hide (HB0.out.trans (hbX.mono HB0.out.size))
  have HT1 := hide (Blk.new w1 30 #[.int .i64 x, .int .i64 y])
  have HNT := hide (show w.heap.size < w1.heap.size from (HR0.out.later HX1.out).lt)
  generalize hwX : w1.alloc (.cells #[.int .i64 x, .int .i64 y] 30) = X1 at HR1 HA1 HT1 ⊢
  clear hwX hbT hbX HX1 HR0 HB0 HCK
  by_cases hx : x ≠ 0
  · have q1 : (x != 0) = true := by simp [hx]
    have q2 : (x == 0) = false := beq_eq_false_iff_ne.2 hx
    have HE := hide (HLP.out.trans (if_neg hx))
    clear hx HLP HFF HHV HPL HPG
    go_upto_region 3 with (refine wpList_load_blk HT1.out Try.underlying30 rfl Try.sizeFaultA rfl rfl rfl ?_)
    have HR2 := hide (show Blk X1.drew (w.heap.size) _ _ from HR1.out)
    have HT2 := hide (show Blk X1.drew (w1.heap.size) _ _ from HT1.out)
    have HA2 := hide (HA1.out.trans (Below.drew (Below.refl w.heap.size X1)))
    refine wp_region_heldD (S := fun W => W.cell? ⟨w1.heap.size, 0, none⟩ = some (.int .i64 x) ∧ W.cell? ⟨w1.heap.size, 1, none⟩ = some (.int .i64 y)) (n := 4) (l := (upB 4 0).toArray) (by kernel_rfl) (by kernel_rfl) (by kernel_rfl) (by kernel_rfl) ⟨HT2.out.cell 0, HT2.out.cell 1⟩ (fun HNS hHeld => ?_)
    refine wpAnyH_takeD (l' := (upB 4 1).toArray) (i := 0) (fuel := 3) (v := ?v1x0) rfl HNS.out (by kernel_rfl) (by kernel_rfl) (by kernel_rfl) (fun _ _ _ h => h) (by kernel_rfl) ?y1x0 hHeld ?r1x0
    case y1x0 => (intro W hSw; (try dsimp only at hSw); go_simp; first | done | with_reducible rfl)
    try simp only [Act.put, List.setIfInBounds_toArray, List.set_cons_zero, List.set_cons_succ]
    refine wpAnyH_takeD (l' := (upB 4 2).toArray) (i := 1) (fuel := 2) (v := ?v1x1) rfl HNS.out (by kernel_rfl) (by kernel_rfl) (by kernel_rfl) (fun _ _ _ h => h) (by kernel_rfl) ?y1x1 hHeld ?r1x1
    case y1x1 => (intro W hSw; go_simp; first | done | with_reducible rfl)
    try simp only [Act.put, List.setIfInBounds_toArray, List.set_cons_zero, List.set_cons_succ]
    refine wpAnyH_takeD (l' := (upB 4 3).toArray) (i := 2) (fuel := 1) (v := ?v1x2) rfl HNS.out (by kernel_rfl) (by kernel_rfl) (by kernel_rfl) (fun _ _ _ h => h) (by kernel_rfl) ?y1x2 hHeld ?r1x2
    case y1x2 => (intro W hSw; go_simp; first | done | with_reducible rfl)
    try simp only [Act.put, List.setIfInBounds_toArray, List.set_cons_zero, List.set_cons_succ]
    refine wpAnyH_oneD (l' := (upB 4 4).toArray) (i := 3) (fuel := 0) rfl (by kernel_rfl) (by kernel_rfl) (fun Kc hK => ?_)
    refine step_store_blk rfl rfl rfl rfl HR2.out rfl Try.sizeFaultA rfl ?_
    intro w3 hR3 hg3
    have HR3 := hide hR3
    have HA3 := hide (below_grownO HA2.out hg3 (fun k hk => by cases hk; omega) HA2.out.size)
    have HT3 := hide (HT2.out.grown hg3 (fun q => by simp at q; have := HNT.out; omega))
    clear hR3 hg3
    refine hK.out _ _ ⟨HT3.out.cell 0, HT3.out.cell 1⟩ (fun _ => ?_)
    clear hK Kc
    try simp only [Act.put]
    refine wpAnyH_done (by kernel_rfl) ?_ _
    go_wp2_with fail
    refine bodyPost_ret (v := .tuple #[.int .i64 0, .bool false, .agg #[.int .i64 x, .int .i64 y]]) (results3_ttcK Try.results23 rfl rfl rfl (run_loadVar_blk HR3.out Try.underlying30 rfl Try.sizeFaultA)) rfl ?_
    exact ⟨by rw [HE.out], HA3.out⟩
  · obtain rfl : x = 0 := Decidable.not_not.1 hx
    obtain rfl : y = 0 := by have := HFF.out rfl; simpa using this
    have HE := hide (HLP.out.trans (if_pos rfl))
    have HH1 := hide (HHV.out _ HA1.out)
    clear hx HLP HFF HHV
    generalize hH : havK l row = H at *
    cases H with
    | none =>
      unfold posI at HH1
      have HE2 := hide (show lookP l row = (0, false) by rw [HE.out]; rw [← HPL.out]; rfl)
      clear HE HPL HPG
      dsimp only at HH1
      go_wp2_with (first
        | (refine wpList_load_blk HT1.out Try.underlying30 rfl Try.sizeFaultA rfl rfl rfl ?_)
        | (go_at_call 48; refine HH1.out.mono ?_; rintro e w4 ⟨rfl, hb4⟩; have HR4 := hide (HR1.out.later hb4); have HA4 := hide (HA1.out.trans (hb4.mono HA1.out.size)); clear hb4)
        | (refine wpList_store_blk rfl rfl rfl rfl HR4.out rfl Try.sizeFaultA rfl ?_; intro w8 hR8 hg8; have HR8 := hide hR8; have HA8 := hide (below_grownO HA4.out hg8 (fun k hk => by cases hk; omega) HA4.out.size); clear hR8 hg8))
      refine bodyPost_ret (v := .tuple #[.int .i64 0, .bool false, .agg #[.int .i64 0, .int .i64 0]]) (results3_ttcK Try.results23 rfl rfl rfl (run_loadVar_blk HR8.out Try.underlying30 rfl Try.sizeFaultA)) rfl ?_
      exact ⟨by rw [HE2.out], HA8.out⟩
    | some i =>
      unfold posI at HH1
      have hi := HIL.out i rfl
      have HE2 := hide (show lookP l row = ((i : Int), true) by rw [HE.out, ← HPL.out]; simp [posI])
      clear HE HPL HPG HIL
      dsimp only at HH1
      by_cases hi0 : i = 0
      · subst hi0
        rw [show ((0 : Nat) : Int) = 0 from rfl] at HH1 HE2
        go_wp2_with (first
          | (refine wpList_load_blk HT1.out Try.underlying30 rfl Try.sizeFaultA rfl rfl rfl ?_)
          | (go_at_call 48; refine HH1.out.mono ?_; rintro e w4 ⟨rfl, hb4⟩; have HR4 := hide (HR1.out.later hb4); have HA4 := hide (HA1.out.trans (hb4.mono HA1.out.size)); clear hb4)
          | (refine wpList_store_blk rfl rfl rfl rfl HR4.out rfl Try.sizeFaultA rfl ?_; intro w8 hR8 hg8; have HR8 := hide hR8; have HA8 := hide (below_grownO HA4.out hg8 (fun k hk => by cases hk; omega) HA4.out.size); clear hR8 hg8))
        refine bodyPost_ret (v := .tuple #[.int .i64 0, .bool true, .agg #[.int .i64 0, .int .i64 0]]) (results3_ttcK Try.results23 rfl rfl rfl (run_loadVar_blk HR8.out Try.underlying30 rfl Try.sizeFaultA)) rfl ?_
        exact ⟨by rw [HE2.out], HA8.out⟩
      · have hi1 : (0 : Int) < (i : Int) := by omega
        have hi2 : ¬ ((i : Int) ≤ 0) := by omega
        have hi3 : (0 : Int) ≤ (i : Int) := by omega
        go_wp2_with (first
          | (refine wpList_load_blk HT1.out Try.underlying30 rfl Try.sizeFaultA rfl rfl rfl ?_)
          | (go_at_call 48; refine HH1.out.mono ?_; rintro e w4 ⟨rfl, hb4⟩; have HR4 := hide (HR1.out.later hb4); have HA4 := hide (HA1.out.trans (hb4.mono HA1.out.size)); clear hb4)
          | (refine wpList_store_blk rfl rfl rfl rfl HR4.out rfl Try.sizeFaultA rfl ?_; intro w8 hR8 hg8; have HR8 := hide hR8; have HA8 := hide (below_grownO HA4.out hg8 (fun k hk => by cases hk; omega) HA4.out.size); clear hR8 hg8))
        all_goals first
          | (refine bodyPost_ret (v := .tuple #[.int .i64 i, .bool true, .agg #[.int .i64 0, .int .i64 0]]) (results3_ttcK Try.results23 rfl rfl rfl (run_loadVar_blk HR8.out Try.underlying30 rfl Try.sizeFaultA)) rfl ?_
             exact ⟨by rw [HE2.out], HA8.out⟩)
          | (exfalso; omega)

end Go.Proofs.Ytoeobhehjnkkkaa
