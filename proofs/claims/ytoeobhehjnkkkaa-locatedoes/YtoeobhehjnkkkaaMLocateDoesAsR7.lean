/-
  Texts joined: AsR7.
-/
import Derived.Test.YtoeobhehjnkkkaaMLocateDoesAsR6
import Derived.Test.YtoeobhehjnkkkaaMLocateDoes4
/-
  The walk over split of package assign. (Written by as24.py.)
-/
namespace Go.Proofs.Ytoeobhehjnkkkaa
open Go.RowKit
set_option linter.unusedVariables false

/-- No string in it. -/
def noStrP : Value → Bool
  | .string _ => false
  | _ => true

theorem RdG.noP {w w' : World} {v : Value} {xs : List Pt} {R : Nat} {t : TypeId} {ys : Array Value} (hr : RdG pE w v xs) (hg : w.grownBy w' (some R)) (hB : Blk w R t ys) (hn : ys.toList.all noStrP = true) : RdG pE w' v xs := by
  obtain ⟨ao, cap, rfl, h1, h2, h3, h4⟩ := hr
  refine ⟨ao, cap, rfl, h1, h2, h3, fun ad ha j u hu => ?_⟩
  have hc := h4 ad ha j u hu
  have hlt := World.block_lt_of_cell? w _ hc
  have e : (ad.add j).block = ad.block := by unfold Addr.add; split <;> rfl
  have hne : ad.block ≠ R := by
    intro q
    cases xs with
    | nil => simp [En.vs] at hu
    | cons x xs' =>
      have h0 := h4 ad ha 0 (.string x.fr) (by simp [En.vs, pE])
      obtain ⟨b', o, rfl⟩ := add_spot h0
      rw [Addr.add_lit, Nat.add_zero] at h0
      simp only at q
      subst q
      rw [hB.cell o] at h0
      have hm : (Value.string x.fr) ∈ ys.toList := Array.mem_toList_iff.2 (Array.mem_of_getElem? h0)
      have := List.all_eq_true.1 hn _ hm
      simp [noStrP] at this
  rw [← hc]
  exact World.cell?_of_block (hg.block _ hlt (by rw [e]; intro q; cases q; exact hne rfl))

theorem splitF_z2 {l : List Pt} {at_ : Int} {row : ByteArray} {left right : Int} : (splitF l at_ row left right).1 = 0 → (splitF l at_ row left right).2 = 0 := by
  unfold splitF
  dsimp only
  intro h
  repeat' split at h
  all_goals first | contradiction | (simp at h; done) | (split <;> simp_all)

set_option maxRecDepth 100000 in
set_option maxHeartbeats 8000000 in
theorem split_any (base B : Nat) (b : Bd) (hv sv : Value) (id : Int) (row : ByteArray) (w : World) (h : BdAt w base B b hv sv) (hok : OkB b) (hwf : WfP (parts b.sl)) (hbw : base ≤ w.heap.size) :
    Calls Try.prog 65 #[.pointer (some ⟨B, 0, none⟩), .int .i64 id, .string row] w (DoneB w base B hv sv (spB b id row) (spF b id row)) := by
  have hbA := below_allocG w (.cells #[.int .i64 0, .int .i64 0] 30)
  have HR0 := hide (Blk.new w 30 #[.int .i64 0, .int .i64 0])
  have HB0 := hide (h.later hbA)
  have HA0 := hide hbA
  have HBW := hide hbw
  have HOK := hide hok
  have HWF := hide hwf
  have HBL := hide h.blk.lt
  have HNO := hide (fun q => spF_none (b := b) (id := id) (row := row) q)
  have HSO := hide (fun k q => spF_some (b := b) (id := id) (row := row) (k := k) q)
  have HSS := hide (fun k (hk : idxS b.sl id = some k) => idxS_some hk)
  obtain ⟨sa, sc, rfl⟩ := owns_shapeA h.slo
  obtain ⟨ha, hc, rfl⟩ := owns_shapeA h.hos
  unfold DoneB
  generalize hW : w.alloc (.cells #[.int .i64 0, .int .i64 0] 30) = W0 at HR0 HB0 HA0
  have HW := hide hW
  have HS := hide (slot_any base B b _ _ id W0 HB0.out)
  have HN := hide (fun W (hB : BdAt W base B b (.slice ha b.hs.length hc) (.slice sa b.sl.length sc)) => numberOf_any base B b _ _ id W hB)
  generalize hJF : spF b id row = JF at *
  generalize hJB : spB b id row = JB at *
  clear h hbA hbw hok hwf hW hJF hJB
  cases hi : idxS b.sl id with
  | none =>
    have HE := hide (HNO.out hi).1
    have HBD := hide (HNO.out hi).2
    have HC2 := hide (fun W => slotFault_nil b.sl (.slice sa b.sl.length sc) 0 W)
    have hsf : slF b.sl none 0 = (6, -1) := rfl
    rw [hsf] at HC2
    unfold flt at HC2
    rw [elP_none] at HC2
    rw [hi, elP_none] at HS
    clear hi hsf
    go_enter Try.func65, Try.ntmps65
    go_upto_region 1 with fail
    rw [HW.out]
    clear HW
    go_upto_region 2 with (first
      | (go_at_call 91; refine HS.out.mono ?_; rintro e w1 ⟨rfl, hb1⟩; have HB1 := hide (HB0.out.later hb1); have HF1 := hide (HR0.out.later hb1); have HA1 := hide (HA0.out.trans (hb1.mono HA0.out.size)); clear hb1)
      | (go_at_call 92; refine (HC2.out w1).mono ?_; rintro e w3 ⟨rfl, hb2⟩; have HB2 := hide hb2; clear hb2))
    have hbT := below_allocG w3 (.cells #[.int .i64 6, .int .i64 (-1)] 30)
    have hbX := HB2.out.trans (hbT.mono HB2.out.size)
    have HB3 := hide (HB1.out.later hbX)
    have HF3 := hide (HF1.out.later hbX)
    have HA3 := hide (HA1.out.trans (hbX.mono HA1.out.size))
    have HT3 := hide (Blk.new w3 30 #[.int .i64 6, .int .i64 (-1)])
    generalize hwX : w3.alloc (.cells #[.int .i64 6, .int .i64 (-1)] 30) = X3 at HB3 HF3 HA3 HT3 ⊢
    clear hwX hbT hbX HB2
    go_wp2_with (first
      | (refine wpList_load_blk HT3.out Try.underlying30 rfl Try.sizeFaultA rfl rfl rfl ?_)
      | (refine wpList_store_blk rfl rfl rfl rfl HF3.out rfl Try.sizeFaultA rfl ?_; intro w8 hF8 hg8; have HF8 := hide hF8; have HB8 := hide (HB3.out.off HF3.out hg8 (by decide) (by decide) (by decide)); have HA8 := hide (below_grownO HA3.out hg8 (fun k hk => by cases hk; omega) HA3.out.size); clear hF8 hg8))
    refine bodyPost_ret (v := .agg #[.int .i64 6, .int .i64 (-1)]) (results1_cell Try.results65 rfl (run_loadVar_blk HF8.out Try.underlying30 rfl Try.sizeFaultA)) rfl ?_
    exact ⟨by rw [HE.out]; rfl, by rw [HBD.out]; exact ⟨_, _, HB8.out⟩, KpB.of_below HA8.out⟩
  | some k =>
    obtain ⟨x, hx, hxi⟩ := HSS.out k hi
    have hps : posI (some k) = (k : Int) := rfl
    have hkl := (List.getElem?_eq_some_iff.1 hx).1
    have HS1 := hide (HSO.out k hi).1
    have HS2 := hide (HSO.out k hi).2
    have hgx : b.sl.getD k zeroSl = x := by rw [List.getD_eq_getElem?_getD, hx]; rfl
    have HC2 := hide (fun W (hB : BdAt W base B b (.slice ha b.hs.length hc) (.slice sa b.sl.length sc)) => slotFault_some base b.sl _ k 0 W hB.slo hkl)
    have hsf := slF_some (st := 0) hx
    rw [hi, hps] at HN
    rw [hi] at HS
    rw [hgx] at HS1 HS2
    have hln := HOK.out.sl
    clear hi hps hxi HNO HSO HSS
    by_cases hst : x.st ≠ 0
    · have HE := hide (HS1.out.trans (if_pos hst))
      have HBD := hide (HS2.out.trans (if_pos hst))
      rw [hsf, if_pos hst] at HC2
      unfold flt at HC2
      clear hst hsf hgx hx
      obtain ⟨pv, hpv⟩ : ∃ pv, pv = elP (.slice sa b.sl.length sc) 6 (some k) := ⟨_, rfl⟩
      rw [← hpv] at HS HC2
      clear hpv
      go_enter Try.func65, Try.ntmps65
      go_upto_region 1 with fail
      rw [HW.out]
      clear HW
      go_upto_region 2 with (first
        | (go_at_call 91; refine HS.out.mono ?_; rintro e w1 ⟨rfl, hb1⟩; have HB1 := hide (HB0.out.later hb1); have HF1 := hide (HR0.out.later hb1); have HA1 := hide (HA0.out.trans (hb1.mono HA0.out.size)); clear hb1)
        | (go_at_call 92; refine (HC2.out w1 HB1.out).mono ?_; rintro e w3 ⟨rfl, hb2⟩; have HB2 := hide hb2; clear hb2))
      have hbT := below_allocG w3 (.cells #[.int .i64 11, .int .i64 (-1)] 30)
      have hbX := HB2.out.trans (hbT.mono HB2.out.size)
      have HB3 := hide (HB1.out.later hbX)
      have HF3 := hide (HF1.out.later hbX)
      have HA3 := hide (HA1.out.trans (hbX.mono HA1.out.size))
      have HT3 := hide (Blk.new w3 30 #[.int .i64 11, .int .i64 (-1)])
      generalize hwX : w3.alloc (.cells #[.int .i64 11, .int .i64 (-1)] 30) = X3 at HB3 HF3 HA3 HT3 ⊢
      clear hwX hbT hbX HB2
      go_wp2_with (first
        | (refine wpList_load_blk HT3.out Try.underlying30 rfl Try.sizeFaultA rfl rfl rfl ?_)
        | (refine wpList_store_blk rfl rfl rfl rfl HF3.out rfl Try.sizeFaultA rfl ?_; intro w8 hF8 hg8; have HF8 := hide hF8; have HB8 := hide (HB3.out.off HF3.out hg8 (by decide) (by decide) (by decide)); have HA8 := hide (below_grownO HA3.out hg8 (fun k hk => by cases hk; omega) HA3.out.size); clear hF8 hg8))
      refine bodyPost_ret (v := .agg #[.int .i64 11, .int .i64 (-1)]) (results1_cell Try.results65 rfl (run_loadVar_blk HF8.out Try.underlying30 rfl Try.sizeFaultA)) rfl ?_
      exact ⟨by rw [HE.out]; rfl, by rw [HBD.out]; exact ⟨_, _, HB8.out⟩, KpB.of_below HA8.out⟩
    have HE1 := hide (HS1.out.trans (if_neg hst))
    have HBD1 := hide (HS2.out.trans (if_neg hst))
    rw [hsf, if_neg hst] at HC2
    unfold flt at HC2
    clear hst hsf
    obtain ⟨pv, hpv⟩ : ∃ pv, pv = elP (.slice sa b.sl.length sc) 6 (some k) := ⟨_, rfl⟩
    rw [← hpv] at HS HC2
    clear hpv
    go_enter Try.func65, Try.ntmps65
    go_upto_region 1 with fail
    rw [HW.out]
    clear HW
    go_upto_region 2 with (first
      | (go_at_call 91; refine HS.out.mono ?_; rintro e w1 ⟨rfl, hb1⟩; have HB1 := hide (HB0.out.later hb1); have HF1 := hide (HR0.out.later hb1); have HA1 := hide (HA0.out.trans (hb1.mono HA0.out.size)); clear hb1)
      | (go_at_call 92; refine (HC2.out w1 HB1.out).mono ?_; rintro e w3 ⟨rfl, hb2⟩; have HB2 := hide hb2; clear hb2))
    have hbT := below_allocG w3 (.cells #[.int .i64 0, .int .i64 0] 30)
    have hbX := HB2.out.trans (hbT.mono HB2.out.size)
    have HB3 := hide (HB1.out.later hbX)
    have HF3 := hide (HF1.out.later hbX)
    have HA3 := hide (HA1.out.trans (hbX.mono HA1.out.size))
    have HT3 := hide (Blk.new w3 30 #[.int .i64 0, .int .i64 0])
    generalize hwX : w3.alloc (.cells #[.int .i64 0, .int .i64 0] 30) = X3 at HB3 HF3 HA3 HT3 ⊢
    clear hwX hbT hbX HB2
    go_upto_region 5 with (first
      | (refine wpList_load_blk HT3.out Try.underlying30 rfl Try.sizeFaultA rfl rfl rfl ?_)
      | (go_at_call 94; refine (HN.out X3 HB3.out).mono ?_; rintro e w4 ⟨rfl, hb4⟩; have HB4 := hide (HB3.out.later hb4); have HF4 := hide (HF3.out.later hb4); have HA4 := hide (HA3.out.trans (hb4.mono HA3.out.size)); clear hb4))
    clear HT3 HB3 HF3 HA3 HB1 HF1 HA1 HB0 HR0 HA0 HC2 HS HN
    have s1 := HB4.out.blk.cell 1
    have s3 := HB4.out.blk.cell 3
    have bl := HB4.out.blk.lt
    simp at s1 s3
    obtain ⟨⟨px, py⟩, hP⟩ : ∃ K, K = splitF (parts b.sl) (k : Int) row 0 b.nx := ⟨_, rfl⟩
    have HP := hide hP
    have HPZ := hide (splitF_z2 (l := parts b.sl) (at_ := (k : Int)) (row := row) (left := 0) (right := b.nx))
    have HPO := hide (fun W (hW : Below w4.heap.size w4 W) => partsOf_any _ b.sl W (RdG.ofOwns (HB4.out.later hW).slo) (by omega))
    have HSP := hide (fun W v (hv : RdG pE W v (parts b.sl)) => (Split_any v (parts b.sl) k row 0 b.nx W hv HWF.out))
    rw [← hP] at HSP HPZ HE1 HBD1
    unfold flt at HSP
    dsimp only at HSP
    clear hP
    have HKEEP : Hid (∀ W, Below w4.heap.size w4 W → W.cell? ⟨B, 1, none⟩ = some (.slice sa b.sl.length sc) ∧ W.cell? ⟨B, 3, none⟩ = some (.int .i64 b.nx)) := hide (fun W hW => ⟨cell_belowG s1 hW, cell_belowG s3 hW⟩)
    have HDR := hide (show Below w4.heap.size w4 w4.drew from Below.drew (Below.refl _ _))
    go_cut [9, 10] from 22 to 39 (fun lv rv wx => ∃ r : Nat, rv = .pointer (some ⟨r, 0, none⟩) ∧ RdG pE wx lv (splitR (parts b.sl) k row 0 b.nx) ∧ Blk wx r 30 #[.int .i64 px, .int .i64 py] ∧ Below w4.heap.size w4 wx ∧ New w4.heap.size lv)
    case first =>
      as_aux_lemma =>
        refine wp_region_heldD (S := fun W => W.cell? ⟨B, 1, none⟩ = some (.slice sa b.sl.length sc) ∧ W.cell? ⟨B, 3, none⟩ = some (.int .i64 b.nx)) (n := 20) (l := (upB 20 0).toArray) (by kernel_rfl) (by kernel_rfl) (by kernel_rfl) (by kernel_rfl) (HKEEP.out _ HDR.out) (fun HNS hHeld => ?_)
        refine wpAnyH_takeD (l' := (upB 20 1).toArray) (i := 0) (fuel := 19) (v := ?vr5x1) rfl HNS.out (by kernel_rfl) (by kernel_rfl) (by kernel_rfl) (fun _ _ _ h => h) (by kernel_rfl) ?yr5x1 hHeld ?rr5x1
        case yr5x1 => (intro W hSw; go_simp; first | done | with_reducible rfl)
        try simp only [Act.put, List.setIfInBounds_toArray, List.set_cons_zero, List.set_cons_succ]
        refine wpAnyH_takeD (l' := (upB 20 2).toArray) (i := 1) (fuel := 18) (v := ?vr5x2) rfl HNS.out (by kernel_rfl) (by kernel_rfl) (by kernel_rfl) (fun _ _ _ h => h) (by kernel_rfl) ?yr5x2 hHeld ?rr5x2
        case yr5x2 => (intro W hSw; go_simp; first | done | with_reducible rfl)
        try simp only [Act.put, List.setIfInBounds_toArray, List.set_cons_zero, List.set_cons_succ]
        refine wpAnyH_takeD (l' := (upB 20 3).toArray) (i := 2) (fuel := 17) (v := ?vr5x3) rfl HNS.out (by kernel_rfl) (by kernel_rfl) (by kernel_rfl) (fun _ _ _ h => h) (by kernel_rfl) ?yr5x3 hHeld ?rr5x3
        case yr5x3 => (intro W hSw; go_simp; first | done | with_reducible rfl)
        try simp only [Act.put, List.setIfInBounds_toArray, List.set_cons_zero, List.set_cons_succ]
        refine wpAnyH_takeD (l' := (upB 20 4).toArray) (i := 3) (fuel := 16) (v := ?vr5x4) rfl HNS.out (by kernel_rfl) (by kernel_rfl) (by kernel_rfl) (fun _ _ _ h => h) (by kernel_rfl) ?yr5x4 hHeld ?rr5x4
        case yr5x4 => (intro W hSw; go_simp; first | done | with_reducible rfl)
        try simp only [Act.put, List.setIfInBounds_toArray, List.set_cons_zero, List.set_cons_succ]
        refine wpAnyH_takeD (l' := (upB 20 5).toArray) (i := 4) (fuel := 15) (v := ?vr5x5) rfl HNS.out (by kernel_rfl) (by kernel_rfl) (by kernel_rfl) (fun _ _ _ h => h) (by kernel_rfl) ?yr5x5 hHeld ?rr5x5
        case yr5x5 => (intro W hSw; (try dsimp only at hSw); go_simp; first | done | with_reducible rfl)
        try simp only [Act.put, List.setIfInBounds_toArray, List.set_cons_zero, List.set_cons_succ]
        refine wpAnyH_takeD (l' := #[true, true, true, true, true, false, true, false, false, false, false, false, false, false, false, false, false, false, false, false]) (i := 6) (fuel := 14) (v := ?vr5x6) rfl HNS.out (by kernel_rfl) (by kernel_rfl) (by kernel_rfl) (fun _ _ _ h => h) (by kernel_rfl) ?yr5x6 hHeld ?rr5x6
        case yr5x6 => (intro W hSw; go_simp; first | done | with_reducible rfl)
        try simp only [Act.put, List.setIfInBounds_toArray, List.set_cons_zero, List.set_cons_succ]
        refine wpAnyH_takeD (l' := #[true, true, true, true, true, false, true, true, false, false, false, false, false, false, false, false, false, false, false, false]) (i := 7) (fuel := 13) (v := ?vr5x7) rfl HNS.out (by kernel_rfl) (by kernel_rfl) (by kernel_rfl) (fun _ _ _ h => h) (by kernel_rfl) ?yr5x7 hHeld ?rr5x7
        case yr5x7 => (intro W hSw; go_simp; first | done | with_reducible rfl)
        try simp only [Act.put, List.setIfInBounds_toArray, List.set_cons_zero, List.set_cons_succ]
        refine wpAnyH_takeD (l' := #[true, true, true, true, true, false, true, true, true, false, false, false, false, false, false, false, false, false, false, false]) (i := 8) (fuel := 12) (v := ?vr5x8) rfl HNS.out (by kernel_rfl) (by kernel_rfl) (by kernel_rfl) (fun _ _ _ h => h) (by kernel_rfl) ?yr5x8 hHeld ?rr5x8
        case yr5x8 => (intro W hSw; go_simp; first | done | with_reducible rfl)
        try simp only [Act.put, List.setIfInBounds_toArray, List.set_cons_zero, List.set_cons_succ]
        refine wpAnyH_takeD (l' := #[true, true, true, true, true, false, true, true, true, true, false, false, false, false, false, false, false, false, false, false]) (i := 9) (fuel := 11) (v := ?vr5x9) rfl HNS.out (by kernel_rfl) (by kernel_rfl) (by kernel_rfl) (fun _ _ _ h => h) (by kernel_rfl) ?yr5x9 hHeld ?rr5x9
        case yr5x9 => (intro W hSw; go_simp; first | done | with_reducible rfl)
        try simp only [Act.put, List.setIfInBounds_toArray, List.set_cons_zero, List.set_cons_succ]
        refine wpAnyH_takeD (l' := #[true, true, true, true, true, false, true, true, true, true, true, false, false, false, false, false, false, false, false, false]) (i := 10) (fuel := 10) (v := ?vr5x10) rfl HNS.out (by kernel_rfl) (by kernel_rfl) (by kernel_rfl) (fun _ _ _ h => h) (by kernel_rfl) ?yr5x10 hHeld ?rr5x10
        case yr5x10 => (intro W hSw; go_simp; first | done | with_reducible rfl)
        try simp only [Act.put, List.setIfInBounds_toArray, List.set_cons_zero, List.set_cons_succ]
        refine wpAnyH_takeD (l' := #[true, true, true, true, true, false, true, true, true, true, true, true, false, false, false, false, false, false, false, false]) (i := 11) (fuel := 9) (v := ?vr5x11) rfl HNS.out (by kernel_rfl) (by kernel_rfl) (by kernel_rfl) (fun _ _ _ h => h) (by kernel_rfl) ?yr5x11 hHeld ?rr5x11
        case yr5x11 => (intro W hSw; go_simp; first | done | with_reducible rfl)
        try simp only [Act.put, List.setIfInBounds_toArray, List.set_cons_zero, List.set_cons_succ]
        refine wpAnyH_takeD (l' := #[true, true, true, true, true, false, true, true, true, true, true, true, true, false, false, false, false, false, false, false]) (i := 12) (fuel := 8) (v := ?vr5x12) rfl HNS.out (by kernel_rfl) (by kernel_rfl) (by kernel_rfl) (fun _ _ _ h => h) (by kernel_rfl) ?yr5x12 hHeld ?rr5x12
        case yr5x12 => (intro W hSw; (try dsimp only at hSw); go_simp; first | done | with_reducible rfl)
        try simp only [Act.put, List.setIfInBounds_toArray, List.set_cons_zero, List.set_cons_succ]
        refine wpAnyH_twoD (li := (upB 20 13).toArray) (lj := #[true, true, true, true, true, false, true, true, true, true, true, true, true, false, false, false, false, true, false, false]) (i := 5) (j := 17) (fuel := 7) rfl rfl (by kernel_rfl) (by kernel_rfl) (by kernel_rfl) (fun Kc hK => ?_) (fun Kc hK => ?_)
        · skip
          go_simp
          go_at_call 96
          refine (HPO.out _ HDR.out).mono ?_
          rintro e w5 ⟨v5, rfl, ho5, hb5⟩
          have HO5 := hide ho5
          have HB5 := hide (Below.trans HDR.out (hb5.mono (Below.size HDR.out)))
          have HX5 := hide hb5
          clear ho5 hb5
          go_wp2_with fail
          refine hK.out _ _ (HKEEP.out _ HB5.out) (fun _ => ?_)
          clear hK Kc
          try simp only [Act.put, List.setIfInBounds_toArray, List.set_cons_zero, List.set_cons_succ]
          refine wpAnyH_twoD (li := (upB 20 14).toArray) (lj := #[true, true, true, true, true, true, true, true, true, true, true, true, true, false, false, false, false, true, false, false]) (i := 13) (j := 17) (fuel := 6) rfl rfl (by kernel_rfl) (by kernel_rfl) (by kernel_rfl) (fun Kc hK => ?_) (fun Kc hK => ?_)
          · skip
            go_simp
            go_at_call 95
            refine (HSP.out _ _ (RdG.ofOwns HO5.out)).mono ?_
            rintro e w6 ⟨v6, rfl, hr6, hb6, hn6⟩
            have HR6 := hide hr6
            have HX6 := hide hb6
            have HB6 := hide (Below.trans HB5.out (hb6.mono (Below.size HB5.out)))
            have HN6 := hide (hn6.mono (Below.size HB5.out))
            clear hr6 hb6 hn6
            go_wp2_with fail
            refine hK.out _ _ (HKEEP.out _ HB6.out) (fun _ => ?_)
            clear hK Kc
            try simp only [Act.put, List.setIfInBounds_toArray, List.set_cons_zero, List.set_cons_succ]
            refine wpAnyH_takeD (l' := (upB 20 15).toArray) (i := 14) (fuel := 5) (v := ?vr5x17) rfl HNS.out (by kernel_rfl) (by kernel_rfl) (by kernel_rfl) (fun _ _ _ h => h) (by kernel_rfl) ?yr5x17 (HKEEP.out _ HB6.out) ?rr5x17
            case yr5x17 => (intro W hSw; go_simp; first | done | with_reducible rfl)
            try simp only [Act.put, List.setIfInBounds_toArray, List.set_cons_zero, List.set_cons_succ]
            refine wpAnyH_takeD (l' := (upB 20 16).toArray) (i := 15) (fuel := 4) (v := ?vr5x18) rfl HNS.out (by kernel_rfl) (by kernel_rfl) (by kernel_rfl) (fun _ _ _ h => h) (by kernel_rfl) ?yr5x18 (HKEEP.out _ HB6.out) ?rr5x18
            case yr5x18 => (intro W hSw; go_simp; first | done | with_reducible rfl)
            try simp only [Act.put, List.setIfInBounds_toArray, List.set_cons_zero, List.set_cons_succ]
            refine wpAnyH_takeD (l' := (upB 20 17).toArray) (i := 16) (fuel := 3) (v := ?vr5x19) rfl HNS.out (by kernel_rfl) (by kernel_rfl) (by kernel_rfl) (fun _ _ _ h => h) (by kernel_rfl) ?yr5x19 (HKEEP.out _ HB6.out) ?rr5x19
            case yr5x19 => (intro W hSw; go_simp; first | done | with_reducible rfl)
            try simp only [Act.put, List.setIfInBounds_toArray, List.set_cons_zero, List.set_cons_succ]
            refine wpAnyH_oneD (l' := (upB 20 18).toArray) (i := 17) (fuel := 2) rfl (by kernel_rfl) (by kernel_rfl) (fun Kc hK => ?_)
            go_simp
            go_wp2_with fail
            have HQ2 := hide (Blk.new w6 30 #[.int .i64 0, .int .i64 0])
            have HA2 := hide (Below.trans HB6.out ((below_allocG w6 (.cells #[.int .i64 0, .int .i64 0] 30)).mono (Below.size HB6.out)))
            refine hK.out _ _ (HKEEP.out _ HA2.out) (fun _ => ?_)
            clear hK Kc
            try simp only [Act.put, List.setIfInBounds_toArray, List.set_cons_zero, List.set_cons_succ]
            refine wpAnyH_takeD (l' := (upB 20 19).toArray) (i := 18) (fuel := 1) (v := ?vr5x20) rfl HNS.out (by kernel_rfl) (by kernel_rfl) (by kernel_rfl) (fun _ _ _ h => h) (by kernel_rfl) ?yr5x20 (HKEEP.out _ HA2.out) ?rr5x20
            case yr5x20 => (intro W hSw; go_simp; first | done | with_reducible rfl)
            try simp only [Act.put, List.setIfInBounds_toArray, List.set_cons_zero, List.set_cons_succ]
            refine wpAnyH_oneD (l' := (upB 20 20).toArray) (i := 19) (fuel := 0) rfl (by kernel_rfl) (by kernel_rfl) (fun Kc hK => ?_)
            refine step_store_blk rfl rfl rfl rfl HQ2.out rfl Try.sizeFaultA rfl ?_
            intro w9 hQ9 hg9
            have HB9 := hide (below_grownO HA2.out hg9 (fun k hk => by cases hk; first | done | (have := HB6.out.size; omega)) (Below.size HA2.out))
            have HR9 := hide (RdG.noP (HR6.out.below (below_allocG w6 (.cells #[.int .i64 0, .int .i64 0] 30))) hg9 HQ2.out rfl)
            refine hK.out _ _ (HKEEP.out _ HB9.out) (fun _ => ?_)
            clear hK Kc
            try simp only [Act.put]
            refine wpAnyH_done (by kernel_rfl) ?_ _
            go_wp2_with fail
            go_meet
            case rel => exact ⟨_, rfl, HR9.out, hQ9, HB9.out, HN6.out⟩
          · skip
            go_simp
            go_wp2_with fail
            have HQ3 := hide (Blk.new w5 30 #[.int .i64 0, .int .i64 0])
            have HA3 := hide (Below.trans HB5.out ((below_allocG w5 (.cells #[.int .i64 0, .int .i64 0] 30)).mono (Below.size HB5.out)))
            refine hK.out _ _ (HKEEP.out _ HA3.out) (fun _ => ?_)
            clear hK Kc
            try simp only [Act.put, List.setIfInBounds_toArray, List.set_cons_zero, List.set_cons_succ]
            refine wpAnyH_oneD (l' := #[true, true, true, true, true, true, true, true, true, true, true, true, true, true, false, false, false, true, false, false]) (i := 13) (fuel := 5) rfl (by kernel_rfl) (by kernel_rfl) (fun Kc hK => ?_)
            go_simp
            go_at_call 95
            refine (HSP.out _ _ ((RdG.ofOwns HO5.out).below (below_allocG w5 (.cells #[.int .i64 0, .int .i64 0] 30)))).mono ?_
            rintro e w6 ⟨v6, rfl, hr6, hb6, hn6⟩
            have HR6 := hide hr6
            have HX6 := hide hb6
            have HB6 := hide (Below.trans HA3.out (hb6.mono (Below.size HA3.out)))
            have HN6 := hide (hn6.mono (Below.size HA3.out))
            clear hr6 hb6 hn6
            go_wp2_with fail
            refine hK.out _ _ (HKEEP.out _ HB6.out) (fun _ => ?_)
            clear hK Kc
            try simp only [Act.put, List.setIfInBounds_toArray, List.set_cons_zero, List.set_cons_succ]
            refine wpAnyH_takeD (l' := #[true, true, true, true, true, true, true, true, true, true, true, true, true, true, true, false, false, true, false, false]) (i := 14) (fuel := 4) (v := ?vr5x21) rfl HNS.out (by kernel_rfl) (by kernel_rfl) (by kernel_rfl) (fun _ _ _ h => h) (by kernel_rfl) ?yr5x21 (HKEEP.out _ HB6.out) ?rr5x21
            case yr5x21 => (intro W hSw; go_simp; first | done | with_reducible rfl)
            try simp only [Act.put, List.setIfInBounds_toArray, List.set_cons_zero, List.set_cons_succ]
            refine wpAnyH_takeD (l' := #[true, true, true, true, true, true, true, true, true, true, true, true, true, true, true, true, false, true, false, false]) (i := 15) (fuel := 3) (v := ?vr5x22) rfl HNS.out (by kernel_rfl) (by kernel_rfl) (by kernel_rfl) (fun _ _ _ h => h) (by kernel_rfl) ?yr5x22 (HKEEP.out _ HB6.out) ?rr5x22
            case yr5x22 => (intro W hSw; go_simp; first | done | with_reducible rfl)
            try simp only [Act.put, List.setIfInBounds_toArray, List.set_cons_zero, List.set_cons_succ]
            refine wpAnyH_takeD (l' := (upB 20 18).toArray) (i := 16) (fuel := 2) (v := ?vr5x23) rfl HNS.out (by kernel_rfl) (by kernel_rfl) (by kernel_rfl) (fun _ _ _ h => h) (by kernel_rfl) ?yr5x23 (HKEEP.out _ HB6.out) ?rr5x23
            case yr5x23 => (intro W hSw; go_simp; first | done | with_reducible rfl)
            try simp only [Act.put, List.setIfInBounds_toArray, List.set_cons_zero, List.set_cons_succ]
            refine wpAnyH_takeD (l' := (upB 20 19).toArray) (i := 18) (fuel := 1) (v := ?vr5x24) rfl HNS.out (by kernel_rfl) (by kernel_rfl) (by kernel_rfl) (fun _ _ _ h => h) (by kernel_rfl) ?yr5x24 (HKEEP.out _ HB6.out) ?rr5x24
            case yr5x24 => (intro W hSw; go_simp; first | done | with_reducible rfl)
            try simp only [Act.put, List.setIfInBounds_toArray, List.set_cons_zero, List.set_cons_succ]
            refine wpAnyH_oneD (l' := (upB 20 20).toArray) (i := 19) (fuel := 0) rfl (by kernel_rfl) (by kernel_rfl) (fun Kc hK => ?_)
            refine step_store_blk rfl rfl rfl rfl (HQ3.out.later HX6.out) rfl Try.sizeFaultA rfl ?_
            intro w9 hQ9 hg9
            have HB9 := hide (below_grownO HB6.out hg9 (fun k hk => by cases hk; first | done | (have := HB5.out.size; omega)) (Below.size HB6.out))
            have HR9 := hide (RdG.noP HR6.out hg9 (HQ3.out.later HX6.out) rfl)
            refine hK.out _ _ (HKEEP.out _ HB9.out) (fun _ => ?_)
            clear hK Kc
            try simp only [Act.put]
            refine wpAnyH_done (by kernel_rfl) ?_ _
            go_wp2_with fail
            go_meet
            case rel => exact ⟨_, rfl, HR9.out, hQ9, HB9.out, HN6.out⟩
        · skip
          go_simp
          go_wp2_with fail
          have HQ1 := hide (Blk.new w4.drew 30 #[.int .i64 0, .int .i64 0])
          have HA1 := hide (Below.trans HDR.out ((below_allocG w4.drew (.cells #[.int .i64 0, .int .i64 0] 30)).mono (Below.size HDR.out)))
          refine hK.out _ _ (HKEEP.out _ HA1.out) (fun _ => ?_)
          clear hK Kc
          try simp only [Act.put, List.setIfInBounds_toArray, List.set_cons_zero, List.set_cons_succ]
          refine wpAnyH_oneD (l' := #[true, true, true, true, true, true, true, true, true, true, true, true, true, false, false, false, false, true, false, false]) (i := 5) (fuel := 6) rfl (by kernel_rfl) (by kernel_rfl) (fun Kc hK => ?_)
          go_simp
          go_at_call 96
          refine (HPO.out _ HA1.out).mono ?_
          rintro e w5 ⟨v5, rfl, ho5, hb5⟩
          have HO5 := hide ho5
          have HB5 := hide (Below.trans HA1.out (hb5.mono (Below.size HA1.out)))
          have HX5 := hide hb5
          clear ho5 hb5
          go_wp2_with fail
          refine hK.out _ _ (HKEEP.out _ HB5.out) (fun _ => ?_)
          clear hK Kc
          try simp only [Act.put, List.setIfInBounds_toArray, List.set_cons_zero, List.set_cons_succ]
          refine wpAnyH_oneD (l' := #[true, true, true, true, true, true, true, true, true, true, true, true, true, true, false, false, false, true, false, false]) (i := 13) (fuel := 5) rfl (by kernel_rfl) (by kernel_rfl) (fun Kc hK => ?_)
          go_simp
          go_at_call 95
          refine (HSP.out _ _ (RdG.ofOwns HO5.out)).mono ?_
          rintro e w6 ⟨v6, rfl, hr6, hb6, hn6⟩
          have HR6 := hide hr6
          have HX6 := hide hb6
          have HB6 := hide (Below.trans HB5.out (hb6.mono (Below.size HB5.out)))
          have HN6 := hide (hn6.mono (Below.size HB5.out))
          clear hr6 hb6 hn6
          go_wp2_with fail
          refine hK.out _ _ (HKEEP.out _ HB6.out) (fun _ => ?_)
          clear hK Kc
          try simp only [Act.put, List.setIfInBounds_toArray, List.set_cons_zero, List.set_cons_succ]
          refine wpAnyH_takeD (l' := #[true, true, true, true, true, true, true, true, true, true, true, true, true, true, true, false, false, true, false, false]) (i := 14) (fuel := 4) (v := ?vr5x13) rfl HNS.out (by kernel_rfl) (by kernel_rfl) (by kernel_rfl) (fun _ _ _ h => h) (by kernel_rfl) ?yr5x13 (HKEEP.out _ HB6.out) ?rr5x13
          case yr5x13 => (intro W hSw; go_simp; first | done | with_reducible rfl)
          try simp only [Act.put, List.setIfInBounds_toArray, List.set_cons_zero, List.set_cons_succ]
          refine wpAnyH_takeD (l' := #[true, true, true, true, true, true, true, true, true, true, true, true, true, true, true, true, false, true, false, false]) (i := 15) (fuel := 3) (v := ?vr5x14) rfl HNS.out (by kernel_rfl) (by kernel_rfl) (by kernel_rfl) (fun _ _ _ h => h) (by kernel_rfl) ?yr5x14 (HKEEP.out _ HB6.out) ?rr5x14
          case yr5x14 => (intro W hSw; go_simp; first | done | with_reducible rfl)
          try simp only [Act.put, List.setIfInBounds_toArray, List.set_cons_zero, List.set_cons_succ]
          refine wpAnyH_takeD (l' := (upB 20 18).toArray) (i := 16) (fuel := 2) (v := ?vr5x15) rfl HNS.out (by kernel_rfl) (by kernel_rfl) (by kernel_rfl) (fun _ _ _ h => h) (by kernel_rfl) ?yr5x15 (HKEEP.out _ HB6.out) ?rr5x15
          case yr5x15 => (intro W hSw; go_simp; first | done | with_reducible rfl)
          try simp only [Act.put, List.setIfInBounds_toArray, List.set_cons_zero, List.set_cons_succ]
          refine wpAnyH_takeD (l' := (upB 20 19).toArray) (i := 18) (fuel := 1) (v := ?vr5x16) rfl HNS.out (by kernel_rfl) (by kernel_rfl) (by kernel_rfl) (fun _ _ _ h => h) (by kernel_rfl) ?yr5x16 (HKEEP.out _ HB6.out) ?rr5x16
          case yr5x16 => (intro W hSw; go_simp; first | done | with_reducible rfl)
          try simp only [Act.put, List.setIfInBounds_toArray, List.set_cons_zero, List.set_cons_succ]
          refine wpAnyH_oneD (l' := (upB 20 20).toArray) (i := 19) (fuel := 0) rfl (by kernel_rfl) (by kernel_rfl) (fun Kc hK => ?_)
          refine step_store_blk rfl rfl rfl rfl ((HQ1.out.later HX5.out).later HX6.out) rfl Try.sizeFaultA rfl ?_
          intro w9 hQ9 hg9
          have HB9 := hide (below_grownO HB6.out hg9 (fun k hk => by cases hk; first | done | (have := HDR.out.size; omega)) (Below.size HB6.out))
          have HR9 := hide (RdG.noP HR6.out hg9 ((HQ1.out.later HX5.out).later HX6.out) rfl)
          refine hK.out _ _ (HKEEP.out _ HB9.out) (fun _ => ?_)
          clear hK Kc
          try simp only [Act.put]
          refine wpAnyH_done (by kernel_rfl) ?_ _
          go_wp2_with fail
          go_meet
          case rel => exact ⟨_, rfl, HR9.out, hQ9, HB9.out, HN6.out⟩
    case rest =>
      obtain ⟨r, rfl, hrl, hrB, hbx, hnw⟩ := hcut
      obtain ⟨lo, lc, rfl, _, _⟩ := hrl.shape
      have HBx := hide (HB4.out.later hbx)
      have HFx := hide (HF4.out.later hbx)
      have HAx := hide (HA4.out.trans (hbx.mono HA4.out.size))
      have HT3 := hide hrB
      have HRL := hide hrl
      have HNW := hide hnw
      have HWX := hide hbx.size
      have HSZ := hide (show w.heap.size < w4.heap.size from HF4.out.lt)
      have HSL := hide (fun q (h : Value.ownBlock (.slice sa b.sl.length sc) = some q) => (HB4.out.slo.lt q h).2)
      have HSH := hide (fun q (h : Value.ownBlock (.slice ha b.hs.length hc) = some q) => (HB4.out.hos.lt q h).2)
      clear hrl hrB hbx hnw s1 s3 bl HKEEP HDR HPO HSP HB4 HF4 HA4
      by_cases hx0 : px ≠ 0
      · have f1 : (px == 0) = false := beq_eq_false_iff_ne.2 hx0
        have f2 : (px != 0) = true := by simp [hx0]
        have HE := hide (HE1.out.trans (if_pos hx0))
        have HBD := hide (HBD1.out.trans (if_pos hx0))
        clear hx0 hgx hx
        go_wp2_with (first
          | (refine wpList_load_blk HT3.out Try.underlying30 rfl Try.sizeFaultA rfl rfl rfl ?_)
          | (refine wpList_store_blk rfl rfl rfl rfl HFx.out rfl Try.sizeFaultA rfl ?_; intro w8 hF8 hg8; have HF8 := hide hF8; have HB8 := hide (HBx.out.off HFx.out hg8 (by decide) (by decide) (by decide)); have HA8 := hide (below_grownO HAx.out hg8 (fun k hk => by cases hk; omega) HAx.out.size); clear hF8 hg8))
        refine bodyPost_ret (v := .agg #[.int .i64 px, .int .i64 py]) (results1_cell Try.results65 rfl (run_loadVar_blk HF8.out Try.underlying30 rfl Try.sizeFaultA)) rfl ?_
        exact ⟨by rw [HE.out]; rfl, by rw [HBD.out]; exact ⟨_, _, HB8.out⟩, KpB.of_below HA8.out⟩
      obtain rfl : px = 0 := Decidable.not_not.1 hx0
      obtain rfl : py = 0 := HPZ.out rfl
      have HE := hide (HE1.out.trans (if_neg (by simp)))
      have HBD := hide (HBD1.out.trans (if_neg (by simp)))
      have hsp : spP b k row = [⟨x.p.fr, row, 0⟩, ⟨row, x.p.to_, b.nx⟩] := by unfold spP; rw [hgx]
      rw [hsp] at HE HBD
      have hpl : (parts b.sl).length = b.sl.length := by unfold parts; rw [List.length_map]
      have hpx : (parts b.sl).getD k zeroPt = x.p := by
        unfold parts
        rw [List.getD_eq_getElem?_getD, List.getElem?_map, hx]
        rfl
      have hsr : splitR (parts b.sl) k row 0 b.nx = (parts b.sl).take k ++ [⟨x.p.fr, row, 0⟩, ⟨row, x.p.to_, b.nx⟩] ++ (parts b.sl).drop (k + 1) := by
        unfold splitR
        rw [← HP.out, if_pos rfl]
        unfold splitL
        rw [Int.toNat_natCast, hpx]
      have htk : ((parts b.sl).take k).length = k := by rw [List.length_take, hpl]; omega
      have hl1 : (splitR (parts b.sl) k row 0 b.nx)[k]? = some ⟨x.p.fr, row, 0⟩ := by
        rw [hsr, List.append_assoc, List.getElem?_append_right (by omega), htk, Nat.sub_self]
        rfl
      have hl2 : (splitR (parts b.sl) k row 0 b.nx)[k + 1]? = some ⟨row, x.p.to_, b.nx⟩ := by
        rw [hsr, List.append_assoc, List.getElem?_append_right (by omega), htk, show k + 1 - k = 1 by omega]
        rfl
      obtain ⟨lb, lf, hlo, hlb, hat1⟩ := HRL.out.here hl1
      obtain ⟨lb', lf', hlo', _, hat2⟩ := HRL.out.here hl2
      subst hlo
      simp only [Option.some.injEq, Addr.mk.injEq] at hlo'
      obtain ⟨rfl, rfl, -⟩ := hlo'
      have hlln : (splitR (parts b.sl) k row 0 b.nx).length = b.sl.length + 1 := by
        rw [hsr]
        simp only [List.length_append, htk, List.length_drop, hpl, List.length_cons, List.length_nil]
        omega
      rw [hlln]
      obtain ⟨c0, c1, c2⟩ := hat1.part
      obtain ⟨q0, q1, q2⟩ := hat2.part
      have hlw := HNW.out _ _ _ rfl
      clear hx0 hgx hx hsp hpl hpx hsr htk hl1 hl2 hat1 hat2 hlln HE1 HBD1 HPZ
      go_upto_region 8 with (refine wpList_load_blk HT3.out Try.underlying30 rfl Try.sizeFaultA rfl rfl rfl ?_)
      clear HT3 HRL
      have hwk : IntKind.i64.wrap ((k : Int) + 1) = (k : Int) + 1 := by rw [IntKind.wrap_i64]; omega
      have hk1 : (0 : Int) ≤ (k : Int) := by omega
      have hk2 : (k : Int) < (b.sl.length : Int) + 1 := by omega
      have hk3 : (k : Int) + 1 < (b.sl.length : Int) + 1 := by omega
      have hk4 : (0 : Int) ≤ (k : Int) + 1 := by omega
      have HC := hide (fun (W : World) (hB : BdAt W base B b (.slice ha b.hs.length hc) (.slice sa b.sl.length sc)) (hs : base ≤ W.heap.size) (lv : Value) (hl : W.ownsRow 0 44 3 lv 2 (pE.vs [⟨x.p.fr, row, 0⟩, ⟨row, x.p.to_, b.nx⟩])) =>
        renew_any base B b _ _ k (k + 1) (k : Int) ((k : Int) + 1) [⟨x.p.fr, row, 0⟩, ⟨row, x.p.to_, b.nx⟩] lv W hB hs hl (by simp) (by simp) ⟨by have := HOK.out.nx; omega, HOK.out.nx.2⟩ (replSplit hkl (by omega)))
      generalize hRF : renF b [⟨x.p.fr, row, 0⟩, ⟨row, x.p.to_, b.nx⟩] = RF at HE HC
      generalize hRB : renB b k (k + 1) [⟨x.p.fr, row, 0⟩, ⟨row, x.p.to_, b.nx⟩] = RB at HBD HC
      obtain ⟨fx, fy⟩ := RF
      clear hRF hRB
      have HS8 : Hid (∀ W : World, W.heap[lb]? = wc.heap[lb]? → W.cell? ⟨lb, lf + k * 3, none⟩ = some (.string x.p.fr) ∧ W.cell? ⟨lb, lf + k * 3 + 1, none⟩ = some (.string row) ∧ W.cell? ⟨lb, lf + k * 3 + 2, none⟩ = some (.int .i64 0) ∧ W.cell? ⟨lb, lf + (k + 1) * 3, none⟩ = some (.string row) ∧ W.cell? ⟨lb, lf + (k + 1) * 3 + 1, none⟩ = some (.string x.p.to_) ∧ W.cell? ⟨lb, lf + (k + 1) * 3 + 2, none⟩ = some (.int .i64 b.nx)) := hide (fun W hW => ⟨(World.cell?_of_block hW).trans c0, (World.cell?_of_block hW).trans c1, (World.cell?_of_block hW).trans c2, (World.cell?_of_block hW).trans q0, (World.cell?_of_block hW).trans q1, (World.cell?_of_block hW).trans q2⟩)
      have hbT := below_allocG wc.drew (.cells #[.string x.p.fr, .string row, .int .i64 0, .string row, .string x.p.to_, .int .i64 b.nx] 44)
      have hbX := (show Below wc.heap.size wc wc.drew from Below.drew (Below.refl _ _)).trans hbT
      have HBy := hide (HBx.out.later hbX)
      have HFy := hide (HFx.out.later hbX)
      have HAy := hide (HAx.out.trans (hbX.mono HAx.out.size))
      have HLB := hide hlb
      have HSY := hide (show (wc.drew.alloc (.cells #[.string x.p.fr, .string row, .int .i64 0, .string row, .string x.p.to_, .int .i64 b.nx] 44)).heap[lb]? = wc.heap[lb]? from hbX.block lb hlb)
      have hLy : (wc.drew.alloc (.cells #[.string x.p.fr, .string row, .int .i64 0, .string row, .string x.p.to_, .int .i64 b.nx] 44)).ownsRow 0 44 3 (.slice (some ⟨wc.drew.heap.size, 0, none⟩) 2 2) 2 (pE.vs [⟨x.p.fr, row, 0⟩, ⟨row, x.p.to_, b.nx⟩]) :=
        World.ownsRow_lit _ #[.string x.p.fr, .string row, .int .i64 0, .string row, .string x.p.to_, .int .i64 b.nx] 2 (Nat.zero_le _) (by decide) rfl
      have HC2 := hide (HC.out _ HBy.out (Nat.le_trans HBW.out HAy.out.size) _ hLy)
      unfold DoneB flt at HC2
      dsimp only at HC2
      clear HC hLy hbT hbX HBx HFx HAx c0 c1 c2 q0 q1 q2 hlb
      refine wp_region_heldD (S := fun W => W.cell? ⟨lb, lf + k * 3, none⟩ = some (.string x.p.fr) ∧ W.cell? ⟨lb, lf + k * 3 + 1, none⟩ = some (.string row) ∧ W.cell? ⟨lb, lf + k * 3 + 2, none⟩ = some (.int .i64 0) ∧ W.cell? ⟨lb, lf + (k + 1) * 3, none⟩ = some (.string row) ∧ W.cell? ⟨lb, lf + (k + 1) * 3 + 1, none⟩ = some (.string x.p.to_) ∧ W.cell? ⟨lb, lf + (k + 1) * 3 + 2, none⟩ = some (.int .i64 b.nx)) (n := 16) (l := (upB 16 0).toArray) (by kernel_rfl) (by kernel_rfl) (by kernel_rfl) (by kernel_rfl) (HS8.out _ rfl) (fun HNS hHeld => ?_)
      refine wpAnyH_takeD (l' := (upB 16 1).toArray) (i := 0) (fuel := 15) (v := ?vr8x0) rfl HNS.out (by kernel_rfl) (by kernel_rfl) (by kernel_rfl) (fun _ _ _ h => h) (by kernel_rfl) ?yr8x0 hHeld ?rr8x0
      case yr8x0 => (intro W hSw; go_simp; first | done | with_reducible rfl)
      try simp only [Act.put, List.setIfInBounds_toArray, List.set_cons_zero, List.set_cons_succ]
      refine wpAnyH_takeD (l' := (upB 16 2).toArray) (i := 1) (fuel := 14) (v := ?vr8x1) rfl HNS.out (by kernel_rfl) (by kernel_rfl) (by kernel_rfl) (fun _ _ _ h => h) (by kernel_rfl) ?yr8x1 hHeld ?rr8x1
      case yr8x1 => (intro W hSw; go_simp; first | done | with_reducible rfl)
      try simp only [Act.put, List.setIfInBounds_toArray, List.set_cons_zero, List.set_cons_succ]
      refine wpAnyH_takeD (l' := (upB 16 3).toArray) (i := 2) (fuel := 13) (v := ?vr8x2) rfl HNS.out (by kernel_rfl) (by kernel_rfl) (by kernel_rfl) (fun _ _ _ h => h) (by kernel_rfl) ?yr8x2 hHeld ?rr8x2
      case yr8x2 => (intro W hSw; go_simp; first | done | with_reducible rfl)
      try simp only [Act.put, List.setIfInBounds_toArray, List.set_cons_zero, List.set_cons_succ]
      refine wpAnyH_takeD (l' := (upB 16 4).toArray) (i := 3) (fuel := 12) (v := ?vr8x3) rfl HNS.out (by kernel_rfl) (by kernel_rfl) (by kernel_rfl) (fun _ _ _ h => h) (by kernel_rfl) ?yr8x3 hHeld ?rr8x3
      case yr8x3 => (intro W hSw; go_simp; first | done | with_reducible rfl)
      try simp only [Act.put, List.setIfInBounds_toArray, List.set_cons_zero, List.set_cons_succ]
      refine wpAnyH_takeD (l' := (upB 16 5).toArray) (i := 4) (fuel := 11) (v := ?vr8x4) rfl HNS.out (by kernel_rfl) (by kernel_rfl) (by kernel_rfl) (fun _ _ _ h => h) (by kernel_rfl) ?yr8x4 hHeld ?rr8x4
      case yr8x4 => (intro W hSw; go_simp; first | done | with_reducible rfl)
      try simp only [Act.put, List.setIfInBounds_toArray, List.set_cons_zero, List.set_cons_succ]
      refine wpAnyH_takeD (l' := (upB 16 6).toArray) (i := 5) (fuel := 10) (v := ?vr8x5) rfl HNS.out (by kernel_rfl) (by kernel_rfl) (by kernel_rfl) (fun _ _ _ h => h) (by kernel_rfl) ?yr8x5 hHeld ?rr8x5
      case yr8x5 => (intro W hSw; go_simp; first | done | with_reducible rfl)
      try simp only [Act.put, List.setIfInBounds_toArray, List.set_cons_zero, List.set_cons_succ]
      refine wpAnyH_takeD (l' := (upB 16 7).toArray) (i := 6) (fuel := 9) (v := ?vr8x6) rfl HNS.out (by kernel_rfl) (by kernel_rfl) (by kernel_rfl) (fun _ _ _ h => h) (by kernel_rfl) ?yr8x6 hHeld ?rr8x6
      case yr8x6 => (intro W hSw; go_simp; first | done | with_reducible rfl)
      try simp only [Act.put, List.setIfInBounds_toArray, List.set_cons_zero, List.set_cons_succ]
      refine wpAnyH_takeD (l' := (upB 16 8).toArray) (i := 7) (fuel := 8) (v := ?vr8x7) rfl HNS.out (by kernel_rfl) (by kernel_rfl) (by kernel_rfl) (fun _ _ _ h => h) (by kernel_rfl) ?yr8x7 hHeld ?rr8x7
      case yr8x7 => (intro W hSw; (try dsimp only at hSw); go_simp; first | done | with_reducible rfl)
      try simp only [Act.put, List.setIfInBounds_toArray, List.set_cons_zero, List.set_cons_succ]
      refine wpAnyH_takeD (l' := (upB 16 9).toArray) (i := 8) (fuel := 7) (v := ?vr8x8) rfl HNS.out (by kernel_rfl) (by kernel_rfl) (by kernel_rfl) (fun _ _ _ h => h) (by kernel_rfl) ?yr8x8 hHeld ?rr8x8
      case yr8x8 => (intro W hSw; go_simp; first | done | with_reducible rfl)
      try simp only [Act.put, List.setIfInBounds_toArray, List.set_cons_zero, List.set_cons_succ]
      refine wpAnyH_takeD (l' := (upB 16 10).toArray) (i := 9) (fuel := 6) (v := ?vr8x9) rfl HNS.out (by kernel_rfl) (by kernel_rfl) (by kernel_rfl) (fun _ _ _ h => h) (by kernel_rfl) ?yr8x9 hHeld ?rr8x9
      case yr8x9 => (intro W hSw; go_simp; first | done | with_reducible rfl)
      try simp only [Act.put, List.setIfInBounds_toArray, List.set_cons_zero, List.set_cons_succ]
      refine wpAnyH_takeD (l' := (upB 16 11).toArray) (i := 10) (fuel := 5) (v := ?vr8x10) rfl HNS.out (by kernel_rfl) (by kernel_rfl) (by kernel_rfl) (fun _ _ _ h => h) (by kernel_rfl) ?yr8x10 hHeld ?rr8x10
      case yr8x10 => (intro W hSw; go_simp; first | done | with_reducible rfl)
      try simp only [Act.put, List.setIfInBounds_toArray, List.set_cons_zero, List.set_cons_succ]
      refine wpAnyH_takeD (l' := (upB 16 12).toArray) (i := 11) (fuel := 4) (v := ?vr8x11) rfl HNS.out (by kernel_rfl) (by kernel_rfl) (by kernel_rfl) (fun _ _ _ h => h) (by kernel_rfl) ?yr8x11 hHeld ?rr8x11
      case yr8x11 => (intro W hSw; go_simp; first | done | with_reducible rfl)
      try simp only [Act.put, List.setIfInBounds_toArray, List.set_cons_zero, List.set_cons_succ]
      refine wpAnyH_takeD (l' := (upB 16 13).toArray) (i := 12) (fuel := 3) (v := ?vr8x12) rfl HNS.out (by kernel_rfl) (by kernel_rfl) (by kernel_rfl) (fun _ _ _ h => h) (by kernel_rfl) ?yr8x12 hHeld ?rr8x12
      case yr8x12 => (intro W hSw; (try dsimp only at hSw); go_simp; first | done | with_reducible rfl)
      try simp only [Act.put, List.setIfInBounds_toArray, List.set_cons_zero, List.set_cons_succ]
      refine wpAnyH_oneD (l' := (upB 16 14).toArray) (i := 13) (fuel := 2) rfl (by kernel_rfl) (by kernel_rfl) (fun Kc hK => ?_)
      go_simp
      go_wp2_with fail
      refine hK.out _ _ (HS8.out _ HSY.out) (fun _ => ?_)
      clear hK Kc
      try simp only [Act.put, List.setIfInBounds_toArray, List.set_cons_zero, List.set_cons_succ]
      refine wpAnyH_oneD (l' := (upB 16 15).toArray) (i := 14) (fuel := 1) rfl (by kernel_rfl) (by kernel_rfl) (fun Kc hK => ?_)
      go_simp
      go_at_call 97
      refine HC2.out.mono ?_
      rintro e w5 ⟨rfl, ⟨hv5, sv5, hb5⟩, hk5⟩
      have HB5 := hide hb5
      have HF5 := hide (hk5.blk HBy.out HFy.out (by decide) (by decide) (by decide))
      have HK5 := hide (KpB.after HAy.out hk5)
      have HS5 := hide (show w5.heap[lb]? = wc.heap[lb]? from (hk5.block lb (Nat.lt_of_lt_of_le HLB.out (by simp)) (by have := HBL.out; have := HSZ.out; omega) (fun q => by have := HSH.out lb q.symm; omega) (fun q => by have := HSL.out lb q.symm; omega)).trans HSY.out)
      clear hb5 hk5
      go_wp2_with fail
      refine hK.out _ _ (HS8.out _ HS5.out) (fun _ => ?_)
      clear hK Kc
      try simp only [Act.put, List.setIfInBounds_toArray, List.set_cons_zero, List.set_cons_succ]
      refine wpAnyH_oneD (l' := (upB 16 16).toArray) (i := 15) (fuel := 0) rfl (by kernel_rfl) (by kernel_rfl) (fun Kc hK => ?_)
      refine step_store_blk rfl rfl rfl rfl HF5.out rfl Try.sizeFaultA rfl ?_
      intro w8 hF8 hg8
      have HF8 := hide hF8
      have HB8 := hide (HB5.out.off HF5.out hg8 (by decide) (by decide) (by decide))
      have HK8 := hide (HK5.out.step hg8 (.inr (.inr (.inr (fun k hk => by cases hk; omega)))))
      have HS9 := hide (show w8.heap[lb]? = wc.heap[lb]? from (hg8.block lb (by have := HLB.out; have := HAy.out.size; have h5 := HF5.out.lt; exact (Array.getElem?_eq_some_iff.1 (HS5.out.trans (Array.getElem?_eq_getElem HLB.out))).1) (fun q => by have := HSZ.out; cases q; omega)).trans HS5.out)
      refine hK.out _ _ (HS8.out _ HS9.out) (fun _ => ?_)
      clear hK Kc
      try simp only [Act.put]
      refine wpAnyH_done (by kernel_rfl) ?_ _
      go_wp2_with fail
      refine bodyPost_ret (v := .agg #[.int .i64 fx, .int .i64 fy]) (results1_cell Try.results65 rfl (run_loadVar_blk HF8.out Try.underlying30 rfl Try.sizeFaultA)) rfl ?_
      exact ⟨by rw [HE.out]; rfl, by rw [HBD.out]; exact ⟨_, _, HB8.out⟩, HK8.out⟩


end Go.Proofs.Ytoeobhehjnkkkaa
