/-
  Texts joined: AsW12.
-/
import Derived.Test.YtoeobhehjnkkkaaMLocateDoesAsW11
/-
  The walk over give of package assign. (Written by gen_as12.py.)
-/
namespace Go.Proofs.Ytoeobhehjnkkkaa
open Go.RowKit Go.Maps
set_option linter.unusedVariables false

/-- Is the first host of an ID Alive? -/
def alH (l : List Ho) (id : Int) : Bool :=
  match idxH l id with
  | none => false
  | some j => (l.getD j zeroHo).al

def giveF (b : Bd) (id host : Int) : Int × Int :=
  match idxS b.sl id with
  | none => (6, -1)
  | some k => if alH b.hs host = false then (6, -2) else if (b.sl.getD k zeroSl).st ≠ 0 then (11, -1) else if b.tu = 1000000000 then (9, 0) else (0, 0)

def giveB (b : Bd) (id host : Int) : Bd :=
  if (giveF b id host).1 = 0 then match idxS b.sl id with
    | none => b
    | some k => { b with tu := b.tu + 1, sl := b.sl.set k ⟨(b.sl.getD k zeroSl).p, 1, host, b.tu + 1⟩ }
  else b

theorem alH_none {l : List Ho} {id : Int} (h : idxH l id = none) : alH l id = false := by
  unfold alH
  rw [h]

theorem alH_some {l : List Ho} {id : Int} {j : Nat} {x : Ho} (h : idxH l id = some j) (hx : l[j]? = some x) : alH l id = x.al := by
  have hgd : l.getD j zeroHo = x := by rw [List.getD_eq_getElem?_getD, hx]; rfl
  unfold alH
  rw [h]
  simp only [hgd]

theorem giveF_none {b : Bd} {id host : Int} (hi : idxS b.sl id = none) : giveF b id host = (6, -1) := by
  unfold giveF
  rw [hi]

theorem giveF_some {b : Bd} {id host : Int} {k : Nat} {x : Sl} (hi : idxS b.sl id = some k) (hx : b.sl[k]? = some x) : giveF b id host = if alH b.hs host = false then (6, -2) else if x.st ≠ 0 then (11, -1) else if b.tu = 1000000000 then (9, 0) else (0, 0) := by
  have hgd : b.sl.getD k zeroSl = x := by rw [List.getD_eq_getElem?_getD, hx]; rfl
  unfold giveF
  rw [hi]
  simp only [hgd]

theorem giveB_bad {b : Bd} {id host : Int} {f : Int × Int} (h : giveF b id host = f) (h0 : f.1 ≠ 0) : giveB b id host = b := by
  unfold giveB
  rw [h, if_neg h0]

theorem giveB_some {b : Bd} {id host : Int} {k : Nat} {x : Sl} (h : giveF b id host = (0, 0)) (hi : idxS b.sl id = some k) (hx : b.sl[k]? = some x) : giveB b id host = { b with tu := b.tu + 1, sl := b.sl.set k ⟨x.p, 1, host, b.tu + 1⟩ } := by
  have hgd : b.sl.getD k zeroSl = x := by rw [List.getD_eq_getElem?_getD, hx]; rfl
  unfold giveB
  rw [h, if_pos rfl, hi]
  simp only [hgd]

theorem slF_some {l : List Sl} {k : Nat} {st : Int} {x : Sl} (hx : l[k]? = some x) : slF l (some k) st = if x.st ≠ st then (11, -1) else (0, 0) := by
  have hgd : l.getD k zeroSl = x := by rw [List.getD_eq_getElem?_getD, hx]; rfl
  simp only [slF, hgd]

set_option maxRecDepth 100000 in
set_option maxHeartbeats 8000000 in
theorem give_any (base B : Nat) (b : Bd) (hv sv : Value) (id host : Int) (w : World) (h : BdAt w base B b hv sv) (hl : b.hs.length ≤ 1000) (ht : 0 ≤ b.tu ∧ b.tu ≤ 1000000000) :
    Calls Try.prog 61 #[.pointer (some ⟨B, 0, none⟩), .int .i64 id, .int .i64 host] w (DoneB w base B hv sv (giveB b id host) (giveF b id host)) := by
  have HBAD := hide (fun f h h0 => giveB_bad (b := b) (id := id) (host := host) (f := f) h h0)
  have HC0 := hide (fun hi => giveF_none (b := b) (id := id) (host := host) hi)
  have HCS := hide (fun k x hi hx => giveF_some (b := b) (id := id) (host := host) (k := k) (x := x) hi hx)
  have HSM := hide (fun k x h hi hx => giveB_some (b := b) (id := id) (host := host) (k := k) (x := x) h hi hx)
  have HSS := hide (fun k (hk : idxS b.sl id = some k) => idxS_some hk)
  have HHS := hide (fun k (hk : idxH b.hs host = some k) => idxH_some hk)
  have hA := below_allocG w (.cells #[.int .i64 0, .int .i64 0] 30)
  have HF0 := hide (Blk.new w 30 #[.int .i64 0, .int .i64 0])
  have HA0 := hide hA
  have HB0 := hide (h.later hA)
  have HTU := hide ht
  generalize hW : w.alloc (.cells #[.int .i64 0, .int .i64 0] 30) = W0 at HF0 HA0 HB0
  have HW := hide hW
  obtain ⟨ah, ch, rfl⟩ := owns_shapeA h.hos
  obtain ⟨as_, cs, rfl⟩ := owns_shapeA h.slo
  have HS := hide (slot_any base B b _ _ id W0 HB0.out)
  have HH := hide (fun W (hW : BdAt W base B b (.slice ah b.hs.length ch) (.slice as_ b.sl.length cs)) => host_any base B b _ _ host W hW hl)
  generalize hCB : giveB b id host = CB at *
  generalize hCFv : giveF b id host = CF at *
  clear h hA hl ht hW hCB hCFv
  unfold DoneB
  cases hi : idxS b.sl id with
  | none =>
    have HE := hide (HC0.out hi)
    have HBD := hide (HBAD.out _ HE.out (by decide))
    have HSF : Hid (slF b.sl none 0 = (6, -1)) := hide rfl
    rw [hi] at HS
    rw [elP_none] at HS
    obtain ⟨hp, hhp⟩ : ∃ hp, hp = elP (.slice ah b.hs.length ch) 3 (idxH b.hs host) := ⟨_, rfl⟩
    rw [← hhp] at HH
    clear hi hhp
    go_enter Try.func61, Try.ntmps61
    go_upto_region 1 with fail
    rw [HW.out]
    clear HW
    go_upto_region 2 with (first
      | (go_at_call 91; refine HS.out.mono ?_; rintro e w1 ⟨rfl, hb1⟩; have HB1 := hide (HB0.out.later hb1); have HF1 := hide (HF0.out.later hb1); have HA1 := hide (HA0.out.trans (hb1.mono HA0.out.size)); clear hb1)
      | (go_at_call 88; refine (HH.out w1 HB1.out).mono ?_; rintro e w2 ⟨rfl, hw2⟩; rw [hw2]; clear hw2))
    go_upto_region 4 with fail
    have HC2 := hide (slotFault_nil b.sl (.slice as_ b.sl.length cs) 0 w1)
    rw [HSF.out] at HC2
    unfold flt at HC2
    go_upto_region 5 with (go_at_call 92; refine HC2.out.mono ?_; rintro e w3 ⟨rfl, hb2⟩; have HB2 := hide hb2; clear hb2)
    have hbT := below_allocG w3 (.cells #[.int .i64 6, .int .i64 (-1)] 30)
    have hbX := HB2.out.trans (hbT.mono HB2.out.size)
    have HB3 := hide (HB1.out.later hbX)
    have HF3 := hide (HF1.out.later hbX)
    have HA3 := hide (HA1.out.trans (hbX.mono HA1.out.size))
    have HT3 := hide (Blk.new w3 30 #[.int .i64 6, .int .i64 (-1)])
    generalize hwX : w3.alloc (.cells #[.int .i64 6, .int .i64 (-1)] 30) = X3 at HB3 HF3 HA3 HT3 ⊢
    clear hwX hbT hbX HB2 HC2
    go_wp2_with (first
      | (refine wpList_load_blk HT3.out Try.underlying30 rfl Try.sizeFaultA rfl rfl rfl ?_)
      | (refine wpList_store_blk rfl rfl rfl rfl HF3.out rfl Try.sizeFaultA rfl ?_; intro w8 hF8 hg8; have HF8 := hide hF8; have HB8 := hide (HB3.out.off HF3.out hg8 (by decide) (by decide) (by decide)); have HA8 := hide (below_grownO HA3.out hg8 (fun k hk => by cases hk; omega) HA3.out.size); clear hF8 hg8))
    refine bodyPost_ret (v := .agg #[.int .i64 6, .int .i64 (-1)]) (results1_cell Try.results61 rfl (run_loadVar_blk HF8.out Try.underlying30 rfl Try.sizeFaultA)) rfl ?_
    exact ⟨by rw [HE.out]; rfl, by rw [HBD.out]; exact ⟨_, _, HB8.out⟩, KpB.of_below HA8.out⟩
  | some k =>
    obtain ⟨x, hx, hxi⟩ := HSS.out k hi
    have HK := hide ((List.getElem?_eq_some_iff.1 hx).1)
    have HX := hide hx
    have HC1 := hide (HCS.out k x hi hx)
    have HSM1 := hide (fun hq => HSM.out k x hq hi hx)
    have HSF0 := hide (slF_some (st := 0) hx)
    obtain ⟨g, cap, hve, hg1, hg2, hat⟩ := owns_here HB0.out.slo hx
    simp only [Value.slice.injEq] at hve
    obtain ⟨rfl, hne, rfl⟩ := hve
    rw [hi] at HS
    rw [elP_some] at HS
    clear hi hx hxi hat hg1 hg2 hne HSS HCS HSM HC0
    cases hj : idxH b.hs host with
    | none =>
      have HE := hide (HC1.out.trans (if_pos (alH_none hj)))
      have HBD := hide (HBAD.out _ HE.out (by decide))
      rw [hj] at HH
      simp only [elP_none] at HH
      clear hj
      go_enter Try.func61, Try.ntmps61
      go_upto_region 1 with fail
      rw [HW.out]
      clear HW
      go_upto_region 2 with (first
      | (go_at_call 91; refine HS.out.mono ?_; rintro e w1 ⟨rfl, hb1⟩; have HB1 := hide (HB0.out.later hb1); have HF1 := hide (HF0.out.later hb1); have HA1 := hide (HA0.out.trans (hb1.mono HA0.out.size)); clear hb1)
      | (go_at_call 88; refine (HH.out w1 HB1.out).mono ?_; rintro e w2 ⟨rfl, hw2⟩; rw [hw2]; clear hw2))
      go_wp2_with (refine wpList_store_blk rfl rfl rfl rfl HF1.out rfl Try.sizeFaultA rfl ?_; intro w8 hF8 hg8; have HF8 := hide hF8; have HB8 := hide (HB1.out.off HF1.out hg8 (by decide) (by decide) (by decide)); have HA8 := hide (below_grownO HA1.out hg8 (fun k hk => by cases hk; omega) HA1.out.size); clear hF8 hg8)
      refine bodyPost_ret (v := .agg #[.int .i64 6, .int .i64 (-2)]) (results1_cell Try.results61 rfl (run_loadVar_blk HF8.out Try.underlying30 rfl Try.sizeFaultA)) rfl ?_
      exact ⟨by rw [HE.out]; rfl, by rw [HBD.out]; exact ⟨_, _, HB8.out⟩, KpB.of_below HA8.out⟩
    | some j =>
      obtain ⟨y, hy, _⟩ := HHS.out j hj
      have HY := hide hy
      have HAL := hide (alH_some hj hy)
      obtain ⟨g2, cap2, hve, _, _, _⟩ := owns_here HB0.out.hos hy
      simp only [Value.slice.injEq] at hve
      obtain ⟨rfl, hne, rfl⟩ := hve
      rw [hj] at HH
      simp only [elP_some] at HH
      clear hj hy hne HHS
      go_enter Try.func61, Try.ntmps61
      go_upto_region 1 with fail
      rw [HW.out]
      clear HW
      go_upto_region 2 with (first
      | (go_at_call 91; refine HS.out.mono ?_; rintro e w1 ⟨rfl, hb1⟩; have HB1 := hide (HB0.out.later hb1); have HF1 := hide (HF0.out.later hb1); have HA1 := hide (HA0.out.trans (hb1.mono HA0.out.size)); clear hb1)
      | (go_at_call 88; refine (HH.out w1 HB1.out).mono ?_; rintro e w2 ⟨rfl, hw2⟩; rw [hw2]; clear hw2))
      obtain ⟨g3, cap3, hve, _, hgl, hat⟩ := owns_here HB1.out.hos HY.out
      simp only [Value.slice.injEq, Option.some.injEq, Addr.mk.injEq] at hve
      obtain ⟨⟨rfl, -, -⟩, -, rfl⟩ := hve
      obtain ⟨c0, c1, c2⟩ := hat.host
      clear hat c0 c1
      cases ha : y.al
      case false =>
        rw [ha] at c2
        have HE := hide (HC1.out.trans (if_pos (HAL.out.trans ha)))
        have HBD := hide (HBAD.out _ HE.out (by decide))
        clear ha
        go_wp2_with (refine wpList_store_blk rfl rfl rfl rfl HF1.out rfl Try.sizeFaultA rfl ?_; intro w8 hF8 hg8; have HF8 := hide hF8; have HB8 := hide (HB1.out.off HF1.out hg8 (by decide) (by decide) (by decide)); have HA8 := hide (below_grownO HA1.out hg8 (fun k hk => by cases hk; omega) HA1.out.size); clear hF8 hg8)
        refine bodyPost_ret (v := .agg #[.int .i64 6, .int .i64 (-2)]) (results1_cell Try.results61 rfl (run_loadVar_blk HF8.out Try.underlying30 rfl Try.sizeFaultA)) rfl ?_
        exact ⟨by rw [HE.out]; rfl, by rw [HBD.out]; exact ⟨_, _, HB8.out⟩, KpB.of_below HA8.out⟩
      rw [ha] at c2
      have HC2 := hide (HC1.out.trans (if_neg (by rw [HAL.out, ha]; simp)))
      clear ha HC1
      go_upto_region 4 with fail
      clear c2 hgl
      by_cases hs : x.st ≠ 0
      · have HE := hide (HC2.out.trans (if_pos hs))
        have HBD := hide (HBAD.out _ HE.out (by decide))
        have HSF := hide (HSF0.out.trans (if_pos hs))
        clear hs HSF0 HC2
        have HC2 := hide (slotFault_some base b.sl _ k 0 w1 HB1.out.slo HK.out)
        rw [elP_some, HSF.out] at HC2
        unfold flt at HC2
        go_upto_region 5 with (go_at_call 92; refine HC2.out.mono ?_; rintro e w3 ⟨rfl, hb2⟩; have HB2 := hide hb2; clear hb2)
        have hbT := below_allocG w3 (.cells #[.int .i64 11, .int .i64 (-1)] 30)
        have hbX := HB2.out.trans (hbT.mono HB2.out.size)
        have HB3 := hide (HB1.out.later hbX)
        have HF3 := hide (HF1.out.later hbX)
        have HA3 := hide (HA1.out.trans (hbX.mono HA1.out.size))
        have HT3 := hide (Blk.new w3 30 #[.int .i64 11, .int .i64 (-1)])
        generalize hwX : w3.alloc (.cells #[.int .i64 11, .int .i64 (-1)] 30) = X3 at HB3 HF3 HA3 HT3 ⊢
        clear hwX hbT hbX HB2 HC2
        go_wp2_with (first
          | (refine wpList_load_blk HT3.out Try.underlying30 rfl Try.sizeFaultA rfl rfl rfl ?_)
          | (refine wpList_store_blk rfl rfl rfl rfl HF3.out rfl Try.sizeFaultA rfl ?_; intro w8 hF8 hg8; have HF8 := hide hF8; have HB8 := hide (HB3.out.off HF3.out hg8 (by decide) (by decide) (by decide)); have HA8 := hide (below_grownO HA3.out hg8 (fun k hk => by cases hk; omega) HA3.out.size); clear hF8 hg8))
        refine bodyPost_ret (v := .agg #[.int .i64 11, .int .i64 (-1)]) (results1_cell Try.results61 rfl (run_loadVar_blk HF8.out Try.underlying30 rfl Try.sizeFaultA)) rfl ?_
        exact ⟨by rw [HE.out]; rfl, by rw [HBD.out]; exact ⟨_, _, HB8.out⟩, KpB.of_below HA8.out⟩
      have HC3 := hide (HC2.out.trans (if_neg hs))
      have HSF := hide (HSF0.out.trans (if_neg hs))
      clear hs HSF0 HC2
      have HC2 := hide (slotFault_some base b.sl _ k 0 w1 HB1.out.slo HK.out)
      rw [elP_some, HSF.out] at HC2
      unfold flt at HC2
      go_upto_region 5 with (go_at_call 92; refine HC2.out.mono ?_; rintro e w3 ⟨rfl, hb2⟩; have HB2 := hide hb2; clear hb2)
      have hbT := below_allocG w3 (.cells #[.int .i64 0, .int .i64 0] 30)
      have hbX := HB2.out.trans (hbT.mono HB2.out.size)
      have HB3 := hide (HB1.out.later hbX)
      have HF3 := hide (HF1.out.later hbX)
      have HA3 := hide (HA1.out.trans (hbX.mono HA1.out.size))
      have HT3 := hide (Blk.new w3 30 #[.int .i64 0, .int .i64 0])
      generalize hwX : w3.alloc (.cells #[.int .i64 0, .int .i64 0] 30) = X3 at HB3 HF3 HA3 HT3 ⊢
      clear hwX hbT hbX HB2 HC2
      have b2 := HB3.out.blk.cell 2
      have bl := HB3.out.blk.lt
      simp only [List.getElem?_toArray, List.getElem?_cons_succ, List.getElem?_cons_zero] at b2
      obtain ⟨ht1, ht2⟩ := HTU.out
      by_cases hm : b.tu = 1000000000
      · have HE := hide (HC3.out.trans (if_pos hm))
        have HBD := hide (HBAD.out _ HE.out (by decide))
        have e1 : (b.tu == 1000000000) = true := by simp [hm]
        clear hm ht1 ht2
        go_wp2_with (first
          | (refine wpList_load_blk HT3.out Try.underlying30 rfl Try.sizeFaultA rfl rfl rfl ?_)
          | (refine wpList_store_blk rfl rfl rfl rfl HF3.out rfl Try.sizeFaultA rfl ?_; intro w8 hF8 hg8; have HF8 := hide hF8; have HB8 := hide (HB3.out.off HF3.out hg8 (by decide) (by decide) (by decide)); have HA8 := hide (below_grownO HA3.out hg8 (fun k hk => by cases hk; omega) HA3.out.size); clear hF8 hg8))
        refine bodyPost_ret (v := .agg #[.int .i64 9, .int .i64 0]) (results1_cell Try.results61 rfl (run_loadVar_blk HF8.out Try.underlying30 rfl Try.sizeFaultA)) rfl ?_
        exact ⟨by rw [HE.out]; rfl, by rw [HBD.out]; exact ⟨_, _, HB8.out⟩, KpB.of_below HA8.out⟩
      have HE := hide (HC3.out.trans (if_neg hm))
      have HBD := hide (HSM1.out HE.out)
      have e1 : (b.tu == 1000000000) = false := beq_eq_false_iff_ne.2 hm
      have hw : IntKind.i64.wrap (b.tu + 1) = b.tu + 1 := by rw [IntKind.wrap_i64]; omega
      have HX2 := hide (show (b.sl.set k { x with st := 1 })[k]? = some { x with st := 1 } by rw [List.getElem?_set_self HK.out])
      have HX3 := hide (show (b.sl.set k { x with st := 1, ho := host })[k]? = some { x with st := 1, ho := host } by rw [List.getElem?_set_self HK.out])
      have HS2 := hide (show (b.sl.set k { x with st := 1 }).set k { x with st := 1, ho := host } = b.sl.set k { x with st := 1, ho := host } by rw [List.set_set])
      have HS3 := hide (show (b.sl.set k { x with st := 1, ho := host }).set k ⟨x.p, 1, host, b.tu + 1⟩ = b.sl.set k ⟨x.p, 1, host, b.tu + 1⟩ by rw [List.set_set])
      have HSZ := hide HA1.out.size
      clear hm ht1 ht2
      go_upto_region 10 with (first
        | (refine wpList_load_blk HT3.out Try.underlying30 rfl Try.sizeFaultA rfl rfl rfl ?_)
        | (refine wpList_store_int (k := 2) rfl rfl rfl rfl HB3.out.blk rfl Try.sizeInt1 ?_; intro w4 hB4 hg4; have HB4 := hide (BdAt.mk (b := { b with tu := b.tu + 1 }) (show Blk w4 B 80 #[.slice (some ⟨g2, 0, none⟩) b.hs.length ch, .slice (some ⟨g, 0, none⟩) b.sl.length cs, .int .i64 (b.tu + 1), .int .i64 b.nx] from hB4) (owns_grownO HB3.out.hos hg4 (.inr (owns_off HB3.out.hos HB3.out.blk (by decide)))) (owns_grownO HB3.out.slo hg4 (.inr (owns_off HB3.out.slo HB3.out.blk (by decide)))) HB3.out.low); have HF4 := hide (HF3.out.grown hg4 (fun q => by simp only [Option.some.injEq] at q; have e1 := HF3.out; have e2 := HB3.out.blk; unfold Blk at e1 e2; rw [q, e2] at e1; simp at e1)); have HK4 := hide ((KpB.of_below (B := B) (hv := .slice (some ⟨g2, 0, none⟩) b.hs.length ch) (sv := .slice (some ⟨g, 0, none⟩) b.sl.length cs) HA3.out).step hg4 (.inl rfl)); clear hB4 hg4))
      clear b2 bl e1
      try dsimp only [Act.put]
      have b2 := HB4.out.blk.cell 2
      have bl := HB4.out.blk.lt
      simp only [List.getElem?_toArray, List.getElem?_cons_succ, List.getElem?_cons_zero] at b2
      go_wp2_with (first
        | (refine wpList_store_field (E := slE) (j := k) (k := 3) (c' := { x with st := 1 }) HB4.out.slo HX.out (by decide) rfl rfl rfl rfl rfl rfl Try.sizeInt1 ?_; intro w5 ho5 hg5; have HO5 := hide ho5; have HB5 := hide (HB4.out.slots (sl := b.sl.set k { x with st := 1 }) hg5 (by rw [List.length_set]; exact ho5) rfl); have HF5 := hide (HF4.out.grown hg5 (fun q => owns_off HB4.out.slo HF4.out (by decide) (by simp [Value.ownBlock]; simpa using q.symm))); have HK5 := hide (HK4.out.step hg5 (.inr (.inr (.inl rfl)))); clear ho5 hg5)
        | (refine wpList_store_field (E := slE) (j := k) (k := 4) (c' := { x with st := 1, ho := host }) HO5.out HX2.out (by decide) rfl rfl rfl rfl rfl rfl Try.sizeInt1 ?_; intro w6 ho6 hg6; rw [HS2.out] at ho6; have HO6 := hide ho6; have HB6 := hide (HB5.out.slots (sl := b.sl.set k { x with st := 1, ho := host }) hg6 (by rw [List.length_set]; exact ho6) (by simp)); have HF6 := hide (HF5.out.grown hg6 (fun q => owns_off HB5.out.slo HF5.out (by decide) (by simp [Value.ownBlock]; simpa using q.symm))); have HK6 := hide (HK5.out.step hg6 (.inr (.inr (.inl rfl)))); clear ho6 hg6)
        | (refine wpList_store_field (E := slE) (j := k) (k := 5) (c' := ⟨x.p, 1, host, b.tu + 1⟩) HO6.out HX3.out (by decide) rfl rfl rfl rfl rfl rfl Try.sizeInt1 ?_; intro w7 ho7 hg7; rw [HS3.out] at ho7; have HB7 := hide (HB6.out.slots (sl := b.sl.set k ⟨x.p, 1, host, b.tu + 1⟩) hg7 (by rw [List.length_set]; exact ho7) (by simp)); have HF7 := hide (HF6.out.grown hg7 (fun q => owns_off HB6.out.slo HF6.out (by decide) (by simp [Value.ownBlock]; simpa using q.symm))); have HK7 := hide (HK6.out.step hg7 (.inr (.inr (.inl rfl)))); clear ho7 hg7)
        | (refine wpList_store_blk rfl rfl rfl rfl HF7.out rfl Try.sizeFaultA rfl ?_; intro w8 hF8 hg8; have HF8 := hide hF8; have HB8 := hide (HB7.out.off HF7.out hg8 (by decide) (by decide) (by decide)); have HK8 := hide (HK7.out.step hg8 (.inr (.inr (.inr (fun k hk => by cases hk; omega))))); clear hF8 hg8))
      refine bodyPost_ret (v := .agg #[.int .i64 0, .int .i64 0]) (results1_cell Try.results61 rfl (run_loadVar_blk HF8.out Try.underlying30 rfl Try.sizeFaultA)) rfl ?_
      exact ⟨by rw [HE.out]; rfl, by rw [HBD.out]; exact ⟨_, _, HB8.out⟩, HK8.out⟩

end Go.Proofs.Ytoeobhehjnkkkaa
