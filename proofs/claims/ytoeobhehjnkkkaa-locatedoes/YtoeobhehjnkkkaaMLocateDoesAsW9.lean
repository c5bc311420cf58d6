/-
  Texts joined: AsW9.
-/
import Derived.Test.YtoeobhehjnkkkaaMLocateDoesAsW8
/-
  The walks over opened, close and closed of package assign. (Written by as9.py.)
-/
namespace Go.Proofs.Ytoeobhehjnkkkaa
open Go.RowKit Go.Maps
set_option linter.unusedVariables false

theorem Try.sizeOrder : (Try.prog.info? 50).map (·.size) = some 5 := by kernel_rfl

/-- A board of which a slot is another one, if there is no fault. -/
def actS (b : Bd) (i : Option Nat) (f : Int × Int) (g : Sl → Sl) : Bd :=
  match i with
  | none => b
  | some k => if f.1 = 0 then { b with sl := b.sl.set k (g (b.sl.getD k zeroSl)) } else b

theorem actS_none (b : Bd) (f : Int × Int) (g : Sl → Sl) : actS b none f g = b := rfl
theorem actS_bad {b : Bd} {i : Option Nat} {f : Int × Int} {g : Sl → Sl} (h : f.1 ≠ 0) : actS b i f g = b := by
  cases i with
  | none => rfl
  | some k => exact if_neg h
theorem actS_ok {b : Bd} {k : Nat} {f : Int × Int} {g : Sl → Sl} {x : Sl} (h : f.1 = 0) (hx : b.sl[k]? = some x) : actS b (some k) f g = { b with sl := b.sl.set k (g x) } := by
  have hgd : b.sl.getD k zeroSl = x := by rw [List.getD_eq_getElem?_getD, hx]; rfl
  simp only [actS, hgd]
  exact if_pos h

theorem slF_z {l : List Sl} {i : Option Nat} {st : Int} (h : (slF l i st).1 = 0) : slF l i st = (0, 0) := by
  unfold slF at h ⊢
  cases i with
  | none => simp at h
  | some k =>
    simp only at h ⊢
    split
    · rename_i q; rw [if_pos q] at h; simp at h
    · rfl

theorem heF_z {l : List Sl} {i : Option Nat} {a t st : Int} (h : (heF l i a t st).1 = 0) : heF l i a t st = (0, 0) := by
  unfold heF at h ⊢
  cases i with
  | none => simp at h
  | some k =>
    simp only at h ⊢
    split
    · rename_i q; rw [if_pos q] at h; simp at h
    · rename_i q; rw [if_neg q] at h; exact slF_z h

/-- What a method of a board leaves. -/
def DoneB (w : World) (base B : Nat) (hv sv : Value) (b : Bd) (f : Int × Int) (e : Ending) (w' : World) : Prop :=
  e = .returned (flt f) ∧ (∃ hv' sv', BdAt w' base B b hv' sv') ∧ KpB w w' B hv sv

set_option maxRecDepth 100000 in
set_option maxHeartbeats 4000000 in
theorem close_any (base B : Nat) (b : Bd) (hv sv : Value) (id : Int) (w : World) (h : BdAt w base B b hv sv) :
    Calls Try.prog 63 #[.pointer (some ⟨B, 0, none⟩), .int .i64 id] w (DoneB w base B hv sv (actS b (idxS b.sl id) (slF b.sl (idxS b.sl id) 2) (fun s => { s with st := 3 })) (slF b.sl (idxS b.sl id) 2)) := by
  have HZ := hide (fun h => slF_z (l := b.sl) (i := (idxS b.sl id)) (st := 2) h)
  have HBAD := hide (fun f h => actS_bad (b := b) (i := (idxS b.sl id)) (f := f) (g := (fun s => { s with st := 3 })) h)
  have HOK := hide (fun k x h1 h2 => actS_ok (b := b) (k := k) (f := (0, 0)) (g := (fun s => { s with st := 3 })) (x := x) h1 h2)
  have HSS := hide (fun k (hk : (idxS b.sl id) = some k) => idxS_some hk)
  have HB := hide h
  obtain ⟨ah, ch, rfl⟩ := owns_shapeA h.hos
  obtain ⟨as_, cs, rfl⟩ := owns_shapeA h.slo
  clear h
  have hA := below_allocG w (.cells #[.int .i64 0, .int .i64 0] 30)
  have HF0 := hide (Blk.new w 30 #[.int .i64 0, .int .i64 0])
  have HA0 := hide hA
  generalize hW : w.alloc (.cells #[.int .i64 0, .int .i64 0] 30) = W0 at HF0 HA0
  have HW := hide hW
  clear hA hW
  have HB0 := hide (HB.out.later HA0.out)
  have HS := hide (slot_any base B b _ _ id W0 HB0.out)
  generalize hFE : slF b.sl (idxS b.sl id) 2 = FE at *
  obtain ⟨fx, fy⟩ := FE
  have HFE := hide hFE
  clear hFE
  unfold DoneB flt
  dsimp only at HZ ⊢
  cases hi : (idxS b.sl id) with
  | none =>
    rw [hi] at HS HFE
    have hx : fx ≠ 0 := by
      have := congrArg Prod.fst HFE.out
      unfold slF at this
      intro q
      rw [q] at this
      simp at this
    have HBD := hide (HBAD.out (fx, fy) hx)
    rw [hi] at HBD
    have q1 : (fx != 0) = true := by simp [hx]
    have q2 : (fx == 0) = false := beq_eq_false_iff_ne.2 hx
    rw [elP_none] at HS
    clear hi hx HOK HSS HZ HBAD
    skip
    go_enter Try.func63, Try.ntmps63
    go_upto_region 1 with fail
    rw [HW.out]
    clear HW
    go_upto_region 2 with (go_at_call 91; refine HS.out.mono ?_; rintro e w1 ⟨rfl, hb1⟩; have HB1 := hide (HB0.out.later hb1); have HF1 := hide (HF0.out.later hb1); have HA1 := hide (HA0.out.trans (hb1.mono HA0.out.size)); clear hb1)
    skip
    have HC2 := hide (slotFault_nil b.sl (.slice as_ b.sl.length cs) 2 w1)
    rw [elP_none] at HC2
    rw [HFE.out] at HC2
    unfold flt at HC2
    go_upto_region 3 with (first
      | (go_at_call 92; refine HC2.out.mono ?_; rintro e w2 ⟨rfl, hb2⟩; have HB2 := hide hb2; clear hb2))
    have hbT := below_allocG w2 (.cells #[.int .i64 fx, .int .i64 fy] 30)
    have hbX := HB2.out.trans (hbT.mono HB2.out.size)
    have HB3 := hide (HB1.out.later hbX)
    have HF3 := hide (HF1.out.later hbX)
    have HA3 := hide (HA1.out.trans (hbX.mono HA1.out.size))
    have HT3 := hide (Blk.new w2 30 #[.int .i64 fx, .int .i64 fy])
    have HNE := hide (show w.heap.size < w2.heap.size from (HF1.out.later HB2.out).lt)
    generalize hwX : w2.alloc (.cells #[.int .i64 fx, .int .i64 fy] 30) = X3 at HB3 HF3 HA3 HT3 ⊢
    clear hwX hbT hbX HB2 HB1 HF1 HA1 HC2
    go_wp2_with (first
      | (refine wpList_load_blk HT3.out Try.underlying30 rfl Try.sizeFaultA rfl rfl rfl ?_)
      | (refine wpList_store_blk rfl rfl rfl rfl HF3.out rfl Try.sizeFaultA rfl ?_; intro w8 hF8 hg8; have HF8 := hide hF8; have HB8 := hide (HB3.out.off HF3.out hg8 (by decide) (by decide) (by decide)); have HA8 := hide (below_grownO HA3.out hg8 (fun k hk => by cases hk; omega) HA3.out.size); clear hF8 hg8))
    refine bodyPost_ret (v := .agg #[.int .i64 fx, .int .i64 fy]) (results1_cell Try.results63 rfl (run_loadVar_blk HF8.out Try.underlying30 rfl Try.sizeFaultA)) rfl ?_
    exact ⟨rfl, by rw [HBD.out]; exact ⟨_, _, HB8.out⟩, KpB.of_below HA8.out⟩
  | some k =>
    obtain ⟨x, hx, hxi⟩ := HSS.out k hi
    have HK := hide ((List.getElem?_eq_some_iff.1 hx).1)
    have HX := hide hx
    obtain ⟨g, cap, hve, hg1, hg2, hat⟩ := owns_here HB.out.slo hx
    simp only [Value.slice.injEq] at hve
    obtain ⟨rfl, _, rfl⟩ := hve
    rw [hi] at HS HFE HBAD
    rw [elP_some] at HS
    clear hi hx hxi hat HSS hg1 hg2
    skip
    go_enter Try.func63, Try.ntmps63
    go_upto_region 1 with fail
    rw [HW.out]
    clear HW
    go_upto_region 2 with (go_at_call 91; refine HS.out.mono ?_; rintro e w1 ⟨rfl, hb1⟩; have HB1 := hide (HB0.out.later hb1); have HF1 := hide (HF0.out.later hb1); have HA1 := hide (HA0.out.trans (hb1.mono HA0.out.size)); clear hb1)
    skip
    have HC2 := hide (slotFault_some base b.sl _ k 2 w1 (HB1.out.slo) HK.out)
    rw [elP_some] at HC2
    rw [HFE.out] at HC2
    unfold flt at HC2
    go_upto_region 3 with (first
      | (go_at_call 92; refine HC2.out.mono ?_; rintro e w2 ⟨rfl, hb2⟩; have HB2 := hide hb2; clear hb2))
    have hbT := below_allocG w2 (.cells #[.int .i64 fx, .int .i64 fy] 30)
    have hbX := HB2.out.trans (hbT.mono HB2.out.size)
    have HB3 := hide (HB1.out.later hbX)
    have HF3 := hide (HF1.out.later hbX)
    have HA3 := hide (HA1.out.trans (hbX.mono HA1.out.size))
    have HT3 := hide (Blk.new w2 30 #[.int .i64 fx, .int .i64 fy])
    have HNE := hide (show w.heap.size < w2.heap.size from (HF1.out.later HB2.out).lt)
    generalize hwX : w2.alloc (.cells #[.int .i64 fx, .int .i64 fy] 30) = X3 at HB3 HF3 HA3 HT3 ⊢
    clear hwX hbT hbX HB2 HB1 HF1 HA1 HC2
    by_cases hx : fx ≠ 0
    · have q1 : (fx != 0) = true := by simp [hx]
      have q2 : (fx == 0) = false := beq_eq_false_iff_ne.2 hx
      have HBD := hide (HBAD.out (fx, fy) hx)
      clear hx HBAD HOK HZ
      go_wp2_with (first
        | (refine wpList_load_blk HT3.out Try.underlying30 rfl Try.sizeFaultA rfl rfl rfl ?_)
        | (refine wpList_store_blk rfl rfl rfl rfl HF3.out rfl Try.sizeFaultA rfl ?_; intro w8 hF8 hg8; have HF8 := hide hF8; have HB8 := hide (HB3.out.off HF3.out hg8 (by decide) (by decide) (by decide)); have HA8 := hide (below_grownO HA3.out hg8 (fun k hk => by cases hk; omega) HA3.out.size); clear hF8 hg8))
      refine bodyPost_ret (v := .agg #[.int .i64 fx, .int .i64 fy]) (results1_cell Try.results63 rfl (run_loadVar_blk HF8.out Try.underlying30 rfl Try.sizeFaultA)) rfl ?_
      exact ⟨rfl, by rw [HBD.out]; exact ⟨_, _, HB8.out⟩, KpB.of_below HA8.out⟩
    obtain rfl : fx = 0 := Decidable.not_not.1 hx
    obtain rfl : fy = 0 := by have := HZ.out rfl; simpa using this
    have HBD := hide (HOK.out k x (by first | rfl | trivial) HX.out)
    clear hx HBAD HOK HZ
    go_wp2_with (first
      | (refine wpList_load_blk HT3.out Try.underlying30 rfl Try.sizeFaultA rfl rfl rfl ?_)
      | (refine wpList_store_field (E := slE) (j := k) (k := 3) (c' := { x with st := 3 }) HB3.out.slo HX.out (by decide) rfl rfl rfl rfl rfl rfl Try.sizeInt1 ?_; intro w4 ho4 hg4; have HB4 := hide (HB3.out.slots hg4 (by rw [List.length_set]; exact ho4) rfl); have HF4 := hide (HF3.out.grown hg4 (fun q => owns_off HB3.out.slo HF3.out (by decide) (by simp [Value.ownBlock]; simpa using q.symm))); have HG4 := hide (grown_via HA3.out hg4); clear ho4 hg4)
      | (refine wpList_store_blk rfl rfl rfl rfl HF4.out rfl Try.sizeFaultA rfl ?_; intro w8 hF8 hg8; have HF8 := hide hF8; have HB8 := hide (HB4.out.off HF4.out hg8 (by decide) (by decide) (by decide)); have HG8 := hide (grown_more HG4.out hg8 (.inl (by omega))); clear hF8 hg8))
    refine bodyPost_ret (v := .agg #[.int .i64 0, .int .i64 0]) (results1_cell Try.results63 rfl (run_loadVar_blk HF8.out Try.underlying30 rfl Try.sizeFaultA)) rfl ?_
    exact ⟨rfl, by rw [HBD.out]; exact ⟨_, _, HB8.out⟩, KpB.of_grown HG8.out (.inr (.inr rfl))⟩

set_option maxRecDepth 100000 in
set_option maxHeartbeats 4000000 in
theorem opened_any (base B : Nat) (b : Bd) (hv sv : Value) (o : Od) (w : World) (h : BdAt w base B b hv sv) :
    Calls Try.prog 62 #[.pointer (some ⟨B, 0, none⟩), odV o] w (DoneB w base B hv sv (actS b (idxS b.sl o.id) (heF b.sl (idxS b.sl o.id) o.ho o.tu 1) (fun s => { s with st := 2 })) (heF b.sl (idxS b.sl o.id) o.ho o.tu 1)) := by
  have HZ := hide (fun h => heF_z (l := b.sl) (i := (idxS b.sl o.id)) (a := o.ho) (t := o.tu) (st := 1) h)
  have HBAD := hide (fun f h => actS_bad (b := b) (i := (idxS b.sl o.id)) (f := f) (g := (fun s => { s with st := 2 })) h)
  have HOK := hide (fun k x h1 h2 => actS_ok (b := b) (k := k) (f := (0, 0)) (g := (fun s => { s with st := 2 })) (x := x) h1 h2)
  have HSS := hide (fun k (hk : (idxS b.sl o.id) = some k) => idxS_some hk)
  have HB := hide h
  obtain ⟨ah, ch, rfl⟩ := owns_shapeA h.hos
  obtain ⟨as_, cs, rfl⟩ := owns_shapeA h.slo
  clear h
  obtain ⟨hOB, hFB, hA⟩ := two_atA w #[.int .i64 o.kind, .int .i64 o.id, .int .i64 o.ho, .int .i64 o.tu, .string o.row] #[.int .i64 0, .int .i64 0] 50 30
  have HO0 := hide hOB
  have HF0 := hide hFB
  have HA0 := hide hA
  have o1 := hOB.cell 1
  have ol := hOB.lt
  simp only [List.getElem?_toArray, List.getElem?_cons_succ, List.getElem?_cons_zero] at o1
  generalize hW : ((w.alloc (.cells #[.int .i64 o.kind, .int .i64 o.id, .int .i64 o.ho, .int .i64 o.tu, .string o.row] 50)).alloc (.cells #[.int .i64 0, .int .i64 0] 30)) = W0 at HO0 HF0 HA0 o1 ol
  have HW := hide hW
  clear hOB hFB hA hW
  have HB0 := hide (HB.out.later HA0.out)
  have HS := hide (slot_any base B b _ _ o.id W0 HB0.out)
  generalize hFE : heF b.sl (idxS b.sl o.id) o.ho o.tu 1 = FE at *
  obtain ⟨fx, fy⟩ := FE
  have HFE := hide hFE
  clear hFE
  unfold DoneB flt
  dsimp only at HZ ⊢
  cases hi : (idxS b.sl o.id) with
  | none =>
    rw [hi] at HS HFE
    have hx : fx ≠ 0 := by
      have := congrArg Prod.fst HFE.out
      unfold heF at this
      intro q
      rw [q] at this
      simp at this
    have HBD := hide (HBAD.out (fx, fy) hx)
    rw [hi] at HBD
    have q1 : (fx != 0) = true := by simp [hx]
    have q2 : (fx == 0) = false := beq_eq_false_iff_ne.2 hx
    rw [elP_none] at HS
    clear hi hx HOK HSS HZ HBAD
    unfold odV
    go_enter Try.func62, Try.ntmps62
    go_upto_region 1 with fail
    rw [HW.out]
    clear HW
    go_upto_region 2 with (go_at_call 91; refine HS.out.mono ?_; rintro e w1 ⟨rfl, hb1⟩; have HB1 := hide (HB0.out.later hb1); have HF1 := hide (HF0.out.later hb1); have HO1 := hide (HO0.out.later hb1); have HA1 := hide (HA0.out.trans (hb1.mono HA0.out.size)); clear hb1)
    clear o1 ol
    have HC2 := hide (heldFault_nil b.sl (.slice as_ b.sl.length cs) o 1 w1)
    rw [elP_none] at HC2
    rw [HFE.out] at HC2
    unfold odV flt at HC2
    go_upto_region 3 with (first
    | (refine wpList_load_blk HO1.out Try.underlying50 rfl Try.sizeOrder rfl rfl rfl ?_)
      | (go_at_call 93; refine HC2.out.mono ?_; rintro e w2 ⟨rfl, hb2⟩; have HB2 := hide hb2; clear hb2))
    have hbT := below_allocG w2 (.cells #[.int .i64 fx, .int .i64 fy] 30)
    have hbX := HB2.out.trans (hbT.mono HB2.out.size)
    have HB3 := hide (HB1.out.later hbX)
    have HF3 := hide (HF1.out.later hbX)
    have HA3 := hide (HA1.out.trans (hbX.mono HA1.out.size))
    have HT3 := hide (Blk.new w2 30 #[.int .i64 fx, .int .i64 fy])
    have HNE := hide (show w.heap.size + 1 < w2.heap.size from (HF1.out.later HB2.out).lt)
    generalize hwX : w2.alloc (.cells #[.int .i64 fx, .int .i64 fy] 30) = X3 at HB3 HF3 HA3 HT3 ⊢
    clear hwX hbT hbX HB2 HB1 HF1 HA1 HC2 HO1
    go_wp2_with (first
      | (refine wpList_load_blk HT3.out Try.underlying30 rfl Try.sizeFaultA rfl rfl rfl ?_)
      | (refine wpList_store_blk rfl rfl rfl rfl HF3.out rfl Try.sizeFaultA rfl ?_; intro w8 hF8 hg8; have HF8 := hide hF8; have HB8 := hide (HB3.out.off HF3.out hg8 (by decide) (by decide) (by decide)); have HA8 := hide (below_grownO HA3.out hg8 (fun k hk => by cases hk; omega) HA3.out.size); clear hF8 hg8))
    refine bodyPost_ret (v := .agg #[.int .i64 fx, .int .i64 fy]) (results1_cell Try.results62 rfl (run_loadVar_blk HF8.out Try.underlying30 rfl Try.sizeFaultA)) rfl ?_
    exact ⟨rfl, by rw [HBD.out]; exact ⟨_, _, HB8.out⟩, KpB.of_below HA8.out⟩
  | some k =>
    obtain ⟨x, hx, hxi⟩ := HSS.out k hi
    have HK := hide ((List.getElem?_eq_some_iff.1 hx).1)
    have HX := hide hx
    obtain ⟨g, cap, hve, hg1, hg2, hat⟩ := owns_here HB.out.slo hx
    simp only [Value.slice.injEq] at hve
    obtain ⟨rfl, _, rfl⟩ := hve
    rw [hi] at HS HFE HBAD
    rw [elP_some] at HS
    clear hi hx hxi hat HSS hg1 hg2
    unfold odV
    go_enter Try.func62, Try.ntmps62
    go_upto_region 1 with fail
    rw [HW.out]
    clear HW
    go_upto_region 2 with (go_at_call 91; refine HS.out.mono ?_; rintro e w1 ⟨rfl, hb1⟩; have HB1 := hide (HB0.out.later hb1); have HF1 := hide (HF0.out.later hb1); have HO1 := hide (HO0.out.later hb1); have HA1 := hide (HA0.out.trans (hb1.mono HA0.out.size)); clear hb1)
    clear o1 ol
    have HC2 := hide (heldFault_some base b.sl _ k o 1 w1 (HB1.out.slo) HK.out)
    rw [elP_some] at HC2
    rw [HFE.out] at HC2
    unfold odV flt at HC2
    go_upto_region 3 with (first
    | (refine wpList_load_blk HO1.out Try.underlying50 rfl Try.sizeOrder rfl rfl rfl ?_)
      | (go_at_call 93; refine HC2.out.mono ?_; rintro e w2 ⟨rfl, hb2⟩; have HB2 := hide hb2; clear hb2))
    have hbT := below_allocG w2 (.cells #[.int .i64 fx, .int .i64 fy] 30)
    have hbX := HB2.out.trans (hbT.mono HB2.out.size)
    have HB3 := hide (HB1.out.later hbX)
    have HF3 := hide (HF1.out.later hbX)
    have HA3 := hide (HA1.out.trans (hbX.mono HA1.out.size))
    have HT3 := hide (Blk.new w2 30 #[.int .i64 fx, .int .i64 fy])
    have HNE := hide (show w.heap.size + 1 < w2.heap.size from (HF1.out.later HB2.out).lt)
    generalize hwX : w2.alloc (.cells #[.int .i64 fx, .int .i64 fy] 30) = X3 at HB3 HF3 HA3 HT3 ⊢
    clear hwX hbT hbX HB2 HB1 HF1 HA1 HC2 HO1
    by_cases hx : fx ≠ 0
    · have q1 : (fx != 0) = true := by simp [hx]
      have q2 : (fx == 0) = false := beq_eq_false_iff_ne.2 hx
      have HBD := hide (HBAD.out (fx, fy) hx)
      clear hx HBAD HOK HZ
      go_wp2_with (first
        | (refine wpList_load_blk HT3.out Try.underlying30 rfl Try.sizeFaultA rfl rfl rfl ?_)
        | (refine wpList_store_blk rfl rfl rfl rfl HF3.out rfl Try.sizeFaultA rfl ?_; intro w8 hF8 hg8; have HF8 := hide hF8; have HB8 := hide (HB3.out.off HF3.out hg8 (by decide) (by decide) (by decide)); have HA8 := hide (below_grownO HA3.out hg8 (fun k hk => by cases hk; omega) HA3.out.size); clear hF8 hg8))
      refine bodyPost_ret (v := .agg #[.int .i64 fx, .int .i64 fy]) (results1_cell Try.results62 rfl (run_loadVar_blk HF8.out Try.underlying30 rfl Try.sizeFaultA)) rfl ?_
      exact ⟨rfl, by rw [HBD.out]; exact ⟨_, _, HB8.out⟩, KpB.of_below HA8.out⟩
    obtain rfl : fx = 0 := Decidable.not_not.1 hx
    obtain rfl : fy = 0 := by have := HZ.out rfl; simpa using this
    have HBD := hide (HOK.out k x (by first | rfl | trivial) HX.out)
    clear hx HBAD HOK HZ
    go_wp2_with (first
      | (refine wpList_load_blk HT3.out Try.underlying30 rfl Try.sizeFaultA rfl rfl rfl ?_)
      | (refine wpList_store_field (E := slE) (j := k) (k := 3) (c' := { x with st := 2 }) HB3.out.slo HX.out (by decide) rfl rfl rfl rfl rfl rfl Try.sizeInt1 ?_; intro w4 ho4 hg4; have HB4 := hide (HB3.out.slots hg4 (by rw [List.length_set]; exact ho4) rfl); have HF4 := hide (HF3.out.grown hg4 (fun q => owns_off HB3.out.slo HF3.out (by decide) (by simp [Value.ownBlock]; simpa using q.symm))); have HG4 := hide (grown_via HA3.out hg4); clear ho4 hg4)
      | (refine wpList_store_blk rfl rfl rfl rfl HF4.out rfl Try.sizeFaultA rfl ?_; intro w8 hF8 hg8; have HF8 := hide hF8; have HB8 := hide (HB4.out.off HF4.out hg8 (by decide) (by decide) (by decide)); have HG8 := hide (grown_more HG4.out hg8 (.inl (by omega))); clear hF8 hg8))
    refine bodyPost_ret (v := .agg #[.int .i64 0, .int .i64 0]) (results1_cell Try.results62 rfl (run_loadVar_blk HF8.out Try.underlying30 rfl Try.sizeFaultA)) rfl ?_
    exact ⟨rfl, by rw [HBD.out]; exact ⟨_, _, HB8.out⟩, KpB.of_grown HG8.out (.inr (.inr rfl))⟩

set_option maxRecDepth 100000 in
set_option maxHeartbeats 4000000 in
theorem closed_any (base B : Nat) (b : Bd) (hv sv : Value) (o : Od) (w : World) (h : BdAt w base B b hv sv) :
    Calls Try.prog 64 #[.pointer (some ⟨B, 0, none⟩), odV o] w (DoneB w base B hv sv (actS b (idxS b.sl o.id) (heF b.sl (idxS b.sl o.id) o.ho o.tu 3) offS) (heF b.sl (idxS b.sl o.id) o.ho o.tu 3)) := by
  have HZ := hide (fun h => heF_z (l := b.sl) (i := (idxS b.sl o.id)) (a := o.ho) (t := o.tu) (st := 3) h)
  have HBAD := hide (fun f h => actS_bad (b := b) (i := (idxS b.sl o.id)) (f := f) (g := offS) h)
  have HOK := hide (fun k x h1 h2 => actS_ok (b := b) (k := k) (f := (0, 0)) (g := offS) (x := x) h1 h2)
  have HSS := hide (fun k (hk : (idxS b.sl o.id) = some k) => idxS_some hk)
  have HB := hide h
  obtain ⟨ah, ch, rfl⟩ := owns_shapeA h.hos
  obtain ⟨as_, cs, rfl⟩ := owns_shapeA h.slo
  clear h
  obtain ⟨hOB, hFB, hA⟩ := two_atA w #[.int .i64 o.kind, .int .i64 o.id, .int .i64 o.ho, .int .i64 o.tu, .string o.row] #[.int .i64 0, .int .i64 0] 50 30
  have HO0 := hide hOB
  have HF0 := hide hFB
  have HA0 := hide hA
  have o1 := hOB.cell 1
  have ol := hOB.lt
  simp only [List.getElem?_toArray, List.getElem?_cons_succ, List.getElem?_cons_zero] at o1
  generalize hW : ((w.alloc (.cells #[.int .i64 o.kind, .int .i64 o.id, .int .i64 o.ho, .int .i64 o.tu, .string o.row] 50)).alloc (.cells #[.int .i64 0, .int .i64 0] 30)) = W0 at HO0 HF0 HA0 o1 ol
  have HW := hide hW
  clear hOB hFB hA hW
  have HB0 := hide (HB.out.later HA0.out)
  have HS := hide (slot_any base B b _ _ o.id W0 HB0.out)
  generalize hFE : heF b.sl (idxS b.sl o.id) o.ho o.tu 3 = FE at *
  obtain ⟨fx, fy⟩ := FE
  have HFE := hide hFE
  clear hFE
  unfold DoneB flt
  dsimp only at HZ ⊢
  cases hi : (idxS b.sl o.id) with
  | none =>
    rw [hi] at HS HFE
    have hx : fx ≠ 0 := by
      have := congrArg Prod.fst HFE.out
      unfold heF at this
      intro q
      rw [q] at this
      simp at this
    have HBD := hide (HBAD.out (fx, fy) hx)
    rw [hi] at HBD
    have q1 : (fx != 0) = true := by simp [hx]
    have q2 : (fx == 0) = false := beq_eq_false_iff_ne.2 hx
    rw [elP_none] at HS
    clear hi hx HOK HSS HZ HBAD
    unfold odV
    go_enter Try.func64, Try.ntmps64
    go_upto_region 1 with fail
    rw [HW.out]
    clear HW
    go_upto_region 2 with (go_at_call 91; refine HS.out.mono ?_; rintro e w1 ⟨rfl, hb1⟩; have HB1 := hide (HB0.out.later hb1); have HF1 := hide (HF0.out.later hb1); have HO1 := hide (HO0.out.later hb1); have HA1 := hide (HA0.out.trans (hb1.mono HA0.out.size)); clear hb1)
    clear o1 ol
    have HC2 := hide (heldFault_nil b.sl (.slice as_ b.sl.length cs) o 3 w1)
    rw [elP_none] at HC2
    rw [HFE.out] at HC2
    unfold odV flt at HC2
    go_upto_region 3 with (first
    | (refine wpList_load_blk HO1.out Try.underlying50 rfl Try.sizeOrder rfl rfl rfl ?_)
      | (go_at_call 93; refine HC2.out.mono ?_; rintro e w2 ⟨rfl, hb2⟩; have HB2 := hide hb2; clear hb2))
    have hbT := below_allocG w2 (.cells #[.int .i64 fx, .int .i64 fy] 30)
    have hbX := HB2.out.trans (hbT.mono HB2.out.size)
    have HB3 := hide (HB1.out.later hbX)
    have HF3 := hide (HF1.out.later hbX)
    have HA3 := hide (HA1.out.trans (hbX.mono HA1.out.size))
    have HT3 := hide (Blk.new w2 30 #[.int .i64 fx, .int .i64 fy])
    have HNE := hide (show w.heap.size + 1 < w2.heap.size from (HF1.out.later HB2.out).lt)
    generalize hwX : w2.alloc (.cells #[.int .i64 fx, .int .i64 fy] 30) = X3 at HB3 HF3 HA3 HT3 ⊢
    clear hwX hbT hbX HB2 HB1 HF1 HA1 HC2 HO1
    go_wp2_with (first
      | (refine wpList_load_blk HT3.out Try.underlying30 rfl Try.sizeFaultA rfl rfl rfl ?_)
      | (refine wpList_store_blk rfl rfl rfl rfl HF3.out rfl Try.sizeFaultA rfl ?_; intro w8 hF8 hg8; have HF8 := hide hF8; have HB8 := hide (HB3.out.off HF3.out hg8 (by decide) (by decide) (by decide)); have HA8 := hide (below_grownO HA3.out hg8 (fun k hk => by cases hk; omega) HA3.out.size); clear hF8 hg8))
    refine bodyPost_ret (v := .agg #[.int .i64 fx, .int .i64 fy]) (results1_cell Try.results64 rfl (run_loadVar_blk HF8.out Try.underlying30 rfl Try.sizeFaultA)) rfl ?_
    exact ⟨rfl, by rw [HBD.out]; exact ⟨_, _, HB8.out⟩, KpB.of_below HA8.out⟩
  | some k =>
    obtain ⟨x, hx, hxi⟩ := HSS.out k hi
    have HK := hide ((List.getElem?_eq_some_iff.1 hx).1)
    have HX := hide hx
    obtain ⟨g, cap, hve, hg1, hg2, hat⟩ := owns_here HB.out.slo hx
    simp only [Value.slice.injEq] at hve
    obtain ⟨rfl, _, rfl⟩ := hve
    rw [hi] at HS HFE HBAD
    rw [elP_some] at HS
    clear hi hx hxi hat HSS hg1 hg2
    unfold odV
    go_enter Try.func64, Try.ntmps64
    go_upto_region 1 with fail
    rw [HW.out]
    clear HW
    go_upto_region 2 with (go_at_call 91; refine HS.out.mono ?_; rintro e w1 ⟨rfl, hb1⟩; have HB1 := hide (HB0.out.later hb1); have HF1 := hide (HF0.out.later hb1); have HO1 := hide (HO0.out.later hb1); have HA1 := hide (HA0.out.trans (hb1.mono HA0.out.size)); clear hb1)
    clear o1 ol
    have HC2 := hide (heldFault_some base b.sl _ k o 3 w1 (HB1.out.slo) HK.out)
    rw [elP_some] at HC2
    rw [HFE.out] at HC2
    unfold odV flt at HC2
    go_upto_region 3 with (first
    | (refine wpList_load_blk HO1.out Try.underlying50 rfl Try.sizeOrder rfl rfl rfl ?_)
      | (go_at_call 93; refine HC2.out.mono ?_; rintro e w2 ⟨rfl, hb2⟩; have HB2 := hide hb2; clear hb2))
    have hbT := below_allocG w2 (.cells #[.int .i64 fx, .int .i64 fy] 30)
    have hbX := HB2.out.trans (hbT.mono HB2.out.size)
    have HB3 := hide (HB1.out.later hbX)
    have HF3 := hide (HF1.out.later hbX)
    have HA3 := hide (HA1.out.trans (hbX.mono HA1.out.size))
    have HT3 := hide (Blk.new w2 30 #[.int .i64 fx, .int .i64 fy])
    have HNE := hide (show w.heap.size + 1 < w2.heap.size from (HF1.out.later HB2.out).lt)
    generalize hwX : w2.alloc (.cells #[.int .i64 fx, .int .i64 fy] 30) = X3 at HB3 HF3 HA3 HT3 ⊢
    clear hwX hbT hbX HB2 HB1 HF1 HA1 HC2 HO1
    by_cases hx : fx ≠ 0
    · have q1 : (fx != 0) = true := by simp [hx]
      have q2 : (fx == 0) = false := beq_eq_false_iff_ne.2 hx
      have HBD := hide (HBAD.out (fx, fy) hx)
      clear hx HBAD HOK HZ
      go_wp2_with (first
        | (refine wpList_load_blk HT3.out Try.underlying30 rfl Try.sizeFaultA rfl rfl rfl ?_)
        | (refine wpList_store_blk rfl rfl rfl rfl HF3.out rfl Try.sizeFaultA rfl ?_; intro w8 hF8 hg8; have HF8 := hide hF8; have HB8 := hide (HB3.out.off HF3.out hg8 (by decide) (by decide) (by decide)); have HA8 := hide (below_grownO HA3.out hg8 (fun k hk => by cases hk; omega) HA3.out.size); clear hF8 hg8))
      refine bodyPost_ret (v := .agg #[.int .i64 fx, .int .i64 fy]) (results1_cell Try.results64 rfl (run_loadVar_blk HF8.out Try.underlying30 rfl Try.sizeFaultA)) rfl ?_
      exact ⟨rfl, by rw [HBD.out]; exact ⟨_, _, HB8.out⟩, KpB.of_below HA8.out⟩
    obtain rfl : fx = 0 := Decidable.not_not.1 hx
    obtain rfl : fy = 0 := by have := HZ.out rfl; simpa using this
    have HBD := hide (HOK.out k x (by first | rfl | trivial) HX.out)
    clear hx HBAD HOK HZ
    have HTO := hide (turnOff_any base b.sl g _ k X3 HB3.out.slo HK.out)
    have hgd : b.sl.getD k zeroSl = x := by rw [List.getD_eq_getElem?_getD, HX.out]; rfl
    rw [hgd] at HTO
    clear hgd
    go_wp2_with (first
      | (refine wpList_load_blk HT3.out Try.underlying30 rfl Try.sizeFaultA rfl rfl rfl ?_)
      | (go_at_call 90; refine HTO.out.mono ?_; rintro e w4 ⟨rfl, ho4, hg4⟩; have HB4 := hide (HB3.out.slots hg4 (by rw [List.length_set]; exact ho4) rfl); have HF4 := hide (HF3.out.grown hg4 (fun q => owns_off HB3.out.slo HF3.out (by decide) (by simp [Value.ownBlock]; simpa using q.symm))); have HG4 := hide (grown_via HA3.out hg4); clear ho4 hg4)
      | (refine wpList_store_blk rfl rfl rfl rfl HF4.out rfl Try.sizeFaultA rfl ?_; intro w8 hF8 hg8; have HF8 := hide hF8; have HB8 := hide (HB4.out.off HF4.out hg8 (by decide) (by decide) (by decide)); have HG8 := hide (grown_more HG4.out hg8 (.inl (by omega))); clear hF8 hg8))
    refine bodyPost_ret (v := .agg #[.int .i64 0, .int .i64 0]) (results1_cell Try.results64 rfl (run_loadVar_blk HF8.out Try.underlying30 rfl Try.sizeFaultA)) rfl ?_
    exact ⟨rfl, by rw [HBD.out]; exact ⟨_, _, HB8.out⟩, KpB.of_grown HG8.out (.inr (.inr rfl))⟩

end Go.Proofs.Ytoeobhehjnkkkaa
