/-
  Texts joined: AsW10.
-/
import Derived.Test.YtoeobhehjnkkkaaMLocateDoesAsW9
/-
  The walk over come of package assign.
-/
namespace Go.Proofs.Ytoeobhehjnkkkaa
open Go.RowKit Go.Maps
set_option linter.unusedVariables false

theorem Try.sizeHosts : (Try.prog.info? 24).map (·.size) = some 1 := by kernel_rfl
theorem Try.sizeSlots : (Try.prog.info? 25).map (·.size) = some 1 := by kernel_rfl
theorem Try.sizeBool1 : (Try.prog.info? 4).map (·.size) = some 1 := by kernel_rfl

theorem KpB.step {w w1 w2 : World} {B : Nat} {hv sv : Value} {o : Option Nat} (h : KpB w w1 B hv sv) (hg : w1.grownBy w2 o) (ho : o = some B ∨ o = hv.ownBlock ∨ o = sv.ownBlock ∨ ∀ k, o = some k → w.heap.size ≤ k) : KpB w w2 B hv sv :=
  ⟨hg.os.trans h.os, hg.tape.trans h.tape, hg.output.trans h.output, Nat.le_trans h.size hg.size, fun k hk h1 h2 h3 => by
    refine (hg.block k (Nat.lt_of_lt_of_le hk h.size) (fun q => ?_)).trans (h.block k hk h1 h2 h3)
    rcases ho with ho | ho | ho | ho
    · rw [ho] at q; cases q; exact h1 rfl
    · rw [ho] at q; exact h2 q
    · rw [ho] at q; exact h3 q
    · have := ho k q.symm; omega⟩

theorem owns_two {w : World} {b1 b2 : Nat} {e1 e2 : TypeId} {K1 K2 : Nat} {v1 v2 : Value} {n1 n2 : Nat} {xs1 xs2 : List Value} (h1 : w.ownsRow b1 e1 K1 v1 n1 xs1) (h2 : w.ownsRow b2 e2 K2 v2 n2 xs2) (he : e1 ≠ e2) : v1.ownBlock = none ∨ v1.ownBlock ≠ v2.ownBlock := by
  rcases h2.2 with ⟨rfl, _⟩ | ⟨g, cap, cur, rfl, _, hB, _⟩
  · cases h : v1.ownBlock
    · exact .inl rfl
    · exact .inr (by simp [Value.ownBlock])
  · exact .inr (owns_off (B := g) (ys := cur) h1 hB he)

/-- What is told of a host that comes. -/
def comeF (b : Bd) (id : Int) : Int × Int :=
  if oneB id = false then (3, -1) else match idxH b.hs id with
    | none => if b.hs.length = 20 then (2, -1) else (0, 0)
    | some k => if (b.hs.getD k zeroHo).al = true then (10, -1) else if (b.hs.getD k zeroHo).ep = 1000000000 then (9, 0) else (0, 0)

def comeB (b : Bd) (id : Int) : Bd :=
  if (comeF b id).1 = 0 then match idxH b.hs id with
    | none => { b with hs := b.hs ++ [⟨id, 1, true⟩] }
    | some k => { b with hs := b.hs.set k ⟨(b.hs.getD k zeroHo).id, (b.hs.getD k zeroHo).ep + 1, true⟩ }
  else b

theorem comeF_no {b : Bd} {id : Int} (h : oneB id = false) : comeF b id = (3, -1) := if_pos h

theorem comeF_none {b : Bd} {id : Int} (h : oneB id = true) (hi : idxH b.hs id = none) : comeF b id = if b.hs.length = 20 then (2, -1) else (0, 0) := by
  unfold comeF
  rw [if_neg (by rw [h]; simp), hi]

theorem comeF_some {b : Bd} {id : Int} {k : Nat} {x : Ho} (h : oneB id = true) (hi : idxH b.hs id = some k) (hx : b.hs[k]? = some x) : comeF b id = if x.al = true then (10, -1) else if x.ep = 1000000000 then (9, 0) else (0, 0) := by
  have hgd : b.hs.getD k zeroHo = x := by rw [List.getD_eq_getElem?_getD, hx]; rfl
  unfold comeF
  rw [if_neg (by rw [h]; simp), hi]
  simp only [hgd]

theorem comeB_bad {b : Bd} {id : Int} {f : Int × Int} (h : comeF b id = f) (h0 : f.1 ≠ 0) : comeB b id = b := by
  unfold comeB
  rw [h, if_neg h0]

theorem comeB_none {b : Bd} {id : Int} (h : comeF b id = (0, 0)) (hi : idxH b.hs id = none) : comeB b id = { b with hs := b.hs ++ [⟨id, 1, true⟩] } := by
  unfold comeB
  rw [h, if_pos rfl, hi]

theorem comeB_some {b : Bd} {id : Int} {k : Nat} {x : Ho} (h : comeF b id = (0, 0)) (hi : idxH b.hs id = some k) (hx : b.hs[k]? = some x) : comeB b id = { b with hs := b.hs.set k ⟨x.id, x.ep + 1, true⟩ } := by
  have hgd : b.hs.getD k zeroHo = x := by rw [List.getD_eq_getElem?_getD, hx]; rfl
  unfold comeB
  rw [h, if_pos rfl, hi]
  simp only [hgd]

set_option maxRecDepth 100000 in
set_option maxHeartbeats 4000000 in
theorem come_any (base B : Nat) (b : Bd) (hv sv : Value) (id : Int) (w : World) (h : BdAt w base B b hv sv) (hl : b.hs.length ≤ 1000) (hep : ∀ x ∈ b.hs, 0 ≤ x.ep ∧ x.ep ≤ 1000000000) (hbw : base ≤ w.heap.size) :
    Calls Try.prog 59 #[.pointer (some ⟨B, 0, none⟩), .int .i64 id] w (DoneB w base B hv sv (comeB b id) (comeF b id)) := by
  have HC0 := hide (fun h => comeF_no (b := b) (id := id) h)
  have HCN := hide (fun h hi => comeF_none (b := b) (id := id) h hi)
  have HCS := hide (fun k x h hi hx => comeF_some (b := b) (id := id) (k := k) (x := x) h hi hx)
  have HBAD := hide (fun f h h0 => comeB_bad (b := b) (id := id) (f := f) h h0)
  have HN := hide (fun h hi => comeB_none (b := b) (id := id) h hi)
  have HSM := hide (fun k x h hi hx => comeB_some (b := b) (id := id) (k := k) (x := x) h hi hx)
  have HSS := hide (fun k (hk : idxH b.hs id = some k) => idxH_some hk)
  have hA := below_allocG w (.cells #[.int .i64 0, .int .i64 0] 30)
  have HF0 := hide (Blk.new w 30 #[.int .i64 0, .int .i64 0])
  have HA0 := hide hA
  have HB0 := hide (h.later hA)
  have HEP := hide hep
  have HLEN := hide hl
  have HBW := hide hbw
  generalize hW : w.alloc (.cells #[.int .i64 0, .int .i64 0] 30) = W0 at HF0 HA0 HB0
  have HW := hide hW
  obtain ⟨ah, ch, rfl⟩ := owns_shapeA h.hos
  obtain ⟨as_, cs, rfl⟩ := owns_shapeA h.slo
  have HH := hide (host_any base B b _ _ id W0 HB0.out hl)
  generalize hCB : comeB b id = CB at *
  generalize hCFv : comeF b id = CF at *
  clear h hA hep hl hbw hW hCB hCFv
  unfold DoneB
  cases q1 : oneB id
  · have HE := hide (HC0.out q1)
    have HBD := hide (HBAD.out _ HE.out (by decide))
    have f0 := HF0.out.cell 0
    go_enter Try.func59, Try.ntmps59
    go_upto_region 1 with fail
    rw [HW.out]
    clear HW f0
    go_wp2_with (first
      | (go_at_call 88; refine HH.out.mono ?_; rintro e w1 ⟨rfl, rfl⟩)
      | (go_at_call 89; refine (isFromOne_any _ _).mono ?_; rintro e w2 ⟨rfl, rfl⟩; rw [q1])
      | (refine wpList_store_blk rfl rfl rfl rfl HF0.out rfl Try.sizeFaultA rfl ?_; intro w8 hF8 hg8; have HF8 := hide hF8; have HB8 := hide (HB0.out.off HF0.out hg8 (by decide) (by decide) (by decide)); have HA8 := hide (below_grownO HA0.out hg8 (fun k hk => by cases hk; omega) HA0.out.size); clear hF8 hg8))
    refine bodyPost_ret (v := .agg #[.int .i64 3, .int .i64 (-1)]) (results1_cell Try.results59 rfl (run_loadVar_blk HF8.out Try.underlying30 rfl Try.sizeFaultA)) rfl ?_
    exact ⟨by rw [HE.out]; rfl, by rw [HBD.out]; exact ⟨_, _, HB8.out⟩, KpB.of_below HA8.out⟩
  clear HC0
  cases hi : idxH b.hs id with
  | none =>
    have HC1 := hide (HCN.out q1 hi)
    rw [hi] at HH
    rw [elP_none] at HH
    have b0 := HB0.out.blk.cell 0
    have bl := HB0.out.blk.lt
    simp only [List.getElem?_toArray, List.getElem?_cons_zero] at b0
    by_cases hf : b.hs.length = 20
    · have HE := hide (HC1.out.trans (if_pos hf))
      have HBD := hide (HBAD.out _ HE.out (by decide))
      have e1 : ((b.hs.length : Int) == 20) = true := by simp [hf]
      have e2 : (b.hs.length == 20) = true := by simp [hf]
      clear hf hi
      go_enter Try.func59, Try.ntmps59
      go_upto_region 1 with fail
      rw [HW.out]
      clear HW
      go_wp2_with (first
        | (go_at_call 88; refine HH.out.mono ?_; rintro e w1 ⟨rfl, rfl⟩)
        | (go_at_call 89; refine (isFromOne_any _ _).mono ?_; rintro e w2 ⟨rfl, rfl⟩; rw [q1])
        | (refine wpList_store_blk rfl rfl rfl rfl HF0.out rfl Try.sizeFaultA rfl ?_; intro w8 hF8 hg8; have HF8 := hide hF8; have HB8 := hide (HB0.out.off HF0.out hg8 (by decide) (by decide) (by decide)); have HA8 := hide (below_grownO HA0.out hg8 (fun k hk => by cases hk; omega) HA0.out.size); clear hF8 hg8))
      refine bodyPost_ret (v := .agg #[.int .i64 2, .int .i64 (-1)]) (results1_cell Try.results59 rfl (run_loadVar_blk HF8.out Try.underlying30 rfl Try.sizeFaultA)) rfl ?_
      exact ⟨by rw [HE.out]; rfl, by rw [HBD.out]; exact ⟨_, _, HB8.out⟩, KpB.of_below HA8.out⟩
    · have HE := hide (HC1.out.trans (if_neg hf))
      have HBD := hide (HN.out HE.out hi)
      have e1 : ((b.hs.length : Int) == 20) = false := beq_eq_false_iff_ne.2 (by omega)
      have e2 : (b.hs.length == 20) = false := beq_eq_false_iff_ne.2 hf
      have hbw := Nat.le_trans HBW.out HA0.out.size
      have hlen := HLEN.out
      clear hf hi
      go_enter Try.func59, Try.ntmps59
      go_upto_region 1 with fail
      rw [HW.out]
      clear HW
      go_upto_region 9 with (first
        | (go_at_call 88; refine HH.out.mono ?_; rintro e w1 ⟨rfl, rfl⟩)
        | (go_at_call 89; refine (isFromOne_any _ _).mono ?_; rintro e w2 ⟨rfl, rfl⟩; rw [q1]))
      go_upto_region 10 with (first
        | (at_builtin; refine wpList_append_oneG (E := hoE) (c := ⟨id, 1, true⟩) HB0.out.hos rfl Try.underlying24 infoHost rfl rfl rfl rfl rfl (by omega) (by decide) hbw ?_; intro v3 w3 ho3 hb3 hg3; obtain ⟨a3, c3, rfl⟩ := owns_shapeA ho3; have HO3 := hide ho3; have HBB3 := hide (HB0.out.blk.grown hg3 (owns_off HB0.out.hos HB0.out.blk (by decide)).symm); have HS3 := hide (owns_grownO HB0.out.slo hg3 (owns_two HB0.out.slo HB0.out.hos (by decide))); have HF3 := hide (HF0.out.grown hg3 (owns_off HB0.out.hos HF0.out (by decide)).symm); have HK3 := hide ((KpB.of_below (B := B) (hv := .slice ah b.hs.length ch) (sv := .slice as_ b.sl.length cs) HA0.out).step hg3 (.inr (.inl rfl))); clear ho3 hb3 hg3)
        | (refine wpList_store_slice (k := 0) rfl rfl rfl rfl HBB3.out rfl Try.sizeHosts ?_; intro w4 hB4 hg4; have HB4 := hide (BdAt.mk (b := { b with hs := b.hs ++ [⟨id, 1, true⟩] }) (show Blk w4 B 80 #[.slice a3 (b.hs.length + 1) c3, .slice as_ b.sl.length cs, .int .i64 b.tu, .int .i64 b.nx] from hB4) (by rw [List.length_append]; exact owns_grownO HO3.out hg4 (.inr (owns_off HO3.out HBB3.out (by decide)))) (owns_grownO HS3.out hg4 (.inr (owns_off HS3.out HBB3.out (by decide)))) HB0.out.low); have HF4 := hide (HF3.out.grown hg4 (fun q => by simp only [Option.some.injEq] at q; have e1 := HF3.out; have e2 := HBB3.out; unfold Blk at e1 e2; rw [q, e2] at e1; simp at e1)); have HK4 := hide (HK3.out.step hg4 (.inl rfl)); clear hB4 hg4))
      go_wp2_with (refine wpList_store_blk rfl rfl rfl rfl HF4.out rfl Try.sizeFaultA rfl ?_; intro w8 hF8 hg8; have HF8 := hide hF8; have HB8 := hide (HB4.out.off HF4.out hg8 (by decide) (by decide) (by decide)); have HK8 := hide (HK4.out.step hg8 (.inr (.inr (.inr (fun k hk => by cases hk; omega))))); clear hF8 hg8)
      refine bodyPost_ret (v := .agg #[.int .i64 0, .int .i64 0]) (results1_cell Try.results59 rfl (run_loadVar_blk HF8.out Try.underlying30 rfl Try.sizeFaultA)) rfl ?_
      exact ⟨by rw [HE.out]; rfl, by rw [HBD.out]; exact ⟨_, _, HB8.out⟩, HK8.out⟩
  | some k =>
    obtain ⟨x, hx, hxi⟩ := HSS.out k hi
    obtain ⟨g, cap, hve, hg1, hg2, hat⟩ := owns_here HB0.out.hos hx
    simp only [Value.slice.injEq] at hve
    obtain ⟨rfl, _, rfl⟩ := hve
    have hgd : b.hs.getD k zeroHo = x := by rw [List.getD_eq_getElem?_getD, hx]; rfl
    obtain ⟨c0, c1, c2⟩ := hat.host
    have HC1 := hide (HCS.out k x q1 hi hx)
    rw [hi] at HH
    rw [elP_some] at HH
    have HX := hide hx
    have HX2 := hide (show (b.hs.set k { x with ep := x.ep + 1 })[k]? = some { x with ep := x.ep + 1 } by rw [List.getElem?_set_self (List.getElem?_eq_some_iff.1 hx).1])
    have HSS2 := hide (show (b.hs.set k { x with ep := x.ep + 1 }).set k ⟨x.id, x.ep + 1, true⟩ = b.hs.set k ⟨x.id, x.ep + 1, true⟩ by rw [List.set_set])
    obtain ⟨he1, he2⟩ := HEP.out x (List.mem_of_getElem? hx)
    have hw : IntKind.i64.wrap (x.ep + 1) = x.ep + 1 := by rw [IntKind.wrap_i64]; omega
    cases ha : x.al
    case true =>
      rw [ha] at c2
      have HE := hide (HC1.out.trans (if_pos ha))
      have HBD := hide (HBAD.out _ HE.out (by decide))
      clear hi hx hxi hgd hat ha c0 c1
      go_enter Try.func59, Try.ntmps59
      go_upto_region 1 with fail
      rw [HW.out]
      clear HW
      go_wp2_with (first
        | (go_at_call 88; refine HH.out.mono ?_; rintro e w1 ⟨rfl, rfl⟩)
        | (go_at_call 89; refine (isFromOne_any _ _).mono ?_; rintro e w2 ⟨rfl, rfl⟩; rw [q1])
        | (refine wpList_store_blk rfl rfl rfl rfl HF0.out rfl Try.sizeFaultA rfl ?_; intro w8 hF8 hg8; have HF8 := hide hF8; have HB8 := hide (HB0.out.off HF0.out hg8 (by decide) (by decide) (by decide)); have HA8 := hide (below_grownO HA0.out hg8 (fun k hk => by cases hk; omega) HA0.out.size); clear hF8 hg8))
      refine bodyPost_ret (v := .agg #[.int .i64 10, .int .i64 (-1)]) (results1_cell Try.results59 rfl (run_loadVar_blk HF8.out Try.underlying30 rfl Try.sizeFaultA)) rfl ?_
      exact ⟨by rw [HE.out]; rfl, by rw [HBD.out]; exact ⟨_, _, HB8.out⟩, KpB.of_below HA8.out⟩
    have HC2 := hide (HC1.out.trans (if_neg (by rw [ha]; simp)))
    rw [ha] at c2
    by_cases hm : x.ep = 1000000000
    · have HE := hide (HC2.out.trans (if_pos hm))
      have HBD := hide (HBAD.out _ HE.out (by decide))
      have e1 : (x.ep == 1000000000) = true := by simp [hm]
      clear hi hx hxi hgd hat ha c0 hm hw he1 he2
      go_enter Try.func59, Try.ntmps59
      go_upto_region 1 with fail
      rw [HW.out]
      clear HW
      go_wp2_with (first
        | (go_at_call 88; refine HH.out.mono ?_; rintro e w1 ⟨rfl, rfl⟩)
        | (go_at_call 89; refine (isFromOne_any _ _).mono ?_; rintro e w2 ⟨rfl, rfl⟩; rw [q1])
        | (refine wpList_store_blk rfl rfl rfl rfl HF0.out rfl Try.sizeFaultA rfl ?_; intro w8 hF8 hg8; have HF8 := hide hF8; have HB8 := hide (HB0.out.off HF0.out hg8 (by decide) (by decide) (by decide)); have HA8 := hide (below_grownO HA0.out hg8 (fun k hk => by cases hk; omega) HA0.out.size); clear hF8 hg8))
      refine bodyPost_ret (v := .agg #[.int .i64 9, .int .i64 0]) (results1_cell Try.results59 rfl (run_loadVar_blk HF8.out Try.underlying30 rfl Try.sizeFaultA)) rfl ?_
      exact ⟨by rw [HE.out]; rfl, by rw [HBD.out]; exact ⟨_, _, HB8.out⟩, KpB.of_below HA8.out⟩
    · have HE := hide (HC2.out.trans (if_neg hm))
      have HBD := hide (HSM.out k x HE.out hi hx)
      have e1 : (x.ep == 1000000000) = false := beq_eq_false_iff_ne.2 hm
      clear hi hx hxi hgd hat ha c0 hm he1 he2
      go_enter Try.func59, Try.ntmps59
      go_upto_region 1 with fail
      rw [HW.out]
      clear HW
      go_wp2_with (first
        | (go_at_call 88; refine HH.out.mono ?_; rintro e w1 ⟨rfl, rfl⟩)
        | (go_at_call 89; refine (isFromOne_any _ _).mono ?_; rintro e w2 ⟨rfl, rfl⟩; rw [q1])
        | (refine wpList_store_field (E := hoE) (j := k) (k := 1) (c' := { x with ep := x.ep + 1 }) HB0.out.hos HX.out (by decide) rfl rfl rfl rfl rfl rfl Try.sizeInt1 ?_; intro w3 ho3 hg3; have HO3 := hide ho3; have HB3 := hide (HB0.out.hosts hg3 (by rw [List.length_set]; exact ho3) rfl); have HF3 := hide (HF0.out.grown hg3 (fun q => owns_off HB0.out.hos HF0.out (by decide) (by simp [Value.ownBlock]; simpa using q.symm))); have HG3 := hide (grown_via HA0.out hg3); clear ho3 hg3)
        | (refine wpList_store_fieldB (E := hoE) (j := k) (k := 2) (c' := ⟨x.id, x.ep + 1, true⟩) HO3.out HX2.out (by decide) rfl rfl rfl rfl rfl rfl Try.sizeBool1 ?_; intro w4 ho4 hg4; rw [HSS2.out] at ho4; have HB4 := hide (HB3.out.hosts (hs := b.hs.set k ⟨x.id, x.ep + 1, true⟩) hg4 (by rw [List.length_set]; exact ho4) (by simp)); have HF4 := hide (HF3.out.grown hg4 (fun q => owns_off HB3.out.hos HF3.out (by decide) (by simp [Value.ownBlock]; simpa using q.symm))); have HG4 := hide (grown_more HG3.out hg4 (.inr rfl)); clear ho4 hg4)
        | (refine wpList_store_blk rfl rfl rfl rfl HF4.out rfl Try.sizeFaultA rfl ?_; intro w8 hF8 hg8; have HF8 := hide hF8; have HB8 := hide (HB4.out.off HF4.out hg8 (by decide) (by decide) (by decide)); have HG8 := hide (grown_more HG4.out hg8 (.inl (by omega))); clear hF8 hg8))
      refine bodyPost_ret (v := .agg #[.int .i64 0, .int .i64 0]) (results1_cell Try.results59 rfl (run_loadVar_blk HF8.out Try.underlying30 rfl Try.sizeFaultA)) rfl ?_
      exact ⟨by rw [HE.out]; rfl, by rw [HBD.out]; exact ⟨_, _, HB8.out⟩, KpB.of_grown HG8.out (.inr (.inl rfl))⟩

end Go.Proofs.Ytoeobhehjnkkkaa
