/-
  Texts joined: AsW11.
-/
import Derived.Test.YtoeobhehjnkkkaaMLocateDoesAsW10
/-
  The walk over lose of package assign.
-/
namespace Go.Proofs.Ytoeobhehjnkkkaa
open Go.RowKit Go.Maps
set_option linter.unusedVariables false

/-- What is told of a host that is lost. -/
def loseF (b : Bd) (id : Int) : Int × Int :=
  match idxH b.hs id with
  | none => (6, -1)
  | some k => if (b.hs.getD k zeroHo).al = true then (0, 0) else (6, -1)

/-- A slot, where a host is lost. -/
def lostS (id : Int) (s : Sl) : Sl := if s.ho = id then offS s else s

def loseB (b : Bd) (id : Int) : Bd :=
  if (loseF b id).1 = 0 then match idxH b.hs id with
    | none => b
    | some k => { b with hs := b.hs.set k { (b.hs.getD k zeroHo) with al := false }, sl := b.sl.map (lostS id) }
  else b

theorem loseF_none {b : Bd} {id : Int} (hi : idxH b.hs id = none) : loseF b id = (6, -1) := by
  unfold loseF
  rw [hi]

theorem loseF_some {b : Bd} {id : Int} {k : Nat} {x : Ho} (hi : idxH b.hs id = some k) (hx : b.hs[k]? = some x) : loseF b id = if x.al = true then (0, 0) else (6, -1) := by
  have hgd : b.hs.getD k zeroHo = x := by rw [List.getD_eq_getElem?_getD, hx]; rfl
  unfold loseF
  rw [hi]
  simp only [hgd]

theorem loseB_bad {b : Bd} {id : Int} {f : Int × Int} (h : loseF b id = f) (h0 : f.1 ≠ 0) : loseB b id = b := by
  unfold loseB
  rw [h, if_neg h0]

theorem loseB_some {b : Bd} {id : Int} {k : Nat} {x : Ho} (h : loseF b id = (0, 0)) (hi : idxH b.hs id = some k) (hx : b.hs[k]? = some x) : loseB b id = { b with hs := b.hs.set k { x with al := false }, sl := b.sl.map (lostS id) } := by
  have hgd : b.hs.getD k zeroHo = x := by rw [List.getD_eq_getElem?_getD, hx]; rfl
  unfold loseB
  rw [h, if_pos rfl, hi]
  simp only [hgd]

/-- The first j slots are seen to. -/
def lostGo (l : List Sl) (id : Int) (j : Nat) : List Sl := (l.take j).map (lostS id) ++ l.drop j

theorem lostGo_zero (l : List Sl) (id : Int) : lostGo l id 0 = l := by simp [lostGo]
theorem lostGo_all (l : List Sl) (id : Int) : lostGo l id l.length = l.map (lostS id) := by simp [lostGo]
theorem lostGo_len (l : List Sl) (id : Int) (j : Nat) : (lostGo l id j).length = l.length := by simp [lostGo]; omega

theorem lostGo_at {l : List Sl} {id : Int} {j : Nat} {s : Sl} (hs : l[j]? = some s) : (lostGo l id j)[j]? = some s := by
  obtain ⟨hl, rfl⟩ := List.getElem?_eq_some_iff.1 hs
  unfold lostGo
  rw [List.getElem?_append_right (by simp; omega)]
  simp
  rw [show j - min j l.length = 0 by omega]
  simp [hl]

theorem lostGo_set {l : List Sl} {id : Int} {j : Nat} {s : Sl} (hs : l[j]? = some s) (h : s.ho = id) : (lostGo l id j).set j (offS s) = lostGo l id (j + 1) := by
  obtain ⟨hl, rfl⟩ := List.getElem?_eq_some_iff.1 hs
  unfold lostGo
  rw [List.set_append_right _ _ (by simp; omega), List.take_succ_eq_append_getElem hl, List.map_append]
  simp
  rw [show j - min j l.length = 0 by omega]
  simp only [lostS, h, if_true]
  rw [List.drop_eq_getElem_cons hl]
  rfl

theorem lostGo_keep {l : List Sl} {id : Int} {j : Nat} {s : Sl} (hs : l[j]? = some s) (h : ¬ s.ho = id) : lostGo l id j = lostGo l id (j + 1) := by
  obtain ⟨hl, rfl⟩ := List.getElem?_eq_some_iff.1 hs
  unfold lostGo
  rw [List.take_succ_eq_append_getElem hl, List.map_append, List.drop_eq_getElem_cons hl]
  simp [lostS, h]

set_option maxRecDepth 100000 in
set_option maxHeartbeats 4000000 in
theorem lose_any (base B : Nat) (b : Bd) (hv sv : Value) (id : Int) (w : World) (h : BdAt w base B b hv sv) (hl : b.hs.length ≤ 1000) (hl2 : b.sl.length ≤ 1000) :
    Calls Try.prog 60 #[.pointer (some ⟨B, 0, none⟩), .int .i64 id] w (DoneB w base B hv sv (loseB b id) (loseF b id)) := by
  have HBAD := hide (fun f h h0 => loseB_bad (b := b) (id := id) (f := f) h h0)
  have HC0 := hide (fun hi => loseF_none (b := b) (id := id) hi)
  have HCS := hide (fun k x hi hx => loseF_some (b := b) (id := id) (k := k) (x := x) hi hx)
  have HSM := hide (fun k x h hi hx => loseB_some (b := b) (id := id) (k := k) (x := x) h hi hx)
  have HSS := hide (fun k (hk : idxH b.hs id = some k) => idxH_some hk)
  have hA := below_allocG w (.cells #[.int .i64 0, .int .i64 0] 30)
  have HF0 := hide (Blk.new w 30 #[.int .i64 0, .int .i64 0])
  have HA0 := hide hA
  have HB0 := hide (h.later hA)
  have HL2 := hide hl2
  generalize hW : w.alloc (.cells #[.int .i64 0, .int .i64 0] 30) = W0 at HF0 HA0 HB0
  have HW := hide hW
  obtain ⟨ah, ch, rfl⟩ := owns_shapeA h.hos
  obtain ⟨as_, cs, rfl⟩ := owns_shapeA h.slo
  have HH := hide (host_any base B b _ _ id W0 HB0.out hl)
  generalize hCB : loseB b id = CB at *
  generalize hCFv : loseF b id = CF at *
  clear h hA hl hl2 hW hCB hCFv
  unfold DoneB
  cases hi : idxH b.hs id with
  | none =>
    have HE := hide (HC0.out hi)
    have HBD := hide (HBAD.out _ HE.out (by decide))
    rw [hi] at HH
    rw [elP_none] at HH
    clear hi
    go_enter Try.func60, Try.ntmps60
    go_upto_region 1 with fail
    rw [HW.out]
    clear HW
    go_wp2_with (first
      | (go_at_call 88; refine HH.out.mono ?_; rintro e w1 ⟨rfl, rfl⟩)
      | (refine wpList_store_blk rfl rfl rfl rfl HF0.out rfl Try.sizeFaultA rfl ?_; intro w8 hF8 hg8; have HF8 := hide hF8; have HB8 := hide (HB0.out.off HF0.out hg8 (by decide) (by decide) (by decide)); have HA8 := hide (below_grownO HA0.out hg8 (fun k hk => by cases hk; omega) HA0.out.size); clear hF8 hg8))
    refine bodyPost_ret (v := .agg #[.int .i64 6, .int .i64 (-1)]) (results1_cell Try.results60 rfl (run_loadVar_blk HF8.out Try.underlying30 rfl Try.sizeFaultA)) rfl ?_
    exact ⟨by rw [HE.out]; rfl, by rw [HBD.out]; exact ⟨_, _, HB8.out⟩, KpB.of_below HA8.out⟩
  | some k =>
    obtain ⟨x, hx, hxi⟩ := HSS.out k hi
    obtain ⟨g, cap, hve, hg1, hg2, hat⟩ := owns_here HB0.out.hos hx
    simp only [Value.slice.injEq] at hve
    obtain ⟨rfl, _, rfl⟩ := hve
    obtain ⟨c0, c1, c2⟩ := hat.host
    have HC1 := hide (HCS.out k x hi hx)
    rw [hi] at HH
    rw [elP_some] at HH
    have HX := hide hx
    cases ha : x.al
    case false =>
      rw [ha] at c2
      have HE := hide (HC1.out.trans (if_neg (by rw [ha]; simp)))
      have HBD := hide (HBAD.out _ HE.out (by decide))
      clear hi hx hxi hat ha c0 c1
      go_enter Try.func60, Try.ntmps60
      go_upto_region 1 with fail
      rw [HW.out]
      clear HW
      go_wp2_with (first
        | (go_at_call 88; refine HH.out.mono ?_; rintro e w1 ⟨rfl, rfl⟩)
        | (refine wpList_store_blk rfl rfl rfl rfl HF0.out rfl Try.sizeFaultA rfl ?_; intro w8 hF8 hg8; have HF8 := hide hF8; have HB8 := hide (HB0.out.off HF0.out hg8 (by decide) (by decide) (by decide)); have HA8 := hide (below_grownO HA0.out hg8 (fun k hk => by cases hk; omega) HA0.out.size); clear hF8 hg8))
      refine bodyPost_ret (v := .agg #[.int .i64 6, .int .i64 (-1)]) (results1_cell Try.results60 rfl (run_loadVar_blk HF8.out Try.underlying30 rfl Try.sizeFaultA)) rfl ?_
      exact ⟨by rw [HE.out]; rfl, by rw [HBD.out]; exact ⟨_, _, HB8.out⟩, KpB.of_below HA8.out⟩
    have HE := hide (HC1.out.trans (if_pos ha))
    have HBD := hide (HSM.out k x HE.out hi hx)
    rw [ha] at c2
    clear hi hx hxi hat ha c0 c1
    go_enter Try.func60, Try.ntmps60
    go_upto_region 1 with fail
    rw [HW.out]
    clear HW
    go_upto_region 5 with (first
      | (go_at_call 88; refine HH.out.mono ?_; rintro e w1 ⟨rfl, rfl⟩)
      | (refine wpList_store_fieldB (E := hoE) (j := k) (k := 2) (c' := { x with al := false }) HB0.out.hos HX.out (by decide) rfl rfl rfl rfl rfl rfl Try.sizeBool1 ?_; intro w4 ho4 hg4; have HB4 := hide (HB0.out.hosts (hs := b.hs.set k { x with al := false }) hg4 (by rw [List.length_set]; exact ho4) rfl); have HF4 := hide (HF0.out.grown hg4 (fun q => owns_off HB0.out.hos HF0.out (by decide) (by simp [Value.ownBlock]; simpa using q.symm))); have HK4 := hide ((KpB.of_below (B := B) (hv := .slice (some ⟨g, 0, none⟩) b.hs.length ch) (sv := .slice as_ b.sl.length cs) HA0.out).step hg4 (.inr (.inl rfl))); clear ho4 hg4))
    have b1 := HB4.out.blk.cell 1
    have bl := HB4.out.blk.lt
    simp only [List.getElem?_toArray, List.getElem?_cons_succ, List.getElem?_cons_zero] at b1
    try dsimp only [Act.put]
    go_upto_region 6 with fail
    clear b1 bl c2 hg1 hg2
    go_loopw [29] (fun iv wr => ∃ j : Nat, j ≤ b.sl.length ∧ iv = .int .i64 j ∧ BdAt wr base B { b with hs := b.hs.set k { x with al := false }, sl := lostGo b.sl id j } (.slice (some ⟨g, 0, none⟩) b.hs.length ch) (.slice as_ b.sl.length cs) ∧ Blk wr w.heap.size 30 #[.int .i64 0, .int .i64 0] ∧ KpB w wr B (.slice (some ⟨g, 0, none⟩) b.hs.length ch) (.slice as_ b.sl.length cs))
      (fun iv _ => b.sl.length - (intOf iv).toNat)
    case atStart => exact ⟨0, by omega, rfl, by rw [lostGo_zero]; exact HB4.out, HF4.out, HK4.out⟩
    case round =>
      obtain ⟨j, hj, rfl, hbd, hfb, hkp⟩ := hrel
      have HBr := hide hbd
      have HFr := hide hfb
      have HKr := hide hkp
      clear hbd hfb hkp
      by_cases hlt : j < b.sl.length
      · have hll := HL2.out
        obtain ⟨s, hs⟩ : ∃ s, b.sl[j]? = some s := ⟨_, List.getElem?_eq_getElem hlt⟩
        obtain ⟨g2, cap2, hve2, hg1, hg2, hat2⟩ := owns_here HBr.out.slo (lostGo_at (id := id) hs)
        simp only [Value.slice.injEq] at hve2
        obtain ⟨rfl, hne, rfl⟩ := hve2
        clear hne
        obtain ⟨d0, d1, d2, d3, d4, d5⟩ := hat2.slot
        have b1 := HBr.out.blk.cell 1
        have bl := HBr.out.blk.lt
        simp only [List.getElem?_toArray, List.getElem?_cons_succ, List.getElem?_cons_zero] at b1
        have hk1 : (0 : Int) ≤ (j : Int) := by omega
        have hk2 : (j : Int) < (b.sl.length : Int) := by omega
        by_cases hq : s.ho = id
        · have e1 : (s.ho == id) = true := by simp [hq]
          have HSET := hide (lostGo_set hs hq)
          have hslo := HBr.out.slo
          dsimp only at hslo
          have HTO := hide (turnOff_any base (lostGo b.sl id j) g2 _ j wr (by rw [lostGo_len] at hslo ⊢; exact hslo) (by rw [lostGo_len]; exact hlt))
          have hgd : (lostGo b.sl id j).getD j zeroSl = s := by rw [List.getD_eq_getElem?_getD, lostGo_at hs]; rfl
          rw [hgd, HSET.out, lostGo_len] at HTO
          clear hgd hslo hs hq hat2 d0 d1 d2 d3 d5
          go_wp2_with (go_at_call 90; refine HTO.out.mono ?_; rintro e w5 ⟨rfl, ho5, hg5⟩; have HB5 := hide (HBr.out.slots (sl := lostGo b.sl id (j + 1)) hg5 (by rw [lostGo_len]; exact ho5) (by simp [lostGo_len])); have HF5 := hide (HFr.out.grown hg5 (fun q => owns_off HBr.out.slo HFr.out (by decide) (by simp [Value.ownBlock]; simpa using q.symm))); have HK5 := hide (HKr.out.step hg5 (.inr (.inr (.inl rfl)))); clear ho5 hg5)
          go_roundw
          case rel => exact ⟨j + 1, by omega, by go_num, HB5.out, HF5.out, HK5.out⟩
          case measure => simp [intOf]; omega
        · have e1 : (s.ho == id) = false := beq_eq_false_iff_ne.2 hq
          have HKEEP := hide (lostGo_keep hs hq)
          clear hs hq hat2 d0 d1 d2 d3 d5
          go_wp2_with fail
          go_roundw
          case rel => exact ⟨j + 1, by omega, by go_num, by rw [← HKEEP.out]; exact HBr.out, HFr.out, HKr.out⟩
          case measure => simp [intOf]; omega
      · have hje : j = b.sl.length := by omega
        subst hje
        rw [lostGo_all] at HBr
        go_wp2_with (refine wpList_store_blk rfl rfl rfl rfl HFr.out rfl Try.sizeFaultA rfl ?_; intro w8 hF8 hg8; have HF8 := hide hF8; have HB8 := hide (HBr.out.off HFr.out hg8 (by decide) (by decide) (by decide)); have HK8 := hide (HKr.out.step hg8 (.inr (.inr (.inr (fun k hk => by cases hk; omega))))); clear hF8 hg8)
        refine bodyPost_ret (v := .agg #[.int .i64 0, .int .i64 0]) (results1_cell Try.results60 rfl (run_loadVar_blk HF8.out Try.underlying30 rfl Try.sizeFaultA)) rfl ?_
        exact ⟨by rw [HE.out]; rfl, by rw [HBD.out]; exact ⟨_, _, HB8.out⟩, HK8.out⟩

end Go.Proofs.Ytoeobhehjnkkkaa
