/-
  Texts joined: AsW16.
-/
import Derived.Test.YtoeobhehjnkkkaaMLocateDoesAsW15
/-
  The walk over do of package assign; split's and join's contracts are hypotheses here. (Written by as16.py.)
-/
namespace Go.Proofs.Ytoeobhehjnkkkaa
open Go.RowKit Go.Maps
set_option linter.unusedVariables false

theorem KpB.blk {w w' : World} {base B f : Nat} {b : Bd} {hv sv : Value} {t : TypeId} {xs : Array Value} (h : KpB w w' B hv sv) (hb : BdAt w base B b hv sv) (hF : Blk w f t xs) (h1 : t ≠ 80) (h2 : 42 ≠ t) (h3 : 46 ≠ t) : Blk w' f t xs := by
  have e : w'.heap[f]? = w.heap[f]? := h.block f hF.lt (fun q => by
      subst q
      have e1 := hb.blk
      unfold Blk at e1 hF
      rw [e1] at hF
      simp only [Option.some.injEq, Obj.cells.injEq] at hF
      exact h1 hF.2.1.symm) (owns_off hb.hos hF h2).symm (owns_off hb.slo hF h3).symm
  unfold Blk
  rw [e]
  exact hF

theorem KpB.after {w W w' : World} {B : Nat} {hv sv : Value} (hb : Below w.heap.size w W) (h : KpB W w' B hv sv) : KpB w w' B hv sv :=
  ⟨h.os.trans hb.os, h.tape.trans hb.tape, h.output.trans hb.output, Nat.le_trans hb.size h.size, fun k hk h1 h2 h3 => (h.block k (Nat.lt_of_lt_of_le hk hb.size) h1 h2 h3).trans (hb.block k hk)⟩

/-- What is told of an order (fs, fj: of one that splits, that joins). -/
def doF (b : Bd) (o : Od) (fs fj : Int × Int) : Int × Int :=
  if o.kind = 1 then comeF b o.id else if o.kind = 2 then loseF b o.id else if o.kind = 3 then giveF b o.id o.ho
  else if o.kind = 4 then heF b.sl (idxS b.sl o.id) o.ho o.tu 1 else if o.kind = 5 then slF b.sl (idxS b.sl o.id) 2
  else if o.kind = 6 then heF b.sl (idxS b.sl o.id) o.ho o.tu 3 else if o.kind = 7 then fs else if o.kind = 8 then fj else (4, 0)

/-- The board behind an order. -/
def doB (b : Bd) (o : Od) (bs bj : Bd) : Bd :=
  if o.kind = 1 then comeB b o.id else if o.kind = 2 then loseB b o.id else if o.kind = 3 then giveB b o.id o.ho
  else if o.kind = 4 then actS b (idxS b.sl o.id) (heF b.sl (idxS b.sl o.id) o.ho o.tu 1) (fun s => { s with st := 2 }) else if o.kind = 5 then actS b (idxS b.sl o.id) (slF b.sl (idxS b.sl o.id) 2) (fun s => { s with st := 3 })
  else if o.kind = 6 then actS b (idxS b.sl o.id) (heF b.sl (idxS b.sl o.id) o.ho o.tu 3) offS else if o.kind = 7 then bs else if o.kind = 8 then bj else b

set_option maxRecDepth 100000 in
set_option maxHeartbeats 8000000 in
theorem do_any (base B : Nat) (b : Bd) (hv sv : Value) (o : Od) (fs fj : Int × Int) (bs bj : Bd) (w : World) (h : BdAt w base B b hv sv) (hok : OkB b) (hbw : base ≤ w.heap.size)
    (hsp : ∀ W, BdAt W base B b hv sv → base ≤ W.heap.size → Calls Try.prog 65 #[.pointer (some ⟨B, 0, none⟩), .int .i64 o.id, .string o.row] W (DoneB W base B hv sv bs fs))
    (hjn : ∀ W, BdAt W base B b hv sv → base ≤ W.heap.size → Calls Try.prog 66 #[.pointer (some ⟨B, 0, none⟩), .int .i64 o.id] W (DoneB W base B hv sv bj fj)) :
    Calls Try.prog 33 #[.pointer (some ⟨B, 0, none⟩), odV o] w (DoneB w base B hv sv (doB b o bs bj) (doF b o fs fj)) := by
  obtain ⟨hOB, hFB, hA⟩ := two_atA w #[.int .i64 o.kind, .int .i64 o.id, .int .i64 o.ho, .int .i64 o.tu, .string o.row] #[.int .i64 0, .int .i64 0] 50 30
  have HO0 := hide hOB
  have HF0 := hide hFB
  have HA0 := hide hA
  have HB0 := hide (h.later hA)
  have HBW := hide (Nat.le_trans hbw hA.size)
  have o0 := hOB.cell 0
  have o1 := hOB.cell 1
  have o2 := hOB.cell 2
  have o4 := hOB.cell 4
  have ol := hOB.lt
  simp only [List.getElem?_toArray, List.getElem?_cons_succ, List.getElem?_cons_zero] at o0 o1 o2 o4
  generalize hW : ((w.alloc (.cells #[.int .i64 o.kind, .int .i64 o.id, .int .i64 o.ho, .int .i64 o.tu, .string o.row] 50)).alloc (.cells #[.int .i64 0, .int .i64 0] 30)) = W0 at HO0 HF0 HA0 HB0 HBW o0 o1 o2 o4 ol
  have HW := hide hW
  have HSP := hide (hsp W0 HB0.out HBW.out)
  have HJN := hide (hjn W0 HB0.out HBW.out)
  have hl1 : b.hs.length ≤ 1000 := by have := hok.hl; omega
  have hl2 : b.sl.length ≤ 1000 := by have := hok.sl; omega
  have H1 := hide (come_any base B b hv sv o.id W0 HB0.out hl1 hok.ep HBW.out)
  have H2 := hide (lose_any base B b hv sv o.id W0 HB0.out hl1 hl2)
  have H3 := hide (give_any base B b hv sv o.id o.ho W0 HB0.out hl1 hok.tu)
  have H4 := hide (opened_any base B b hv sv o W0 HB0.out)
  have H5 := hide (close_any base B b hv sv o.id W0 HB0.out)
  have H6 := hide (closed_any base B b hv sv o W0 HB0.out)
  clear h hok hbw hsp hjn hOB hFB hA hW hl1 hl2
  by_cases c1 : o.kind = 1
  · have HFE := hide (show doF b o fs fj = _ by unfold doF; rw [if_pos c1])
    have HBE := hide (show doB b o bs bj = _ by unfold doB; rw [if_pos c1])
    rw [HFE.out, HBE.out]
    have e1 : (o.kind == 1) = true := by simp [c1]
    clear  c1 HFE HBE
    skip
    unfold odV
    as_aux_lemma =>
      go_enter Try.func33, Try.ntmps33
      go_upto_region 1 with fail
      rw [HW.out]
      clear HW
      go_wp2_with (first
        | (go_at_call 59; refine H1.out.mono ?_; rintro e w1 ⟨rfl, hbd, hkp⟩; have HBD := hide hbd; have HKP := hide hkp; have HF1 := hide (hkp.blk HB0.out HF0.out (by decide) (by decide) (by decide)); clear hbd hkp; unfold flt)
        | (refine wpList_store_blk rfl rfl rfl rfl HF1.out rfl Try.sizeFaultA rfl ?_; intro w8 hF8 hg8; have HF8 := hide hF8; have HG8 := hide hg8; clear hF8 hg8))
      obtain ⟨hv', sv', hb1⟩ := HBD.out
      refine bodyPost_ret (v := flt _) (results1_cell Try.results33 rfl (run_loadVar_blk HF8.out Try.underlying30 rfl Try.sizeFaultA)) rfl ?_
      exact ⟨rfl, ⟨hv', sv', hb1.off HF1.out HG8.out (by decide) (by decide) (by decide)⟩, (HKP.out.after HA0.out).step HG8.out (.inr (.inr (.inr (fun k hk => by cases hk; omega))))⟩
  have n1 := c1
  have e1 : (o.kind == 1) = false := beq_eq_false_iff_ne.2 c1
  clear c1
  by_cases c2 : o.kind = 2
  · have HFE := hide (show doF b o fs fj = _ by unfold doF; rw [if_neg n1, if_pos c2])
    have HBE := hide (show doB b o bs bj = _ by unfold doB; rw [if_neg n1, if_pos c2])
    rw [HFE.out, HBE.out]
    have e2 : (o.kind == 2) = true := by simp [c2]
    clear n1 c2 HFE HBE
    skip
    unfold odV
    as_aux_lemma =>
      go_enter Try.func33, Try.ntmps33
      go_upto_region 1 with fail
      rw [HW.out]
      clear HW
      go_wp2_with (first
        | (go_at_call 60; refine H2.out.mono ?_; rintro e w1 ⟨rfl, hbd, hkp⟩; have HBD := hide hbd; have HKP := hide hkp; have HF1 := hide (hkp.blk HB0.out HF0.out (by decide) (by decide) (by decide)); clear hbd hkp; unfold flt)
        | (refine wpList_store_blk rfl rfl rfl rfl HF1.out rfl Try.sizeFaultA rfl ?_; intro w8 hF8 hg8; have HF8 := hide hF8; have HG8 := hide hg8; clear hF8 hg8))
      obtain ⟨hv', sv', hb1⟩ := HBD.out
      refine bodyPost_ret (v := flt _) (results1_cell Try.results33 rfl (run_loadVar_blk HF8.out Try.underlying30 rfl Try.sizeFaultA)) rfl ?_
      exact ⟨rfl, ⟨hv', sv', hb1.off HF1.out HG8.out (by decide) (by decide) (by decide)⟩, (HKP.out.after HA0.out).step HG8.out (.inr (.inr (.inr (fun k hk => by cases hk; omega))))⟩
  have n2 := c2
  have e2 : (o.kind == 2) = false := beq_eq_false_iff_ne.2 c2
  clear c2
  by_cases c3 : o.kind = 3
  · have HFE := hide (show doF b o fs fj = _ by unfold doF; rw [if_neg n1, if_neg n2, if_pos c3])
    have HBE := hide (show doB b o bs bj = _ by unfold doB; rw [if_neg n1, if_neg n2, if_pos c3])
    rw [HFE.out, HBE.out]
    have e3 : (o.kind == 3) = true := by simp [c3]
    clear n1 n2 c3 HFE HBE
    skip
    unfold odV
    as_aux_lemma =>
      go_enter Try.func33, Try.ntmps33
      go_upto_region 1 with fail
      rw [HW.out]
      clear HW
      go_wp2_with (first
        | (go_at_call 61; refine H3.out.mono ?_; rintro e w1 ⟨rfl, hbd, hkp⟩; have HBD := hide hbd; have HKP := hide hkp; have HF1 := hide (hkp.blk HB0.out HF0.out (by decide) (by decide) (by decide)); clear hbd hkp; unfold flt)
        | (refine wpList_store_blk rfl rfl rfl rfl HF1.out rfl Try.sizeFaultA rfl ?_; intro w8 hF8 hg8; have HF8 := hide hF8; have HG8 := hide hg8; clear hF8 hg8))
      obtain ⟨hv', sv', hb1⟩ := HBD.out
      refine bodyPost_ret (v := flt _) (results1_cell Try.results33 rfl (run_loadVar_blk HF8.out Try.underlying30 rfl Try.sizeFaultA)) rfl ?_
      exact ⟨rfl, ⟨hv', sv', hb1.off HF1.out HG8.out (by decide) (by decide) (by decide)⟩, (HKP.out.after HA0.out).step HG8.out (.inr (.inr (.inr (fun k hk => by cases hk; omega))))⟩
  have n3 := c3
  have e3 : (o.kind == 3) = false := beq_eq_false_iff_ne.2 c3
  clear c3
  by_cases c4 : o.kind = 4
  · have HFE := hide (show doF b o fs fj = _ by unfold doF; rw [if_neg n1, if_neg n2, if_neg n3, if_pos c4])
    have HBE := hide (show doB b o bs bj = _ by unfold doB; rw [if_neg n1, if_neg n2, if_neg n3, if_pos c4])
    rw [HFE.out, HBE.out]
    have e4 : (o.kind == 4) = true := by simp [c4]
    clear n1 n2 n3 c4 HFE HBE
    unfold odV at H4
    unfold odV
    as_aux_lemma =>
      go_enter Try.func33, Try.ntmps33
      go_upto_region 1 with fail
      rw [HW.out]
      clear HW
      go_wp2_with (first
      | (refine wpList_load_blk HO0.out Try.underlying50 rfl Try.sizeOrder rfl rfl rfl ?_)
        | (go_at_call 62; refine H4.out.mono ?_; rintro e w1 ⟨rfl, hbd, hkp⟩; have HBD := hide hbd; have HKP := hide hkp; have HF1 := hide (hkp.blk HB0.out HF0.out (by decide) (by decide) (by decide)); clear hbd hkp; unfold flt)
        | (refine wpList_store_blk rfl rfl rfl rfl HF1.out rfl Try.sizeFaultA rfl ?_; intro w8 hF8 hg8; have HF8 := hide hF8; have HG8 := hide hg8; clear hF8 hg8))
      obtain ⟨hv', sv', hb1⟩ := HBD.out
      refine bodyPost_ret (v := flt _) (results1_cell Try.results33 rfl (run_loadVar_blk HF8.out Try.underlying30 rfl Try.sizeFaultA)) rfl ?_
      exact ⟨rfl, ⟨hv', sv', hb1.off HF1.out HG8.out (by decide) (by decide) (by decide)⟩, (HKP.out.after HA0.out).step HG8.out (.inr (.inr (.inr (fun k hk => by cases hk; omega))))⟩
  have n4 := c4
  have e4 : (o.kind == 4) = false := beq_eq_false_iff_ne.2 c4
  clear c4
  by_cases c5 : o.kind = 5
  · have HFE := hide (show doF b o fs fj = _ by unfold doF; rw [if_neg n1, if_neg n2, if_neg n3, if_neg n4, if_pos c5])
    have HBE := hide (show doB b o bs bj = _ by unfold doB; rw [if_neg n1, if_neg n2, if_neg n3, if_neg n4, if_pos c5])
    rw [HFE.out, HBE.out]
    have e5 : (o.kind == 5) = true := by simp [c5]
    clear n1 n2 n3 n4 c5 HFE HBE
    skip
    unfold odV
    as_aux_lemma =>
      go_enter Try.func33, Try.ntmps33
      go_upto_region 1 with fail
      rw [HW.out]
      clear HW
      go_wp2_with (first
        | (go_at_call 63; refine H5.out.mono ?_; rintro e w1 ⟨rfl, hbd, hkp⟩; have HBD := hide hbd; have HKP := hide hkp; have HF1 := hide (hkp.blk HB0.out HF0.out (by decide) (by decide) (by decide)); clear hbd hkp; unfold flt)
        | (refine wpList_store_blk rfl rfl rfl rfl HF1.out rfl Try.sizeFaultA rfl ?_; intro w8 hF8 hg8; have HF8 := hide hF8; have HG8 := hide hg8; clear hF8 hg8))
      obtain ⟨hv', sv', hb1⟩ := HBD.out
      refine bodyPost_ret (v := flt _) (results1_cell Try.results33 rfl (run_loadVar_blk HF8.out Try.underlying30 rfl Try.sizeFaultA)) rfl ?_
      exact ⟨rfl, ⟨hv', sv', hb1.off HF1.out HG8.out (by decide) (by decide) (by decide)⟩, (HKP.out.after HA0.out).step HG8.out (.inr (.inr (.inr (fun k hk => by cases hk; omega))))⟩
  have n5 := c5
  have e5 : (o.kind == 5) = false := beq_eq_false_iff_ne.2 c5
  clear c5
  by_cases c6 : o.kind = 6
  · have HFE := hide (show doF b o fs fj = _ by unfold doF; rw [if_neg n1, if_neg n2, if_neg n3, if_neg n4, if_neg n5, if_pos c6])
    have HBE := hide (show doB b o bs bj = _ by unfold doB; rw [if_neg n1, if_neg n2, if_neg n3, if_neg n4, if_neg n5, if_pos c6])
    rw [HFE.out, HBE.out]
    have e6 : (o.kind == 6) = true := by simp [c6]
    clear n1 n2 n3 n4 n5 c6 HFE HBE
    unfold odV at H6
    unfold odV
    as_aux_lemma =>
      go_enter Try.func33, Try.ntmps33
      go_upto_region 1 with fail
      rw [HW.out]
      clear HW
      go_wp2_with (first
      | (refine wpList_load_blk HO0.out Try.underlying50 rfl Try.sizeOrder rfl rfl rfl ?_)
        | (go_at_call 64; refine H6.out.mono ?_; rintro e w1 ⟨rfl, hbd, hkp⟩; have HBD := hide hbd; have HKP := hide hkp; have HF1 := hide (hkp.blk HB0.out HF0.out (by decide) (by decide) (by decide)); clear hbd hkp; unfold flt)
        | (refine wpList_store_blk rfl rfl rfl rfl HF1.out rfl Try.sizeFaultA rfl ?_; intro w8 hF8 hg8; have HF8 := hide hF8; have HG8 := hide hg8; clear hF8 hg8))
      obtain ⟨hv', sv', hb1⟩ := HBD.out
      refine bodyPost_ret (v := flt _) (results1_cell Try.results33 rfl (run_loadVar_blk HF8.out Try.underlying30 rfl Try.sizeFaultA)) rfl ?_
      exact ⟨rfl, ⟨hv', sv', hb1.off HF1.out HG8.out (by decide) (by decide) (by decide)⟩, (HKP.out.after HA0.out).step HG8.out (.inr (.inr (.inr (fun k hk => by cases hk; omega))))⟩
  have n6 := c6
  have e6 : (o.kind == 6) = false := beq_eq_false_iff_ne.2 c6
  clear c6
  by_cases c7 : o.kind = 7
  · have HFE := hide (show doF b o fs fj = _ by unfold doF; rw [if_neg n1, if_neg n2, if_neg n3, if_neg n4, if_neg n5, if_neg n6, if_pos c7])
    have HBE := hide (show doB b o bs bj = _ by unfold doB; rw [if_neg n1, if_neg n2, if_neg n3, if_neg n4, if_neg n5, if_neg n6, if_pos c7])
    rw [HFE.out, HBE.out]
    have e7 : (o.kind == 7) = true := by simp [c7]
    clear n1 n2 n3 n4 n5 n6 c7 HFE HBE
    skip
    unfold odV
    as_aux_lemma =>
      go_enter Try.func33, Try.ntmps33
      go_upto_region 1 with fail
      rw [HW.out]
      clear HW
      go_wp2_with (first
        | (go_at_call 65; refine HSP.out.mono ?_; rintro e w1 ⟨rfl, hbd, hkp⟩; have HBD := hide hbd; have HKP := hide hkp; have HF1 := hide (hkp.blk HB0.out HF0.out (by decide) (by decide) (by decide)); clear hbd hkp; unfold flt)
        | (refine wpList_store_blk rfl rfl rfl rfl HF1.out rfl Try.sizeFaultA rfl ?_; intro w8 hF8 hg8; have HF8 := hide hF8; have HG8 := hide hg8; clear hF8 hg8))
      obtain ⟨hv', sv', hb1⟩ := HBD.out
      refine bodyPost_ret (v := flt _) (results1_cell Try.results33 rfl (run_loadVar_blk HF8.out Try.underlying30 rfl Try.sizeFaultA)) rfl ?_
      exact ⟨rfl, ⟨hv', sv', hb1.off HF1.out HG8.out (by decide) (by decide) (by decide)⟩, (HKP.out.after HA0.out).step HG8.out (.inr (.inr (.inr (fun k hk => by cases hk; omega))))⟩
  have n7 := c7
  have e7 : (o.kind == 7) = false := beq_eq_false_iff_ne.2 c7
  clear c7
  by_cases c8 : o.kind = 8
  · have HFE := hide (show doF b o fs fj = _ by unfold doF; rw [if_neg n1, if_neg n2, if_neg n3, if_neg n4, if_neg n5, if_neg n6, if_neg n7, if_pos c8])
    have HBE := hide (show doB b o bs bj = _ by unfold doB; rw [if_neg n1, if_neg n2, if_neg n3, if_neg n4, if_neg n5, if_neg n6, if_neg n7, if_pos c8])
    rw [HFE.out, HBE.out]
    have e8 : (o.kind == 8) = true := by simp [c8]
    clear n1 n2 n3 n4 n5 n6 n7 c8 HFE HBE
    skip
    unfold odV
    as_aux_lemma =>
      go_enter Try.func33, Try.ntmps33
      go_upto_region 1 with fail
      rw [HW.out]
      clear HW
      go_wp2_with (first
        | (go_at_call 66; refine HJN.out.mono ?_; rintro e w1 ⟨rfl, hbd, hkp⟩; have HBD := hide hbd; have HKP := hide hkp; have HF1 := hide (hkp.blk HB0.out HF0.out (by decide) (by decide) (by decide)); clear hbd hkp; unfold flt)
        | (refine wpList_store_blk rfl rfl rfl rfl HF1.out rfl Try.sizeFaultA rfl ?_; intro w8 hF8 hg8; have HF8 := hide hF8; have HG8 := hide hg8; clear hF8 hg8))
      obtain ⟨hv', sv', hb1⟩ := HBD.out
      refine bodyPost_ret (v := flt _) (results1_cell Try.results33 rfl (run_loadVar_blk HF8.out Try.underlying30 rfl Try.sizeFaultA)) rfl ?_
      exact ⟨rfl, ⟨hv', sv', hb1.off HF1.out HG8.out (by decide) (by decide) (by decide)⟩, (HKP.out.after HA0.out).step HG8.out (.inr (.inr (.inr (fun k hk => by cases hk; omega))))⟩
  have n8 := c8
  have e8 : (o.kind == 8) = false := beq_eq_false_iff_ne.2 c8
  clear c8
  have HFE := hide (show doF b o fs fj = (4, 0) by unfold doF; rw [if_neg n1, if_neg n2, if_neg n3, if_neg n4, if_neg n5, if_neg n6, if_neg n7, if_neg n8])
  have HBE := hide (show doB b o bs bj = b by unfold doB; rw [if_neg n1, if_neg n2, if_neg n3, if_neg n4, if_neg n5, if_neg n6, if_neg n7, if_neg n8])
  rw [HFE.out, HBE.out]
  clear n1 n2 n3 n4 n5 n6 n7 n8 HFE HBE
  unfold odV
  as_aux_lemma =>
    go_enter Try.func33, Try.ntmps33
    go_upto_region 1 with fail
    rw [HW.out]
    clear HW
    go_wp2_with (refine wpList_store_blk rfl rfl rfl rfl HF0.out rfl Try.sizeFaultA rfl ?_; intro w8 hF8 hg8; have HF8 := hide hF8; have HG8 := hide hg8; clear hF8 hg8)
    refine bodyPost_ret (v := flt (4, 0)) (results1_cell Try.results33 rfl (run_loadVar_blk HF8.out Try.underlying30 rfl Try.sizeFaultA)) rfl ?_
    exact ⟨rfl, ⟨hv, sv, HB0.out.off HF0.out HG8.out (by decide) (by decide) (by decide)⟩, (KpB.of_below HA0.out).step HG8.out (.inr (.inr (.inr (fun k hk => by cases hk; omega))))⟩

end Go.Proofs.Ytoeobhehjnkkkaa
