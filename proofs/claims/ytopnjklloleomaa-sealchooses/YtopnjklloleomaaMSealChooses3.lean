/-
  Texts joined: SealW1, SealW2, SealW3, LeaseC1, SealW4, SealW5, SealW6.
-/
import Derived.Test.YtopnjklloleomaaMSealChooses2
import Derived.Test.YtopnjklloleomaaRows
import Derived.Lib.SmallJoins
import Derived.Deep.RegionLaw
import Derived.Deep.RegionWith
/-
  The walks over package seal's small functions. (Written by sw1.py.)
-/
namespace Go.Proofs.Ytopnjklloleomaa
open Go.RowKit
set_option linter.unusedVariables false

theorem Try.sizeFaultS : (Try.prog.info? 29).map (·.size) = some 2 := by kernel_rfl

theorem Try.sizeCopy : (Try.prog.info? 24).map (·.size) = some 4 := by kernel_rfl

theorem Try.sizeTexts : (Try.prog.info? 22).map (·.size) = some 1 := by kernel_rfl

theorem infoText : (Try.prog.info? 9).map (fun i => (i.zero, i.size, i.bytes)) = some (some (.string ⟨#[]⟩), 1, 16) := by kernel_rfl

/-- A text's place. -/
def txE : En ByteArray 1 where
  v r := [.string r]
  len _ := rfl
  one p u hu := by
    simp only [List.mem_cons, List.not_mem_nil, or_false] at hu
    subst hu
    rfl
  pos := by decide

theorem RdG.hereT {w : World} {ao : Option Addr} {n cap : Nat} {l : List ByteArray} (h : RdG txE w (.slice ao n cap) l) {i : Nat} {x : ByteArray} (hi : l[i]? = some x) :
    ∃ b off, ao = some ⟨b, off, none⟩ ∧ b < w.heap.size ∧ w.cell? ⟨b, off + i, none⟩ = some (.string x) := by
  obtain ⟨b, off, e, hb, hat⟩ := h.here hi
  have := hat 0 _ rfl
  rw [Nat.mul_one, Nat.add_zero] at this
  exact ⟨b, off, e, hb, this⟩

theorem drop_consT {l : List ByteArray} {i : Nat} {x : ByteArray} (h : l[i]? = some x) : l.drop i = x :: l.drop (i + 1) := by
  obtain ⟨hl, rfl⟩ := List.getElem?_eq_some_iff.1 h
  exact List.drop_eq_getElem_cons hl

/-- A copy as a value. -/
def cpV (c : Cp) (v : Value) : Value := .agg #[.int .i64 c.ep, .bool c.cl, v, .int .i64 c.en]

set_option maxRecDepth 100000 in
theorem isLong_any (r : ByteArray) (w : World) : Calls Try.prog 41 #[.string r] w fun e w' => e = .returned (.bool (decide (200 < r.size))) ∧ w' = w := by
  by_cases h : 200 < r.size
  · have HE := hide (decide_eq_true h)
    go_enter Try.func41, Try.ntmps41
    go_wp2_with fail
    go_ret
    exact ⟨by rw [HE.out]; simp; omega, rfl⟩
  · have HE := hide (decide_eq_false h)
    go_enter Try.func41, Try.ntmps41
    go_wp2_with fail
    go_ret
    exact ⟨by rw [HE.out]; simp; omega, rfl⟩

set_option maxRecDepth 100000 in
set_option maxHeartbeats 1000000 in
theorem IndexLong_any (v : Value) (l : List ByteArray) (w : World) (hv : RdG txE w v l) :
    Calls Try.prog 40 #[v, .func (.func 41) #[] #[]] w fun e w' => e = .returned (.int .i64 (longI l 0)) ∧ Below w.heap.size w w' := by
  have HV := hide hv
  obtain ⟨ao, cap, rfl, hc1, hc2⟩ := hv.shape
  unfold maxLen at hc2
  clear hv
  go_enter Try.func40, Try.ntmps40
  go_wp2_with fail
  go_loopw [8] (fun iv wr => ∃ (j : Nat), j ≤ l.length ∧ iv = .int .i64 j ∧ longI (l.drop j) j = longI l 0 ∧ Below w.heap.size w wr)
    (fun iv _ => l.length - (intOf iv).toNat)
  case atStart => exact ⟨0, by omega, rfl, rfl, Below.refl _ _⟩
  case round =>
    obtain ⟨j, hj, rfl, hgo, hbel⟩ := hrel
    have HG := hide hgo
    have HB := hide hbel
    clear hgo
    by_cases hlt : j < l.length
    · obtain ⟨r, hr⟩ : ∃ c, l[j]? = some c := ⟨_, List.getElem?_eq_getElem hlt⟩
      rw [drop_consT hr] at HG
      obtain ⟨b, off, rfl, hbb, q⟩ := HV.out.hereT hr
      have q1 := cell_belowG q hbel
      have hb' : b < wr.heap.size := Nat.lt_of_lt_of_le hbb hbel.size
      have hk1 : (0 : Int) ≤ (j : Int) := by omega
      have hk2 : (j : Int) < (l.length : Int) := by omega
      clear q hr hbel
      by_cases hq : 200 < r.size
      · have HE := hide (HG.out.symm.trans (longI_yes hq))
        have HQ := hide (decide_eq_true hq)
        go_wp2_with (go_at_call 41; refine (isLong_any r _).mono ?_; rw [HQ.out]; rintro e w2 ⟨rfl, rfl⟩)
        go_ret
        exact ⟨by rw [HE.out]; rfl, HB.out⟩
      · have HE := hide (HG.out.symm.trans (longI_no hq))
        have HQ := hide (decide_eq_false hq)
        go_wp2_with (go_at_call 41; refine (isLong_any r _).mono ?_; rw [HQ.out]; rintro e w2 ⟨rfl, rfl⟩)
        go_roundw
        case rel => exact ⟨j + 1, by omega, by go_num, HE.out.symm, HB.out⟩
        case measure => simp [intOf]; omega
    · have hje : j = l.length := by omega
      subst hje
      rw [List.drop_length] at HG
      have HE : Hid (longI l 0 = -1) := hide HG.out.symm
      clear hbel
      go_wp2_with fail
      go_ret
      exact ⟨by rw [HE.out]; rfl, HB.out⟩

set_option maxRecDepth 100000 in
set_option maxHeartbeats 1000000 in
theorem longFault_any (v : Value) (l : List ByteArray) (w : World) (hv : RdG txE w v l) :
    Calls Try.prog 23 #[v] w fun e w' => e = .returned (flt (longF l)) ∧ Below w.heap.size w w' := by
  have HI := hide (IndexLong_any v l _ (hv.alloc (.cells #[.int .i64 0, .int .i64 0] 29)))
  obtain ⟨ao, cap, rfl, _, _⟩ := hv.shape
  have HR0 := hide (Blk.new w 29 #[.int .i64 0, .int .i64 0])
  have HB0 := hide (below_allocG w (.cells #[.int .i64 0, .int .i64 0] 29))
  have HF : Hid (longF l = if 0 ≤ longI l 0 then (8, longI l 0) else (0, 0)) := hide rfl
  generalize longI l 0 = I at *
  clear hv
  go_enter Try.func23, Try.ntmps23
  go_wp2_with fail
  refine HI.out.mono ?_
  rintro e w1 ⟨rfl, hb1⟩
  have HR := hide (HR0.out.later hb1)
  have HBW := hide (HB0.out.trans (hb1.mono HB0.out.size))
  clear hb1
  by_cases h : 0 ≤ I
  · have HE := hide (HF.out.trans (if_pos h))
    go_wp2_with (refine wpList_store_blk rfl rfl rfl rfl HR.out rfl Try.sizeFaultS rfl ?_; intro w8 hR8 hg8; have HR8 := hide hR8; have HG8 := hide hg8; clear hR8 hg8)
    refine bodyPost_ret (v := .agg #[.int .i64 (8), .int .i64 (I)]) (results1_cell Try.results23 rfl (run_loadVar_blk HR8.out Try.underlying29 rfl Try.sizeFaultS)) rfl ?_
    exact ⟨by rw [HE.out]; rfl, below_grownO HBW.out HG8.out (by simp) HBW.out.size⟩
  · have HE := hide (HF.out.trans (if_neg h))
    go_wp2_with (refine wpList_store_blk rfl rfl rfl rfl HR.out rfl Try.sizeFaultS rfl ?_; intro w8 hR8 hg8; have HR8 := hide hR8; have HG8 := hide hg8; clear hR8 hg8)
    refine bodyPost_ret (v := .agg #[.int .i64 (0), .int .i64 (0)]) (results1_cell Try.results23 rfl (run_loadVar_blk HR8.out Try.underlying29 rfl Try.sizeFaultS)) rfl ?_
    exact ⟨by rw [HE.out]; rfl, below_grownO HBW.out HG8.out (by simp) HBW.out.size⟩

set_option maxRecDepth 100000 in
set_option maxHeartbeats 1000000 in
theorem chosenFault_any (v : Value) (l : List ByteArray) (w : World) (hv : RdG txE w v l) :
    Calls Try.prog 28 #[v] w fun e w' => e = .returned (flt (chosF l)) ∧ Below w.heap.size w w' := by
  have HI := hide (longFault_any v l _ (hv.alloc (.cells #[.int .i64 0, .int .i64 0] 29)))
  obtain ⟨ao, cap, rfl, _, _⟩ := hv.shape
  have HR0 := hide (Blk.new w 29 #[.int .i64 0, .int .i64 0])
  have HB0 := hide (below_allocG w (.cells #[.int .i64 0, .int .i64 0] 29))
  have HF : Hid (chosF l = if 100 < l.length then (2, -2) else longF l) := hide rfl
  generalize hI : longF l = I at *
  obtain ⟨x, y⟩ := I
  clear hv hI
  by_cases h : 100 < l.length
  · have HE := hide (HF.out.trans (if_pos h))
    go_enter Try.func28, Try.ntmps28
    go_wp2_with (refine wpList_store_blk rfl rfl rfl rfl HR0.out rfl Try.sizeFaultS rfl ?_; intro w8 hR8 hg8; have HR8 := hide hR8; have HG8 := hide hg8; clear hR8 hg8)
    refine bodyPost_ret (v := .agg #[.int .i64 (2), .int .i64 (-2)]) (results1_cell Try.results28 rfl (run_loadVar_blk HR8.out Try.underlying29 rfl Try.sizeFaultS)) rfl ?_
    exact ⟨by rw [HE.out]; rfl, below_grownO HB0.out HG8.out (by simp) HB0.out.size⟩
  · have HE := hide (HF.out.trans (if_neg h))
    go_enter Try.func28, Try.ntmps28
    go_wp2_with fail
    refine HI.out.mono ?_
    rintro e w1 ⟨rfl, hb1⟩
    have HR := hide (HR0.out.later hb1)
    have HBW := hide (HB0.out.trans (hb1.mono HB0.out.size))
    clear hb1
    unfold flt
    go_wp2_with (refine wpList_store_blk rfl rfl rfl rfl HR.out rfl Try.sizeFaultS rfl ?_; intro w8 hR8 hg8; have HR8 := hide hR8; have HG8 := hide hg8; clear hR8 hg8)
    refine bodyPost_ret (v := .agg #[.int .i64 (x), .int .i64 (y)]) (results1_cell Try.results28 rfl (run_loadVar_blk HR8.out Try.underlying29 rfl Try.sizeFaultS)) rfl ?_
    exact ⟨by rw [HE.out]; rfl, below_grownO HBW.out HG8.out (by simp) HBW.out.size⟩

set_option maxRecDepth 100000 in
set_option maxHeartbeats 4000000 in
theorem SCheck_any (c : Cp) (v : Value) (w : World) (hv : RdG txE w v c.recs) :
    Calls Try.prog 8 #[cpV c v] w fun e w' => e = .returned (flt (chkC c)) ∧ Below w.heap.size w w' := by
  obtain ⟨ep, cl, l, en⟩ := c
  simp only at hv
  obtain ⟨ao, cap, rfl, _, _⟩ := hv.shape
  have HI := hide (longFault_any _ l _ (hv.below (below_alloc2 w (.cells #[.int .i64 ep, .bool cl, .slice ao l.length cap, .int .i64 en] 24) (.cells #[.int .i64 0, .int .i64 0] 29))))
  have HR0 := hide (Blk.at1 w (.cells #[.int .i64 ep, .bool cl, .slice ao l.length cap, .int .i64 en] 24) 29 #[.int .i64 0, .int .i64 0])
  have HB0 := hide (below_alloc2 w (.cells #[.int .i64 ep, .bool cl, .slice ao l.length cap, .int .i64 en] 24) (.cells #[.int .i64 0, .int .i64 0] 29))
  have HF : Hid (chkC ⟨ep, cl, l, en⟩ = if ¬ (numL ep = true ∧ numL en = true) then (3, -1) else if ep < en ∨ (0 < en ∧ cl = false) then (11, -1) else if 100 < l.length then (2, -1) else longF l) := hide rfl
  generalize hI : longF l = I at *
  obtain ⟨x, y⟩ := I
  clear hv hI
  unfold cpV
  cases h1 : numL ep
  · have HE := hide (HF.out.trans (if_pos (by rw [h1]; simp)))
    have HN1 := hide h1
    have HN2 := hide h1
    clear h1
    go_enter Try.func8, Try.ntmps8
    go_wp2_with (first
      | (go_at_call_of 22 (Value.int IntKind.i64 ep); refine (lIsNum_any ep _).mono ?_; rw [HN1.out]; rintro e w1 ⟨rfl, rfl⟩)
      | (go_at_call_of 22 (Value.int IntKind.i64 en); refine (lIsNum_any en _).mono ?_; rw [HN2.out]; rintro e w1 ⟨rfl, rfl⟩))
    exact bodyPost_ret (v := flt (3, -1)) (by simp [results, Try.results8, go_sem, flt]) rfl ⟨by rw [HE.out], by go_grown⟩
  cases h2 : numL en
  · have HE := hide (HF.out.trans (if_pos (by rw [h2]; simp)))
    have HN1 := hide h1
    have HN2 := hide h2
    clear h1 h2
    go_enter Try.func8, Try.ntmps8
    go_wp2_with (first
      | (go_at_call_of 22 (Value.int IntKind.i64 ep); refine (lIsNum_any ep _).mono ?_; rw [HN1.out]; rintro e w1 ⟨rfl, rfl⟩)
      | (go_at_call_of 22 (Value.int IntKind.i64 en); refine (lIsNum_any en _).mono ?_; rw [HN2.out]; rintro e w1 ⟨rfl, rfl⟩))
    exact bodyPost_ret (v := flt (3, -1)) (by simp [results, Try.results8, go_sem, flt]) rfl ⟨by rw [HE.out], by go_grown⟩
  have HF1 := hide (HF.out.trans (if_neg (by rw [h1, h2]; simp)))
  have HN1 := hide h1
  have HN2 := hide h2
  clear h1 h2 HF
  by_cases h3 : ep < en
  · have HE := hide (HF1.out.trans (if_pos (.inl h3)))
    go_enter Try.func8, Try.ntmps8
    go_wp2_with (first
      | (go_at_call_of 22 (Value.int IntKind.i64 ep); refine (lIsNum_any ep _).mono ?_; rw [HN1.out]; rintro e w1 ⟨rfl, rfl⟩)
      | (go_at_call_of 22 (Value.int IntKind.i64 en); refine (lIsNum_any en _).mono ?_; rw [HN2.out]; rintro e w1 ⟨rfl, rfl⟩))
    exact bodyPost_ret (v := flt (11, -1)) (by simp [results, Try.results8, go_sem, flt]) rfl ⟨by rw [HE.out], by go_grown⟩
  by_cases h4 : 0 < en
  · cases cl
    · have HE := hide (HF1.out.trans (if_pos (.inr ⟨h4, rfl⟩)))
      go_enter Try.func8, Try.ntmps8
      go_wp2_with (first
        | (go_at_call_of 22 (Value.int IntKind.i64 ep); refine (lIsNum_any ep _).mono ?_; rw [HN1.out]; rintro e w1 ⟨rfl, rfl⟩)
        | (go_at_call_of 22 (Value.int IntKind.i64 en); refine (lIsNum_any en _).mono ?_; rw [HN2.out]; rintro e w1 ⟨rfl, rfl⟩))
      exact bodyPost_ret (v := flt (11, -1)) (by simp [results, Try.results8, go_sem, flt]) rfl ⟨by rw [HE.out], by go_grown⟩
    have HF2 := hide (HF1.out.trans (if_neg (by simp; omega)))
    by_cases h5 : 100 < l.length
    · have HE := hide (HF2.out.trans (if_pos h5))
      go_enter Try.func8, Try.ntmps8
      go_wp2_with (first
        | (go_at_call_of 22 (Value.int IntKind.i64 ep); refine (lIsNum_any ep _).mono ?_; rw [HN1.out]; rintro e w1 ⟨rfl, rfl⟩)
        | (go_at_call_of 22 (Value.int IntKind.i64 en); refine (lIsNum_any en _).mono ?_; rw [HN2.out]; rintro e w1 ⟨rfl, rfl⟩))
      exact bodyPost_ret (v := flt (2, -1)) (by simp [results, Try.results8, go_sem, flt]) rfl ⟨by rw [HE.out], by go_grown⟩
    · have HE := hide (HF2.out.trans (if_neg h5))
      go_enter Try.func8, Try.ntmps8
      go_wp2_with (first
        | (go_at_call_of 22 (Value.int IntKind.i64 ep); refine (lIsNum_any ep _).mono ?_; rw [HN1.out]; rintro e w1 ⟨rfl, rfl⟩)
        | (go_at_call_of 22 (Value.int IntKind.i64 en); refine (lIsNum_any en _).mono ?_; rw [HN2.out]; rintro e w1 ⟨rfl, rfl⟩)
        | (go_at_call 23; refine HI.out.mono ?_; rintro e w1 ⟨rfl, hb1⟩; have HR := hide (HR0.out.later hb1); have HBW := hide (HB0.out.trans (hb1.mono HB0.out.size)); clear hb1; unfold flt)
        | (refine wpList_store_blk rfl rfl rfl rfl HR.out rfl Try.sizeFaultS rfl ?_; intro w8 hR8 hg8; have HR8 := hide hR8; have HG8 := hide hg8; clear hR8 hg8))
      refine bodyPost_ret (v := .agg #[.int .i64 x, .int .i64 y]) (results1_cell Try.results8 rfl (run_loadVar_blk HR8.out Try.underlying29 rfl Try.sizeFaultS)) rfl ?_
      exact ⟨by rw [HE.out]; rfl, below_grownO HBW.out HG8.out (by simp) HBW.out.size⟩
  · have HF2 := hide (HF1.out.trans (if_neg (by omega)))
    by_cases h5 : 100 < l.length
    · have HE := hide (HF2.out.trans (if_pos h5))
      go_enter Try.func8, Try.ntmps8
      go_wp2_with (first
        | (go_at_call_of 22 (Value.int IntKind.i64 ep); refine (lIsNum_any ep _).mono ?_; rw [HN1.out]; rintro e w1 ⟨rfl, rfl⟩)
        | (go_at_call_of 22 (Value.int IntKind.i64 en); refine (lIsNum_any en _).mono ?_; rw [HN2.out]; rintro e w1 ⟨rfl, rfl⟩))
      exact bodyPost_ret (v := flt (2, -1)) (by simp [results, Try.results8, go_sem, flt]) rfl ⟨by rw [HE.out], by go_grown⟩
    · have HE := hide (HF2.out.trans (if_neg h5))
      go_enter Try.func8, Try.ntmps8
      go_wp2_with (first
        | (go_at_call_of 22 (Value.int IntKind.i64 ep); refine (lIsNum_any ep _).mono ?_; rw [HN1.out]; rintro e w1 ⟨rfl, rfl⟩)
        | (go_at_call_of 22 (Value.int IntKind.i64 en); refine (lIsNum_any en _).mono ?_; rw [HN2.out]; rintro e w1 ⟨rfl, rfl⟩)
        | (go_at_call 23; refine HI.out.mono ?_; rintro e w1 ⟨rfl, hb1⟩; have HR := hide (HR0.out.later hb1); have HBW := hide (HB0.out.trans (hb1.mono HB0.out.size)); clear hb1; unfold flt)
        | (refine wpList_store_blk rfl rfl rfl rfl HR.out rfl Try.sizeFaultS rfl ?_; intro w8 hR8 hg8; have HR8 := hide hR8; have HG8 := hide hg8; clear hR8 hg8))
      refine bodyPost_ret (v := .agg #[.int .i64 x, .int .i64 y]) (results1_cell Try.results8 rfl (run_loadVar_blk HR8.out Try.underlying29 rfl Try.sizeFaultS)) rfl ?_
      exact ⟨by rw [HE.out]; rfl, below_grownO HBW.out HG8.out (by simp) HBW.out.size⟩

end Go.Proofs.Ytopnjklloleomaa

/-
  The walks over slices.Clone of texts, seal.copied, seal.epochFault. (Written by sw2.py.)
-/
namespace Go.Proofs.Ytopnjklloleomaa
open Go.RowKit
set_option linter.unusedVariables false

set_option maxRecDepth 100000 in
set_option maxHeartbeats 1000000 in
theorem CloneT_any (v : Value) (l : List ByteArray) (w : World) (hv : RdG txE w v l) (hl : l.length ≤ 1000) :
    Calls Try.prog 30 #[v] w fun e w' => ∃ v', e = .returned v' ∧ w'.ownsRow w.heap.size 9 1 v' l.length (txE.vs l) ∧ Below w.heap.size w w' := by
  have HV := hide hv
  obtain ⟨ao, cap, rfl, hc1, hc2⟩ := hv.shape
  cases ao with
  | none =>
    have hcap : cap = 0 := by
      obtain ⟨ao', cap', e, h1, h2, h3, _⟩ := hv
      simp only [Value.slice.injEq] at e
      obtain ⟨rfl, _, rfl⟩ := e
      exact h3 rfl
    subst hcap
    obtain rfl : l = [] := List.eq_nil_of_length_eq_zero (by omega)
    clear hv
    show Calls Try.prog 30 #[.slice none 0 0] w _
    have heq : ∀ W, (binOp .eql 22 (.slice none 0 0) (.slice none 0 0)).run Try.prog W = .ok (.bool true) W := fun W => by kernel_rfl
    go_enter Try.func30, Try.ntmps30
    go_wp2_with fail
    go_ret
    exact ⟨_, rfl, World.ownsRow_nil _ _ _ _, Below.refl _ _⟩
  | some a =>
    have hl2 : 0 + l.length ≤ 1000000000 := by omega
    have hown : (w.alloc (.cells #[] 9)).ownsRow w.heap.size 9 1 (.slice (some ⟨w.heap.size, 0, none⟩) 0 0) 0 (txE.vs []) := World.ownsRow_made w #[] 0 (Nat.le_refl _) (by decide) rfl
    have hb8 : w.heap.size ≤ (w.alloc (.cells #[] 9)).heap.size := by simp
    have heq : ∀ W, (binOp .eql 22 (.slice (some a) l.length cap) (.slice none 0 0)).run Try.prog W = .ok (.bool false) W := fun W => Lib.run_eql_slice_nil W _ _ _ _ _ _ _ Try.underlying22
    have HV1 := hide (hv.alloc (.cells #[] 9))
    have HBA := hide (below_allocG w (.cells #[] 9))
    clear hv
    go_enter Try.func30, Try.ntmps30
    go_wp2_with (at_builtin; go_must (refine wpList_append_rdG (E := txE) (cs := []) hown HV1.out Try.underlying22 infoText rfl rfl rfl rfl rfl hl2 (by decide) hb8 ?_); intro v1 w1 ho1 hb1 hg1; clear hg1)
    go_ret
    exact ⟨_, rfl, by simpa using ho1, HBA.out.trans hb1⟩

theorem owns_base0 {w : World} {b1 b2 : Nat} {e : TypeId} {K : Nat} {v : Value} {n : Nat} {xs : List Value} (h : w.ownsRow b1 e K v n xs) (hb : b2 ≤ b1) : w.ownsRow b2 e K v n xs := by
  refine ⟨h.1, ?_⟩
  rcases h.2 with hn | ⟨g, cap, cur, rfl, hg, r⟩
  · exact .inl hn
  · exact .inr ⟨g, cap, cur, rfl, by omega, r⟩

/-- A copy's four places. -/
def cpA (c : Cp) (v : Value) : Array Value := #[.int .i64 c.ep, .bool c.cl, v, .int .i64 c.en]

set_option maxRecDepth 100000 in
set_option maxHeartbeats 1000000 in
theorem copied_any (c : Cp) (v : Value) (w : World) (hv : RdG txE w v c.recs) (hl : c.recs.length ≤ 1000) :
    Calls Try.prog 43 #[cpV c v] w fun e w' => ∃ v', e = .returned (cpV c v') ∧ w'.ownsRow w.heap.size 9 1 v' c.recs.length (txE.vs c.recs) ∧ Below w.heap.size w w' := by
  obtain ⟨ep, cl, l, en⟩ := c
  simp only at hv hl ⊢
  obtain ⟨ao, cap, rfl, _, _⟩ := hv.shape
  have HI := hide (CloneT_any _ l _ (hv.below (below_alloc2 w (.cells #[.int .i64 ep, .bool cl, .slice ao l.length cap, .int .i64 en] 24) (.cells #[.int .i64 0, .bool false, .slice none 0 0, .int .i64 0] 24))) hl)
  have HC0 := hide (Blk.at0of2 w (.cells #[.int .i64 0, .bool false, .slice none 0 0, .int .i64 0] 24) 24 #[.int .i64 ep, .bool cl, .slice ao l.length cap, .int .i64 en])
  have HR0 := hide (Blk.at1 w (.cells #[.int .i64 ep, .bool cl, .slice ao l.length cap, .int .i64 en] 24) 24 #[.int .i64 0, .bool false, .slice none 0 0, .int .i64 0])
  have HB0 := hide (below_alloc2 w (.cells #[.int .i64 ep, .bool cl, .slice ao l.length cap, .int .i64 en] 24) (.cells #[.int .i64 0, .bool false, .slice none 0 0, .int .i64 0] 24))
  clear hv
  unfold cpV
  go_enter Try.func43, Try.ntmps43
  go_wp2_with fail
  refine HI.out.mono ?_
  rintro e w1 ⟨v1, rfl, ho1, hb1⟩
  obtain ⟨ao1, cap1, rfl⟩ := owns_shape ho1
  have HO1 := hide (owns_base0 (b2 := w.heap.size) ho1 HB0.out.size)
  have HC1 := hide (HC0.out.later hb1)
  have HR1 := hide (HR0.out.later hb1)
  have HB1 := hide (HB0.out.trans (hb1.mono HB0.out.size))
  have HT := hide (owns_off ho1 (HC0.out.later hb1) (by decide))
  have HT2 := hide (owns_off ho1 (HR0.out.later hb1) (by decide))
  clear ho1 hb1 HI
  go_wp2_with (first
    | (refine wpList_store_slice rfl rfl rfl rfl HC1.out rfl Try.sizeTexts ?_; intro w2 hC2 hg2; have HC2 := hide hC2; have HG2 := hide hg2; have HR2 := hide (HR1.out.grown hg2 (by simp)); clear hC2 hg2)
    | (refine wpList_load_blk HC2.out Try.underlying24 rfl Try.sizeCopy rfl rfl rfl ?_)
    | (refine wpList_store_blk rfl rfl rfl rfl HR2.out rfl Try.sizeCopy rfl ?_; intro w3 hR3 hg3; have HR3 := hide hR3; have HG3 := hide hg3; clear hR3 hg3))
  refine bodyPost_ret (v := .agg #[.int .i64 ep, .bool cl, .slice ao1 l.length cap1, .int .i64 en]) (results1_cell Try.results43 rfl (run_loadVar_blk HR3.out Try.underlying24 rfl Try.sizeCopy)) rfl ?_
  exact ⟨_, rfl, owns_grownO (owns_grownO HO1.out HG2.out (.inr HT.out)) HG3.out (.inr HT2.out), below_grownO (below_grownO HB1.out HG2.out (by simp) HB1.out.size) HG3.out (by simp) (Nat.le_trans HB1.out.size HG2.out.size)⟩

set_option maxRecDepth 100000 in
set_option maxHeartbeats 4000000 in
theorem epochFault_any (c : Cp) (v : Value) (e_ : Int) (g : Int × Int) (hg : Fz g) (w : World) (hv : RdG txE w v c.recs) :
    Calls Try.prog 42 #[cpV c v, .int .i64 e_, flt g] w fun e w' => e = .returned (flt (epF c e_ g)) ∧ Below w.heap.size w w' := by
  have HF : Hid (epF c e_ g = if (chkC c).1 ≠ 0 then chkC c else if e_ = 0 ∨ numL e_ = false then (3, -1) else if g.1 ≠ 0 then g else if e_ < c.ep then (12, -1) else (0, 0)) := hide rfl
  obtain ⟨ep, cl, l, en⟩ := c
  obtain ⟨gx, gy⟩ := g
  simp only at hv HF
  obtain ⟨ao, cap, rfl, _, _⟩ := hv.shape
  have HI := hide (SCheck_any ⟨ep, cl, l, en⟩ _ _ (hv.below (below_alloc3 w (.cells #[.int .i64 ep, .bool cl, .slice ao l.length cap, .int .i64 en] 24) (.cells #[.int .i64 gx, .int .i64 gy] 29) (.cells #[.int .i64 0, .int .i64 0] 29))))
  have HC0 := hide (Blk.at0of3 w (.cells #[.int .i64 gx, .int .i64 gy] 29) (.cells #[.int .i64 0, .int .i64 0] 29) 24 #[.int .i64 ep, .bool cl, .slice ao l.length cap, .int .i64 en])
  have HG0 := hide (Blk.at1of3 w (.cells #[.int .i64 ep, .bool cl, .slice ao l.length cap, .int .i64 en] 24) (.cells #[.int .i64 0, .int .i64 0] 29) 29 #[.int .i64 gx, .int .i64 gy])
  have HR0 := hide (Blk.at2 w (.cells #[.int .i64 ep, .bool cl, .slice ao l.length cap, .int .i64 en] 24) (.cells #[.int .i64 gx, .int .i64 gy] 29) 29 #[.int .i64 0, .int .i64 0])
  have HB0 := hide (below_alloc3 w (.cells #[.int .i64 ep, .bool cl, .slice ao l.length cap, .int .i64 en] 24) (.cells #[.int .i64 gx, .int .i64 gy] 29) (.cells #[.int .i64 0, .int .i64 0] 29))
  have HZ := hide (chkC_z ⟨ep, cl, l, en⟩)
  have HGZ := hide hg
  generalize hK : chkC ⟨ep, cl, l, en⟩ = K at *
  obtain ⟨x, y⟩ := K
  clear hv hK hg
  unfold cpV at HI
  unfold cpV flt
  go_enter Try.func42, Try.ntmps42
  go_wp2_with fail
  refine HI.out.mono ?_
  rintro e w1 ⟨rfl, hb1⟩
  have hC := (HC0.out.later hb1).later (below_allocG w1 (.cells #[.int .i64 x, .int .i64 y] 29))
  have hG := (HG0.out.later hb1).later (below_allocG w1 (.cells #[.int .i64 x, .int .i64 y] 29))
  have hR := (HR0.out.later hb1).later (below_allocG w1 (.cells #[.int .i64 x, .int .i64 y] 29))
  have HBW := hide ((HB0.out.trans (hb1.mono HB0.out.size)).trans ((below_allocG w1 (.cells #[.int .i64 x, .int .i64 y] 29)).mono (HB0.out.trans (hb1.mono HB0.out.size)).size))
  have HS := hide HBW.out.size
  have HF1 := hide (Blk.new w1 29 #[.int .i64 x, .int .i64 y])
  have HR := hide hR
  have HCW := hide hC
  have HGW := hide hG
  clear hb1 hC hG hR HI HC0 HG0 HR0 HB0
  have fc0 := HF1.out.cell 0
  have fc1 := HF1.out.cell 1
  have gc0 := HGW.out.cell 0
  have gc1 := HGW.out.cell 1
  have cc0 := HCW.out.cell 0
  have cl0 := HCW.out.lt
  have gl0 := HGW.out.lt
  simp at gc0 gc1 cc0 cl0 gl0
  clear fc0 fc1
  unfold flt
  by_cases hx : x ≠ 0
  · have HE := hide (HF.out.trans (if_pos hx))
    have hq : (x == 0) = false := beq_eq_false_iff_ne.2 hx
    have hq2 : (x != 0) = true := by simp [hx]
    clear hx
    go_wp2_with (refine wpList_store_blk rfl rfl rfl rfl HR.out rfl Try.sizeFaultS rfl ?_; intro w8 hR8 hg8; have HR8 := hide hR8; have HG8 := hide hg8; clear hR8 hg8)
    refine bodyPost_ret (v := .agg #[.int .i64 (x), .int .i64 (y)]) (results1_cell Try.results42 rfl (run_loadVar_blk HR8.out Try.underlying29 rfl Try.sizeFaultS)) rfl ?_
    exact ⟨by rw [HE.out] <;> rfl, below_grownO HBW.out HG8.out (fun k hk => by cases hk; omega) HBW.out.size⟩
  have HFa := hide (HF.out.trans (if_neg hx))
  obtain rfl : x = 0 := Decidable.not_not.1 hx
  obtain rfl : y = 0 := by have := HZ.out rfl; simpa using this
  clear hx HF HZ
  by_cases he : e_ = 0
  · have HE := hide (HFa.out.trans (if_pos (.inl he)))
    subst he
    go_wp2_with (refine wpList_store_blk rfl rfl rfl rfl HR.out rfl Try.sizeFaultS rfl ?_; intro w8 hR8 hg8; have HR8 := hide hR8; have HG8 := hide hg8; clear hR8 hg8)
    refine bodyPost_ret (v := .agg #[.int .i64 (3), .int .i64 (-1)]) (results1_cell Try.results42 rfl (run_loadVar_blk HR8.out Try.underlying29 rfl Try.sizeFaultS)) rfl ?_
    exact ⟨by rw [HE.out] <;> rfl, below_grownO HBW.out HG8.out (fun k hk => by cases hk; omega) HBW.out.size⟩
  have hq : (e_ == 0) = false := beq_eq_false_iff_ne.2 he
  cases hn : numL e_
  · have HE := hide (HFa.out.trans (if_pos (.inr hn)))
    have HN := hide hn
    clear hn he
    go_wp2_with (first | (go_at_call 22; refine (lIsNum_any e_ _).mono ?_; rw [HN.out]; rintro e w9 ⟨rfl, rfl⟩) | (refine wpList_store_blk rfl rfl rfl rfl HR.out rfl Try.sizeFaultS rfl ?_; intro w8 hR8 hg8; have HR8 := hide hR8; have HG8 := hide hg8; clear hR8 hg8))
    refine bodyPost_ret (v := .agg #[.int .i64 (3), .int .i64 (-1)]) (results1_cell Try.results42 rfl (run_loadVar_blk HR8.out Try.underlying29 rfl Try.sizeFaultS)) rfl ?_
    exact ⟨by rw [HE.out] <;> rfl, below_grownO HBW.out HG8.out (fun k hk => by cases hk; omega) HBW.out.size⟩
  have HFb := hide (HFa.out.trans (if_neg (by rw [hn]; simp [he])))
  have HN := hide hn
  clear hn he HFa
  by_cases hx : gx ≠ 0
  · have HE := hide (HFb.out.trans (if_pos hx))
    have hq1 : (gx == 0) = false := beq_eq_false_iff_ne.2 hx
    have hq2 : (gx != 0) = true := by simp [hx]
    clear hx
    go_wp2_with (first | (go_at_call 22; refine (lIsNum_any e_ _).mono ?_; rw [HN.out]; rintro e w9 ⟨rfl, rfl⟩) | (refine wpList_store_blk rfl rfl rfl rfl HR.out rfl Try.sizeFaultS rfl ?_; intro w8 hR8 hg8; have HR8 := hide hR8; have HG8 := hide hg8; clear hR8 hg8))
    refine bodyPost_ret (v := .agg #[.int .i64 (gx), .int .i64 (gy)]) (results1_cell Try.results42 rfl (run_loadVar_blk HR8.out Try.underlying29 rfl Try.sizeFaultS)) rfl ?_
    exact ⟨by rw [HE.out] <;> rfl, below_grownO HBW.out HG8.out (fun k hk => by cases hk; omega) HBW.out.size⟩
  have HFc := hide (HFb.out.trans (if_neg hx))
  obtain rfl : gx = 0 := Decidable.not_not.1 hx
  obtain rfl : gy = 0 := by have := HGZ.out rfl; simpa using this
  clear hx HFb HGZ
  by_cases hl : e_ < ep
  · have HE := hide (HFc.out.trans (if_pos hl))
    go_wp2_with (first | (go_at_call 22; refine (lIsNum_any e_ _).mono ?_; rw [HN.out]; rintro e w9 ⟨rfl, rfl⟩) | (refine wpList_store_blk rfl rfl rfl rfl HR.out rfl Try.sizeFaultS rfl ?_; intro w8 hR8 hg8; have HR8 := hide hR8; have HG8 := hide hg8; clear hR8 hg8))
    refine bodyPost_ret (v := .agg #[.int .i64 (12), .int .i64 (-1)]) (results1_cell Try.results42 rfl (run_loadVar_blk HR8.out Try.underlying29 rfl Try.sizeFaultS)) rfl ?_
    exact ⟨by rw [HE.out] <;> rfl, below_grownO HBW.out HG8.out (fun k hk => by cases hk; omega) HBW.out.size⟩
  · have HE := hide (HFc.out.trans (if_neg hl))
    go_wp2_with (first | (go_at_call 22; refine (lIsNum_any e_ _).mono ?_; rw [HN.out]; rintro e w9 ⟨rfl, rfl⟩) | (refine wpList_store_blk rfl rfl rfl rfl HR.out rfl Try.sizeFaultS rfl ?_; intro w8 hR8 hg8; have HR8 := hide hR8; have HG8 := hide hg8; clear hR8 hg8))
    refine bodyPost_ret (v := .agg #[.int .i64 (0), .int .i64 (0)]) (results1_cell Try.results42 rfl (run_loadVar_blk HR8.out Try.underlying29 rfl Try.sizeFaultS)) rfl ?_
    exact ⟨by rw [HE.out] <;> rfl, below_grownO HBW.out HG8.out (fun k hk => by cases hk; omega) HBW.out.size⟩

end Go.Proofs.Ytopnjklloleomaa

/-
  The walks over seal.appendFault and the functions that Append, Close and End hand over. (Written by sw3.py.)
-/
namespace Go.Proofs.Ytopnjklloleomaa
open Go.RowKit
set_option linter.unusedVariables false

theorem ba_extS {a b : ByteArray} (h : a.toList = b.toList) : a = b := by
  rw [ByteArray.toList_eq, ByteArray.toList_eq] at h
  cases a; cases b
  simp at h
  rw [h]

theorem Try.sizeBool : (Try.prog.info? 4).map (·.size) = some 1 := by kernel_rfl

theorem Try.sizeIntS : (Try.prog.info? 3).map (·.size) = some 1 := by kernel_rfl

theorem RdG.grownOff {α : Type} {K : Nat} {E : En α K} {w w' : World} {v : Value} {xs : List α} {R : Nat} (hr : RdG E w v xs) (hg : w.grownBy w' (some R)) (hv : ∀ a n k, v = .slice (some a) n k → a.block ≠ R) : RdG E w' v xs := by
  obtain ⟨ao, cap, rfl, h1, h2, h3, h4⟩ := hr
  refine ⟨ao, cap, rfl, h1, h2, h3, fun a ha j u hu => ?_⟩
  have hc := h4 a ha j u hu
  have hlt := World.block_lt_of_cell? w _ hc
  have e : (a.add j).block = a.block := by unfold Addr.add; split <;> rfl
  have hb := hv a _ _ (by rw [ha])
  rw [← hc]
  exact World.cell?_of_block (hg.block _ hlt (by rw [e]; intro q; cases q; exact hb rfl))

theorem RdG.grownOld {α : Type} {K : Nat} {E : En α K} {w w' w0 : World} {v : Value} {xs : List α} {R : Nat} (hr : RdG E w v xs) (h0 : RdG E w0 v xs) (hg : w.grownBy w' (some R)) (hR : w0.heap.size ≤ R) : RdG E w' v xs := by
  obtain ⟨ao0, cap0, hv0, _, _, _, h40⟩ := h0
  obtain ⟨ao, cap, rfl, h1, h2, h3, h4⟩ := hr
  simp only [Value.slice.injEq] at hv0
  obtain ⟨rfl, _, _⟩ := hv0
  refine ⟨ao, cap, rfl, h1, h2, h3, fun a ha j u hu => ?_⟩
  have hc := h4 a ha j u hu
  have hlt := World.block_lt_of_cell? w _ hc
  have hl0 := World.block_lt_of_cell? w0 _ (h40 a ha j u hu)
  rw [← hc]
  exact World.cell?_of_block (hg.block _ hlt (fun q => by simp at q; omega))

set_option maxRecDepth 100000 in
set_option maxHeartbeats 4000000 in
theorem appendFault_any (c : Cp) (v : Value) (at_ : Int) (r : ByteArray) (w : World) (hv : RdG txE w v c.recs) :
    Calls Try.prog 26 #[cpV c v, .int .i64 at_, .string r] w fun e w' => e = .returned (flt (apF c at_ r)) ∧ Below w.heap.size w w' := by
  have HF : Hid (apF c at_ r = if c.cl = true then (11, -2) else if 200 < r.size then (8, -2) else if at_ < 0 ∨ (c.recs.length : Int) < at_ then (3, -2) else if at_ < (c.recs.length : Int) ∧ c.recs[at_.toNat]? ≠ some r then (7, -2) else if at_ = 100 then (2, -2) else (0, 0)) := hide rfl
  obtain ⟨ep, cl, l, en⟩ := c
  simp only at hv HF
  have HV := hide hv
  obtain ⟨ao, cap, rfl, hc1, hc2⟩ := hv.shape
  unfold maxLen at hc2
  clear hv
  unfold cpV
  cases cl
  case true =>
    have HE := hide (HF.out.trans (if_pos rfl))
    have HL : Hid (decide (200 < r.size) = decide (200 < r.size)) := hide rfl
    go_enter Try.func26, Try.ntmps26
    go_wp2_with (go_at_call 41; refine (isLong_any r _).mono ?_; rw [HL.out]; rintro e w1 ⟨rfl, rfl⟩)
    exact bodyPost_ret (v := flt (11, -2)) (by simp [results, Try.results26, go_sem, flt]) rfl ⟨by rw [HE.out], by go_grown⟩
  have HFa := hide (HF.out.trans (if_neg (by simp)))
  clear HF
  by_cases h1 : 200 < r.size
  · have HE := hide (HFa.out.trans (if_pos h1))
    have HL := hide (decide_eq_true h1)
    clear h1
    go_enter Try.func26, Try.ntmps26
    go_wp2_with (go_at_call 41; refine (isLong_any r _).mono ?_; rw [HL.out]; rintro e w1 ⟨rfl, rfl⟩)
    exact bodyPost_ret (v := flt (8, -2)) (by simp [results, Try.results26, go_sem, flt]) rfl ⟨by rw [HE.out], by go_grown⟩
  have HFb := hide (HFa.out.trans (if_neg h1))
  have HL := hide (decide_eq_false h1)
  clear h1 HFa
  by_cases h2 : at_ < 0
  · have HE := hide (HFb.out.trans (if_pos (.inl h2)))
    go_enter Try.func26, Try.ntmps26
    go_wp2_with (go_at_call 41; refine (isLong_any r _).mono ?_; rw [HL.out]; rintro e w1 ⟨rfl, rfl⟩)
    exact bodyPost_ret (v := flt (3, -2)) (by simp [results, Try.results26, go_sem, flt]) rfl ⟨by rw [HE.out], by go_grown⟩
  by_cases h3 : (l.length : Int) < at_
  · have HE := hide (HFb.out.trans (if_pos (.inr h3)))
    go_enter Try.func26, Try.ntmps26
    go_wp2_with (go_at_call 41; refine (isLong_any r _).mono ?_; rw [HL.out]; rintro e w1 ⟨rfl, rfl⟩)
    exact bodyPost_ret (v := flt (3, -2)) (by simp [results, Try.results26, go_sem, flt]) rfl ⟨by rw [HE.out], by go_grown⟩
  have HFc := hide (HFb.out.trans (if_neg (by omega)))
  clear HFb
  obtain ⟨i, rfl⟩ : ∃ i : Nat, at_ = i := ⟨at_.toNat, by omega⟩
  rw [Int.toNat_natCast] at HFc
  by_cases h4 : i < l.length
  · obtain ⟨q, hq⟩ : ∃ q, l[i]? = some q := ⟨_, List.getElem?_eq_getElem h4⟩
    rw [hq] at HFc
    obtain ⟨b, off, rfl, hb, hc⟩ := HV.out.hereT hq
    have q1 := cell_belowG hc (below_alloc2 w (.cells #[.int .i64 ep, .bool false, .slice (some ⟨b, off, none⟩) l.length cap, .int .i64 en] 24) (.cells #[.int .i64 0, .int .i64 0] 29))
    have hb1 : b < w.heap.size + 1 + 1 := by omega
    have hk1 : (0 : Int) ≤ (i : Int) := by omega
    have hk2 : (i : Int) < (l.length : Int) := by omega
    clear hq hc
    by_cases h5 : q = r
    · obtain rfl : r = q := h5.symm
      have HFd := hide (HFc.out.trans (if_neg (by simp)))
      by_cases h6 : i = 100
      · have HE := hide (HFd.out.trans (if_pos (by omega)))
        have hq6 : ((i : Int) == 100) = true := beq_iff_eq.2 (by omega)
        clear h6
        go_enter Try.func26, Try.ntmps26
        go_wp2_with (go_at_call 41; refine (isLong_any r _).mono ?_; rw [HL.out]; rintro e w1 ⟨rfl, rfl⟩)
        exact bodyPost_ret (v := flt (2, -2)) (by simp [results, Try.results26, go_sem, flt]) rfl ⟨by rw [HE.out], by go_grown⟩
      · have HE := hide (HFd.out.trans (if_neg (by omega)))
        have hq6 : ((i : Int) == 100) = false := beq_eq_false_iff_ne.2 (by omega)
        go_enter Try.func26, Try.ntmps26
        go_wp2_with (go_at_call 41; refine (isLong_any r _).mono ?_; rw [HL.out]; rintro e w1 ⟨rfl, rfl⟩)
        exact bodyPost_ret (v := flt (0, 0)) (by simp [results, Try.results26, go_sem, flt]) rfl ⟨by rw [HE.out], by go_grown⟩
    · have HE := hide (HFc.out.trans (if_pos ⟨by omega, by simpa using h5⟩))
      have hq5 : (q.toList == r.toList) = false := beq_eq_false_iff_ne.2 (fun e => h5 (ba_extS e))
      go_enter Try.func26, Try.ntmps26
      go_wp2_with (go_at_call 41; refine (isLong_any r _).mono ?_; rw [HL.out]; rintro e w1 ⟨rfl, rfl⟩)
      exact bodyPost_ret (v := flt (7, -2)) (by simp [results, Try.results26, go_sem, flt]) rfl ⟨by rw [HE.out], by go_grown⟩
  · have HFd := hide (HFc.out.trans (if_neg (by omega)))
    by_cases h6 : i = 100
    · have HE := hide (HFd.out.trans (if_pos (by omega)))
      have hq6 : ((i : Int) == 100) = true := beq_iff_eq.2 (by omega)
      clear h6
      go_enter Try.func26, Try.ntmps26
      go_wp2_with (go_at_call 41; refine (isLong_any r _).mono ?_; rw [HL.out]; rintro e w1 ⟨rfl, rfl⟩)
      exact bodyPost_ret (v := flt (2, -2)) (by simp [results, Try.results26, go_sem, flt]) rfl ⟨by rw [HE.out], by go_grown⟩
    · have HE := hide (HFd.out.trans (if_neg (by omega)))
      have hq6 : ((i : Int) == 100) = false := beq_eq_false_iff_ne.2 (by omega)
      go_enter Try.func26, Try.ntmps26
      go_wp2_with (go_at_call 41; refine (isLong_any r _).mono ?_; rw [HL.out]; rintro e w1 ⟨rfl, rfl⟩)
      exact bodyPost_ret (v := flt (0, 0)) (by simp [results, Try.results26, go_sem, flt]) rfl ⟨by rw [HE.out], by go_grown⟩

set_option maxRecDepth 100000 in
set_option maxHeartbeats 1000000 in
theorem Close1_any (C : Nat) (c : Cp) (v : Value) (w : World) (hC : Blk w C 24 (cpA c v)) :
    Calls Try.prog 27 #[.pointer (some ⟨C, 0, none⟩)] w fun e w' => e = .returned (flt (0, 0)) ∧ Blk w' C 24 (cpA { c with cl := true } v) ∧ w.grownBy w' (some C) := by
  have HA := hide (below_allocG w (.cells #[.int .i64 0, .int .i64 0] 29))
  have HC0 := hide (hC.later (below_allocG w (.cells #[.int .i64 0, .int .i64 0] 29)))
  have HR0 := hide (Blk.new w 29 #[.int .i64 0, .int .i64 0])
  have HNE := hide (show some w.heap.size ≠ some C from fun q => by have := hC.lt; simp at q; omega)
  clear hC
  go_enter Try.func27, Try.ntmps27
  go_wp2_with (first
    | (refine wpList_store_bool rfl rfl rfl rfl HC0.out rfl Try.sizeBool ?_; intro w2 hC2 hg2; have HC2 := hide hC2; have HG2 := hide hg2; have HR2 := hide (HR0.out.grown hg2 HNE.out); clear hC2 hg2)
    | (refine wpList_store_blk rfl rfl rfl rfl HR2.out rfl Try.sizeFaultS rfl ?_; intro w8 hR8 hg8; have HR8 := hide hR8; have HG8 := hide hg8; clear hR8 hg8))
  refine bodyPost_ret (v := .agg #[.int .i64 0, .int .i64 0]) (results1_cell Try.results27 rfl (run_loadVar_blk HR8.out Try.underlying29 rfl Try.sizeFaultS)) rfl ?_
  exact ⟨rfl, HC2.out.grown HG8.out HNE.out.symm, grown_more (grown_via HA.out HG2.out) HG8.out (.inl (Nat.le_refl _))⟩

set_option maxRecDepth 100000 in
set_option maxHeartbeats 1000000 in
theorem End1_any (C X Y : Nat) (c : Cp) (v : Value) (e_ : Int) (u : Value) (m : List ByteArray) (w : World) (hC : Blk w C 24 (cpA c v)) (hX : Blk w X 22 #[u]) (hY : Blk w Y 3 #[.int .i64 e_]) (hu : RdG txE w u m) (hm : m.length ≤ 1000) (w0 : World) (hu0 : RdG txE w0 u m) (hw0 : w0.heap.size ≤ C) :
    Calls Try.prog 29 #[.pointer (some ⟨C, 0, none⟩), .pointer (some ⟨X, 0, none⟩), .pointer (some ⟨Y, 0, none⟩)] w fun e w' => ∃ v', e = .returned (flt (0, 0)) ∧ Blk w' C 24 (cpA ⟨c.ep, true, m, e_⟩ v') ∧ w'.ownsRow w.heap.size 9 1 v' m.length (txE.vs m) ∧ w.grownBy w' (some C) := by
  have HA := hide (below_allocG w (.cells #[.int .i64 0, .int .i64 0] 29))
  have HC0 := hide (hC.later (below_allocG w (.cells #[.int .i64 0, .int .i64 0] 29)))
  have HX0 := hide (hX.later (below_allocG w (.cells #[.int .i64 0, .int .i64 0] 29)))
  have HY0 := hide (hY.later (below_allocG w (.cells #[.int .i64 0, .int .i64 0] 29)))
  have HR0 := hide (Blk.new w 29 #[.int .i64 0, .int .i64 0])
  have HNE := hide (show some w.heap.size ≠ some C from fun q => by have := hC.lt; simp at q; omega)
  have HXC := hide (show some X ≠ some C from fun q => by simp at q; subst q; unfold Blk at hX hC; rw [hC] at hX; simp at hX)
  have HYC := hide (show some Y ≠ some C from fun q => by simp at q; subst q; unfold Blk at hY hC; rw [hC] at hY; simp at hY)
  obtain ⟨ao, cap, rfl, _, _⟩ := hu.shape
  have HU0 := hide (hu.below (below_allocG w (.cells #[.int .i64 0, .int .i64 0] 29)))
  have HLT := hide hC.lt
  have HUO := hide hu0
  clear hC hX hY hu hu0
  go_enter Try.func29, Try.ntmps29
  go_wp2_with (first
    | (refine wpList_store_bool rfl rfl rfl rfl HC0.out rfl Try.sizeBool ?_; intro w2 hC2 hg2; have HC2 := hide hC2; have HG2 := hide (grown_via HA.out hg2); have HR2 := hide (HR0.out.grown hg2 HNE.out); have hX2 := HX0.out.grown hg2 HXC.out; have HY2 := hide (HY0.out.grown hg2 HYC.out); have HU2 := hide (HU0.out.grownOld HUO.out hg2 hw0); have x0 := hX2.cell 0; have xl := hX2.lt; simp at x0; clear hC2 hg2 hX2))
  refine (CloneT_any _ m w2 HU2.out hm).mono ?_
  rintro e w3 ⟨v3, rfl, ho3, hb3⟩
  obtain ⟨ao3, cap3, rfl⟩ := owns_shape ho3
  have HC3 := hide (HC2.out.later hb3)
  have HG3 := hide (grown_below HG2.out hb3)
  have HR3 := hide (HR2.out.later hb3)
  have HY3 := hide (HY2.out.later hb3)
  have HO3 := hide ho3
  have HS2 := hide HG2.out.size
  clear ho3 hb3 x0 xl
  go_wp2_with (first
    | (refine wpList_store_slice rfl rfl rfl rfl HC3.out rfl Try.sizeTexts ?_; intro w4 hC4 hg4; have HC4 := hide hC4; have HG4 := hide (grown_more HG3.out hg4 (.inr rfl)); have HR4 := hide (HR3.out.grown hg4 HNE.out); have hY4 := HY3.out.grown hg4 HYC.out; have HO4 := hide (owns_grownO HO3.out hg4 (.inr (owns_off HO3.out HC3.out (by decide)))); have y0 := hY4.cell 0; have yl := hY4.lt; simp at y0; clear hC4 hg4 hY4)
    | (refine wpList_store_int rfl rfl rfl rfl HC4.out rfl Try.sizeIntS ?_; intro w5 hC5 hg5; have HC5 := hide hC5; have HG5 := hide (grown_more HG4.out hg5 (.inr rfl)); have HR5 := hide (HR4.out.grown hg5 HNE.out); have HO5 := hide (owns_grownO HO4.out hg5 (.inr (owns_off HO4.out HC4.out (by decide)))); clear hC5 hg5 y0 yl)
    | (refine wpList_store_blk rfl rfl rfl rfl HR5.out rfl Try.sizeFaultS rfl ?_; intro w8 hR8 hg8; have HR8 := hide hR8; have HG8 := hide hg8; clear hR8 hg8))
  refine bodyPost_ret (v := .agg #[.int .i64 0, .int .i64 0]) (results1_cell Try.results29 rfl (run_loadVar_blk HR8.out Try.underlying29 rfl Try.sizeFaultS)) rfl ?_
  exact ⟨_, rfl, HC5.out.grown HG8.out HNE.out.symm, owns_base0 (owns_grownO HO5.out HG8.out (.inr (owns_off HO5.out HR5.out (by decide)))) HS2.out, grown_more HG5.out HG8.out (.inl (Nat.le_refl _))⟩

end Go.Proofs.Ytopnjklloleomaa

/-
  The walks over the court's small functions: goOn, has, isStep, take, putOnWay; slices.Delete of wishes and replies.
-/
namespace Go.Proofs.Ytopnjklloleomaa
open Go.RowKit
set_option linter.unusedVariables false

def iE : En Int 1 where
  v x := [.int .i64 x]
  len _ := rfl
  one p u hu := by
    simp only [List.mem_cons, List.not_mem_nil, or_false] at hu
    rcases hu with rfl
    rfl
  pos := by decide

def tE : En Tr 2 where
  v t := [.int .i64 t.ep, .int .i64 t.til]
  len _ := rfl
  one p u hu := by
    simp only [List.mem_cons, List.not_mem_nil, or_false] at hu
    rcases hu with rfl | rfl <;> rfl
  pos := by decide

def wsE : En Ws 3 where
  v t := [.int .i64 t.who, .int .i64 t.sent, .int .i64 t.ep]
  len _ := rfl
  one p u hu := by
    simp only [List.mem_cons, List.not_mem_nil, or_false] at hu
    rcases hu with rfl | rfl | rfl <;> rfl
  pos := by decide

def rpE : En Rp 3 where
  v t := [.int .i64 t.who, .int .i64 t.ep, .int .i64 t.til]
  len _ := rfl
  one p u hu := by
    simp only [List.mem_cons, List.not_mem_nil, or_false] at hu
    rcases hu with rfl | rfl | rfl <;> rfl
  pos := by decide

def ddE : En Dd 3 where
  v t := [.int .i64 t.kind, .int .i64 t.who, .int .i64 t.n]
  len _ := rfl
  one p u hu := by
    simp only [List.mem_cons, List.not_mem_nil, or_false] at hu
    rcases hu with rfl | rfl | rfl <;> rfl
  pos := by decide

/-- All but two blocks as it was. -/
structure Kp2 (w w' : World) (B : Nat) (o : Option Nat) : Prop where
  os : w'.os = w.os
  tape : w'.tape = w.tape
  output : w'.output = w.output
  size : w.heap.size ≤ w'.heap.size
  block : ∀ k, k < w.heap.size → k ≠ B → some k ≠ o → w'.heap[k]? = w.heap[k]?

theorem Kp2.below {w w' : World} {B : Nat} {o : Option Nat} (h : Kp2 w w' B o) {C : Nat} (hC : C ≤ w.heap.size) (hB : C ≤ B) (ho : ∀ k, o = some k → C ≤ k) : Below C w w' :=
  ⟨h.os, h.tape, h.output, h.size, fun k hk => h.block k (by omega) (by omega) (fun q => by have := ho k q.symm; omega)⟩

theorem Kp2.owns {w w' : World} {B : Nat} {o : Option Nat} (h : Kp2 w w' B o) {base : Nat} {e : TypeId} {K : Nat} {v : Value} {n : Nat} {xs : List Value} (hown : w.ownsRow base e K v n xs) (h1 : v.ownBlock ≠ some B) (h2 : v.ownBlock = none ∨ v.ownBlock ≠ o) : w'.ownsRow base e K v n xs := by
  refine ⟨hown.1, ?_⟩
  rcases hown.2 with hn | ⟨g, cap, cur, rfl, hb, hg, r⟩
  · exact .inl hn
  · refine .inr ⟨g, cap, cur, rfl, hb, ?_, r⟩
    rw [h.block g (Array.getElem?_eq_some_iff.1 hg).1 (fun q => h1 (by simp [Value.ownBlock, q])) (fun q => by
      rcases h2 with h2 | h2
      · simp [Value.ownBlock] at h2
      · exact h2 (by simp [Value.ownBlock, q]))]
    exact hg

theorem Kp2.blk {w w' : World} {B : Nat} {o : Option Nat} (h : Kp2 w w' B o) {C : Nat} {t : TypeId} {xs : Array Value} (hC : Blk w C t xs) (h1 : C ≠ B) (h2 : some C ≠ o) : Blk w' C t xs := by
  unfold Blk
  rw [h.block C hC.lt h1 h2]
  exact hC

theorem three_one : ∀ u ∈ (Value.agg #[.int .i64 0, .int .i64 0, .int .i64 0]).cells.toList, u.oneCell' = true := by
  intro u hu
  have hu' : u ∈ ([.int .i64 0, .int .i64 0, .int .i64 0] : List Value) := hu
  simp only [List.mem_cons, List.not_mem_nil, or_false] at hu'
  rcases hu' with rfl | rfl | rfl <;> rfl

theorem Kp2.of {w A w5 : World} {o : Option Nat} (hA : Below w.heap.size w A) (hg : A.grownBy w5 o) (B k : Nat) (v : Value) : Kp2 w (w5.setCell ⟨B, k, none⟩ v) B o := by
  have hs : (w5.setCell ⟨B, k, none⟩ v).heap.size = w5.heap.size := by simp
  refine ⟨hg.os.trans hA.os, hg.tape.trans hA.tape, hg.output.trans hA.output, ?_, fun j hj hB ho => ?_⟩
  · rw [hs]
    exact Nat.le_trans hA.size hg.size
  · rw [heap_setCell_other w5 ⟨B, k, none⟩ j v hB, hg.block j (Nat.lt_of_lt_of_le hj hA.size) ho, hA.block j hj]

theorem Kp2.past {w w' : World} {B : Nat} {o : Option Nat} (h : Kp2 w w' B o) {p : Addr} (hp : w.heap.size ≤ p.block) (u : Value) : Kp2 w (w'.setCell p u) B o := by
  have hs : (w'.setCell p u).heap.size = w'.heap.size := by simp
  refine ⟨h.os, h.tape, h.output, ?_, fun j hj hB ho => ?_⟩
  · rw [hs]; exact h.size
  · rw [heap_setCell_other w' p j u (by omega)]
    exact h.block j hj hB ho

theorem owns_shapeK {w : World} {base : Nat} {e : TypeId} {K : Nat} {v : Value} {n : Nat} {xs : List Value} (h : w.ownsRow base e K v n xs) : ∃ ao cap, v = .slice ao n cap := by
  rcases h.2 with ⟨rfl, hn⟩ | ⟨g, cap, cur, rfl, _⟩
  · exact ⟨none, 0, by rw [hn]⟩
  · exact ⟨_, _, rfl⟩

/-- An append's step inside a region: one is taken out of a row of one's own. -/
theorem step_within {α : Type} {K : Nat} {E : En α K} {P : Program} {w : World} {ops : Array Oper} {o : Oper} {a : Act} {KK : Act → World → Prop} {Q : Exit → Act → World → Prop} {EE : Prop} {s x : Operand} {base : Nat} {t e : TypeId} {z : Value} {bytes g n cap i c : Nat} {cs : List α} {ad : Addr}
    (hown : w.ownsRow base e K (.slice (some ⟨g, 0, none⟩) n cap) n (E.vs cs)) (ht : P.underlying t = some (.slice e)) (hinf : (P.info? e).map (fun i => (i.zero, i.size, i.bytes)) = some (some z, K, bytes)) (hi : i < n) (ha : i + 1 < n → ad = ⟨g, (i + 1) * K, none⟩)
    (hgd : o.guard = none) (ho : o.op = .call { callee := .builtin .append, args := #[s, x], argTypes := #[t, t] })
    (hs : a.eval s = .slice (some ⟨g, 0, none⟩) i cap) (hx : a.eval x = .slice (some ad) (n - (i + 1)) c)
    (h : ∀ w', w'.ownsRow base e K (.slice (some ⟨g, 0, none⟩) (n - 1) cap) (n - 1) (E.vs (cs.eraseIdx i)) → w.grownBy w' (some g) → KK (a.put o.dst (.slice (some ⟨g, 0, none⟩) (n - 1) cap)) w') :
    if Region.wanted o (yielded ops a.tmps) = true then Oper.wp P o a w KK Q else EE := by
  have hw : Region.wanted o (yielded ops a.tmps) = true := by simp [Region.wanted, hgd]
  rw [if_pos hw]
  obtain ⟨w', hr, h2, h3⟩ := run_append_within (ty := o.type) (c := c) ht hinf hown hi ha
  unfold Oper.wp execOp
  simp only [ho, resolve, invoke, builtin, Sem.run_bind, Sem.run_pure, Result.andThen_ok, List.map_toArray, List.map_cons, List.map_nil, hs, hx, hr]
  exact h w' h2 h3

def goOnC (x n : Int) : Int := if 900000000 < x + n then 9 else 0
def goOnW (w : World) (b off : Nat) (x n : Int) : World := if 900000000 < x + n then w else w.setCell ⟨b, off, none⟩ (.int .i64 (x + n))


/-- Is there an i-th one? -/
def hasN (l : Nat) (n : Int) : Bool := decide (0 ≤ n ∧ n < l)




def stepN (n : Int) : Bool := decide (0 ≤ n ∧ n ≤ 1000000)














end Go.Proofs.Ytopnjklloleomaa

/-
  The walk over the function that seal.Append hands over.
-/
namespace Go.Proofs.Ytopnjklloleomaa
open Go.RowKit
set_option linter.unusedVariables false

theorem apF_ok {c : Cp} {at_ : Int} {r : ByteArray} (h : (apF c at_ r).1 = 0) : c.cl = false ∧ 0 ≤ at_ ∧ at_ ≤ c.recs.length ∧ at_ ≠ 100 := by
  unfold apF at h
  split at h
  · simp at h
  rename_i h1
  split at h
  · simp at h
  split at h
  · simp at h
  rename_i h3
  split at h
  · simp at h
  split at h
  · simp at h
  rename_i h5
  refine ⟨?_, by omega, by omega, h5⟩
  cases hc : c.cl
  · rfl
  · exact absurd hc h1

theorem owns_drew5 {w : World} {base : Nat} {e : TypeId} {K : Nat} {v : Value} {n : Nat} {xs : List Value} (h : w.ownsRow base e K v n xs) : w.drew.ownsRow base e K v n xs := h

/-- The records behind an Append. -/
def apR (c : Cp) (at_ : Int) (r : ByteArray) : List ByteArray := if at_ = (c.recs.length : Int) then c.recs ++ [r] else c.recs

set_option maxRecDepth 100000 in
set_option maxHeartbeats 4000000 in
theorem Append1_any (C X Y base : Nat) (c : Cp) (v : Value) (at_ : Int) (r : ByteArray) (w : World) (hC : Blk w C 24 (cpA c v)) (hX : Blk w X 3 #[.int .i64 at_]) (hY : Blk w Y 9 #[.string r]) (hown : w.ownsRow base 9 1 v c.recs.length (txE.vs c.recs)) (hl : c.recs.length ≤ 1000) (hbase : base ≤ w.heap.size) (hYo : v.ownBlock ≠ some Y) :
    Calls Try.prog 25 #[.pointer (some ⟨C, 0, none⟩), .pointer (some ⟨X, 0, none⟩), .pointer (some ⟨Y, 0, none⟩)] w fun e w' => e = .returned (flt (apF c at_ r)) ∧ ((apF c at_ r).1 = 0 → ∃ v', Blk w' C 24 (cpA ⟨c.ep, c.cl, apR c at_ r, c.en⟩ v') ∧ w'.ownsRow base 9 1 v' (apR c at_ r).length (txE.vs (apR c at_ r))) ∧ Kp2 w w' C v.ownBlock := by
  have HZ := hide (apF_z (c := c) (at_ := at_) (r := r))
  have HOK := hide (apF_ok (c := c) (at_ := at_) (r := r))
  obtain ⟨ao, cap, rfl⟩ := owns_shape hown
  have hA := below_allocG w (.cells #[.int .i64 0, .int .i64 0] 29)
  have HA := hide hA
  have hC0 := hC.later hA
  have hX0 := hX.later hA
  have hY0 := hY.later hA
  have HC0 := hide hC0
  have HX0 := hide hX0
  have HY0 := hide hY0
  have HR0 := hide (Blk.new w 29 #[.int .i64 0, .int .i64 0])
  have HOW := hide hown
  have HNE := hide (show some C ≠ some w.heap.size from fun q => by have := hC.lt; simp at q; omega)
  have HAF := hide (appendFault_any c _ at_ r (w.alloc (.cells #[.int .i64 0, .int .i64 0] 29)).drew (RdG.drew ((RdG.ofOwns hown).below hA)))
  have HAF2 := hide (appendFault_any c _ at_ r ((w.alloc (.cells #[.int .i64 0, .int .i64 0] 29)).drew.alloc (.cells #[.int .i64 0, .int .i64 0] 29)) ((RdG.drew ((RdG.ofOwns hown).below hA)).alloc _))
  have HZN := hide (Blk.new (w.alloc (.cells #[.int .i64 0, .int .i64 0] 29)).drew 29 #[.int .i64 0, .int .i64 0])
  generalize hF : apF c at_ r = F at *
  obtain ⟨fx, fy⟩ := F
  clear hC hX hY hC0 hX0 hY0 hA hown hF
  unfold cpV flt at HAF HAF2
  go_enter Try.func25, Try.ntmps25
  go_wp2_with fail
  have HSA : Hid ((w.alloc (.cells #[.int .i64 0, .int .i64 0] 29)).heap.size = w.heap.size + 1) := hide (by simp)
  have cl1 : C < (w.alloc (.cells #[.int .i64 0, .int .i64 0] 29)).heap.size := HC0.out.lt
  have xl1 : X < (w.alloc (.cells #[.int .i64 0, .int .i64 0] 29)).heap.size := HX0.out.lt
  have yl1 : Y < (w.alloc (.cells #[.int .i64 0, .int .i64 0] 29)).heap.size := HY0.out.lt
  have c0 := HC0.out.cell 0
  have c1 := HC0.out.cell 1
  have c2 := HC0.out.cell 2
  have c3 := HC0.out.cell 3
  have x0 := HX0.out.cell 0
  have y0 := HY0.out.cell 0
  unfold cpA at c0 c1 c2 c3
  simp only [List.getElem?_toArray, List.getElem?_cons_zero, List.getElem?_cons_succ] at c0 c1 c2 c3 x0 y0
  generalize w.alloc (.cells #[.int .i64 0, .int .i64 0] 29) = A at *
  have HT1 : Hid (∀ W, Below A.drew.heap.size A.drew W → Below A.heap.size A W) := hide fun W h => ⟨h.os, h.tape, h.output, h.size, h.block⟩
  have HT2 : Hid (∀ W, Below (A.drew.alloc (.cells #[.int .i64 0, .int .i64 0] 29)).heap.size (A.drew.alloc (.cells #[.int .i64 0, .int .i64 0] 29)) W → Below A.heap.size A W) := hide fun W h => (show Below A.heap.size A (A.drew.alloc (.cells #[.int .i64 0, .int .i64 0] 29)) by go_grown).trans (h.mono (by simp))
  have HZC : Hid (∀ W, Below (A.drew.alloc (.cells #[.int .i64 0, .int .i64 0] 29)).heap.size (A.drew.alloc (.cells #[.int .i64 0, .int .i64 0] 29)) W → W.cell? ⟨A.heap.size, 0, none⟩ = some (.int .i64 0) ∧ W.cell? ⟨A.heap.size, 1, none⟩ = some (.int .i64 0) ∧ W.frozen? ⟨A.heap.size, 0, none⟩ = false ∧ W.frozen? ⟨A.heap.size, 1, none⟩ = false ∧ A.heap.size < W.heap.size) := hide fun W h => ⟨(HZN.out.later h).cell 0, (HZN.out.later h).cell 1, (HZN.out.later h).frozen 0, (HZN.out.later h).frozen 1, (HZN.out.later h).lt⟩
  have HZB : Hid (∀ W, Below (A.drew.alloc (.cells #[.int .i64 0, .int .i64 0] 29)).heap.size (A.drew.alloc (.cells #[.int .i64 0, .int .i64 0] 29)) W → Blk W A.heap.size 29 #[.int .i64 0, .int .i64 0]) := hide fun W h => HZN.out.later h
  have HKEEP : Hid (∀ W, Below A.heap.size A W → W.cell? ⟨C, 0, none⟩ = some (.int .i64 c.ep) ∧ W.cell? ⟨C, 1, none⟩ = some (.bool c.cl) ∧ W.cell? ⟨C, 2, none⟩ = some (.slice ao c.recs.length cap) ∧ W.cell? ⟨C, 3, none⟩ = some (.int .i64 c.en) ∧ W.cell? ⟨X, 0, none⟩ = some (.int .i64 at_) ∧ W.cell? ⟨Y, 0, none⟩ = some (.string r)) := hide fun W hW => ⟨(hW.cell cl1).trans c0, (hW.cell cl1).trans c1, (hW.cell cl1).trans c2, (hW.cell cl1).trans c3, (hW.cell xl1).trans x0, (hW.cell yl1).trans y0⟩
  go_cut [5] (fun p wc => ∃ Z : Nat, p = .pointer (some ⟨Z, 0, none⟩) ∧ Blk wc Z 29 #[.int .i64 fx, .int .i64 fy] ∧ Below A.heap.size A wc ∧ A.heap.size ≤ Z)
  case first =>
    go_region_held3 (fun W => W.cell? ⟨C, 0, none⟩ = some (.int .i64 c.ep) ∧ W.cell? ⟨C, 1, none⟩ = some (.bool c.cl) ∧ W.cell? ⟨C, 2, none⟩ = some (.slice ao c.recs.length cap) ∧ W.cell? ⟨C, 3, none⟩ = some (.int .i64 c.en) ∧ W.cell? ⟨X, 0, none⟩ = some (.int .i64 at_) ∧ W.cell? ⟨Y, 0, none⟩ = some (.string r)) (exact HKEEP.out _ (by go_grown)) (first
      | (go_at_call 26; refine HAF.out.mono ?_; rintro e w1 ⟨rfl, hb1⟩; have hbA := HT1.out _ hb1; have hsA := hbA.size; clear hb1)
      | (go_at_call 26; refine HAF2.out.mono ?_; rintro e w1 ⟨rfl, hb1⟩; obtain ⟨z0, z1, zf0, zf1, zl⟩ := HZC.out _ hb1; have hbA := HT2.out _ hb1; have hsA := hbA.size; have hbZ := hb1; clear hb1))
    · go_wp2_with fail
      go_meet
      case rel => exact ⟨_, rfl, Blk.new w1 _ _, hbA.trans ((below_allocG w1 _).mono hsA), hsA⟩
    · have hz := (HZB.out _ hbZ)
      go_wp2_with fail
      go_meet
      case rel => exact ⟨_, rfl, (hz.set 0 (.int .i64 fx)).set 1 (.int .i64 fy), (hbA.setCell (p := ⟨A.heap.size, 0, none⟩) (Nat.le_refl _) _).setCell (p := ⟨A.heap.size, 1, none⟩) (Nat.le_refl _) _, Nat.le_refl _⟩
  case rest =>
    obtain ⟨Z, rfl, hZ, hbZ, hAZ⟩ := hcut
    clear c0 c1 c2 c3 x0 y0 HAF HAF2 HZN HT1 HT2 HZC HKEEP
    have HZb := hide hZ
    have z0 := hZ.cell 0
    have z1 := hZ.cell 1
    have zl := hZ.lt
    simp at z0 z1
    have hCw := HC0.out.later hbZ
    have hXw := HX0.out.later hbZ
    have hYw := HY0.out.later hbZ
    have HRw := hide (HR0.out.later hbZ)
    have HCw := hide hCw
    have HYw := hide hYw
    have HBZ := hide hbZ
    have HOwn := hide (owns_below (owns_below HOW.out HA.out) hbZ)
    by_cases hx : fx ≠ 0
    · have hq : (fx == 0) = false := beq_eq_false_iff_ne.2 hx
      have hq2 : (fx != 0) = true := by simp [hx]
      have HX := hide hx
      clear hx hCw hXw hYw hbZ hZ
      go_wp2_with (first
        | (refine wpList_load_blk HZb.out Try.underlying29 rfl Try.sizeFaultS rfl rfl rfl ?_)
        | (refine wpList_store_blk rfl rfl rfl rfl HRw.out rfl Try.sizeFaultS rfl ?_; intro w8 hR8 hg8; have HR8 := hide hR8; have HG8 := hide hg8; clear hR8 hg8))
      refine bodyPost_ret (v := .agg #[.int .i64 fx, .int .i64 fy]) (results1_cell Try.results25 rfl (run_loadVar_blk HR8.out Try.underlying29 rfl Try.sizeFaultS)) rfl ?_
      exact ⟨rfl, fun q => absurd q HX.out, ⟨HG8.out.os.trans (HBZ.out.os.trans HA.out.os), HG8.out.tape.trans (HBZ.out.tape.trans HA.out.tape), HG8.out.output.trans (HBZ.out.output.trans HA.out.output), Nat.le_trans HA.out.size (Nat.le_trans HBZ.out.size HG8.out.size), fun k hk h1 h2 => by
        have hs := HA.out.size
        rw [HG8.out.block k (by have := HBZ.out.size; omega) (fun q => by cases q; omega), HBZ.out.block k (by omega), HA.out.block k hk]⟩⟩
    · obtain rfl : fx = 0 := Decidable.not_not.1 hx
      obtain rfl : fy = 0 := by have := HZ.out rfl; simpa using this
      obtain ⟨hcl, ha0, ha1, ha2⟩ := HOK.out rfl
      obtain ⟨i, rfl⟩ : ∃ i : Nat, at_ = i := ⟨at_.toNat, by omega⟩
      have c2 := hCw.cell 2
      have cl2 := hCw.lt
      have x0 := hXw.cell 0
      have xl := hXw.lt
      unfold cpA at c2
      simp at c2 x0
      have HIL := hide (show i ≤ c.recs.length by omega)
      clear hx hCw hXw hYw hbZ hZ HZ HOK ha0 ha1 ha2 hcl
      go_upto_region 4 with fail
      go_cut [22] (fun x wd => x = .bool (decide (i = c.recs.length)) ∧ Below wc.heap.size wc wd)
      case first =>
        by_cases hi : i = c.recs.length
        · have hq : ((i : Int) == (c.recs.length : Int)) = true := beq_iff_eq.2 (by omega)
          have HI := hide (decide_eq_true hi)
          clear hi
          go_quiet (fail)
          go_wp2_with fail
          go_meet
          case rel => exact ⟨by rw [HI.out], below_drewN (Below.refl _ _) _⟩
        · have hq : ((i : Int) == (c.recs.length : Int)) = false := beq_eq_false_iff_ne.2 (by omega)
          have HI := hide (decide_eq_false hi)
          clear hi
          go_quiet (fail)
          go_wp2_with fail
          go_meet
          case rel => exact ⟨by rw [HI.out], below_drewN (Below.refl _ _) _⟩
      case rest =>
        obtain ⟨rfl, hbd⟩ := hcut
        have HCd := hide (HCw.out.later hbd)
        have HRd := hide (HRw.out.later hbd)
        have HYd := hide (HYw.out.later hbd)
        have HOd := hide (owns_below HOwn.out hbd)
        have HBd := hide (HBZ.out.trans (hbd.mono HBZ.out.size))
        have HSd := hide HBd.out.size
        clear c2 cl2 x0 xl z0 z1 zl hbd HZb
        by_cases hi : i = c.recs.length
        · rw [decide_eq_true hi]
          have HE := hide (show apR c i r = c.recs ++ [r] from if_pos (by omega))
          have c2 := HCd.out.cell 2
          have cz2 := HCd.out.frozen 2
          have cl2 := HCd.out.lt
          have y0 := HYd.out.cell 0
          have yl := HYd.out.lt
          unfold cpA at c2
          simp at c2 y0
          have HNEW := hide (RdG.newL (E := txE) wc.drew [r] 9 #[.string r] rfl (by simp))
          have HOW5 := hide ((owns_drew5 HOd.out).alloc (.cells #[.string r] 9))
          have HAd := hide (show Below wc.heap.size wc (wc.drew.alloc (.cells #[.string r] 9)) by go_grown)
          have HBS := hide (show base ≤ (wc.drew.alloc (.cells #[.string r] 9)).heap.size from Nat.le_trans (Nat.le_trans (Nat.le_trans hbase HA.out.size) HSd.out) HAd.out.size)
          have HH := hide (show c.recs.length + [r].length ≤ 1000000000 by simp; omega)
          have HK0 : Hid ((cpA c (.slice ao c.recs.length cap))[2]? = some (.slice ao c.recs.length cap)) := hide rfl
          have HOFF := hide (owns_off HOd.out HCd.out (by decide))
          have HOFR := hide (owns_off HOd.out HRd.out (by decide))
          clear hi
          go_upto_region 5 with fail
          go_region_law (refine step_append_rdK (E := txE) (cs := c.recs) (by exact HOW5.out) (by exact HNEW.out) Try.underlying22 infoText rfl (by rfl) (by rfl) (by rfl) (by rfl) (by exact HH.out) (by decide) (by exact HBS.out) ?_; intro v5 w5 ho5 hg5; obtain ⟨ao5, cap5, hv5⟩ := owns_shapeK ho5; subst hv5; have hB5 := (HCd.out.later HAd.out).grown hg5 (fun q => HOFF.out q.symm); have k0 := (hB5.cell 2).trans HK0.out; have k1 := hB5.frozen 2; have k2 := hB5.lt)
          all_goals
            have HC6 := hide (hB5.set 2 (.slice ao5 (c.recs.length + [r].length) cap5))
            have HR6 := hide (((HRd.out.later HAd.out).grown hg5 (fun q => HOFR.out q.symm)).other (p := ⟨C, 2, none⟩) (fun q => HNE.out (by rw [q])) (.slice ao5 (c.recs.length + [r].length) cap5))
            have HO6 := hide (owns_setOther ho5 (p := ⟨C, 2, none⟩) (owns_off ho5 hB5 (by decide)) (.slice ao5 (c.recs.length + [r].length) cap5))
            have HK6 := hide (Kp2.of (hA := HAd.out) hg5 C 2 (.slice ao5 (c.recs.length + [r].length) cap5))
            clear ho5 hg5 hB5 k0 k1 k2 c2 cz2 cl2 y0 yl
            generalize w5.setCell ⟨C, 2, none⟩ (.slice ao5 (c.recs.length + [r].length) cap5) = w6 at *
            go_wp2_with (refine wpList_store_blk rfl rfl rfl rfl HR6.out rfl Try.sizeFaultS rfl ?_; intro w8 hR8 hg8; have HR8 := hide hR8; have HG8 := hide hg8; clear hR8 hg8)
            refine bodyPost_ret (v := .agg #[.int .i64 0, .int .i64 0]) (results1_cell Try.results25 rfl (run_loadVar_blk HR8.out Try.underlying29 rfl Try.sizeFaultS)) rfl ?_
            refine ⟨rfl, ?_, ⟨HG8.out.os.trans (HK6.out.os.trans (HBd.out.os.trans HA.out.os)), HG8.out.tape.trans (HK6.out.tape.trans (HBd.out.tape.trans HA.out.tape)), HG8.out.output.trans (HK6.out.output.trans (HBd.out.output.trans HA.out.output)), Nat.le_trans HA.out.size (Nat.le_trans HBd.out.size (Nat.le_trans HK6.out.size HG8.out.size)), fun k hk h1 h2 => by
              have hs := HA.out.size
              have hs2 := HBd.out.size
              have hs3 := HK6.out.size
              rw [HG8.out.block k (by omega) (fun q => by cases q; omega), HK6.out.block k (by omega) h1 h2, HBd.out.block k (by omega), HA.out.block k hk]⟩⟩
            rw [HE.out, List.length_append]
            exact ⟨_, HC6.out.grown HG8.out HNE.out, owns_grownO HO6.out HG8.out (.inr (owns_off HO6.out HR6.out (by decide)))⟩
        · rw [decide_eq_false hi]
          have HE := hide (show apR c i r = c.recs from if_neg (by omega))
          have HRe := HRd
          go_wp2_with (refine wpList_store_blk rfl rfl rfl rfl HRe.out rfl Try.sizeFaultS rfl ?_; intro w8 hR8 hg8; have HR8 := hide hR8; have HG8 := hide hg8; clear hR8 hg8)
          refine bodyPost_ret (v := .agg #[.int .i64 0, .int .i64 0]) (results1_cell Try.results25 rfl (run_loadVar_blk HR8.out Try.underlying29 rfl Try.sizeFaultS)) rfl ?_
          refine ⟨rfl, ?_, ⟨HG8.out.os.trans (HBd.out.os.trans HA.out.os), HG8.out.tape.trans (HBd.out.tape.trans HA.out.tape), HG8.out.output.trans (HBd.out.output.trans HA.out.output), Nat.le_trans HA.out.size (Nat.le_trans HBd.out.size HG8.out.size), fun k hk h1 h2 => by
            have hs := HA.out.size
            rw [HG8.out.block k (by have := HBd.out.size; omega) (fun q => by cases q; omega), HBd.out.block k (by omega), HA.out.block k hk]⟩⟩
          rw [HE.out]
          exact ⟨_, HCd.out.grown HG8.out HNE.out, owns_grownO HOd.out HG8.out (.inr (owns_off HOd.out HRd.out (by decide)))⟩

end Go.Proofs.Ytopnjklloleomaa

/-
  The walks over seal.changed, with each function that is handed over. (Written by sw5.py.)
-/
namespace Go.Proofs.Ytopnjklloleomaa
open Go.RowKit
set_option linter.unusedVariables false

theorem four_at (w : World) (a b c d : Array Value) (t1 t2 t3 t4 : TypeId) :
    Blk ((((w.alloc (.cells a t1)).alloc (.cells b t2)).alloc (.cells c t3)).alloc (.cells d t4)) w.heap.size t1 a ∧ Blk ((((w.alloc (.cells a t1)).alloc (.cells b t2)).alloc (.cells c t3)).alloc (.cells d t4)) (w.heap.size + 1) t2 b ∧ Blk ((((w.alloc (.cells a t1)).alloc (.cells b t2)).alloc (.cells c t3)).alloc (.cells d t4)) (w.heap.size + 2) t3 c ∧ Blk ((((w.alloc (.cells a t1)).alloc (.cells b t2)).alloc (.cells c t3)).alloc (.cells d t4)) (w.heap.size + 3) t4 d ∧ Below w.heap.size w ((((w.alloc (.cells a t1)).alloc (.cells b t2)).alloc (.cells c t3)).alloc (.cells d t4)) := by
  refine ⟨(Blk.at0of3 w _ _ _ _).later (below_allocG _ _), (Blk.at1of3 w _ _ _ _).later (below_allocG _ _), (Blk.at2 w _ _ _ _).later (below_allocG _ _), ?_, (below_alloc3 w _ _ _).trans ((below_allocG _ _).mono (by simp; omega))⟩
  have := Blk.new (((w.alloc (.cells a t1)).alloc (.cells b t2)).alloc (.cells c t3)) t4 d
  simpa using this

theorem Kp2.later2 {w w' : World} {B C : Nat} {o : Option Nat} {t : TypeId} {xs : Array Value} (h : Kp2 w w' B o) (hC : Blk w C t xs) (h1 : C ≠ B) (h2 : some C ≠ o) : Blk w' C t xs := h.blk hC h1 h2

theorem below_kp2 {w w1 w' : World} {C B : Nat} {o : Option Nat} (h : Below C w w1) (hk : Kp2 w1 w' B o) (hB : C ≤ B) (ho : ∀ k, o = some k → C ≤ k) (hC : C ≤ w1.heap.size) : Below C w w' :=
  ⟨hk.os.trans h.os, hk.tape.trans h.tape, hk.output.trans h.output, Nat.le_trans h.size hk.size, fun k hk2 => (hk.block k (by omega) (by omega) (fun e => by have := ho k e.symm; omega)).trans (h.block k hk2)⟩

/-- A whole variable is written as it was: a step of a region that draws its order. -/
theorem step_store_as {P : Program} {w : World} {ops : Array Oper} {o : Oper} {a : Act} {K : Act → World → Prop} {Q : Exit → Act → World → Prop} {EE : Prop} {x y : Operand} {B : Nat} {t ty : TypeId} {xs : Array Value}
    (hB : Blk w B t xs) (hi : (P.info? ty).map (·.size) = some xs.size) (h1 : xs.toList.all (·.oneCell') = true) (hgd : o.guard = none) (ho : o.op = .store ty x y) (hx : a.eval x = .pointer (some ⟨B, 0, none⟩)) (hy : a.eval y = .agg xs)
    (h : K (a.put o.dst undef) w) : if Region.wanted o (yielded ops a.tmps) = true then Oper.wp P o a w K Q else EE := by
  have hw : Region.wanted o (yielded ops a.tmps) = true := by simp [Region.wanted, hgd]
  rw [if_pos hw]
  have hr := run_storeAt_blk (P := P) hB hi rfl (by rw [← Array.all_toList]; exact h1)
  rw [setRow_self w B xs t (0, 0) hB] at hr
  unfold Oper.wp execOp
  simp only [ho, hx, hy, hr, Sem.run_bind, Sem.run_pure, Result.andThen_ok]
  exact h

/-- What is told of a copy that is changed: the fault. -/
def chF (f1 f2 : Int × Int) : Int × Int := if f1.1 ≠ 0 then f1 else f2

def chC (f1 f2 : Int × Int) (e_ : Int) (c : Cp) : Cp := if (chF f1 f2).1 = 0 then ⟨e_, c.cl, c.recs, c.en⟩ else noCp

theorem epF_len {c : Cp} {e_ : Int} {g : Int × Int} (h : (epF c e_ g).1 = 0) : c.recs.length ≤ 1000 := by
  unfold epF at h
  split at h
  · contradiction
  rename_i h1
  have h2 : (chkC c).1 = 0 := Decidable.not_not.1 h1
  unfold chkC at h2
  split at h2
  · simp at h2
  split at h2
  · simp at h2
  split at h2
  · simp at h2
  omega

set_option maxRecDepth 100000 in
set_option maxHeartbeats 4000000 in
theorem changedClose_any (c c2 : Cp) (v : Value) (e_ : Int) (g f2 : Int × Int) (hg : Fz g) (hf2 : Fz f2) (w : World) (hv : RdG txE w v c.recs)
    (hdo : (epF c e_ g).1 = 0 → ∀ w3 v3 base, Blk w3 w.heap.size 24 (cpA c v3) → w3.ownsRow base 9 1 v3 c.recs.length (txE.vs c.recs) → w.heap.size + 4 ≤ base → base ≤ w3.heap.size → Below w.heap.size w w3 → Calls Try.prog 27 #[.pointer (some ⟨w.heap.size, 0, none⟩)] w3 fun e w4 => e = .returned (flt f2) ∧ (f2.1 = 0 → ∃ v4, Blk w4 w.heap.size 24 (cpA c2 v4) ∧ w4.ownsRow base 9 1 v4 c2.recs.length (txE.vs c2.recs)) ∧ Kp2 w3 w4 w.heap.size v3.ownBlock) :
    Calls Try.prog 24 #[cpV c v, .int .i64 e_, flt g, .func (.func 27) #[] #[]] w fun e w' => ∃ v', e = .returned (.tuple #[cpV (chC (epF c e_ g) f2 e_ c2) v', flt (chF (epF c e_ g) f2)]) ∧ w'.ownsRow w.heap.size 9 1 v' (chC (epF c e_ g) f2 e_ c2).recs.length (txE.vs (chC (epF c e_ g) f2 e_ c2).recs) ∧ Below w.heap.size w w' := by
  have HF : Hid (chF (epF c e_ g) f2 = if (epF c e_ g).1 ≠ 0 then epF c e_ g else f2) := hide rfl
  have HC : Hid (chC (epF c e_ g) f2 e_ c2 = if (chF (epF c e_ g) f2).1 = 0 then ⟨e_, c2.cl, c2.recs, c2.en⟩ else noCp) := hide rfl
  have HL := hide (show (epF c e_ g).1 = 0 → c.recs.length ≤ 1000 from fun q => epF_len q)
  obtain ⟨ep, cl, l, en⟩ := c
  obtain ⟨gx, gy⟩ := g
  simp only at hv hdo HL
  have HV := hide hv
  obtain ⟨ao, cap, rfl, _, _⟩ := hv.shape
  obtain ⟨hB, hG, hR, hF0, hA⟩ := four_at w #[.int .i64 ep, .bool cl, .slice ao l.length cap, .int .i64 en] #[.int .i64 gx, .int .i64 gy] #[.int .i64 0, .bool false, .slice none 0 0, .int .i64 0] #[.int .i64 0, .int .i64 0] 24 29 24 29
  have HEF := hide (epochFault_any ⟨ep, cl, l, en⟩ _ e_ (gx, gy) hg _ (hv.below hA))
  have HB0 := hide hB
  have HG0 := hide hG
  have HR0 := hide hR
  have HQ0 := hide hF0
  have HA0 := hide hA
  have HZ1 := hide (epF_z (c := ⟨ep, cl, l, en⟩) (ep := e_) (g := (gx, gy)))
  have HZ2 := hide hf2
  have HDO := hide hdo
  generalize hX : epF ⟨ep, cl, l, en⟩ e_ (gx, gy) = X at *
  obtain ⟨x, y⟩ := X
  clear hv hB hG hR hF0 hA hX hdo hf2 hg
  unfold cpV flt at HEF
  unfold cpV flt
  go_enter Try.func24, Try.ntmps24
  go_wp2_with (first
    | (refine wpList_load_blk HB0.out Try.underlying24 rfl Try.sizeCopy rfl rfl rfl ?_)
    | (refine wpList_load_blk HG0.out Try.underlying29 rfl Try.sizeFaultS rfl rfl rfl ?_))
  refine HEF.out.mono ?_
  rintro e w1 ⟨rfl, hb1⟩
  have HB1 := hide (HB0.out.later hb1)
  have HR1 : Hid (Blk w1 (w.heap.size + 1 + 1) 24 #[.int .i64 0, .bool false, .slice none 0 0, .int .i64 0]) := hide (HR0.out.later hb1)
  have HQ1 : Hid (Blk w1 (w.heap.size + 1 + 1 + 1) 29 #[.int .i64 0, .int .i64 0]) := hide (HQ0.out.later hb1)
  have HA1 := hide (HA0.out.trans (hb1.mono HA0.out.size))
  have HS1 := hide (show w.heap.size + 4 ≤ w1.heap.size by have := hb1.size; simp at this; omega)
  clear hb1 HB0 HR0 HQ0 HG0 HA0 HEF
  have HF1 := hide (Blk.new w1 29 #[.int .i64 x, .int .i64 y])
  have HB2 := hide (HB1.out.later (below_allocG w1 (.cells #[.int .i64 x, .int .i64 y] 29)))
  have HR2 := hide (HR1.out.later (below_allocG w1 (.cells #[.int .i64 x, .int .i64 y] 29)))
  have HQ2 := hide (HQ1.out.later (below_allocG w1 (.cells #[.int .i64 x, .int .i64 y] 29)))
  have HA2 := hide (HA1.out.trans ((below_allocG w1 (.cells #[.int .i64 x, .int .i64 y] 29)).mono HA1.out.size))
  by_cases hx : x ≠ 0
  · have hq : (x == 0) = false := beq_eq_false_iff_ne.2 hx
    have hq2 : (x != 0) = true := by simp [hx]
    have HFe := hide (HF.out.trans (if_pos hx))
    have HCe := hide (HC.out.trans (if_neg (by rw [HFe.out]; exact hx)))
    clear hx
    have rc0 := HR1.out.cell 0
    have rc1 := HR1.out.cell 1
    have rc2 := HR1.out.cell 2
    have rc3 := HR1.out.cell 3
    have rz0 := HR1.out.frozen 0
    have rz1 := HR1.out.frozen 1
    have rz2 := HR1.out.frozen 2
    have rz3 := HR1.out.frozen 3
    have rl := HR1.out.lt
    have qc0 := HQ1.out.cell 0
    have qc1 := HQ1.out.cell 1
    have qz0 := HQ1.out.frozen 0
    have qz1 := HQ1.out.frozen 1
    have ql := HQ1.out.lt
    simp at rc0 rc1 rc2 rc3 qc0 qc1
    have hsA := HA1.out.size
    go_wp2_with fail
    go_region
    all_goals
      have hR9 := ((((((HR1.out.set 0 (.int .i64 0)).set 1 (.bool false)).set 2 (.slice none 0 0)).set 3 (.int .i64 0)).other (p := ⟨w.heap.size + 1 + 1 + 1, 0, none⟩) (show w.heap.size + 1 + 1 ≠ w.heap.size + 1 + 1 + 1 by omega) (.int .i64 x)).other (p := ⟨w.heap.size + 1 + 1 + 1, 1, none⟩) (show w.heap.size + 1 + 1 ≠ w.heap.size + 1 + 1 + 1 by omega) (.int .i64 y)).later (below_allocG _ (.cells #[.int .i64 x, .int .i64 y] 29))
      have hQ9 := ((((((HQ1.out.other (p := ⟨w.heap.size + 1 + 1, 0, none⟩) (show w.heap.size + 1 + 1 + 1 ≠ w.heap.size + 1 + 1 by omega) (.int .i64 0)).other (p := ⟨w.heap.size + 1 + 1, 1, none⟩) (show w.heap.size + 1 + 1 + 1 ≠ w.heap.size + 1 + 1 by omega) (.bool false)).other (p := ⟨w.heap.size + 1 + 1, 2, none⟩) (show w.heap.size + 1 + 1 + 1 ≠ w.heap.size + 1 + 1 by omega) (.slice none 0 0)).other (p := ⟨w.heap.size + 1 + 1, 3, none⟩) (show w.heap.size + 1 + 1 + 1 ≠ w.heap.size + 1 + 1 by omega) (.int .i64 0)).set 0 (.int .i64 x)).set 1 (.int .i64 y)).later (below_allocG _ (.cells #[.int .i64 x, .int .i64 y] 29))
      simp only [List.setIfInBounds_toArray, List.set_cons_succ, List.set_cons_zero] at hR9 hQ9
      have hb9 : Below w.heap.size w (((((((w1.setCell ⟨w.heap.size + 1 + 1, 0, none⟩ (.int .i64 0)).setCell ⟨w.heap.size + 1 + 1, 1, none⟩ (.bool false)).setCell ⟨w.heap.size + 1 + 1, 2, none⟩ (.slice none 0 0)).setCell ⟨w.heap.size + 1 + 1, 3, none⟩ (.int .i64 0)).setCell ⟨w.heap.size + 1 + 1 + 1, 0, none⟩ (.int .i64 x)).setCell ⟨w.heap.size + 1 + 1 + 1, 1, none⟩ (.int .i64 y)).alloc (.cells #[.int .i64 x, .int .i64 y] 29)) := HA1.out.trans (by go_grown)
      clear rc0 rc1 rc2 rc3 rz0 rz1 rz2 rz3 rl qc0 qc1 qz0 qz1 ql
      generalize ((((((w1.setCell ⟨w.heap.size + 1 + 1, 0, none⟩ (.int .i64 0)).setCell ⟨w.heap.size + 1 + 1, 1, none⟩ (.bool false)).setCell ⟨w.heap.size + 1 + 1, 2, none⟩ (.slice none 0 0)).setCell ⟨w.heap.size + 1 + 1, 3, none⟩ (.int .i64 0)).setCell ⟨w.heap.size + 1 + 1 + 1, 0, none⟩ (.int .i64 x)).setCell ⟨w.heap.size + 1 + 1 + 1, 1, none⟩ (.int .i64 y)).alloc (.cells #[.int .i64 x, .int .i64 y] 29) = wz at hR9 hQ9 hb9 ⊢
      have HR9 := hide hR9
      have HQ9 := hide hQ9
      have HB9 := hide hb9.drew
      clear hR9 hQ9 hb9
      go_wp2_with fail
      refine bodyPost_ret (v := .tuple #[.agg #[.int .i64 0, .bool false, .slice none 0 0, .int .i64 0], .agg #[.int .i64 x, .int .i64 y]]) (results2_cells Try.results24 rfl rfl (run_loadVar_blk HR9.out Try.underlying24 rfl Try.sizeCopy) (run_loadVar_blk HQ9.out Try.underlying29 rfl Try.sizeFaultS)) rfl ?_
      rw [HCe.out, HFe.out]
      exact ⟨_, rfl, World.ownsRow_nil _ _ _ _, HB9.out⟩
  have HFe := hide (HF.out.trans (if_neg hx))
  obtain rfl : x = 0 := Decidable.not_not.1 hx
  obtain rfl : y = 0 := by have := HZ1.out rfl; simpa using this
  have HDO2 := hide (HDO.out rfl)
  have hl := HL.out rfl
  have HCO := hide (copied_any ⟨ep, cl, l, en⟩ _ _ (HV.out.below HA2.out) hl)
  clear hx HF HZ1 HDO HL hl
  unfold cpV at HCO
  go_wp2_with (refine wpList_load_blk HB2.out Try.underlying24 rfl Try.sizeCopy rfl rfl rfl ?_)
  refine HCO.out.mono ?_
  rintro e w3 ⟨v3, rfl, ho3, hb3⟩
  obtain ⟨ao3, cap3, rfl⟩ := owns_shape ho3
  have HB3 := hide (HB2.out.later hb3)
  have HR3 := hide (HR2.out.later hb3)
  have HQ3 := hide (HQ2.out.later hb3)
  have HA3 := hide (HA2.out.trans (hb3.mono HA2.out.size))
  have HO3 := hide ho3
  have HS3 := hide (show w.heap.size + 4 ≤ (w1.alloc (.cells #[.int .i64 0, .int .i64 0] 29)).heap.size by have := HS1.out; simp; omega)
  have HS3b := hide hb3.size
  generalize (w1.alloc (.cells #[.int .i64 0, .int .i64 0] 29)).heap.size = base at *
  clear ho3 hb3 HCO
  go_wp2_with (refine wpList_store_blk rfl rfl rfl rfl HB3.out rfl Try.sizeCopy rfl ?_; intro w4 hB4 hg4; have HB4 := hide hB4; have HG4 := hide hg4; clear hB4 hg4)
  have HN1 := hide (show some (w.heap.size + 1 + 1) ≠ some w.heap.size from fun q => by simp at q; omega)
  have HN2 := hide (show some (w.heap.size + 1 + 1 + 1) ≠ some w.heap.size from fun q => by simp at q; omega)
  have hR4 := HR3.out.grown HG4.out HN1.out
  have hQ4 := HQ3.out.grown HG4.out HN2.out
  have HR4 := hide hR4
  have HQ4 := hide hQ4
  have HA4 := hide (below_grownO HA3.out HG4.out (fun k hk => by cases hk; omega) HA3.out.size)
  have HO4 := hide (owns_grownO HO3.out HG4.out (.inr (owns_off HO3.out HB3.out (by decide))))
  have HS4 := hide (Nat.le_trans HS3b.out HG4.out.size)
  have HOL := hide (fun k (q : (Value.slice ao3 l.length cap3).ownBlock = some k) => (HO4.out.lt k q).1)
  have HD := hide (HDO2.out w4 _ base HB4.out HO4.out HS3.out HS4.out HA4.out)
  clear hR4 hQ4
  refine HD.out.mono ?_
  rintro e w5 ⟨rfl, hok, hk⟩
  have HR5 := hide (hk.blk HR4.out (by omega) (fun q => owns_off HO4.out HR4.out (by decide) q.symm))
  have HQ5 := hide (hk.blk HQ4.out (by omega) (fun q => owns_off HO4.out HQ4.out (by decide) q.symm))
  have HA5 := hide (below_kp2 HA4.out hk (Nat.le_refl _) (fun k q => by have := HOL.out k q; have := HS3.out; omega) HA4.out.size)
  have HOK := hide hok
  obtain ⟨fx, fy⟩ := f2
  clear hk hok HD HDO2
  have HB6 := hide (Blk.new w5 29 #[.int .i64 fx, .int .i64 fy])
  have HR6 := hide (HR5.out.later (below_allocG w5 (.cells #[.int .i64 fx, .int .i64 fy] 29)))
  have HQ6 := hide (HQ5.out.later (below_allocG w5 (.cells #[.int .i64 fx, .int .i64 fy] 29)))
  have HA6 := hide (HA5.out.trans ((below_allocG w5 (.cells #[.int .i64 fx, .int .i64 fy] 29)).mono HA5.out.size))
  unfold flt
  by_cases hx : fx ≠ 0
  · have hq : (fx == 0) = false := beq_eq_false_iff_ne.2 hx
    have hq2 : (fx != 0) = true := by simp [hx]
    have HCe := hide (HC.out.trans (if_neg (by rw [HFe.out]; exact hx)))
    clear hx
    have rc0 := HR5.out.cell 0
    have rc1 := HR5.out.cell 1
    have rc2 := HR5.out.cell 2
    have rc3 := HR5.out.cell 3
    have rz0 := HR5.out.frozen 0
    have rz1 := HR5.out.frozen 1
    have rz2 := HR5.out.frozen 2
    have rz3 := HR5.out.frozen 3
    have rl := HR5.out.lt
    have qc0 := HQ5.out.cell 0
    have qc1 := HQ5.out.cell 1
    have qz0 := HQ5.out.frozen 0
    have qz1 := HQ5.out.frozen 1
    have ql := HQ5.out.lt
    simp at rc0 rc1 rc2 rc3 qc0 qc1
    have hsA := HA5.out.size
    go_wp2_with fail
    go_region
    all_goals
      have hR9 := ((((((HR5.out.set 0 (.int .i64 0)).set 1 (.bool false)).set 2 (.slice none 0 0)).set 3 (.int .i64 0)).other (p := ⟨w.heap.size + 1 + 1 + 1, 0, none⟩) (show w.heap.size + 1 + 1 ≠ w.heap.size + 1 + 1 + 1 by omega) (.int .i64 fx)).other (p := ⟨w.heap.size + 1 + 1 + 1, 1, none⟩) (show w.heap.size + 1 + 1 ≠ w.heap.size + 1 + 1 + 1 by omega) (.int .i64 fy)).later (below_allocG _ (.cells #[.int .i64 fx, .int .i64 fy] 29))
      have hQ9 := ((((((HQ5.out.other (p := ⟨w.heap.size + 1 + 1, 0, none⟩) (show w.heap.size + 1 + 1 + 1 ≠ w.heap.size + 1 + 1 by omega) (.int .i64 0)).other (p := ⟨w.heap.size + 1 + 1, 1, none⟩) (show w.heap.size + 1 + 1 + 1 ≠ w.heap.size + 1 + 1 by omega) (.bool false)).other (p := ⟨w.heap.size + 1 + 1, 2, none⟩) (show w.heap.size + 1 + 1 + 1 ≠ w.heap.size + 1 + 1 by omega) (.slice none 0 0)).other (p := ⟨w.heap.size + 1 + 1, 3, none⟩) (show w.heap.size + 1 + 1 + 1 ≠ w.heap.size + 1 + 1 by omega) (.int .i64 0)).set 0 (.int .i64 fx)).set 1 (.int .i64 fy)).later (below_allocG _ (.cells #[.int .i64 fx, .int .i64 fy] 29))
      simp only [List.setIfInBounds_toArray, List.set_cons_succ, List.set_cons_zero] at hR9 hQ9
      have hb9 : Below w.heap.size w (((((((w5.setCell ⟨w.heap.size + 1 + 1, 0, none⟩ (.int .i64 0)).setCell ⟨w.heap.size + 1 + 1, 1, none⟩ (.bool false)).setCell ⟨w.heap.size + 1 + 1, 2, none⟩ (.slice none 0 0)).setCell ⟨w.heap.size + 1 + 1, 3, none⟩ (.int .i64 0)).setCell ⟨w.heap.size + 1 + 1 + 1, 0, none⟩ (.int .i64 fx)).setCell ⟨w.heap.size + 1 + 1 + 1, 1, none⟩ (.int .i64 fy)).alloc (.cells #[.int .i64 fx, .int .i64 fy] 29)) := HA5.out.trans (by go_grown)
      clear rc0 rc1 rc2 rc3 rz0 rz1 rz2 rz3 rl qc0 qc1 qz0 qz1 ql
      generalize ((((((w5.setCell ⟨w.heap.size + 1 + 1, 0, none⟩ (.int .i64 0)).setCell ⟨w.heap.size + 1 + 1, 1, none⟩ (.bool false)).setCell ⟨w.heap.size + 1 + 1, 2, none⟩ (.slice none 0 0)).setCell ⟨w.heap.size + 1 + 1, 3, none⟩ (.int .i64 0)).setCell ⟨w.heap.size + 1 + 1 + 1, 0, none⟩ (.int .i64 fx)).setCell ⟨w.heap.size + 1 + 1 + 1, 1, none⟩ (.int .i64 fy)).alloc (.cells #[.int .i64 fx, .int .i64 fy] 29) = wz at hR9 hQ9 hb9 ⊢
      have HR9 := hide hR9
      have HQ9 := hide hQ9
      have HB9 := hide hb9.drew
      clear hR9 hQ9 hb9
      go_wp2_with fail
      refine bodyPost_ret (v := .tuple #[.agg #[.int .i64 0, .bool false, .slice none 0 0, .int .i64 0], .agg #[.int .i64 fx, .int .i64 fy]]) (results2_cells Try.results24 rfl rfl (run_loadVar_blk HR9.out Try.underlying24 rfl Try.sizeCopy) (run_loadVar_blk HQ9.out Try.underlying29 rfl Try.sizeFaultS)) rfl ?_
      rw [HCe.out, HFe.out]
      exact ⟨_, rfl, World.ownsRow_nil _ _ _ _, HB9.out⟩
  obtain rfl : fx = 0 := Decidable.not_not.1 hx
  obtain rfl : fy = 0 := by have := HZ2.out rfl; simpa using this
  have HCe := hide (HC.out.trans (if_pos (by rw [HFe.out])))
  obtain ⟨v6, hC6, ho6⟩ := HOK.out rfl
  obtain ⟨ao6, cap6, rfl⟩ := owns_shape ho6
  have HC6 := hide (hC6.later (below_allocG w5 (.cells #[.int .i64 0, .int .i64 0] 29)))
  have HO6 := hide (ho6.alloc (.cells #[.int .i64 0, .int .i64 0] 29))
  clear hx hC6 ho6 HOK HC
  obtain ⟨ep2, cl2, l2, en2⟩ := c2
  unfold cpA at HC6
  go_wp2_with (first
    | (refine wpList_store_int rfl rfl rfl rfl HC6.out rfl Try.sizeIntS ?_; intro w7 hC7 hg7; have HC7 := hide hC7; have HG7 := hide hg7; have HR7 := hide (HR6.out.grown hg7 HN1.out); have HQ7 := hide (HQ6.out.grown hg7 HN2.out); have HO7 := hide (owns_grownO HO6.out hg7 (.inr (owns_off HO6.out HC6.out (by decide)))); clear hC7 hg7)
    | (refine wpList_load_blk HC7.out Try.underlying24 rfl Try.sizeCopy rfl rfl rfl ?_)
    | (refine wpList_store_blk rfl rfl rfl rfl HR7.out rfl Try.sizeCopy rfl ?_; intro w8 hR8 hg8; have HR8 := hide hR8; have HG8 := hide hg8; have HQ8 := hide (HQ7.out.grown hg8 (by simp)); have HO8 := hide (owns_grownO HO7.out hg8 (.inr (owns_off HO7.out HR7.out (by decide)))); clear hR8 hg8)
    | (refine wpList_store_blk rfl rfl rfl rfl HQ8.out rfl Try.sizeFaultS rfl ?_; intro w9 hQ9 hg9; have HQ9 := hide hQ9; have HG9 := hide hg9; have HR9 := hide (HR8.out.grown hg9 (by simp)); have HO9 := hide (owns_grownO HO8.out hg9 (.inr (owns_off HO8.out HQ8.out (by decide)))); clear hQ9 hg9))
  refine bodyPost_ret (v := .tuple #[.agg #[.int .i64 e_, .bool cl2, .slice ao6 l2.length cap6, .int .i64 en2], .agg #[.int .i64 0, .int .i64 0]]) (results2_cells Try.results24 rfl rfl (run_loadVar_blk HR9.out Try.underlying24 rfl Try.sizeCopy) (run_loadVar_blk HQ9.out Try.underlying29 rfl Try.sizeFaultS)) rfl ?_
  rw [HCe.out, HFe.out]
  exact ⟨_, rfl, owns_base0 HO9.out (by have := HS3.out; omega), below_grownO (below_grownO (below_grownO HA6.out HG7.out (fun k hk => by cases hk; omega) HA6.out.size) HG8.out (fun k hk => by cases hk; omega) (Nat.le_trans HA6.out.size HG7.out.size)) HG9.out (fun k hk => by cases hk; omega) (Nat.le_trans HA6.out.size (Nat.le_trans HG7.out.size HG8.out.size))⟩

set_option maxRecDepth 100000 in
set_option maxHeartbeats 4000000 in
theorem changedAppend_any (X Y : Nat) (c c2 : Cp) (v : Value) (e_ : Int) (g f2 : Int × Int) (hg : Fz g) (hf2 : Fz f2) (w : World) (hv : RdG txE w v c.recs)
    (hdo : (epF c e_ g).1 = 0 → ∀ w3 v3 base, Blk w3 w.heap.size 24 (cpA c v3) → w3.ownsRow base 9 1 v3 c.recs.length (txE.vs c.recs) → w.heap.size + 4 ≤ base → base ≤ w3.heap.size → Below w.heap.size w w3 → Calls Try.prog 25 #[.pointer (some ⟨w.heap.size, 0, none⟩), .pointer (some ⟨X, 0, none⟩), .pointer (some ⟨Y, 0, none⟩)] w3 fun e w4 => e = .returned (flt f2) ∧ (f2.1 = 0 → ∃ v4, Blk w4 w.heap.size 24 (cpA c2 v4) ∧ w4.ownsRow base 9 1 v4 c2.recs.length (txE.vs c2.recs)) ∧ Kp2 w3 w4 w.heap.size v3.ownBlock) :
    Calls Try.prog 24 #[cpV c v, .int .i64 e_, flt g, .func (.func 25) #[] #[.pointer (some ⟨X, 0, none⟩), .pointer (some ⟨Y, 0, none⟩)]] w fun e w' => ∃ v', e = .returned (.tuple #[cpV (chC (epF c e_ g) f2 e_ c2) v', flt (chF (epF c e_ g) f2)]) ∧ w'.ownsRow w.heap.size 9 1 v' (chC (epF c e_ g) f2 e_ c2).recs.length (txE.vs (chC (epF c e_ g) f2 e_ c2).recs) ∧ Below w.heap.size w w' := by
  have HF : Hid (chF (epF c e_ g) f2 = if (epF c e_ g).1 ≠ 0 then epF c e_ g else f2) := hide rfl
  have HC : Hid (chC (epF c e_ g) f2 e_ c2 = if (chF (epF c e_ g) f2).1 = 0 then ⟨e_, c2.cl, c2.recs, c2.en⟩ else noCp) := hide rfl
  have HL := hide (show (epF c e_ g).1 = 0 → c.recs.length ≤ 1000 from fun q => epF_len q)
  obtain ⟨ep, cl, l, en⟩ := c
  obtain ⟨gx, gy⟩ := g
  simp only at hv hdo HL
  have HV := hide hv
  obtain ⟨ao, cap, rfl, _, _⟩ := hv.shape
  obtain ⟨hB, hG, hR, hF0, hA⟩ := four_at w #[.int .i64 ep, .bool cl, .slice ao l.length cap, .int .i64 en] #[.int .i64 gx, .int .i64 gy] #[.int .i64 0, .bool false, .slice none 0 0, .int .i64 0] #[.int .i64 0, .int .i64 0] 24 29 24 29
  have HEF := hide (epochFault_any ⟨ep, cl, l, en⟩ _ e_ (gx, gy) hg _ (hv.below hA))
  have HB0 := hide hB
  have HG0 := hide hG
  have HR0 := hide hR
  have HQ0 := hide hF0
  have HA0 := hide hA
  have HZ1 := hide (epF_z (c := ⟨ep, cl, l, en⟩) (ep := e_) (g := (gx, gy)))
  have HZ2 := hide hf2
  have HDO := hide hdo
  generalize hX : epF ⟨ep, cl, l, en⟩ e_ (gx, gy) = X at *
  obtain ⟨x, y⟩ := X
  clear hv hB hG hR hF0 hA hX hdo hf2 hg
  unfold cpV flt at HEF
  unfold cpV flt
  go_enter Try.func24, Try.ntmps24
  go_wp2_with (first
    | (refine wpList_load_blk HB0.out Try.underlying24 rfl Try.sizeCopy rfl rfl rfl ?_)
    | (refine wpList_load_blk HG0.out Try.underlying29 rfl Try.sizeFaultS rfl rfl rfl ?_))
  refine HEF.out.mono ?_
  rintro e w1 ⟨rfl, hb1⟩
  have HB1 := hide (HB0.out.later hb1)
  have HR1 : Hid (Blk w1 (w.heap.size + 1 + 1) 24 #[.int .i64 0, .bool false, .slice none 0 0, .int .i64 0]) := hide (HR0.out.later hb1)
  have HQ1 : Hid (Blk w1 (w.heap.size + 1 + 1 + 1) 29 #[.int .i64 0, .int .i64 0]) := hide (HQ0.out.later hb1)
  have HA1 := hide (HA0.out.trans (hb1.mono HA0.out.size))
  have HS1 := hide (show w.heap.size + 4 ≤ w1.heap.size by have := hb1.size; simp at this; omega)
  clear hb1 HB0 HR0 HQ0 HG0 HA0 HEF
  have HF1 := hide (Blk.new w1 29 #[.int .i64 x, .int .i64 y])
  have HB2 := hide (HB1.out.later (below_allocG w1 (.cells #[.int .i64 x, .int .i64 y] 29)))
  have HR2 := hide (HR1.out.later (below_allocG w1 (.cells #[.int .i64 x, .int .i64 y] 29)))
  have HQ2 := hide (HQ1.out.later (below_allocG w1 (.cells #[.int .i64 x, .int .i64 y] 29)))
  have HA2 := hide (HA1.out.trans ((below_allocG w1 (.cells #[.int .i64 x, .int .i64 y] 29)).mono HA1.out.size))
  by_cases hx : x ≠ 0
  · have hq : (x == 0) = false := beq_eq_false_iff_ne.2 hx
    have hq2 : (x != 0) = true := by simp [hx]
    have HFe := hide (HF.out.trans (if_pos hx))
    have HCe := hide (HC.out.trans (if_neg (by rw [HFe.out]; exact hx)))
    clear hx
    have rc0 := HR1.out.cell 0
    have rc1 := HR1.out.cell 1
    have rc2 := HR1.out.cell 2
    have rc3 := HR1.out.cell 3
    have rz0 := HR1.out.frozen 0
    have rz1 := HR1.out.frozen 1
    have rz2 := HR1.out.frozen 2
    have rz3 := HR1.out.frozen 3
    have rl := HR1.out.lt
    have qc0 := HQ1.out.cell 0
    have qc1 := HQ1.out.cell 1
    have qz0 := HQ1.out.frozen 0
    have qz1 := HQ1.out.frozen 1
    have ql := HQ1.out.lt
    simp at rc0 rc1 rc2 rc3 qc0 qc1
    have hsA := HA1.out.size
    go_wp2_with fail
    go_region
    all_goals
      have hR9 := ((((((HR1.out.set 0 (.int .i64 0)).set 1 (.bool false)).set 2 (.slice none 0 0)).set 3 (.int .i64 0)).other (p := ⟨w.heap.size + 1 + 1 + 1, 0, none⟩) (show w.heap.size + 1 + 1 ≠ w.heap.size + 1 + 1 + 1 by omega) (.int .i64 x)).other (p := ⟨w.heap.size + 1 + 1 + 1, 1, none⟩) (show w.heap.size + 1 + 1 ≠ w.heap.size + 1 + 1 + 1 by omega) (.int .i64 y)).later (below_allocG _ (.cells #[.int .i64 x, .int .i64 y] 29))
      have hQ9 := ((((((HQ1.out.other (p := ⟨w.heap.size + 1 + 1, 0, none⟩) (show w.heap.size + 1 + 1 + 1 ≠ w.heap.size + 1 + 1 by omega) (.int .i64 0)).other (p := ⟨w.heap.size + 1 + 1, 1, none⟩) (show w.heap.size + 1 + 1 + 1 ≠ w.heap.size + 1 + 1 by omega) (.bool false)).other (p := ⟨w.heap.size + 1 + 1, 2, none⟩) (show w.heap.size + 1 + 1 + 1 ≠ w.heap.size + 1 + 1 by omega) (.slice none 0 0)).other (p := ⟨w.heap.size + 1 + 1, 3, none⟩) (show w.heap.size + 1 + 1 + 1 ≠ w.heap.size + 1 + 1 by omega) (.int .i64 0)).set 0 (.int .i64 x)).set 1 (.int .i64 y)).later (below_allocG _ (.cells #[.int .i64 x, .int .i64 y] 29))
      simp only [List.setIfInBounds_toArray, List.set_cons_succ, List.set_cons_zero] at hR9 hQ9
      have hb9 : Below w.heap.size w (((((((w1.setCell ⟨w.heap.size + 1 + 1, 0, none⟩ (.int .i64 0)).setCell ⟨w.heap.size + 1 + 1, 1, none⟩ (.bool false)).setCell ⟨w.heap.size + 1 + 1, 2, none⟩ (.slice none 0 0)).setCell ⟨w.heap.size + 1 + 1, 3, none⟩ (.int .i64 0)).setCell ⟨w.heap.size + 1 + 1 + 1, 0, none⟩ (.int .i64 x)).setCell ⟨w.heap.size + 1 + 1 + 1, 1, none⟩ (.int .i64 y)).alloc (.cells #[.int .i64 x, .int .i64 y] 29)) := HA1.out.trans (by go_grown)
      clear rc0 rc1 rc2 rc3 rz0 rz1 rz2 rz3 rl qc0 qc1 qz0 qz1 ql
      generalize ((((((w1.setCell ⟨w.heap.size + 1 + 1, 0, none⟩ (.int .i64 0)).setCell ⟨w.heap.size + 1 + 1, 1, none⟩ (.bool false)).setCell ⟨w.heap.size + 1 + 1, 2, none⟩ (.slice none 0 0)).setCell ⟨w.heap.size + 1 + 1, 3, none⟩ (.int .i64 0)).setCell ⟨w.heap.size + 1 + 1 + 1, 0, none⟩ (.int .i64 x)).setCell ⟨w.heap.size + 1 + 1 + 1, 1, none⟩ (.int .i64 y)).alloc (.cells #[.int .i64 x, .int .i64 y] 29) = wz at hR9 hQ9 hb9 ⊢
      have HR9 := hide hR9
      have HQ9 := hide hQ9
      have HB9 := hide hb9.drew
      clear hR9 hQ9 hb9
      go_wp2_with fail
      refine bodyPost_ret (v := .tuple #[.agg #[.int .i64 0, .bool false, .slice none 0 0, .int .i64 0], .agg #[.int .i64 x, .int .i64 y]]) (results2_cells Try.results24 rfl rfl (run_loadVar_blk HR9.out Try.underlying24 rfl Try.sizeCopy) (run_loadVar_blk HQ9.out Try.underlying29 rfl Try.sizeFaultS)) rfl ?_
      rw [HCe.out, HFe.out]
      exact ⟨_, rfl, World.ownsRow_nil _ _ _ _, HB9.out⟩
  have HFe := hide (HF.out.trans (if_neg hx))
  obtain rfl : x = 0 := Decidable.not_not.1 hx
  obtain rfl : y = 0 := by have := HZ1.out rfl; simpa using this
  have HDO2 := hide (HDO.out rfl)
  have hl := HL.out rfl
  have HCO := hide (copied_any ⟨ep, cl, l, en⟩ _ _ (HV.out.below HA2.out) hl)
  clear hx HF HZ1 HDO HL hl
  unfold cpV at HCO
  go_wp2_with (refine wpList_load_blk HB2.out Try.underlying24 rfl Try.sizeCopy rfl rfl rfl ?_)
  refine HCO.out.mono ?_
  rintro e w3 ⟨v3, rfl, ho3, hb3⟩
  obtain ⟨ao3, cap3, rfl⟩ := owns_shape ho3
  have HB3 := hide (HB2.out.later hb3)
  have HR3 := hide (HR2.out.later hb3)
  have HQ3 := hide (HQ2.out.later hb3)
  have HA3 := hide (HA2.out.trans (hb3.mono HA2.out.size))
  have HO3 := hide ho3
  have HS3 := hide (show w.heap.size + 4 ≤ (w1.alloc (.cells #[.int .i64 0, .int .i64 0] 29)).heap.size by have := HS1.out; simp; omega)
  have HS3b := hide hb3.size
  generalize (w1.alloc (.cells #[.int .i64 0, .int .i64 0] 29)).heap.size = base at *
  clear ho3 hb3 HCO
  go_wp2_with (refine wpList_store_blk rfl rfl rfl rfl HB3.out rfl Try.sizeCopy rfl ?_; intro w4 hB4 hg4; have HB4 := hide hB4; have HG4 := hide hg4; clear hB4 hg4)
  have HN1 := hide (show some (w.heap.size + 1 + 1) ≠ some w.heap.size from fun q => by simp at q; omega)
  have HN2 := hide (show some (w.heap.size + 1 + 1 + 1) ≠ some w.heap.size from fun q => by simp at q; omega)
  have hR4 := HR3.out.grown HG4.out HN1.out
  have hQ4 := HQ3.out.grown HG4.out HN2.out
  have HR4 := hide hR4
  have HQ4 := hide hQ4
  have HA4 := hide (below_grownO HA3.out HG4.out (fun k hk => by cases hk; omega) HA3.out.size)
  have HO4 := hide (owns_grownO HO3.out HG4.out (.inr (owns_off HO3.out HB3.out (by decide))))
  have HS4 := hide (Nat.le_trans HS3b.out HG4.out.size)
  have HOL := hide (fun k (q : (Value.slice ao3 l.length cap3).ownBlock = some k) => (HO4.out.lt k q).1)
  have HD := hide (HDO2.out w4 _ base HB4.out HO4.out HS3.out HS4.out HA4.out)
  clear hR4 hQ4
  refine HD.out.mono ?_
  rintro e w5 ⟨rfl, hok, hk⟩
  have HR5 := hide (hk.blk HR4.out (by omega) (fun q => owns_off HO4.out HR4.out (by decide) q.symm))
  have HQ5 := hide (hk.blk HQ4.out (by omega) (fun q => owns_off HO4.out HQ4.out (by decide) q.symm))
  have HA5 := hide (below_kp2 HA4.out hk (Nat.le_refl _) (fun k q => by have := HOL.out k q; have := HS3.out; omega) HA4.out.size)
  have HOK := hide hok
  obtain ⟨fx, fy⟩ := f2
  clear hk hok HD HDO2
  have HB6 := hide (Blk.new w5 29 #[.int .i64 fx, .int .i64 fy])
  have HR6 := hide (HR5.out.later (below_allocG w5 (.cells #[.int .i64 fx, .int .i64 fy] 29)))
  have HQ6 := hide (HQ5.out.later (below_allocG w5 (.cells #[.int .i64 fx, .int .i64 fy] 29)))
  have HA6 := hide (HA5.out.trans ((below_allocG w5 (.cells #[.int .i64 fx, .int .i64 fy] 29)).mono HA5.out.size))
  unfold flt
  by_cases hx : fx ≠ 0
  · have hq : (fx == 0) = false := beq_eq_false_iff_ne.2 hx
    have hq2 : (fx != 0) = true := by simp [hx]
    have HCe := hide (HC.out.trans (if_neg (by rw [HFe.out]; exact hx)))
    clear hx
    have rc0 := HR5.out.cell 0
    have rc1 := HR5.out.cell 1
    have rc2 := HR5.out.cell 2
    have rc3 := HR5.out.cell 3
    have rz0 := HR5.out.frozen 0
    have rz1 := HR5.out.frozen 1
    have rz2 := HR5.out.frozen 2
    have rz3 := HR5.out.frozen 3
    have rl := HR5.out.lt
    have qc0 := HQ5.out.cell 0
    have qc1 := HQ5.out.cell 1
    have qz0 := HQ5.out.frozen 0
    have qz1 := HQ5.out.frozen 1
    have ql := HQ5.out.lt
    simp at rc0 rc1 rc2 rc3 qc0 qc1
    have hsA := HA5.out.size
    go_wp2_with fail
    go_region
    all_goals
      have hR9 := ((((((HR5.out.set 0 (.int .i64 0)).set 1 (.bool false)).set 2 (.slice none 0 0)).set 3 (.int .i64 0)).other (p := ⟨w.heap.size + 1 + 1 + 1, 0, none⟩) (show w.heap.size + 1 + 1 ≠ w.heap.size + 1 + 1 + 1 by omega) (.int .i64 fx)).other (p := ⟨w.heap.size + 1 + 1 + 1, 1, none⟩) (show w.heap.size + 1 + 1 ≠ w.heap.size + 1 + 1 + 1 by omega) (.int .i64 fy)).later (below_allocG _ (.cells #[.int .i64 fx, .int .i64 fy] 29))
      have hQ9 := ((((((HQ5.out.other (p := ⟨w.heap.size + 1 + 1, 0, none⟩) (show w.heap.size + 1 + 1 + 1 ≠ w.heap.size + 1 + 1 by omega) (.int .i64 0)).other (p := ⟨w.heap.size + 1 + 1, 1, none⟩) (show w.heap.size + 1 + 1 + 1 ≠ w.heap.size + 1 + 1 by omega) (.bool false)).other (p := ⟨w.heap.size + 1 + 1, 2, none⟩) (show w.heap.size + 1 + 1 + 1 ≠ w.heap.size + 1 + 1 by omega) (.slice none 0 0)).other (p := ⟨w.heap.size + 1 + 1, 3, none⟩) (show w.heap.size + 1 + 1 + 1 ≠ w.heap.size + 1 + 1 by omega) (.int .i64 0)).set 0 (.int .i64 fx)).set 1 (.int .i64 fy)).later (below_allocG _ (.cells #[.int .i64 fx, .int .i64 fy] 29))
      simp only [List.setIfInBounds_toArray, List.set_cons_succ, List.set_cons_zero] at hR9 hQ9
      have hb9 : Below w.heap.size w (((((((w5.setCell ⟨w.heap.size + 1 + 1, 0, none⟩ (.int .i64 0)).setCell ⟨w.heap.size + 1 + 1, 1, none⟩ (.bool false)).setCell ⟨w.heap.size + 1 + 1, 2, none⟩ (.slice none 0 0)).setCell ⟨w.heap.size + 1 + 1, 3, none⟩ (.int .i64 0)).setCell ⟨w.heap.size + 1 + 1 + 1, 0, none⟩ (.int .i64 fx)).setCell ⟨w.heap.size + 1 + 1 + 1, 1, none⟩ (.int .i64 fy)).alloc (.cells #[.int .i64 fx, .int .i64 fy] 29)) := HA5.out.trans (by go_grown)
      clear rc0 rc1 rc2 rc3 rz0 rz1 rz2 rz3 rl qc0 qc1 qz0 qz1 ql
      generalize ((((((w5.setCell ⟨w.heap.size + 1 + 1, 0, none⟩ (.int .i64 0)).setCell ⟨w.heap.size + 1 + 1, 1, none⟩ (.bool false)).setCell ⟨w.heap.size + 1 + 1, 2, none⟩ (.slice none 0 0)).setCell ⟨w.heap.size + 1 + 1, 3, none⟩ (.int .i64 0)).setCell ⟨w.heap.size + 1 + 1 + 1, 0, none⟩ (.int .i64 fx)).setCell ⟨w.heap.size + 1 + 1 + 1, 1, none⟩ (.int .i64 fy)).alloc (.cells #[.int .i64 fx, .int .i64 fy] 29) = wz at hR9 hQ9 hb9 ⊢
      have HR9 := hide hR9
      have HQ9 := hide hQ9
      have HB9 := hide hb9.drew
      clear hR9 hQ9 hb9
      go_wp2_with fail
      refine bodyPost_ret (v := .tuple #[.agg #[.int .i64 0, .bool false, .slice none 0 0, .int .i64 0], .agg #[.int .i64 fx, .int .i64 fy]]) (results2_cells Try.results24 rfl rfl (run_loadVar_blk HR9.out Try.underlying24 rfl Try.sizeCopy) (run_loadVar_blk HQ9.out Try.underlying29 rfl Try.sizeFaultS)) rfl ?_
      rw [HCe.out, HFe.out]
      exact ⟨_, rfl, World.ownsRow_nil _ _ _ _, HB9.out⟩
  obtain rfl : fx = 0 := Decidable.not_not.1 hx
  obtain rfl : fy = 0 := by have := HZ2.out rfl; simpa using this
  have HCe := hide (HC.out.trans (if_pos (by rw [HFe.out])))
  obtain ⟨v6, hC6, ho6⟩ := HOK.out rfl
  obtain ⟨ao6, cap6, rfl⟩ := owns_shape ho6
  have HC6 := hide (hC6.later (below_allocG w5 (.cells #[.int .i64 0, .int .i64 0] 29)))
  have HO6 := hide (ho6.alloc (.cells #[.int .i64 0, .int .i64 0] 29))
  clear hx hC6 ho6 HOK HC
  obtain ⟨ep2, cl2, l2, en2⟩ := c2
  unfold cpA at HC6
  go_wp2_with (first
    | (refine wpList_store_int rfl rfl rfl rfl HC6.out rfl Try.sizeIntS ?_; intro w7 hC7 hg7; have HC7 := hide hC7; have HG7 := hide hg7; have HR7 := hide (HR6.out.grown hg7 HN1.out); have HQ7 := hide (HQ6.out.grown hg7 HN2.out); have HO7 := hide (owns_grownO HO6.out hg7 (.inr (owns_off HO6.out HC6.out (by decide)))); clear hC7 hg7)
    | (refine wpList_load_blk HC7.out Try.underlying24 rfl Try.sizeCopy rfl rfl rfl ?_)
    | (refine wpList_store_blk rfl rfl rfl rfl HR7.out rfl Try.sizeCopy rfl ?_; intro w8 hR8 hg8; have HR8 := hide hR8; have HG8 := hide hg8; have HQ8 := hide (HQ7.out.grown hg8 (by simp)); have HO8 := hide (owns_grownO HO7.out hg8 (.inr (owns_off HO7.out HR7.out (by decide)))); clear hR8 hg8)
    | (refine wpList_store_blk rfl rfl rfl rfl HQ8.out rfl Try.sizeFaultS rfl ?_; intro w9 hQ9 hg9; have HQ9 := hide hQ9; have HG9 := hide hg9; have HR9 := hide (HR8.out.grown hg9 (by simp)); have HO9 := hide (owns_grownO HO8.out hg9 (.inr (owns_off HO8.out HQ8.out (by decide)))); clear hQ9 hg9))
  refine bodyPost_ret (v := .tuple #[.agg #[.int .i64 e_, .bool cl2, .slice ao6 l2.length cap6, .int .i64 en2], .agg #[.int .i64 0, .int .i64 0]]) (results2_cells Try.results24 rfl rfl (run_loadVar_blk HR9.out Try.underlying24 rfl Try.sizeCopy) (run_loadVar_blk HQ9.out Try.underlying29 rfl Try.sizeFaultS)) rfl ?_
  rw [HCe.out, HFe.out]
  exact ⟨_, rfl, owns_base0 HO9.out (by have := HS3.out; omega), below_grownO (below_grownO (below_grownO HA6.out HG7.out (fun k hk => by cases hk; omega) HA6.out.size) HG8.out (fun k hk => by cases hk; omega) (Nat.le_trans HA6.out.size HG7.out.size)) HG9.out (fun k hk => by cases hk; omega) (Nat.le_trans HA6.out.size (Nat.le_trans HG7.out.size HG8.out.size))⟩

set_option maxRecDepth 100000 in
set_option maxHeartbeats 4000000 in
theorem changedEnd_any (X Y : Nat) (c c2 : Cp) (v : Value) (e_ : Int) (g f2 : Int × Int) (hg : Fz g) (hf2 : Fz f2) (w : World) (hv : RdG txE w v c.recs)
    (hdo : (epF c e_ g).1 = 0 → ∀ w3 v3 base, Blk w3 w.heap.size 24 (cpA c v3) → w3.ownsRow base 9 1 v3 c.recs.length (txE.vs c.recs) → w.heap.size + 4 ≤ base → base ≤ w3.heap.size → Below w.heap.size w w3 → Calls Try.prog 29 #[.pointer (some ⟨w.heap.size, 0, none⟩), .pointer (some ⟨X, 0, none⟩), .pointer (some ⟨Y, 0, none⟩)] w3 fun e w4 => e = .returned (flt f2) ∧ (f2.1 = 0 → ∃ v4, Blk w4 w.heap.size 24 (cpA c2 v4) ∧ w4.ownsRow base 9 1 v4 c2.recs.length (txE.vs c2.recs)) ∧ Kp2 w3 w4 w.heap.size v3.ownBlock) :
    Calls Try.prog 24 #[cpV c v, .int .i64 e_, flt g, .func (.func 29) #[] #[.pointer (some ⟨X, 0, none⟩), .pointer (some ⟨Y, 0, none⟩)]] w fun e w' => ∃ v', e = .returned (.tuple #[cpV (chC (epF c e_ g) f2 e_ c2) v', flt (chF (epF c e_ g) f2)]) ∧ w'.ownsRow w.heap.size 9 1 v' (chC (epF c e_ g) f2 e_ c2).recs.length (txE.vs (chC (epF c e_ g) f2 e_ c2).recs) ∧ Below w.heap.size w w' := by
  have HF : Hid (chF (epF c e_ g) f2 = if (epF c e_ g).1 ≠ 0 then epF c e_ g else f2) := hide rfl
  have HC : Hid (chC (epF c e_ g) f2 e_ c2 = if (chF (epF c e_ g) f2).1 = 0 then ⟨e_, c2.cl, c2.recs, c2.en⟩ else noCp) := hide rfl
  have HL := hide (show (epF c e_ g).1 = 0 → c.recs.length ≤ 1000 from fun q => epF_len q)
  obtain ⟨ep, cl, l, en⟩ := c
  obtain ⟨gx, gy⟩ := g
  simp only at hv hdo HL
  have HV := hide hv
  obtain ⟨ao, cap, rfl, _, _⟩ := hv.shape
  obtain ⟨hB, hG, hR, hF0, hA⟩ := four_at w #[.int .i64 ep, .bool cl, .slice ao l.length cap, .int .i64 en] #[.int .i64 gx, .int .i64 gy] #[.int .i64 0, .bool false, .slice none 0 0, .int .i64 0] #[.int .i64 0, .int .i64 0] 24 29 24 29
  have HEF := hide (epochFault_any ⟨ep, cl, l, en⟩ _ e_ (gx, gy) hg _ (hv.below hA))
  have HB0 := hide hB
  have HG0 := hide hG
  have HR0 := hide hR
  have HQ0 := hide hF0
  have HA0 := hide hA
  have HZ1 := hide (epF_z (c := ⟨ep, cl, l, en⟩) (ep := e_) (g := (gx, gy)))
  have HZ2 := hide hf2
  have HDO := hide hdo
  generalize hX : epF ⟨ep, cl, l, en⟩ e_ (gx, gy) = X at *
  obtain ⟨x, y⟩ := X
  clear hv hB hG hR hF0 hA hX hdo hf2 hg
  unfold cpV flt at HEF
  unfold cpV flt
  go_enter Try.func24, Try.ntmps24
  go_wp2_with (first
    | (refine wpList_load_blk HB0.out Try.underlying24 rfl Try.sizeCopy rfl rfl rfl ?_)
    | (refine wpList_load_blk HG0.out Try.underlying29 rfl Try.sizeFaultS rfl rfl rfl ?_))
  refine HEF.out.mono ?_
  rintro e w1 ⟨rfl, hb1⟩
  have HB1 := hide (HB0.out.later hb1)
  have HR1 : Hid (Blk w1 (w.heap.size + 1 + 1) 24 #[.int .i64 0, .bool false, .slice none 0 0, .int .i64 0]) := hide (HR0.out.later hb1)
  have HQ1 : Hid (Blk w1 (w.heap.size + 1 + 1 + 1) 29 #[.int .i64 0, .int .i64 0]) := hide (HQ0.out.later hb1)
  have HA1 := hide (HA0.out.trans (hb1.mono HA0.out.size))
  have HS1 := hide (show w.heap.size + 4 ≤ w1.heap.size by have := hb1.size; simp at this; omega)
  clear hb1 HB0 HR0 HQ0 HG0 HA0 HEF
  have HF1 := hide (Blk.new w1 29 #[.int .i64 x, .int .i64 y])
  have HB2 := hide (HB1.out.later (below_allocG w1 (.cells #[.int .i64 x, .int .i64 y] 29)))
  have HR2 := hide (HR1.out.later (below_allocG w1 (.cells #[.int .i64 x, .int .i64 y] 29)))
  have HQ2 := hide (HQ1.out.later (below_allocG w1 (.cells #[.int .i64 x, .int .i64 y] 29)))
  have HA2 := hide (HA1.out.trans ((below_allocG w1 (.cells #[.int .i64 x, .int .i64 y] 29)).mono HA1.out.size))
  by_cases hx : x ≠ 0
  · have hq : (x == 0) = false := beq_eq_false_iff_ne.2 hx
    have hq2 : (x != 0) = true := by simp [hx]
    have HFe := hide (HF.out.trans (if_pos hx))
    have HCe := hide (HC.out.trans (if_neg (by rw [HFe.out]; exact hx)))
    clear hx
    have rc0 := HR1.out.cell 0
    have rc1 := HR1.out.cell 1
    have rc2 := HR1.out.cell 2
    have rc3 := HR1.out.cell 3
    have rz0 := HR1.out.frozen 0
    have rz1 := HR1.out.frozen 1
    have rz2 := HR1.out.frozen 2
    have rz3 := HR1.out.frozen 3
    have rl := HR1.out.lt
    have qc0 := HQ1.out.cell 0
    have qc1 := HQ1.out.cell 1
    have qz0 := HQ1.out.frozen 0
    have qz1 := HQ1.out.frozen 1
    have ql := HQ1.out.lt
    simp at rc0 rc1 rc2 rc3 qc0 qc1
    have hsA := HA1.out.size
    go_wp2_with fail
    go_region
    all_goals
      have hR9 := ((((((HR1.out.set 0 (.int .i64 0)).set 1 (.bool false)).set 2 (.slice none 0 0)).set 3 (.int .i64 0)).other (p := ⟨w.heap.size + 1 + 1 + 1, 0, none⟩) (show w.heap.size + 1 + 1 ≠ w.heap.size + 1 + 1 + 1 by omega) (.int .i64 x)).other (p := ⟨w.heap.size + 1 + 1 + 1, 1, none⟩) (show w.heap.size + 1 + 1 ≠ w.heap.size + 1 + 1 + 1 by omega) (.int .i64 y)).later (below_allocG _ (.cells #[.int .i64 x, .int .i64 y] 29))
      have hQ9 := ((((((HQ1.out.other (p := ⟨w.heap.size + 1 + 1, 0, none⟩) (show w.heap.size + 1 + 1 + 1 ≠ w.heap.size + 1 + 1 by omega) (.int .i64 0)).other (p := ⟨w.heap.size + 1 + 1, 1, none⟩) (show w.heap.size + 1 + 1 + 1 ≠ w.heap.size + 1 + 1 by omega) (.bool false)).other (p := ⟨w.heap.size + 1 + 1, 2, none⟩) (show w.heap.size + 1 + 1 + 1 ≠ w.heap.size + 1 + 1 by omega) (.slice none 0 0)).other (p := ⟨w.heap.size + 1 + 1, 3, none⟩) (show w.heap.size + 1 + 1 + 1 ≠ w.heap.size + 1 + 1 by omega) (.int .i64 0)).set 0 (.int .i64 x)).set 1 (.int .i64 y)).later (below_allocG _ (.cells #[.int .i64 x, .int .i64 y] 29))
      simp only [List.setIfInBounds_toArray, List.set_cons_succ, List.set_cons_zero] at hR9 hQ9
      have hb9 : Below w.heap.size w (((((((w1.setCell ⟨w.heap.size + 1 + 1, 0, none⟩ (.int .i64 0)).setCell ⟨w.heap.size + 1 + 1, 1, none⟩ (.bool false)).setCell ⟨w.heap.size + 1 + 1, 2, none⟩ (.slice none 0 0)).setCell ⟨w.heap.size + 1 + 1, 3, none⟩ (.int .i64 0)).setCell ⟨w.heap.size + 1 + 1 + 1, 0, none⟩ (.int .i64 x)).setCell ⟨w.heap.size + 1 + 1 + 1, 1, none⟩ (.int .i64 y)).alloc (.cells #[.int .i64 x, .int .i64 y] 29)) := HA1.out.trans (by go_grown)
      clear rc0 rc1 rc2 rc3 rz0 rz1 rz2 rz3 rl qc0 qc1 qz0 qz1 ql
      generalize ((((((w1.setCell ⟨w.heap.size + 1 + 1, 0, none⟩ (.int .i64 0)).setCell ⟨w.heap.size + 1 + 1, 1, none⟩ (.bool false)).setCell ⟨w.heap.size + 1 + 1, 2, none⟩ (.slice none 0 0)).setCell ⟨w.heap.size + 1 + 1, 3, none⟩ (.int .i64 0)).setCell ⟨w.heap.size + 1 + 1 + 1, 0, none⟩ (.int .i64 x)).setCell ⟨w.heap.size + 1 + 1 + 1, 1, none⟩ (.int .i64 y)).alloc (.cells #[.int .i64 x, .int .i64 y] 29) = wz at hR9 hQ9 hb9 ⊢
      have HR9 := hide hR9
      have HQ9 := hide hQ9
      have HB9 := hide hb9.drew
      clear hR9 hQ9 hb9
      go_wp2_with fail
      refine bodyPost_ret (v := .tuple #[.agg #[.int .i64 0, .bool false, .slice none 0 0, .int .i64 0], .agg #[.int .i64 x, .int .i64 y]]) (results2_cells Try.results24 rfl rfl (run_loadVar_blk HR9.out Try.underlying24 rfl Try.sizeCopy) (run_loadVar_blk HQ9.out Try.underlying29 rfl Try.sizeFaultS)) rfl ?_
      rw [HCe.out, HFe.out]
      exact ⟨_, rfl, World.ownsRow_nil _ _ _ _, HB9.out⟩
  have HFe := hide (HF.out.trans (if_neg hx))
  obtain rfl : x = 0 := Decidable.not_not.1 hx
  obtain rfl : y = 0 := by have := HZ1.out rfl; simpa using this
  have HDO2 := hide (HDO.out rfl)
  have hl := HL.out rfl
  have HCO := hide (copied_any ⟨ep, cl, l, en⟩ _ _ (HV.out.below HA2.out) hl)
  clear hx HF HZ1 HDO HL hl
  unfold cpV at HCO
  go_wp2_with (refine wpList_load_blk HB2.out Try.underlying24 rfl Try.sizeCopy rfl rfl rfl ?_)
  refine HCO.out.mono ?_
  rintro e w3 ⟨v3, rfl, ho3, hb3⟩
  obtain ⟨ao3, cap3, rfl⟩ := owns_shape ho3
  have HB3 := hide (HB2.out.later hb3)
  have HR3 := hide (HR2.out.later hb3)
  have HQ3 := hide (HQ2.out.later hb3)
  have HA3 := hide (HA2.out.trans (hb3.mono HA2.out.size))
  have HO3 := hide ho3
  have HS3 := hide (show w.heap.size + 4 ≤ (w1.alloc (.cells #[.int .i64 0, .int .i64 0] 29)).heap.size by have := HS1.out; simp; omega)
  have HS3b := hide hb3.size
  generalize (w1.alloc (.cells #[.int .i64 0, .int .i64 0] 29)).heap.size = base at *
  clear ho3 hb3 HCO
  go_wp2_with (refine wpList_store_blk rfl rfl rfl rfl HB3.out rfl Try.sizeCopy rfl ?_; intro w4 hB4 hg4; have HB4 := hide hB4; have HG4 := hide hg4; clear hB4 hg4)
  have HN1 := hide (show some (w.heap.size + 1 + 1) ≠ some w.heap.size from fun q => by simp at q; omega)
  have HN2 := hide (show some (w.heap.size + 1 + 1 + 1) ≠ some w.heap.size from fun q => by simp at q; omega)
  have hR4 := HR3.out.grown HG4.out HN1.out
  have hQ4 := HQ3.out.grown HG4.out HN2.out
  have HR4 := hide hR4
  have HQ4 := hide hQ4
  have HA4 := hide (below_grownO HA3.out HG4.out (fun k hk => by cases hk; omega) HA3.out.size)
  have HO4 := hide (owns_grownO HO3.out HG4.out (.inr (owns_off HO3.out HB3.out (by decide))))
  have HS4 := hide (Nat.le_trans HS3b.out HG4.out.size)
  have HOL := hide (fun k (q : (Value.slice ao3 l.length cap3).ownBlock = some k) => (HO4.out.lt k q).1)
  have HD := hide (HDO2.out w4 _ base HB4.out HO4.out HS3.out HS4.out HA4.out)
  clear hR4 hQ4
  refine HD.out.mono ?_
  rintro e w5 ⟨rfl, hok, hk⟩
  have HR5 := hide (hk.blk HR4.out (by omega) (fun q => owns_off HO4.out HR4.out (by decide) q.symm))
  have HQ5 := hide (hk.blk HQ4.out (by omega) (fun q => owns_off HO4.out HQ4.out (by decide) q.symm))
  have HA5 := hide (below_kp2 HA4.out hk (Nat.le_refl _) (fun k q => by have := HOL.out k q; have := HS3.out; omega) HA4.out.size)
  have HOK := hide hok
  obtain ⟨fx, fy⟩ := f2
  clear hk hok HD HDO2
  have HB6 := hide (Blk.new w5 29 #[.int .i64 fx, .int .i64 fy])
  have HR6 := hide (HR5.out.later (below_allocG w5 (.cells #[.int .i64 fx, .int .i64 fy] 29)))
  have HQ6 := hide (HQ5.out.later (below_allocG w5 (.cells #[.int .i64 fx, .int .i64 fy] 29)))
  have HA6 := hide (HA5.out.trans ((below_allocG w5 (.cells #[.int .i64 fx, .int .i64 fy] 29)).mono HA5.out.size))
  unfold flt
  by_cases hx : fx ≠ 0
  · have hq : (fx == 0) = false := beq_eq_false_iff_ne.2 hx
    have hq2 : (fx != 0) = true := by simp [hx]
    have HCe := hide (HC.out.trans (if_neg (by rw [HFe.out]; exact hx)))
    clear hx
    have rc0 := HR5.out.cell 0
    have rc1 := HR5.out.cell 1
    have rc2 := HR5.out.cell 2
    have rc3 := HR5.out.cell 3
    have rz0 := HR5.out.frozen 0
    have rz1 := HR5.out.frozen 1
    have rz2 := HR5.out.frozen 2
    have rz3 := HR5.out.frozen 3
    have rl := HR5.out.lt
    have qc0 := HQ5.out.cell 0
    have qc1 := HQ5.out.cell 1
    have qz0 := HQ5.out.frozen 0
    have qz1 := HQ5.out.frozen 1
    have ql := HQ5.out.lt
    simp at rc0 rc1 rc2 rc3 qc0 qc1
    have hsA := HA5.out.size
    go_wp2_with fail
    go_region
    all_goals
      have hR9 := ((((((HR5.out.set 0 (.int .i64 0)).set 1 (.bool false)).set 2 (.slice none 0 0)).set 3 (.int .i64 0)).other (p := ⟨w.heap.size + 1 + 1 + 1, 0, none⟩) (show w.heap.size + 1 + 1 ≠ w.heap.size + 1 + 1 + 1 by omega) (.int .i64 fx)).other (p := ⟨w.heap.size + 1 + 1 + 1, 1, none⟩) (show w.heap.size + 1 + 1 ≠ w.heap.size + 1 + 1 + 1 by omega) (.int .i64 fy)).later (below_allocG _ (.cells #[.int .i64 fx, .int .i64 fy] 29))
      have hQ9 := ((((((HQ5.out.other (p := ⟨w.heap.size + 1 + 1, 0, none⟩) (show w.heap.size + 1 + 1 + 1 ≠ w.heap.size + 1 + 1 by omega) (.int .i64 0)).other (p := ⟨w.heap.size + 1 + 1, 1, none⟩) (show w.heap.size + 1 + 1 + 1 ≠ w.heap.size + 1 + 1 by omega) (.bool false)).other (p := ⟨w.heap.size + 1 + 1, 2, none⟩) (show w.heap.size + 1 + 1 + 1 ≠ w.heap.size + 1 + 1 by omega) (.slice none 0 0)).other (p := ⟨w.heap.size + 1 + 1, 3, none⟩) (show w.heap.size + 1 + 1 + 1 ≠ w.heap.size + 1 + 1 by omega) (.int .i64 0)).set 0 (.int .i64 fx)).set 1 (.int .i64 fy)).later (below_allocG _ (.cells #[.int .i64 fx, .int .i64 fy] 29))
      simp only [List.setIfInBounds_toArray, List.set_cons_succ, List.set_cons_zero] at hR9 hQ9
      have hb9 : Below w.heap.size w (((((((w5.setCell ⟨w.heap.size + 1 + 1, 0, none⟩ (.int .i64 0)).setCell ⟨w.heap.size + 1 + 1, 1, none⟩ (.bool false)).setCell ⟨w.heap.size + 1 + 1, 2, none⟩ (.slice none 0 0)).setCell ⟨w.heap.size + 1 + 1, 3, none⟩ (.int .i64 0)).setCell ⟨w.heap.size + 1 + 1 + 1, 0, none⟩ (.int .i64 fx)).setCell ⟨w.heap.size + 1 + 1 + 1, 1, none⟩ (.int .i64 fy)).alloc (.cells #[.int .i64 fx, .int .i64 fy] 29)) := HA5.out.trans (by go_grown)
      clear rc0 rc1 rc2 rc3 rz0 rz1 rz2 rz3 rl qc0 qc1 qz0 qz1 ql
      generalize ((((((w5.setCell ⟨w.heap.size + 1 + 1, 0, none⟩ (.int .i64 0)).setCell ⟨w.heap.size + 1 + 1, 1, none⟩ (.bool false)).setCell ⟨w.heap.size + 1 + 1, 2, none⟩ (.slice none 0 0)).setCell ⟨w.heap.size + 1 + 1, 3, none⟩ (.int .i64 0)).setCell ⟨w.heap.size + 1 + 1 + 1, 0, none⟩ (.int .i64 fx)).setCell ⟨w.heap.size + 1 + 1 + 1, 1, none⟩ (.int .i64 fy)).alloc (.cells #[.int .i64 fx, .int .i64 fy] 29) = wz at hR9 hQ9 hb9 ⊢
      have HR9 := hide hR9
      have HQ9 := hide hQ9
      have HB9 := hide hb9.drew
      clear hR9 hQ9 hb9
      go_wp2_with fail
      refine bodyPost_ret (v := .tuple #[.agg #[.int .i64 0, .bool false, .slice none 0 0, .int .i64 0], .agg #[.int .i64 fx, .int .i64 fy]]) (results2_cells Try.results24 rfl rfl (run_loadVar_blk HR9.out Try.underlying24 rfl Try.sizeCopy) (run_loadVar_blk HQ9.out Try.underlying29 rfl Try.sizeFaultS)) rfl ?_
      rw [HCe.out, HFe.out]
      exact ⟨_, rfl, World.ownsRow_nil _ _ _ _, HB9.out⟩
  obtain rfl : fx = 0 := Decidable.not_not.1 hx
  obtain rfl : fy = 0 := by have := HZ2.out rfl; simpa using this
  have HCe := hide (HC.out.trans (if_pos (by rw [HFe.out])))
  obtain ⟨v6, hC6, ho6⟩ := HOK.out rfl
  obtain ⟨ao6, cap6, rfl⟩ := owns_shape ho6
  have HC6 := hide (hC6.later (below_allocG w5 (.cells #[.int .i64 0, .int .i64 0] 29)))
  have HO6 := hide (ho6.alloc (.cells #[.int .i64 0, .int .i64 0] 29))
  clear hx hC6 ho6 HOK HC
  obtain ⟨ep2, cl2, l2, en2⟩ := c2
  unfold cpA at HC6
  go_wp2_with (first
    | (refine wpList_store_int rfl rfl rfl rfl HC6.out rfl Try.sizeIntS ?_; intro w7 hC7 hg7; have HC7 := hide hC7; have HG7 := hide hg7; have HR7 := hide (HR6.out.grown hg7 HN1.out); have HQ7 := hide (HQ6.out.grown hg7 HN2.out); have HO7 := hide (owns_grownO HO6.out hg7 (.inr (owns_off HO6.out HC6.out (by decide)))); clear hC7 hg7)
    | (refine wpList_load_blk HC7.out Try.underlying24 rfl Try.sizeCopy rfl rfl rfl ?_)
    | (refine wpList_store_blk rfl rfl rfl rfl HR7.out rfl Try.sizeCopy rfl ?_; intro w8 hR8 hg8; have HR8 := hide hR8; have HG8 := hide hg8; have HQ8 := hide (HQ7.out.grown hg8 (by simp)); have HO8 := hide (owns_grownO HO7.out hg8 (.inr (owns_off HO7.out HR7.out (by decide)))); clear hR8 hg8)
    | (refine wpList_store_blk rfl rfl rfl rfl HQ8.out rfl Try.sizeFaultS rfl ?_; intro w9 hQ9 hg9; have HQ9 := hide hQ9; have HG9 := hide hg9; have HR9 := hide (HR8.out.grown hg9 (by simp)); have HO9 := hide (owns_grownO HO8.out hg9 (.inr (owns_off HO8.out HQ8.out (by decide)))); clear hQ9 hg9))
  refine bodyPost_ret (v := .tuple #[.agg #[.int .i64 e_, .bool cl2, .slice ao6 l2.length cap6, .int .i64 en2], .agg #[.int .i64 0, .int .i64 0]]) (results2_cells Try.results24 rfl rfl (run_loadVar_blk HR9.out Try.underlying24 rfl Try.sizeCopy) (run_loadVar_blk HQ9.out Try.underlying29 rfl Try.sizeFaultS)) rfl ?_
  rw [HCe.out, HFe.out]
  exact ⟨_, rfl, owns_base0 HO9.out (by have := HS3.out; omega), below_grownO (below_grownO (below_grownO HA6.out HG7.out (fun k hk => by cases hk; omega) HA6.out.size) HG8.out (fun k hk => by cases hk; omega) (Nat.le_trans HA6.out.size HG7.out.size)) HG9.out (fun k hk => by cases hk; omega) (Nat.le_trans HA6.out.size (Nat.le_trans HG7.out.size HG8.out.size))⟩

end Go.Proofs.Ytopnjklloleomaa

/-
  The walks over seal.Close and seal.Append. (Written by sw6.py.)
-/
namespace Go.Proofs.Ytopnjklloleomaa
open Go.RowKit
set_option linter.unusedVariables false

theorem chF_zero {f : Int × Int} (h : Fz f) : chF f (0, 0) = f := by
  unfold chF
  split
  · rfl
  · rename_i q; exact (h (Decidable.not_not.1 q)).symm

theorem three_atS (w : World) (a b c : Array Value) (t1 t2 t3 : TypeId) :
    Blk (((w.alloc (.cells a t1)).alloc (.cells b t2)).alloc (.cells c t3)) w.heap.size t1 a ∧ Blk (((w.alloc (.cells a t1)).alloc (.cells b t2)).alloc (.cells c t3)) (w.heap.size + 1) t2 b ∧ Blk (((w.alloc (.cells a t1)).alloc (.cells b t2)).alloc (.cells c t3)) (w.heap.size + 1 + 1) t3 c ∧ Below w.heap.size w (((w.alloc (.cells a t1)).alloc (.cells b t2)).alloc (.cells c t3)) :=
  ⟨Blk.at0of3 w _ _ _ _, Blk.at1of3 w _ _ _ _, Blk.at2 w _ _ _ _, below_alloc3 w _ _ _⟩

theorem five_atS (w : World) (a b c d f : Array Value) (t1 t2 t3 t4 t5 : TypeId) :
    Blk (((((w.alloc (.cells a t1)).alloc (.cells b t2)).alloc (.cells c t3)).alloc (.cells d t4)).alloc (.cells f t5)) w.heap.size t1 a ∧ Blk (((((w.alloc (.cells a t1)).alloc (.cells b t2)).alloc (.cells c t3)).alloc (.cells d t4)).alloc (.cells f t5)) (w.heap.size + 1) t2 b ∧ Blk (((((w.alloc (.cells a t1)).alloc (.cells b t2)).alloc (.cells c t3)).alloc (.cells d t4)).alloc (.cells f t5)) (w.heap.size + 1 + 1) t3 c ∧ Blk (((((w.alloc (.cells a t1)).alloc (.cells b t2)).alloc (.cells c t3)).alloc (.cells d t4)).alloc (.cells f t5)) (w.heap.size + 1 + 1 + 1) t4 d ∧ Blk (((((w.alloc (.cells a t1)).alloc (.cells b t2)).alloc (.cells c t3)).alloc (.cells d t4)).alloc (.cells f t5)) (w.heap.size + 1 + 1 + 1 + 1) t5 f ∧ Below w.heap.size w (((((w.alloc (.cells a t1)).alloc (.cells b t2)).alloc (.cells c t3)).alloc (.cells d t4)).alloc (.cells f t5)) := by
  obtain ⟨h1, h2, h3, h4, h5⟩ := four_at w a b c d t1 t2 t3 t4
  refine ⟨h1.later (below_allocG _ _), h2.later (below_allocG _ _), h3.later (below_allocG _ _), h4.later (below_allocG _ _), ?_, h5.trans ((below_allocG _ _).mono h5.size)⟩
  have := Blk.new ((((w.alloc (.cells a t1)).alloc (.cells b t2)).alloc (.cells c t3)).alloc (.cells d t4)) t5 f
  simpa using this

theorem kp_of_grown {w w' : World} {B : Nat} {o : Option Nat} (h : w.grownBy w' (some B)) : Kp2 w w' B o := ⟨h.os, h.tape, h.output, h.size, fun k hk h1 _ => h.block k hk (fun q => h1 (by simpa using q))⟩

theorem cloF_eq (c : Cp) (e_ : Int) : chF (epF c e_ (0, 0)) (0, 0) = cloF c e_ := chF_zero epF_z

theorem cloC_eq (c : Cp) (e_ : Int) : chC (epF c e_ (0, 0)) (0, 0) e_ { c with cl := true } = cloC c e_ := by
  unfold chC cloC
  rw [cloF_eq]

set_option maxRecDepth 100000 in
set_option maxHeartbeats 4000000 in
theorem Close_any (c : Cp) (v : Value) (e_ : Int) (w : World) (hv : RdG txE w v c.recs) :
    Calls Try.prog 10 #[cpV c v, .int .i64 e_] w fun e w' => ∃ v', e = .returned (.tuple #[cpV (cloC c e_) v', flt (cloF c e_)]) ∧ w'.ownsRow w.heap.size 9 1 v' (cloC c e_).recs.length (txE.vs (cloC c e_).recs) ∧ Below w.heap.size w w' := by
  have HFE := hide (cloF_eq c e_)
  have HCE := hide (cloC_eq c e_)
  obtain ⟨ao, cap, rfl, _, _⟩ := hv.shape
  obtain ⟨hB, hR, hQ, hA⟩ := three_atS w (cpA c (.slice ao c.recs.length cap)) #[.int .i64 0, .bool false, .slice none 0 0, .int .i64 0] #[.int .i64 0, .int .i64 0] 24 24 29
  have HB0 := hide hB
  have HR0 := hide hR
  have HQ0 := hide hQ
  have HA0 := hide hA
  have HCH := hide (changedClose_any c { c with cl := true } _ e_ (0, 0) (0, 0) (fun _ => rfl) (fun _ => rfl) _ (hv.below hA) (fun _ w3 v3 base h3 ho3 hb1 hb2 hb3 => (Close1_any _ c v3 w3 h3).mono (fun e w4 ⟨he, hC4, hg4⟩ => ⟨he, fun _ => ⟨v3, hC4, owns_grownO ho3 hg4 (.inr (owns_off ho3 h3 (by decide)))⟩, kp_of_grown hg4⟩)))
  rw [cloF_eq, cloC_eq] at HCH
  have HN := hide (show some (w.heap.size + 1 + 1) ≠ some (w.heap.size + 1) from fun q => by simp at q)
  have hsz := hA.size
  generalize hcl : cloC c e_ = RC at *
  generalize hcf : cloF c e_ = RF at *
  obtain ⟨rep, rcl, rl, ren⟩ := RC
  obtain ⟨fx, fy⟩ := RF
  have HCE := hide hcl
  have HFE := hide hcf
  clear hv hB hR hQ hA hcl hcf
  unfold cpA at HB0 HR0 HQ0 HA0 HCH hsz
  unfold cpV flt at HCH
  unfold cpV flt
  go_enter Try.func10, Try.ntmps10
  go_wp2_with (refine wpList_load_blk HB0.out Try.underlying24 rfl Try.sizeCopy rfl rfl rfl ?_)
  refine HCH.out.mono ?_
  rintro e w1 ⟨v1, rfl, ho1, hb1⟩
  obtain ⟨ao1, cap1, rfl⟩ := owns_shape ho1
  have HR1 := hide (HR0.out.later hb1)
  have HQ1 := hide (HQ0.out.later hb1)
  have HO1 := hide (owns_base0 ho1 hsz)
  have HB1 := hide (HA0.out.trans (hb1.mono hsz))
  clear ho1 hb1 HCH HB0 HR0 HQ0
  go_wp2_with (first
    | (refine wpList_store_blk rfl rfl rfl rfl HR1.out rfl Try.sizeCopy rfl ?_; intro w2 hR2 hg2; have HR2 := hide hR2; have HG2 := hide hg2; have HQ2 := hide (HQ1.out.grown hg2 HN.out); have HO2 := hide (owns_grownO HO1.out hg2 (.inr (owns_off HO1.out HR1.out (by decide)))); clear hR2 hg2)
    | (refine wpList_store_blk rfl rfl rfl rfl HQ2.out rfl Try.sizeFaultS rfl ?_; intro w3 hQ3 hg3; have HQ3 := hide hQ3; have HG3 := hide hg3; have HR3 := hide (HR2.out.grown hg3 HN.out.symm); have HO3 := hide (owns_grownO HO2.out hg3 (.inr (owns_off HO2.out HQ2.out (by decide)))); clear hQ3 hg3))
  refine bodyPost_ret (v := .tuple #[.agg #[.int .i64 rep, .bool rcl, .slice ao1 rl.length cap1, .int .i64 ren], .agg #[.int .i64 fx, .int .i64 fy]]) (results2_cells Try.results10 rfl rfl (run_loadVar_blk HR3.out Try.underlying24 rfl Try.sizeCopy) (run_loadVar_blk HQ3.out Try.underlying29 rfl Try.sizeFaultS)) rfl ?_
  exact ⟨_, rfl, HO3.out, below_grownO (below_grownO HB1.out HG2.out (fun k hk => by cases hk; omega) HB1.out.size) HG3.out (fun k hk => by cases hk; omega) (Nat.le_trans HB1.out.size HG2.out.size)⟩

theorem appF_eq (c : Cp) (e_ at_ : Int) (r : ByteArray) : chF (epF c e_ (0, 0)) (apF c at_ r) = appF c e_ at_ r := rfl

theorem appC_eq (c : Cp) (e_ at_ : Int) (r : ByteArray) : chC (epF c e_ (0, 0)) (apF c at_ r) e_ ⟨c.ep, c.cl, apR c at_ r, c.en⟩ = appC c e_ at_ r := rfl

set_option maxRecDepth 100000 in
set_option maxHeartbeats 4000000 in
theorem Append_any (c : Cp) (v : Value) (e_ at_ : Int) (r : ByteArray) (w : World) (hv : RdG txE w v c.recs) :
    Calls Try.prog 9 #[cpV c v, .int .i64 e_, .int .i64 at_, .string r] w fun e w' => ∃ v', e = .returned (.tuple #[cpV (appC c e_ at_ r) v', flt (appF c e_ at_ r)]) ∧ w'.ownsRow w.heap.size 9 1 v' (appC c e_ at_ r).recs.length (txE.vs (appC c e_ at_ r).recs) ∧ Below w.heap.size w w' := by
  obtain ⟨ao, cap, rfl, _, _⟩ := hv.shape
  obtain ⟨hB, hX, hY, hR, hQ, hA⟩ := five_atS w (cpA c (.slice ao c.recs.length cap)) #[.int .i64 at_] #[.string r] #[.int .i64 0, .bool false, .slice none 0 0, .int .i64 0] #[.int .i64 0, .int .i64 0] 24 3 9 24 29
  have HB0 := hide hB
  have HR0 := hide hR
  have HQ0 := hide hQ
  have HA0 := hide hA
  have HCH := hide (changedAppend_any (w.heap.size + 1) (w.heap.size + 1 + 1) c ⟨c.ep, c.cl, apR c at_ r, c.en⟩ _ e_ (0, 0) (apF c at_ r) (fun _ => rfl) apF_z _ (hv.below hA) (fun h0 w3 v3 base h3 ho3 hb1 hb2 hb3 => Append1_any _ _ _ base c v3 at_ r w3 h3 (hX.later hb3) (hY.later hb3) ho3 (epF_len h0) hb2 (fun q => by have := (ho3.lt _ q).1; simp at hb1; omega)))
  rw [appF_eq, appC_eq] at HCH
  have HN := hide (show some (w.heap.size + 1 + 1 + 1 + 1) ≠ some (w.heap.size + 1 + 1 + 1) from fun q => by simp at q)
  have hsz := hA.size
  generalize hcl : appC c e_ at_ r = RC at *
  generalize hcf : appF c e_ at_ r = RF at *
  obtain ⟨rep, rcl, rl, ren⟩ := RC
  obtain ⟨fx, fy⟩ := RF
  clear hv hB hX hY hR hQ hA hcl hcf
  unfold cpA at HB0 HR0 HQ0 HA0 HCH hsz
  unfold cpV flt at HCH
  unfold cpV flt
  go_enter Try.func9, Try.ntmps9
  go_wp2_with (refine wpList_load_blk HB0.out Try.underlying24 rfl Try.sizeCopy rfl rfl rfl ?_)
  refine HCH.out.mono ?_
  rintro e w1 ⟨v1, rfl, ho1, hb1⟩
  obtain ⟨ao1, cap1, rfl⟩ := owns_shape ho1
  have HR1 := hide (HR0.out.later hb1)
  have HQ1 := hide (HQ0.out.later hb1)
  have HO1 := hide (owns_base0 ho1 hsz)
  have HB1 := hide (HA0.out.trans (hb1.mono hsz))
  clear ho1 hb1 HCH HB0 HR0 HQ0
  go_wp2_with (first
    | (refine wpList_store_blk rfl rfl rfl rfl HR1.out rfl Try.sizeCopy rfl ?_; intro w2 hR2 hg2; have HR2 := hide hR2; have HG2 := hide hg2; have HQ2 := hide (HQ1.out.grown hg2 HN.out); have HO2 := hide (owns_grownO HO1.out hg2 (.inr (owns_off HO1.out HR1.out (by decide)))); clear hR2 hg2)
    | (refine wpList_store_blk rfl rfl rfl rfl HQ2.out rfl Try.sizeFaultS rfl ?_; intro w3 hQ3 hg3; have HQ3 := hide hQ3; have HG3 := hide hg3; have HR3 := hide (HR2.out.grown hg3 HN.out.symm); have HO3 := hide (owns_grownO HO2.out hg3 (.inr (owns_off HO2.out HQ2.out (by decide)))); clear hQ3 hg3))
  refine bodyPost_ret (v := .tuple #[.agg #[.int .i64 rep, .bool rcl, .slice ao1 rl.length cap1, .int .i64 ren], .agg #[.int .i64 fx, .int .i64 fy]]) (results2_cells Try.results9 rfl rfl (run_loadVar_blk HR3.out Try.underlying24 rfl Try.sizeCopy) (run_loadVar_blk HQ3.out Try.underlying29 rfl Try.sizeFaultS)) rfl ?_
  exact ⟨_, rfl, HO3.out, below_grownO (below_grownO HB1.out HG2.out (fun k hk => by cases hk; omega) HB1.out.size) HG3.out (fun k hk => by cases hk; omega) (Nat.le_trans HB1.out.size HG2.out.size)⟩

end Go.Proofs.Ytopnjklloleomaa
