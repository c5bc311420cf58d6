/-
  The walks over package entry's faults, Older, Agree.
-/
import Derived.Test.YtpojgcjigjenoagEntW1
namespace Go.Proofs.Ytpojgcjigjenoag
open Go.RowKit
set_option linter.unusedVariables false

set_option maxRecDepth 100000 in
set_option maxHeartbeats 1000000 in
theorem lastTerm_any (v : Value) (l : List Et) (w : World) (hv : RdG eE w v l) :
    Calls Try.prog 64 #[v] w fun e w' => e = .returned (.int .i64 (lastT l)) ∧ w' = w := by
  obtain ⟨ao, cap, rfl, hc1, hc2⟩ := hv.shape
  unfold maxLen at hc2
  by_cases h0 : l.length = 0
  · obtain rfl : l = [] := List.eq_nil_of_length_eq_zero h0
    clear hv h0
    go_enter Try.func64, Try.ntmps64
    go_wp2_with fail
    go_ret
    exact ⟨rfl, rfl⟩
  · obtain ⟨k, hk⟩ : ∃ k, k + 1 = l.length := ⟨l.length - 1, by omega⟩
    obtain ⟨x, hx⟩ : ∃ x, l[k]? = some x := ⟨_, List.getElem?_eq_getElem (by omega)⟩
    have HE := hide (lastT_at hx hk)
    obtain ⟨b, off, rfl, hb, hat⟩ := hv.here hx
    obtain ⟨q0, q1⟩ := hat.ent
    have h1 : IntKind.i64.wrap ((l.length : Int) - 1) = (k : Int) := by rw [IntKind.wrap_i64]; omega
    have h2 : (0 : Int) ≤ (k : Int) := by omega
    have h3 : (k : Int) < (l.length : Int) := by omega
    have h4 : ((l.length : Int) == 0) = false := beq_eq_false_iff_ne.2 (by omega)
    clear hv hat hx hk
    go_enter Try.func64, Try.ntmps64
    go_wp2_with fail
    go_ret
    exact ⟨by rw [HE.out]; rfl, rfl⟩

set_option maxRecDepth 100000 in
set_option maxHeartbeats 1000000 in
theorem has_any (v : Value) (l : List Et) (k : Nat) (A t : Int) (w : World) (hv : RdG eE w v l) (hA : A = k) (hk : k ≤ 2000000000) :
    Calls Try.prog 66 #[v, .int .i64 A, .int .i64 t] w fun e w' => e = .returned (.bool (hasE l k t)) ∧ w' = w := by
  obtain ⟨ao, cap, rfl, hc1, hc2⟩ := hv.shape
  unfold maxLen at hc2
  subst hA
  cases k with
  | zero =>
    have HE : Hid (hasE l 0 t = decide (t = 0)) := hide rfl
    clear hv
    show Calls Try.prog 66 #[.slice ao l.length cap, .int .i64 0, .int .i64 t] w _
    go_enter Try.func66, Try.ntmps66
    go_wp2_with fail
    go_ret
    exact ⟨by rw [HE.out]; congr 2, rfl⟩
  | succ k =>
    have h1 : IntKind.i64.wrap (((k + 1 : Nat) : Int) - 1) = (k : Int) := by rw [IntKind.wrap_i64]; omega
    obtain ⟨A, hA⟩ : ∃ A : Int, A = ((k + 1 : Nat) : Int) := ⟨_, rfl⟩
    rw [← hA] at h1 ⊢
    have h0 : (A == 0) = false := by simp; omega
    by_cases hlt : k < l.length
    · obtain ⟨x, hx⟩ : ∃ x, l[k]? = some x := ⟨_, List.getElem?_eq_getElem (by omega)⟩
      have HE := hide (hasE_some (t := t) hx)
      obtain ⟨b, off, rfl, hb, hat⟩ := hv.here hx
      obtain ⟨q0, q1⟩ := hat.ent
      have h2 : (0 : Int) ≤ (k : Int) := by omega
      have h3 : (k : Int) < (l.length : Int) := by omega
      have h4 : decide (A ≤ (l.length : Int)) = true := decide_eq_true (by omega)
      clear hv hat hx hA
      go_enter Try.func66, Try.ntmps66
      go_wp2_with fail
      go_ret
      exact ⟨by rw [HE.out]; congr 2, rfl⟩
    · have HE := hide (hasE_none (l := l) (k := k) (t := t) (by omega))
      have h4 : decide (A ≤ (l.length : Int)) = false := decide_eq_false (by omega)
      clear hv hA
      go_enter Try.func66, Try.ntmps66
      go_wp2_with fail
      go_ret
      exact ⟨by rw [HE.out]; rfl, rfl⟩

set_option maxRecDepth 100000 in
set_option maxHeartbeats 1000000 in
theorem olderFault_any (v : Value) (l : List Et) (n t : Int) (w : World) (hv : RdG eE w v l) :
    Calls Try.prog 63 #[v, .int .i64 n, .int .i64 t] w fun e w' => e = .returned (flt (oldF l n t)) ∧ Below w.heap.size w w' := by
  have HF : Hid (oldF l n t = if (chkE l).1 ≠ 0 then chkE l else plF n t) := hide rfl
  have HI := hide (ECheck_any v l _ (hv.alloc (.cells #[.int .i64 0, .int .i64 0] 29)))
  obtain ⟨ao, cap, rfl, _, _⟩ := hv.shape
  have HR0 := hide (Blk.new w 29 #[.int .i64 0, .int .i64 0])
  have HB0 := hide (below_allocG w (.cells #[.int .i64 0, .int .i64 0] 29))
  have HZ := hide (chkE_z l)
  generalize hK : chkE l = K at *
  obtain ⟨x, y⟩ := K
  generalize hP : plF n t = P at *
  have HP := hide hP
  obtain ⟨p, q⟩ := P
  clear hv hK hP
  go_enter Try.func63, Try.ntmps63
  go_wp2_with fail
  refine HI.out.mono ?_
  rintro e w1 ⟨rfl, hb1⟩
  have HBW := hide ((HB0.out.trans (hb1.mono HB0.out.size)).trans ((below_allocG w1 (.cells #[.int .i64 x, .int .i64 y] 29)).mono (HB0.out.trans (hb1.mono HB0.out.size)).size))
  have HR := hide ((HR0.out.later hb1).later (below_allocG w1 (.cells #[.int .i64 x, .int .i64 y] 29)))
  have hrl := (HR0.out.later hb1).lt
  clear hb1 HI HR0 HB0
  unfold flt
  by_cases hx : x ≠ 0
  · have HE := hide (HF.out.trans (if_pos hx))
    have hq : (x == 0) = false := beq_eq_false_iff_ne.2 hx
    have hq2 : (x != 0) = true := by simp [hx]
    clear hx
    go_wp2_with (refine wpList_store_blk rfl rfl rfl rfl HR.out rfl Try.sizeFaultE rfl ?_; intro w8 hR8 hg8; have HR8 := hide hR8; have HG8 := hide hg8; clear hR8 hg8)
    refine bodyPost_ret (v := .agg #[.int .i64 (x), .int .i64 (y)]) (results1_cell Try.results63 rfl (run_loadVar_blk HR8.out Try.underlying29 rfl Try.sizeFaultE)) rfl ?_
    exact ⟨by rw [HE.out] <;> rfl, below_grownO HBW.out HG8.out (fun k hk => by cases hk; omega) HBW.out.size⟩
  · have HE := hide (HF.out.trans (if_neg hx))
    obtain rfl : x = 0 := Decidable.not_not.1 hx
    obtain rfl : y = 0 := by have := HZ.out rfl; simpa using this
    clear hx
    go_wp2_with (first
      | (go_at_call 86; refine (numbersFault_any n t _).mono ?_; rw [HP.out]; rintro e w2 ⟨rfl, hb2⟩; have HR2 := hide (HR.out.later hb2); have HB2 := hide (HBW.out.trans (hb2.mono HBW.out.size)); clear hb2; unfold flt)
      | (refine wpList_store_blk rfl rfl rfl rfl HR2.out rfl Try.sizeFaultE rfl ?_; intro w8 hR8 hg8; have HR8 := hide hR8; have HG8 := hide hg8; clear hR8 hg8))
    refine bodyPost_ret (v := .agg #[.int .i64 (p), .int .i64 (q)]) (results1_cell Try.results63 rfl (run_loadVar_blk HR8.out Try.underlying29 rfl Try.sizeFaultE)) rfl ?_
    exact ⟨by rw [HE.out] <;> rfl, below_grownO HB2.out HG8.out (fun k hk => by cases hk; omega) HB2.out.size⟩

set_option maxRecDepth 100000 in
set_option maxHeartbeats 1000000 in
theorem outFault_any (v : Value) (l : List Et) (w : World) (hv : RdG eE w v l) :
    Calls Try.prog 69 #[v] w fun e w' => e = .returned (flt (outF l)) ∧ Below w.heap.size w w' := by
  have HF : Hid (outF l = if (chkE l).1 = 0 ∨ (chkE l).1 = 2 then chkE l else (11, -1)) := hide rfl
  have HI := hide (ECheck_any v l _ (hv.alloc (.cells #[.int .i64 0, .int .i64 0] 29)))
  obtain ⟨ao, cap, rfl, _, _⟩ := hv.shape
  have HR0 := hide (Blk.new w 29 #[.int .i64 0, .int .i64 0])
  have HB0 := hide (below_allocG w (.cells #[.int .i64 0, .int .i64 0] 29))
  have HZ := hide (chkE_z l)
  generalize hK : chkE l = K at *
  obtain ⟨x, y⟩ := K
  clear hv hK
  go_enter Try.func69, Try.ntmps69
  go_wp2_with fail
  refine HI.out.mono ?_
  rintro e w1 ⟨rfl, hb1⟩
  have HBW := hide ((HB0.out.trans (hb1.mono HB0.out.size)).trans ((below_allocG w1 (.cells #[.int .i64 x, .int .i64 y] 29)).mono (HB0.out.trans (hb1.mono HB0.out.size)).size))
  have HR := hide ((HR0.out.later hb1).later (below_allocG w1 (.cells #[.int .i64 x, .int .i64 y] 29)))
  have hrl := (HR0.out.later hb1).lt
  clear hb1 HI HR0 HB0
  unfold flt
  by_cases hx : x ≠ 0
  · have hq : (x == 0) = false := beq_eq_false_iff_ne.2 hx
    have hq2 : (x != 0) = true := by simp [hx]
    by_cases h2 : x = 2
    · have HE := hide (HF.out.trans (if_pos (.inr h2)))
      subst h2
      clear hx hq hq2
      go_wp2_with (refine wpList_store_blk rfl rfl rfl rfl HR.out rfl Try.sizeFaultE rfl ?_; intro w8 hR8 hg8; have HR8 := hide hR8; have HG8 := hide hg8; clear hR8 hg8)
      refine bodyPost_ret (v := .agg #[.int .i64 (2), .int .i64 (y)]) (results1_cell Try.results69 rfl (run_loadVar_blk HR8.out Try.underlying29 rfl Try.sizeFaultE)) rfl ?_
      exact ⟨by rw [HE.out] <;> rfl, below_grownO HBW.out HG8.out (fun k hk => by cases hk; omega) HBW.out.size⟩
    · have HE := hide (HF.out.trans (if_neg (show ¬ (x = 0 ∨ x = 2) by omega)))
      have hq3 : (x == 2) = false := beq_eq_false_iff_ne.2 h2
      clear hx h2
      go_wp2_with (refine wpList_store_blk rfl rfl rfl rfl HR.out rfl Try.sizeFaultE rfl ?_; intro w8 hR8 hg8; have HR8 := hide hR8; have HG8 := hide hg8; clear hR8 hg8)
      refine bodyPost_ret (v := .agg #[.int .i64 (11), .int .i64 (-1)]) (results1_cell Try.results69 rfl (run_loadVar_blk HR8.out Try.underlying29 rfl Try.sizeFaultE)) rfl ?_
      exact ⟨by rw [HE.out] <;> rfl, below_grownO HBW.out HG8.out (fun k hk => by cases hk; omega) HBW.out.size⟩
  · obtain rfl : x = 0 := Decidable.not_not.1 hx
    have HE := hide (HF.out.trans (if_pos (.inl rfl)))
    obtain rfl : y = 0 := by have := HZ.out rfl; simpa using this
    clear hx
    go_wp2_with (refine wpList_store_blk rfl rfl rfl rfl HR.out rfl Try.sizeFaultE rfl ?_; intro w8 hR8 hg8; have HR8 := hide hR8; have HG8 := hide hg8; clear hR8 hg8)
    refine bodyPost_ret (v := .agg #[.int .i64 (0), .int .i64 (0)]) (results1_cell Try.results69 rfl (run_loadVar_blk HR8.out Try.underlying29 rfl Try.sizeFaultE)) rfl ?_
    exact ⟨by rw [HE.out] <;> rfl, below_grownO HBW.out HG8.out (fun k hk => by cases hk; omega) HBW.out.size⟩

set_option maxRecDepth 100000 in
set_option maxHeartbeats 1000000 in
theorem bothFault_any (v u : Value) (a b : List Et) (w : World) (hv : RdG eE w v a) (hu : RdG eE w u b) :
    Calls Try.prog 70 #[v, u] w fun e w' => e = .returned (flt (bothF a b)) ∧ Below w.heap.size w w' := by
  have HF : Hid (bothF a b = if (chkE a).1 ≠ 0 then chkE a else secF (chkE b)) := hide rfl
  have HI := hide (ECheck_any v a _ (hv.alloc (.cells #[.int .i64 0, .int .i64 0] 29)))
  have HU := hide hu
  obtain ⟨ao, cap, rfl, _, _⟩ := hv.shape
  obtain ⟨bo, cbp, rfl, _, _⟩ := hu.shape
  have HR0 := hide (Blk.new w 29 #[.int .i64 0, .int .i64 0])
  have HB0 := hide (below_allocG w (.cells #[.int .i64 0, .int .i64 0] 29))
  have HZ := hide (chkE_z a)
  have HZ2 := hide (chkE_z b)
  have HS : Hid (secF (chkE b) = if (chkE b).1 ≠ 0 then ((chkE b).1, (chkE b).2 - 1000) else (0, 0)) := hide rfl
  have hbd := chkE_at (l := b)
  have HI2 := hide (fun W (h : RdG eE W (.slice bo b.length cbp) b) => ECheck_any _ b W h)
  generalize hK : chkE a = K at *
  obtain ⟨x, y⟩ := K
  generalize hP : chkE b = P at *
  obtain ⟨p, q⟩ := P
  clear hv hK hP hu
  simp only at HS hbd
  have hw1 : IntKind.i64.wrap (q - 1000) = q - 1000 := by rw [IntKind.wrap_i64]; omega
  clear hbd
  go_enter Try.func70, Try.ntmps70
  go_wp2_with fail
  refine HI.out.mono ?_
  rintro e w1 ⟨rfl, hb1⟩
  have HBW := hide ((HB0.out.trans (hb1.mono HB0.out.size)).trans ((below_allocG w1 (.cells #[.int .i64 x, .int .i64 y] 29)).mono (HB0.out.trans (hb1.mono HB0.out.size)).size))
  have HR := hide ((HR0.out.later hb1).later (below_allocG w1 (.cells #[.int .i64 x, .int .i64 y] 29)))
  have hrl := (HR0.out.later hb1).lt
  clear hb1 HI HR0 HB0
  unfold flt
  by_cases hx : x ≠ 0
  · have HE := hide (HF.out.trans (if_pos hx))
    have hq : (x == 0) = false := beq_eq_false_iff_ne.2 hx
    have hq2 : (x != 0) = true := by simp [hx]
    clear hx
    go_wp2_with (refine wpList_store_blk rfl rfl rfl rfl HR.out rfl Try.sizeFaultE rfl ?_; intro w8 hR8 hg8; have HR8 := hide hR8; have HG8 := hide hg8; clear hR8 hg8)
    refine bodyPost_ret (v := .agg #[.int .i64 (x), .int .i64 (y)]) (results1_cell Try.results70 rfl (run_loadVar_blk HR8.out Try.underlying29 rfl Try.sizeFaultE)) rfl ?_
    exact ⟨by rw [HE.out] <;> rfl, below_grownO HBW.out HG8.out (fun k hk => by cases hk; omega) HBW.out.size⟩
  · have HE := hide (HF.out.trans (if_neg hx))
    obtain rfl : x = 0 := Decidable.not_not.1 hx
    obtain rfl : y = 0 := by have := HZ.out rfl; simpa using this
    clear hx
    go_wp2_with fail
    refine (HI2.out _ (HU.out.below HBW.out)).mono ?_
    rintro e w2 ⟨rfl, hb2⟩
    have HB2 := hide ((HBW.out.trans (hb2.mono HBW.out.size)).trans ((below_allocG w2 (.cells #[.int .i64 p, .int .i64 q] 29)).mono (HBW.out.trans (hb2.mono HBW.out.size)).size))
    have HR2 := hide ((HR.out.later hb2).later (below_allocG w2 (.cells #[.int .i64 p, .int .i64 q] 29)))
    have HN2 := hide (Blk.new w2 29 #[.int .i64 p, .int .i64 q])
    have hrl2 := (HR.out.later hb2).lt
    have hw2 : w.heap.size < w2.heap.size := hrl2
    clear hb2
    unfold flt
    by_cases hp : p ≠ 0
    · have HE2 := hide (HE.out.trans (HS.out.trans (if_pos hp)))
      have hq : (p == 0) = false := beq_eq_false_iff_ne.2 hp
      have hq2 : (p != 0) = true := by simp [hp]
      clear hp
      go_wp2_with (first
        | (refine wpList_store_int (k := 1) rfl rfl rfl rfl HN2.out rfl Try.sizeIntE ?_; intro w7 hN7 hg7; have HN7 := hide hN7; have HR7 := hide (HR2.out.grown hg7 (fun z => by simp at z; omega)); have HB7 := hide (below_grownO HB2.out hg7 (fun k hk => by cases hk; omega) HB2.out.size); clear hN7 hg7)
        | (refine wpList_load_blk HN7.out Try.underlying29 rfl Try.sizeFaultE rfl rfl rfl ?_)
        | (refine wpList_store_blk rfl rfl rfl rfl HR7.out rfl Try.sizeFaultE rfl ?_; intro w8 hR8 hg8; have HR8 := hide hR8; have HG8 := hide hg8; clear hR8 hg8))
      refine bodyPost_ret (v := .agg #[.int .i64 (p), .int .i64 (q - 1000)]) (results1_cell Try.results70 rfl (run_loadVar_blk HR8.out Try.underlying29 rfl Try.sizeFaultE)) rfl ?_
      exact ⟨by rw [HE2.out] <;> rfl, below_grownO HB7.out HG8.out (fun k hk => by cases hk; omega) HB7.out.size⟩
    · have HE2 := hide (HE.out.trans (HS.out.trans (if_neg hp)))
      obtain rfl : p = 0 := Decidable.not_not.1 hp
      obtain rfl : q = 0 := by have := HZ2.out rfl; simpa using this
      clear hp
      go_wp2_with (refine wpList_store_blk rfl rfl rfl rfl HR2.out rfl Try.sizeFaultE rfl ?_; intro w8 hR8 hg8; have HR8 := hide hR8; have HG8 := hide hg8; clear hR8 hg8)
      refine bodyPost_ret (v := .agg #[.int .i64 (0), .int .i64 (0)]) (results1_cell Try.results70 rfl (run_loadVar_blk HR8.out Try.underlying29 rfl Try.sizeFaultE)) rfl ?_
      exact ⟨by rw [HE2.out] <;> rfl, below_grownO HB2.out HG8.out (fun k hk => by cases hk; omega) HB2.out.size⟩

set_option maxRecDepth 100000 in
set_option maxHeartbeats 1000000 in
theorem putFault_any (v u : Value) (l m : List Et) (n t : Int) (w : World) (hv : RdG eE w v l) (hu : RdG eE w u m) :
    Calls Try.prog 65 #[v, .int .i64 n, .int .i64 t, u] w fun e w' => e = .returned (flt (ptF l n t m)) ∧ Below w.heap.size w w' := by
  have HF : Hid (ptF l n t m = if (bothF l m).1 ≠ 0 then bothF l m else plF n t) := hide rfl
  have HI := hide (bothFault_any v u l m _ (hv.alloc (.cells #[.int .i64 0, .int .i64 0] 29)) (hu.alloc _))
  obtain ⟨ao, cap, rfl, _, _⟩ := hv.shape
  obtain ⟨bo, cbp, rfl, _, _⟩ := hu.shape
  have HR0 := hide (Blk.new w 29 #[.int .i64 0, .int .i64 0])
  have HB0 := hide (below_allocG w (.cells #[.int .i64 0, .int .i64 0] 29))
  have HZ := hide (bothF_z l m)
  generalize hK : bothF l m = K at *
  obtain ⟨x, y⟩ := K
  generalize hP : plF n t = P at *
  have HP := hide hP
  obtain ⟨p, q⟩ := P
  clear hv hK hP hu
  go_enter Try.func65, Try.ntmps65
  go_wp2_with fail
  refine HI.out.mono ?_
  rintro e w1 ⟨rfl, hb1⟩
  have HBW := hide ((HB0.out.trans (hb1.mono HB0.out.size)).trans ((below_allocG w1 (.cells #[.int .i64 x, .int .i64 y] 29)).mono (HB0.out.trans (hb1.mono HB0.out.size)).size))
  have HR := hide ((HR0.out.later hb1).later (below_allocG w1 (.cells #[.int .i64 x, .int .i64 y] 29)))
  have hrl := (HR0.out.later hb1).lt
  clear hb1 HI HR0 HB0
  unfold flt
  by_cases hx : x ≠ 0
  · have HE := hide (HF.out.trans (if_pos hx))
    have hq : (x == 0) = false := beq_eq_false_iff_ne.2 hx
    have hq2 : (x != 0) = true := by simp [hx]
    clear hx
    go_wp2_with (refine wpList_store_blk rfl rfl rfl rfl HR.out rfl Try.sizeFaultE rfl ?_; intro w8 hR8 hg8; have HR8 := hide hR8; have HG8 := hide hg8; clear hR8 hg8)
    refine bodyPost_ret (v := .agg #[.int .i64 (x), .int .i64 (y)]) (results1_cell Try.results65 rfl (run_loadVar_blk HR8.out Try.underlying29 rfl Try.sizeFaultE)) rfl ?_
    exact ⟨by rw [HE.out] <;> rfl, below_grownO HBW.out HG8.out (fun k hk => by cases hk; omega) HBW.out.size⟩
  · have HE := hide (HF.out.trans (if_neg hx))
    obtain rfl : x = 0 := Decidable.not_not.1 hx
    obtain rfl : y = 0 := by have := HZ.out rfl; simpa using this
    clear hx
    go_wp2_with (first
      | (go_at_call 86; refine (numbersFault_any n t _).mono ?_; rw [HP.out]; rintro e w2 ⟨rfl, hb2⟩; have HR2 := hide (HR.out.later hb2); have HB2 := hide (HBW.out.trans (hb2.mono HBW.out.size)); clear hb2; unfold flt)
      | (refine wpList_store_blk rfl rfl rfl rfl HR2.out rfl Try.sizeFaultE rfl ?_; intro w8 hR8 hg8; have HR8 := hide hR8; have HG8 := hide hg8; clear hR8 hg8))
    refine bodyPost_ret (v := .agg #[.int .i64 (p), .int .i64 (q)]) (results1_cell Try.results65 rfl (run_loadVar_blk HR8.out Try.underlying29 rfl Try.sizeFaultE)) rfl ?_
    exact ⟨by rw [HE.out] <;> rfl, below_grownO HB2.out HG8.out (fun k hk => by cases hk; omega) HB2.out.size⟩

end Go.Proofs.Ytpojgcjigjenoag
