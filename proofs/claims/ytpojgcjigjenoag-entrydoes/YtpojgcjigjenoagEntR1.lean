/-
  The walks over the document's answers of logs: LogFault, LogsFault, PlaceFault, SameLog, CopyLog, LastTerm, OlderLog. (Written by er1.py.)
-/
import Derived.Test.YtpojgcjigjenoagEntW5
namespace Go.Proofs.Ytpojgcjigjenoag
open Go.RowKit
set_option linter.unusedVariables false

/-- The Term ahead of a place. -/
def Prev (l : List Et) (j : Nat) (a : Int) : Prop := (j = 0 ∧ a = 0) ∨ ∃ k p, j = k + 1 ∧ l[k]? = some p ∧ a = p.term

set_option maxRecDepth 100000 in
set_option maxHeartbeats 2000000 in
theorem LogFault_any (v : Value) (l : List Et) (w : World) (hv : RdG eE w v l) :
    Calls Try.prog 38 #[v] w fun e w' => e = .returned (flt (chkE l)) ∧ Below w.heap.size w w' := by
  have HF : Hid (chkE l = if 100 < l.length then (2, -1) else chkGo 0 0 l) := hide rfl
  have HV := hide hv
  obtain ⟨ao, cap, rfl, hc1, hc2⟩ := hv.shape
  unfold maxLen at hc2
  have HR0 := hide (Blk.new w 29 #[.int .i64 0, .int .i64 0])
  have HB0 := hide (below_allocG w (.cells #[.int .i64 0, .int .i64 0] 29))
  clear hv
  by_cases h1 : 100 < l.length
  · have HE := hide (HF.out.trans (if_pos h1))
    go_enter Try.func38, Try.ntmps38
    go_wp2_with (first
      | (go_at_call 28; refine (lF_any _ _ _).mono ?_; rintro e w2 ⟨rfl, hb2⟩; have HR2 := hide (HR0.out.later hb2); have HB2 := hide (HB0.out.trans (hb2.mono HB0.out.size)); clear hb2; unfold flt)
      | (refine wpList_store_blk rfl rfl rfl rfl HR2.out rfl Try.sizeFaultE rfl ?_; intro w8 hR8 hg8; have HR8 := hide hR8; have HG8 := hide hg8; clear hR8 hg8))
    refine bodyPost_ret (v := .agg #[.int .i64 (2), .int .i64 (-1)]) (results1_cell Try.results38 rfl (run_loadVar_blk HR8.out Try.underlying29 rfl Try.sizeFaultE)) rfl ?_
    exact ⟨by rw [HE.out] <;> rfl, below_grownO HB2.out HG8.out (fun k hk => by cases hk; omega) HB2.out.size⟩
  have HFa := hide (HF.out.trans (if_neg h1))
  clear HF
  go_enter Try.func38, Try.ntmps38
  go_wp2_with fail
  go_loopw [3] (fun iv wr => ∃ (j : Nat) (a : Int), j ≤ l.length ∧ iv = .int .i64 j ∧ Prev l j a ∧ chkGo a j (l.drop j) = chkGo 0 0 l ∧ Below (w.heap.size + 1) (w.alloc (.cells #[.int .i64 0, .int .i64 0] 29)) wr)
    (fun iv _ => l.length - (intOf iv).toNat)
  case atStart => exact ⟨0, 0, by omega, rfl, .inl ⟨rfl, rfl⟩, rfl, Below.refl _ _⟩
  case round =>
    obtain ⟨j, a, hj, rfl, hprev, hgo, hbr⟩ := hrel
    have HPR := hide hprev
    have HGO := hide hgo
    have hbw := HB0.out.trans (hbr.mono (by omega))
    have HBW := hide hbw
    have HBR := hide hbr
    have HRr := hide (HR0.out.below hbr (by omega))
    have hrl := HRr.out.lt
    clear hgo hprev
    by_cases hlt : j < l.length
    · obtain ⟨c, hc⟩ : ∃ c, l[j]? = some c := ⟨_, List.getElem?_eq_getElem hlt⟩
      rw [drop_consE hc, chkGo] at HGO
      have HC := hide hc
      obtain ⟨b, off, rfl, hb, hat⟩ := HV.out.here hc
      obtain ⟨q0, q1⟩ := hat.ent
      have r0 := cell_belowG q0 hbw
      have r1 := cell_belowG q1 hbw
      have hb' : b < wr.heap.size := Nat.lt_of_lt_of_le hb hbw.size
      have hk1 : (0 : Int) ≤ (j : Int) := by omega
      have hk2 : (j : Int) < (l.length : Int) := by omega
      obtain ⟨t, x⟩ := c
      simp only at r0 r1 HGO
      have HCB : Hid (codeB a ⟨t, x⟩ = if t = 0 ∨ numL t = false then 3 else if t < a then 11 else if 200 < x.size then 8 else 0) := hide rfl
      generalize codeB a ⟨t, x⟩ = K at *
      clear q0 q1 hat hc hbw hbr
      by_cases h1 : t < 1
      · have hK : K = 3 := HCB.out.trans (if_pos (by by_cases h0 : t = 0; exact .inl h0; right; rw [Bool.eq_false_iff]; intro q; have := numL_iff.1 q; omega))
        have HE := hide (show chkE l = (3, (j : Int)) by rw [HFa.out, ← HGO.out, hK]; rfl)
        have hd : decide (t < 1) = true := decide_eq_true h1
        clear hK
        go_wp2_with (first
          | (go_at_call 28; refine (lF_any _ _ _).mono ?_; rintro e w2 ⟨rfl, hb2⟩; have HR2 := hide (HRr.out.later hb2); have HB2 := hide (HBW.out.trans (hb2.mono HBW.out.size)); clear hb2; unfold flt)
          | (refine wpList_store_blk rfl rfl rfl rfl HR2.out rfl Try.sizeFaultE rfl ?_; intro w8 hR8 hg8; have HR8 := hide hR8; have HG8 := hide hg8; clear hR8 hg8))
        refine bodyPost_ret (v := .agg #[.int .i64 (3), .int .i64 (j)]) (results1_cell Try.results38 rfl (run_loadVar_blk HR8.out Try.underlying29 rfl Try.sizeFaultE)) rfl ?_
        exact ⟨by rw [HE.out] <;> rfl, below_grownO HB2.out HG8.out (fun k hk => by cases hk; omega) HB2.out.size⟩
      have hd : decide (t < 1) = false := decide_eq_false h1
      by_cases h2 : 1000000000 < t
      · have hK : K = 3 := HCB.out.trans (if_pos (by right; rw [Bool.eq_false_iff]; intro q; have := numL_iff.1 q; omega))
        have HE := hide (show chkE l = (3, (j : Int)) by rw [HFa.out, ← HGO.out, hK]; rfl)
        have hd2 : decide (1000000000 < t) = true := decide_eq_true h2
        clear hK
        go_wp2_with (first
          | (go_at_call 28; refine (lF_any _ _ _).mono ?_; rintro e w2 ⟨rfl, hb2⟩; have HR2 := hide (HRr.out.later hb2); have HB2 := hide (HBW.out.trans (hb2.mono HBW.out.size)); clear hb2; unfold flt)
          | (refine wpList_store_blk rfl rfl rfl rfl HR2.out rfl Try.sizeFaultE rfl ?_; intro w8 hR8 hg8; have HR8 := hide hR8; have HG8 := hide hg8; clear hR8 hg8))
        refine bodyPost_ret (v := .agg #[.int .i64 (3), .int .i64 (j)]) (results1_cell Try.results38 rfl (run_loadVar_blk HR8.out Try.underlying29 rfl Try.sizeFaultE)) rfl ?_
        exact ⟨by rw [HE.out] <;> rfl, below_grownO HB2.out HG8.out (fun k hk => by cases hk; omega) HB2.out.size⟩
      have hd2 : decide (1000000000 < t) = false := decide_eq_false h2
      have HCC := hide (HCB.out.trans (if_neg (by rw [numL_true (by omega) (by omega)]; simp; omega)))
      clear HCB
      go_upto_region 8 with fail
      go_cut [45] (fun x wc => x = .bool (decide (t < a)) ∧ Below wr.heap.size wr wc)
      case first =>
        rcases HPR.out with ⟨hj0, ha0⟩ | ⟨k, p, hjk, hp, ha⟩
        · have HD := hide (show decide (t < a) = false by rw [ha0]; exact decide_eq_false (by omega))
          have hd3 : decide (0 < (j : Int)) = false := decide_eq_false (by omega)
          have hd4 : decide (0 < j) = false := decide_eq_false (by omega)
          clear hj0 ha0
          go_quiet (fail)
          go_wp2_with fail
          go_meet
          case rel => exact ⟨by rw [HD.out], below_drewN (Below.refl _ _) _⟩
        · obtain ⟨b2, off2, hao, hb2, hat2⟩ := HV.out.here hp
          cases hao
          obtain ⟨q0, q1⟩ := (hat2.below HBW.out).ent
          have hd3 : decide (0 < (j : Int)) = true := decide_eq_true (by omega)
          have hd4 : decide (0 < j) = true := decide_eq_true (by omega)
          have hwk : IntKind.i64.wrap ((j : Int) - 1) = (k : Int) := by rw [IntKind.wrap_i64]; omega
          have hk3 : (0 : Int) ≤ (k : Int) := by omega
          have hk4 : (k : Int) < (l.length : Int) := by omega
          have HA := hide ha
          clear hjk hp ha hat2
          go_quiet (fail)
          go_wp2_with fail
          go_meet
          case rel => exact ⟨by rw [HA.out], below_drewN (Below.refl _ _) _⟩
      case rest =>
        obtain ⟨rfl, hbc⟩ := hcut
        have s0 := cell_belowG r0 hbc
        have s1 := cell_belowG r1 hbc
        have hb2 : b < wc.heap.size := Nat.lt_of_lt_of_le hb' hbc.size
        have HRc := hide (HRr.out.later hbc)
        have HBc := hide (HBW.out.trans (hbc.mono HBW.out.size))
        have HBd := hide (HBR.out.trans (hbc.mono hrl))
        clear r0 r1 hbc
        by_cases h3 : t < a
        · have hK : K = 11 := HCC.out.trans (if_pos h3)
          have HE := hide (show chkE l = (11, (j : Int)) by rw [HFa.out, ← HGO.out, hK]; rfl)
          have hd3 : decide (t < a) = true := decide_eq_true h3
          clear hK
          go_wp2_with (first
            | (go_at_call 28; refine (lF_any _ _ _).mono ?_; rintro e w2 ⟨rfl, hb2⟩; have HR2 := hide (HRc.out.later hb2); have HB2 := hide (HBc.out.trans (hb2.mono HBc.out.size)); clear hb2; unfold flt)
            | (refine wpList_store_blk rfl rfl rfl rfl HR2.out rfl Try.sizeFaultE rfl ?_; intro w8 hR8 hg8; have HR8 := hide hR8; have HG8 := hide hg8; clear hR8 hg8))
          refine bodyPost_ret (v := .agg #[.int .i64 (11), .int .i64 (j)]) (results1_cell Try.results38 rfl (run_loadVar_blk HR8.out Try.underlying29 rfl Try.sizeFaultE)) rfl ?_
          exact ⟨by rw [HE.out] <;> rfl, below_grownO HB2.out HG8.out (fun k hk => by cases hk; omega) HB2.out.size⟩
        have hd3 : decide (t < a) = false := decide_eq_false h3
        have HCD := hide (HCC.out.trans (if_neg h3))
        by_cases h4 : 200 < x.size
        · have hK : K = 8 := HCD.out.trans (if_pos h4)
          have HE := hide (show chkE l = (8, (j : Int)) by rw [HFa.out, ← HGO.out, hK]; rfl)
          clear hK
          go_wp2_with (first
            | (go_at_call 28; refine (lF_any _ _ _).mono ?_; rintro e w2 ⟨rfl, hb2⟩; have HR2 := hide (HRc.out.later hb2); have HB2 := hide (HBc.out.trans (hb2.mono HBc.out.size)); clear hb2; unfold flt)
            | (refine wpList_store_blk rfl rfl rfl rfl HR2.out rfl Try.sizeFaultE rfl ?_; intro w8 hR8 hg8; have HR8 := hide hR8; have HG8 := hide hg8; clear hR8 hg8))
          refine bodyPost_ret (v := .agg #[.int .i64 (8), .int .i64 (j)]) (results1_cell Try.results38 rfl (run_loadVar_blk HR8.out Try.underlying29 rfl Try.sizeFaultE)) rfl ?_
          exact ⟨by rw [HE.out] <;> rfl, below_grownO HB2.out HG8.out (fun k hk => by cases hk; omega) HB2.out.size⟩
        · have hK : K = 0 := HCD.out.trans (if_neg h4)
          have HS := hide (show chkGo t (j + 1) (l.drop (j + 1)) = chkGo 0 0 l by rw [← HGO.out, hK]; rfl)
          clear hK
          go_wp2_with fail
          go_roundw
          case rel => exact ⟨j + 1, t, by omega, by go_num, .inr ⟨j, ⟨t, x⟩, rfl, HC.out, rfl⟩, HS.out, HBd.out⟩
          case measure => simp [intOf]; omega
    · have hje : j = l.length := by omega
      subst hje
      rw [List.drop_length, chkGo] at HGO
      have HE := hide (HFa.out.trans HGO.out.symm)
      clear hbw hbr
      go_wp2_with (refine wpList_store_blk rfl rfl rfl rfl HRr.out rfl Try.sizeFaultE rfl ?_; intro w8 hR8 hg8; have HR8 := hide hR8; have HG8 := hide hg8; clear hR8 hg8)
      refine bodyPost_ret (v := .agg #[.int .i64 (0), .int .i64 (0)]) (results1_cell Try.results38 rfl (run_loadVar_blk HR8.out Try.underlying29 rfl Try.sizeFaultE)) rfl ?_
      exact ⟨by rw [HE.out] <;> rfl, below_grownO HBW.out HG8.out (fun k hk => by cases hk; omega) HBW.out.size⟩

set_option maxRecDepth 100000 in
set_option maxHeartbeats 1000000 in
theorem PlaceFault_any (n t : Int) (w : World) : Calls Try.prog 39 #[.int .i64 n, .int .i64 t] w fun e w' => e = .returned (flt (plF n t)) ∧ Below w.heap.size w w' := by
  have HF : Hid (plF n t = if numL n = false then (3, -1) else if numL t = false then (3, -2) else (0, 0)) := hide rfl
  have HR0 := hide (Blk.new w 29 #[.int .i64 0, .int .i64 0])
  have HB0 := hide (below_allocG w (.cells #[.int .i64 0, .int .i64 0] 29))
  cases h1 : numL n
  · have HE := hide (HF.out.trans (if_pos h1))
    have HN := hide h1
    clear h1
    go_enter Try.func39, Try.ntmps39
    go_wp2_with fail
    refine (lNum_any n _).mono ?_
    rw [HN.out]
    rintro e w1 ⟨rfl, rfl⟩
    go_wp2_with (first
      | (go_at_call 28; refine (lF_any _ _ _).mono ?_; rintro e w2 ⟨rfl, hb2⟩; have HR2 := hide (HR0.out.later hb2); have HB2 := hide (HB0.out.trans (hb2.mono HB0.out.size)); clear hb2; unfold flt)
      | (refine wpList_store_blk rfl rfl rfl rfl HR2.out rfl Try.sizeFaultE rfl ?_; intro w8 hR8 hg8; have HR8 := hide hR8; have HG8 := hide hg8; clear hR8 hg8))
    refine bodyPost_ret (v := .agg #[.int .i64 (3), .int .i64 (-1)]) (results1_cell Try.results39 rfl (run_loadVar_blk HR8.out Try.underlying29 rfl Try.sizeFaultE)) rfl ?_
    exact ⟨by rw [HE.out] <;> rfl, below_grownO HB2.out HG8.out (fun k hk => by cases hk; omega) HB2.out.size⟩
  have HFa := hide (HF.out.trans (if_neg (by rw [h1]; simp)))
  cases h2 : numL t
  · have HE := hide (HFa.out.trans (if_pos h2))
    have HN := hide h1
    have HT := hide h2
    clear h1 h2
    go_enter Try.func39, Try.ntmps39
    go_wp2_with fail
    refine (lNum_any n _).mono ?_
    rw [HN.out]
    rintro e w1 ⟨rfl, rfl⟩
    go_wp2_with fail
    refine (lNum_any t _).mono ?_
    rw [HT.out]
    rintro e w1 ⟨rfl, rfl⟩
    go_wp2_with (first
      | (go_at_call 28; refine (lF_any _ _ _).mono ?_; rintro e w2 ⟨rfl, hb2⟩; have HR2 := hide (HR0.out.later hb2); have HB2 := hide (HB0.out.trans (hb2.mono HB0.out.size)); clear hb2; unfold flt)
      | (refine wpList_store_blk rfl rfl rfl rfl HR2.out rfl Try.sizeFaultE rfl ?_; intro w8 hR8 hg8; have HR8 := hide hR8; have HG8 := hide hg8; clear hR8 hg8))
    refine bodyPost_ret (v := .agg #[.int .i64 (3), .int .i64 (-2)]) (results1_cell Try.results39 rfl (run_loadVar_blk HR8.out Try.underlying29 rfl Try.sizeFaultE)) rfl ?_
    exact ⟨by rw [HE.out] <;> rfl, below_grownO HB2.out HG8.out (fun k hk => by cases hk; omega) HB2.out.size⟩
  · have HE := hide (HFa.out.trans (if_neg (by rw [h2]; simp)))
    have HN := hide h1
    have HT := hide h2
    clear h1 h2
    go_enter Try.func39, Try.ntmps39
    go_wp2_with fail
    refine (lNum_any n _).mono ?_
    rw [HN.out]
    rintro e w1 ⟨rfl, rfl⟩
    go_wp2_with fail
    refine (lNum_any t _).mono ?_
    rw [HT.out]
    rintro e w1 ⟨rfl, rfl⟩
    go_wp2_with (refine wpList_store_blk rfl rfl rfl rfl HR0.out rfl Try.sizeFaultE rfl ?_; intro w8 hR8 hg8; have HR8 := hide hR8; have HG8 := hide hg8; clear hR8 hg8)
    refine bodyPost_ret (v := .agg #[.int .i64 (0), .int .i64 (0)]) (results1_cell Try.results39 rfl (run_loadVar_blk HR8.out Try.underlying29 rfl Try.sizeFaultE)) rfl ?_
    exact ⟨by rw [HE.out] <;> rfl, below_grownO HB0.out HG8.out (fun k hk => by cases hk; omega) HB0.out.size⟩

set_option maxRecDepth 100000 in
set_option maxHeartbeats 1000000 in
theorem LogsFault_any (v u : Value) (a b : List Et) (w : World) (hv : RdG eE w v a) (hu : RdG eE w u b) :
    Calls Try.prog 42 #[v, u] w fun e w' => e = .returned (flt (bothF a b)) ∧ Below w.heap.size w w' := by
  have HF : Hid (bothF a b = if (chkE a).1 ≠ 0 then chkE a else secF (chkE b)) := hide rfl
  have HI := hide (LogFault_any v a _ (hv.alloc (.cells #[.int .i64 0, .int .i64 0] 29)))
  have HU := hide hu
  obtain ⟨ao, cap, rfl, _, _⟩ := hv.shape
  obtain ⟨bo, cbp, rfl, _, _⟩ := hu.shape
  have HR0 := hide (Blk.new w 29 #[.int .i64 0, .int .i64 0])
  have HB0 := hide (below_allocG w (.cells #[.int .i64 0, .int .i64 0] 29))
  have HZ := hide (chkE_z a)
  have HZ2 := hide (chkE_z b)
  have HS : Hid (secF (chkE b) = if (chkE b).1 ≠ 0 then ((chkE b).1, (chkE b).2 - 1000) else (0, 0)) := hide rfl
  have hbd := chkE_at (l := b)
  have HI2 := hide (fun W (h : RdG eE W (.slice bo b.length cbp) b) => LogFault_any _ b W h)
  generalize hK : chkE a = K at *
  obtain ⟨x, y⟩ := K
  generalize hP : chkE b = P at *
  obtain ⟨p, q⟩ := P
  clear hv hK hP hu
  simp only at HS hbd
  have hw1 : IntKind.i64.wrap (q - 1000) = q - 1000 := by rw [IntKind.wrap_i64]; omega
  clear hbd
  go_enter Try.func42, Try.ntmps42
  go_wp2_with fail
  refine HI.out.mono ?_
  rintro e w1 ⟨rfl, hb1⟩
  have HBW := hide ((HB0.out.trans (hb1.mono HB0.out.size)).trans ((below_allocG w1 (.cells #[.int .i64 x, .int .i64 y] 29)).mono (HB0.out.trans (hb1.mono HB0.out.size)).size))
  have HR := hide ((HR0.out.later hb1).later (below_allocG w1 (.cells #[.int .i64 x, .int .i64 y] 29)))
  have HN1 := hide (Blk.new w1 29 #[.int .i64 x, .int .i64 y])
  have hrl := (HR0.out.later hb1).lt
  clear hb1 HI HR0 HB0
  unfold flt
  by_cases hx : x ≠ 0
  · have HE := hide (HF.out.trans (if_pos hx))
    have hq : (x == 0) = false := beq_eq_false_iff_ne.2 hx
    clear hx
    go_wp2_with (refine wpList_store_blk rfl rfl rfl rfl HR.out rfl Try.sizeFaultE rfl ?_; intro w8 hR8 hg8; have HR8 := hide hR8; have HG8 := hide hg8; clear hR8 hg8)
    refine bodyPost_ret (v := .agg #[.int .i64 (x), .int .i64 (y)]) (results1_cell Try.results42 rfl (run_loadVar_blk HR8.out Try.underlying29 rfl Try.sizeFaultE)) rfl ?_
    exact ⟨by rw [HE.out] <;> rfl, below_grownO HBW.out HG8.out (fun k hk => by cases hk; omega) HBW.out.size⟩
  · have HE0 := hide (HF.out.trans (if_neg hx))
    obtain rfl : x = 0 := Decidable.not_not.1 hx
    obtain rfl : y = 0 := by have := HZ.out rfl; simpa using this
    clear hx
    go_wp2_with fail
    refine (HI2.out _ (HU.out.below HBW.out)).mono ?_
    rintro e w2 ⟨rfl, hb2⟩
    have HB2 := hide (HBW.out.trans (hb2.mono HBW.out.size))
    have HR2 := hide (HR.out.later hb2)
    have HN2 := hide (HN1.out.later hb2)
    have hn2 := HN2.out.lt
    clear hb2
    unfold flt
    go_upto_region 4 with (refine wpList_store_blk rfl rfl rfl rfl HN2.out rfl Try.sizeFaultE rfl ?_; intro w3 hN3 hg3; have HN3 := hide hN3; have HR3 := hide (HR2.out.grown hg3 (fun z => by simp at z; omega)); have HB3 := hide (below_grownO HB2.out hg3 (fun k hk => by cases hk; omega) HB2.out.size); clear hN3 hg3)
    have c0 := HN3.out.cell 0
    have c1 := HN3.out.cell 1
    have cl := HN3.out.lt
    simp at c0 c1
    by_cases hp : p ≠ 0
    · have HE := hide (HE0.out.trans (HS.out.trans (if_pos hp)))
      have hq : (p == 0) = false := beq_eq_false_iff_ne.2 hp
      have hq2 : (p != 0) = true := by simp [hp]
      clear hp
      go_wp2_with (first
        | (refine wpList_store_int (k := 1) rfl rfl rfl rfl HN3.out rfl Try.sizeIntE ?_; intro w7 hN7 hg7; have HN7 := hide hN7; have HR7 := hide (HR3.out.grown hg7 (fun z => by simp at z; omega)); have HB7 := hide (below_grownO HB3.out hg7 (fun k hk => by cases hk; omega) HB3.out.size); clear hN7 hg7)
        | (refine wpList_load_blk HN7.out Try.underlying29 rfl Try.sizeFaultE rfl rfl rfl ?_)
        | (refine wpList_store_blk rfl rfl rfl rfl HR7.out rfl Try.sizeFaultE rfl ?_; intro w8 hR8 hg8; have HR8 := hide hR8; have HG8 := hide hg8; clear hR8 hg8))
      refine bodyPost_ret (v := .agg #[.int .i64 (p), .int .i64 (q - 1000)]) (results1_cell Try.results42 rfl (run_loadVar_blk HR8.out Try.underlying29 rfl Try.sizeFaultE)) rfl ?_
      exact ⟨by rw [HE.out] <;> rfl, below_grownO HB7.out HG8.out (fun k hk => by cases hk; omega) HB7.out.size⟩
    · have HE := hide (HE0.out.trans (HS.out.trans (if_neg hp)))
      obtain rfl : p = 0 := Decidable.not_not.1 hp
      obtain rfl : q = 0 := by have := HZ2.out rfl; simpa using this
      clear hp
      go_wp2_with (refine wpList_store_blk rfl rfl rfl rfl HR3.out rfl Try.sizeFaultE rfl ?_; intro w8 hR8 hg8; have HR8 := hide hR8; have HG8 := hide hg8; clear hR8 hg8)
      refine bodyPost_ret (v := .agg #[.int .i64 (0), .int .i64 (0)]) (results1_cell Try.results42 rfl (run_loadVar_blk HR8.out Try.underlying29 rfl Try.sizeFaultE)) rfl ?_
      exact ⟨by rw [HE.out] <;> rfl, below_grownO HB3.out HG8.out (fun k hk => by cases hk; omega) HB3.out.size⟩

set_option maxRecDepth 100000 in
set_option maxHeartbeats 1000000 in
theorem SameLog_q (v u : Value) (l : List Et) (w : World) (hv : RdG eE w v l) (hu : RdG eE w u l) :
    Calls Try.prog 37 #[v, u] w fun e w' => e = .returned (.bool true) ∧ ∃ m, w' = w.drewN m := by
  obtain ⟨ao, cap, hvv, hc1, hc2⟩ := hv.shape
  obtain ⟨bo, cbp, huu, hd1, hd2⟩ := hu.shape
  subst hvv huu
  unfold maxLen at hc2 hd2
  have hnb : ((l.length : Int) != l.length) = false := by simp
  go_enter Try.func37, Try.ntmps37
  go_wp2_with fail
  go_loopw [5] (fun i wr => ∃ (k m : Nat), k ≤ l.length ∧ i = .int .i64 k ∧ wr = w.drewN m)
    (fun i _ => l.length - (intOf i).toNat)
  case atStart => exact ⟨0, 0, by omega, rfl, rfl⟩
  case round =>
    obtain ⟨k, m, hk, rfl, rfl⟩ := hrel
    by_cases hlt : k < l.length
    · obtain ⟨p, hp⟩ : ∃ p, l[k]? = some p := ⟨_, List.getElem?_eq_getElem hlt⟩
      obtain ⟨b, off, rfl, hb, hat⟩ := hv.here hp
      obtain ⟨b2, off2, rfl, hb2, hat2⟩ := hu.here hp
      obtain ⟨c0, c1⟩ := hat.ent
      obtain ⟨d0, d1⟩ := hat2.ent
      have hk1 : (0 : Int) ≤ (k : Int) := by omega
      have hk2 : (k : Int) < (l.length : Int) := by omega
      clear hat hat2 hp hv hu
      go_wp2_with fail
      go_quiet (fail)
      go_wp2_with fail
      go_roundw
      case rel => exact ⟨k + 1, _, by omega, by go_num, by first | rfl | rw [World.drewN_drewN]⟩
      case measure => simp [intOf]; omega
    · go_wp2_with fail
      go_ret
      exact ⟨rfl, m, rfl⟩

theorem SameLog_any (v u : Value) (l : List Et) (w : World) (hv : RdG eE w v l) (hu : RdG eE w u l) :
    Calls Try.prog 37 #[v, u] w fun e w' => e = .returned (.bool true) ∧ Below w.heap.size w w' :=
  (SameLog_q v u l w hv hu).mono fun _ _ ⟨h, m, hm⟩ => ⟨h, by rw [hm]; exact below_drewN (Below.refl _ _) _⟩

set_option maxRecDepth 100000 in
set_option maxHeartbeats 400000 in
theorem CopyLog_any (v : Value) (l : List Et) (w : World) (hv : RdG eE w v l) (hl : l.length ≤ 1000000) :
    Calls Try.prog 32 #[v] w fun e w' => ∃ v', e = .returned v' ∧ w'.ownsRow w.heap.size 72 2 v' l.length (eE.vs l) ∧ Below w.heap.size w w' := by
  obtain ⟨ao, cap, hvv, hc1, hc2⟩ := hv.shape
  subst hvv
  have hl2 : 0 + l.length ≤ 1000000000 := by omega
  go_enter Try.func32, Try.ntmps32
  go_wp2_with (at_builtin; go_must (refine wpList_append_rdG (cs := []) (World.ownsRow_nil w w.heap.size 72 2) hv Try.underlying59 infoEntry rfl rfl rfl rfl rfl hl2 (by decide) (Nat.le_refl _) ?_); intro v1 w1 ho1 hb1 hg1; clear hg1)
  go_ret
  exact ⟨_, rfl, by simpa using ho1, hb1⟩

set_option maxRecDepth 100000 in
set_option maxHeartbeats 1000000 in
theorem LastTerm_any (v : Value) (l : List Et) (w : World) (hv : RdG eE w v l) :
    Calls Try.prog 71 #[v] w fun e w' => e = .returned (.int .i64 (lastT l)) ∧ w' = w := by
  obtain ⟨ao, cap, rfl, hc1, hc2⟩ := hv.shape
  unfold maxLen at hc2
  by_cases h0 : l.length = 0
  · obtain rfl : l = [] := List.eq_nil_of_length_eq_zero h0
    clear hv h0
    go_enter Try.func71, Try.ntmps71
    go_wp2_with fail
    go_ret
    exact ⟨rfl, rfl⟩
  · obtain ⟨k, hk⟩ : ∃ k, k + 1 = l.length := ⟨l.length - 1, by omega⟩
    obtain ⟨x, hx⟩ : ∃ x, l[k]? = some x := ⟨_, List.getElem?_eq_getElem (by omega)⟩
    have HE := hide (lastT_at hx hk)
    obtain ⟨b, off, rfl, hb, hat⟩ := hv.here hx
    obtain ⟨q0, q1⟩ := hat.ent
    have h1 : IntKind.i64.wrap ((l.length : Int) - 1) = (k : Int) := by rw [IntKind.wrap_i64]; omega
    have h2 : (0 : Int) ≤ (k : Int) := by omega
    have h3 : (k : Int) < (l.length : Int) := by omega
    have h4 : ((l.length : Int) == 0) = false := beq_eq_false_iff_ne.2 (by omega)
    clear hv hat hx hk
    go_enter Try.func71, Try.ntmps71
    go_wp2_with fail
    go_ret
    exact ⟨by rw [HE.out]; rfl, rfl⟩

set_option maxRecDepth 100000 in
set_option maxHeartbeats 1000000 in
theorem OlderLog_any (v : Value) (l : List Et) (n t : Int) (w : World) (hv : RdG eE w v l) :
    Calls Try.prog 40 #[v, .int .i64 n, .int .i64 t] w fun e w' => e = .returned (.bool (oldB l n t)) ∧ w' = w := by
  have HO : Hid (oldB l n t = decide (lastT l < t ∨ (lastT l = t ∧ (l.length : Int) < n))) := hide rfl
  have HL := hide (LastTerm_any v l w hv)
  obtain ⟨ao, cap, rfl, hc1, hc2⟩ := hv.shape
  generalize lastT l = T at *
  clear hv
  by_cases h2 : T = t
  · have HE := hide (show oldB l n t = decide ((l.length : Int) < n) by rw [HO.out]; simp [h2])
    have hq : (T != t) = false := by simp [h2]
    clear h2
    go_enter Try.func40, Try.ntmps40
    go_wp2_with (go_at_call 71; refine HL.out.mono ?_; rintro e w2 ⟨rfl, rfl⟩)
    go_ret
    exact ⟨by rw [HE.out]; rfl, rfl⟩
  · have HE := hide (show oldB l n t = decide (T < t) by rw [HO.out]; simp [h2])
    have hq : (T != t) = true := by simp [h2]
    clear h2
    go_enter Try.func40, Try.ntmps40
    go_wp2_with (go_at_call 71; refine HL.out.mono ?_; rintro e w2 ⟨rfl, rfl⟩)
    go_ret
    exact ⟨by rw [HE.out]; rfl, rfl⟩

end Go.Proofs.Ytpojgcjigjenoag
