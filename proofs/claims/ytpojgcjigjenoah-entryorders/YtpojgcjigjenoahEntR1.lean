/-
  The walks over the document's answers of logs: LogFault, LogsFault, PlaceFault, SameLog, CopyLog, LastTerm, OlderLog. (Written by er1.py.)
-/
import Derived.Test.YtpojgcjigjenoahEntW5
namespace Go.Proofs.Ytpojgcjigjenoah
open Go.RowKit
set_option linter.unusedVariables false

/-- The Term ahead of a place. -/
def Prev (l : List Et) (j : Nat) (a : Int) : Prop := (j = 0 ∧ a = 0) ∨ ∃ k p, j = k + 1 ∧ l[k]? = some p ∧ a = p.term

set_option maxRecDepth 100000 in
set_option maxHeartbeats 2000000 in
theorem LogFault_any (v : Value) (l : List Et) (w : World) (hv : RdG eE w v l) :
    Calls Try.prog 6 #[v] w fun e w' => e = .returned (flt (chkE l)) ∧ Below w.heap.size w w' := by
  have HF : Hid (chkE l = if 100 < l.length then (2, -1) else chkGo 0 0 l) := hide rfl
  have HV := hide hv
  obtain ⟨ao, cap, rfl, hc1, hc2⟩ := hv.shape
  unfold maxLen at hc2
  have HR0 := hide (Blk.new w 26 #[.int .i64 0, .int .i64 0])
  have HB0 := hide (below_allocG w (.cells #[.int .i64 0, .int .i64 0] 26))
  clear hv
  by_cases h1 : 100 < l.length
  · have HE := hide (HF.out.trans (if_pos h1))
    go_enter Try.func6, Try.ntmps6
    go_wp2_with (first
      | (go_at_call 11; refine (lF_any _ _ _).mono ?_; rintro e w2 ⟨rfl, hb2⟩; have HR2 := hide (HR0.out.later hb2); have HB2 := hide (HB0.out.trans (hb2.mono HB0.out.size)); clear hb2; unfold flt)
      | (refine wpList_store_blk rfl rfl rfl rfl HR2.out rfl Try.sizeFaultE rfl ?_; intro w8 hR8 hg8; have HR8 := hide hR8; have HG8 := hide hg8; clear hR8 hg8))
    refine bodyPost_ret (v := .agg #[.int .i64 (2), .int .i64 (-1)]) (results1_cell Try.results6 rfl (run_loadVar_blk HR8.out Try.underlying26 rfl Try.sizeFaultE)) rfl ?_
    exact ⟨by rw [HE.out] <;> rfl, below_grownO HB2.out HG8.out (fun k hk => by cases hk; omega) HB2.out.size⟩
  have HFa := hide (HF.out.trans (if_neg h1))
  clear HF
  go_enter Try.func6, Try.ntmps6
  go_wp2_with fail
  go_loopw [3] (fun iv wr => ∃ (j : Nat) (a : Int), j ≤ l.length ∧ iv = .int .i64 j ∧ Prev l j a ∧ chkGo a j (l.drop j) = chkGo 0 0 l ∧ Below (w.heap.size + 1) (w.alloc (.cells #[.int .i64 0, .int .i64 0] 26)) wr)
    (fun iv _ => l.length - (intOf iv).toNat)
  case atStart => exact ⟨0, 0, by omega, rfl, .inl ⟨rfl, rfl⟩, rfl, Below.refl _ _⟩
  case round =>
    obtain ⟨j, a, hj, rfl, hprev, hgo, hbr⟩ := hrel
    have HPR := hide hprev
    have HGO := hide hgo
    have hbw := HB0.out.trans (hbr.mono (by omega))
    have HBW := hide hbw
    have HBR := hide hbr
    have HRr := hide (HR0.out.below hbr (by omega))
    have hrl := HRr.out.lt
    clear hgo hprev
    by_cases hlt : j < l.length
    · obtain ⟨c, hc⟩ : ∃ c, l[j]? = some c := ⟨_, List.getElem?_eq_getElem hlt⟩
      rw [drop_consE hc, chkGo] at HGO
      have HC := hide hc
      obtain ⟨b, off, rfl, hb, hat⟩ := HV.out.here hc
      obtain ⟨q0, q1⟩ := hat.ent
      have r0 := cell_belowG q0 hbw
      have r1 := cell_belowG q1 hbw
      have hb' : b < wr.heap.size := Nat.lt_of_lt_of_le hb hbw.size
      have hk1 : (0 : Int) ≤ (j : Int) := by omega
      have hk2 : (j : Int) < (l.length : Int) := by omega
      obtain ⟨t, x⟩ := c
      simp only at r0 r1 HGO
      have HCB : Hid (codeB a ⟨t, x⟩ = if t = 0 ∨ numL t = false then 3 else if t < a then 11 else if 200 < x.size then 8 else 0) := hide rfl
      generalize codeB a ⟨t, x⟩ = K at *
      clear q0 q1 hat hc hbw hbr
      by_cases h1 : t < 1
      · have hK : K = 3 := HCB.out.trans (if_pos (by by_cases h0 : t = 0; exact .inl h0; right; rw [Bool.eq_false_iff]; intro q; have := numL_iff.1 q; omega))
        have HE := hide (show chkE l = (3, (j : Int)) by rw [HFa.out, ← HGO.out, hK]; rfl)
        have hd : decide (t < 1) = true := decide_eq_true h1
        clear hK
        go_wp2_with (first
          | (go_at_call 11; refine (lF_any _ _ _).mono ?_; rintro e w2 ⟨rfl, hb2⟩; have HR2 := hide (HRr.out.later hb2); have HB2 := hide (HBW.out.trans (hb2.mono HBW.out.size)); clear hb2; unfold flt)
          | (refine wpList_store_blk rfl rfl rfl rfl HR2.out rfl Try.sizeFaultE rfl ?_; intro w8 hR8 hg8; have HR8 := hide hR8; have HG8 := hide hg8; clear hR8 hg8))
        refine bodyPost_ret (v := .agg #[.int .i64 (3), .int .i64 (j)]) (results1_cell Try.results6 rfl (run_loadVar_blk HR8.out Try.underlying26 rfl Try.sizeFaultE)) rfl ?_
        exact ⟨by rw [HE.out] <;> rfl, below_grownO HB2.out HG8.out (fun k hk => by cases hk; omega) HB2.out.size⟩
      have hd : decide (t < 1) = false := decide_eq_false h1
      by_cases h2 : 1000000000 < t
      · have hK : K = 3 := HCB.out.trans (if_pos (by right; rw [Bool.eq_false_iff]; intro q; have := numL_iff.1 q; omega))
        have HE := hide (show chkE l = (3, (j : Int)) by rw [HFa.out, ← HGO.out, hK]; rfl)
        have hd2 : decide (1000000000 < t) = true := decide_eq_true h2
        clear hK
        go_wp2_with (first
          | (go_at_call 11; refine (lF_any _ _ _).mono ?_; rintro e w2 ⟨rfl, hb2⟩; have HR2 := hide (HRr.out.later hb2); have HB2 := hide (HBW.out.trans (hb2.mono HBW.out.size)); clear hb2; unfold flt)
          | (refine wpList_store_blk rfl rfl rfl rfl HR2.out rfl Try.sizeFaultE rfl ?_; intro w8 hR8 hg8; have HR8 := hide hR8; have HG8 := hide hg8; clear hR8 hg8))
        refine bodyPost_ret (v := .agg #[.int .i64 (3), .int .i64 (j)]) (results1_cell Try.results6 rfl (run_loadVar_blk HR8.out Try.underlying26 rfl Try.sizeFaultE)) rfl ?_
        exact ⟨by rw [HE.out] <;> rfl, below_grownO HB2.out HG8.out (fun k hk => by cases hk; omega) HB2.out.size⟩
      have hd2 : decide (1000000000 < t) = false := decide_eq_false h2
      have HCC := hide (HCB.out.trans (if_neg (by rw [numL_true (by omega) (by omega)]; simp; omega)))
      clear HCB
      go_upto_region 8 with fail
      go_cut [45] (fun x wc => x = .bool (decide (t < a)) ∧ Below wr.heap.size wr wc)
      case first =>
        rcases HPR.out with ⟨hj0, ha0⟩ | ⟨k, p, hjk, hp, ha⟩
        · have HD := hide (show decide (t < a) = false by rw [ha0]; exact decide_eq_false (by omega))
          have hd3 : decide (0 < (j : Int)) = false := decide_eq_false (by omega)
          have hd4 : decide (0 < j) = false := decide_eq_false (by omega)
          clear hj0 ha0
          go_quiet (fail)
          go_wp2_with fail
          go_meet
          case rel => exact ⟨by rw [HD.out], below_drewN (Below.refl _ _) _⟩
        · obtain ⟨b2, off2, hao, hb2, hat2⟩ := HV.out.here hp
          cases hao
          obtain ⟨q0, q1⟩ := (hat2.below HBW.out).ent
          have hd3 : decide (0 < (j : Int)) = true := decide_eq_true (by omega)
          have hd4 : decide (0 < j) = true := decide_eq_true (by omega)
          have hwk : IntKind.i64.wrap ((j : Int) - 1) = (k : Int) := by rw [IntKind.wrap_i64]; omega
          have hk3 : (0 : Int) ≤ (k : Int) := by omega
          have hk4 : (k : Int) < (l.length : Int) := by omega
          have HA := hide ha
          clear hjk hp ha hat2
          go_quiet (fail)
          go_wp2_with fail
          go_meet
          case rel => exact ⟨by rw [HA.out], below_drewN (Below.refl _ _) _⟩
      case rest =>
        obtain ⟨rfl, hbc⟩ := hcut
        have s0 := cell_belowG r0 hbc
        have s1 := cell_belowG r1 hbc
        have hb2 : b < wc.heap.size := Nat.lt_of_lt_of_le hb' hbc.size
        have HRc := hide (HRr.out.later hbc)
        have HBc := hide (HBW.out.trans (hbc.mono HBW.out.size))
        have HBd := hide (HBR.out.trans (hbc.mono hrl))
        clear r0 r1 hbc
        by_cases h3 : t < a
        · have hK : K = 11 := HCC.out.trans (if_pos h3)
          have HE := hide (show chkE l = (11, (j : Int)) by rw [HFa.out, ← HGO.out, hK]; rfl)
          have hd3 : decide (t < a) = true := decide_eq_true h3
          clear hK
          go_wp2_with (first
            | (go_at_call 11; refine (lF_any _ _ _).mono ?_; rintro e w2 ⟨rfl, hb2⟩; have HR2 := hide (HRc.out.later hb2); have HB2 := hide (HBc.out.trans (hb2.mono HBc.out.size)); clear hb2; unfold flt)
            | (refine wpList_store_blk rfl rfl rfl rfl HR2.out rfl Try.sizeFaultE rfl ?_; intro w8 hR8 hg8; have HR8 := hide hR8; have HG8 := hide hg8; clear hR8 hg8))
          refine bodyPost_ret (v := .agg #[.int .i64 (11), .int .i64 (j)]) (results1_cell Try.results6 rfl (run_loadVar_blk HR8.out Try.underlying26 rfl Try.sizeFaultE)) rfl ?_
          exact ⟨by rw [HE.out] <;> rfl, below_grownO HB2.out HG8.out (fun k hk => by cases hk; omega) HB2.out.size⟩
        have hd3 : decide (t < a) = false := decide_eq_false h3
        have HCD := hide (HCC.out.trans (if_neg h3))
        by_cases h4 : 200 < x.size
        · have hK : K = 8 := HCD.out.trans (if_pos h4)
          have HE := hide (show chkE l = (8, (j : Int)) by rw [HFa.out, ← HGO.out, hK]; rfl)
          clear hK
          go_wp2_with (first
            | (go_at_call 11; refine (lF_any _ _ _).mono ?_; rintro e w2 ⟨rfl, hb2⟩; have HR2 := hide (HRc.out.later hb2); have HB2 := hide (HBc.out.trans (hb2.mono HBc.out.size)); clear hb2; unfold flt)
            | (refine wpList_store_blk rfl rfl rfl rfl HR2.out rfl Try.sizeFaultE rfl ?_; intro w8 hR8 hg8; have HR8 := hide hR8; have HG8 := hide hg8; clear hR8 hg8))
          refine bodyPost_ret (v := .agg #[.int .i64 (8), .int .i64 (j)]) (results1_cell Try.results6 rfl (run_loadVar_blk HR8.out Try.underlying26 rfl Try.sizeFaultE)) rfl ?_
          exact ⟨by rw [HE.out] <;> rfl, below_grownO HB2.out HG8.out (fun k hk => by cases hk; omega) HB2.out.size⟩
        · have hK : K = 0 := HCD.out.trans (if_neg h4)
          have HS := hide (show chkGo t (j + 1) (l.drop (j + 1)) = chkGo 0 0 l by rw [← HGO.out, hK]; rfl)
          clear hK
          go_wp2_with fail
          go_roundw
          case rel => exact ⟨j + 1, t, by omega, by go_num, .inr ⟨j, ⟨t, x⟩, rfl, HC.out, rfl⟩, HS.out, HBd.out⟩
          case measure => simp [intOf]; omega
    · have hje : j = l.length := by omega
      subst hje
      rw [List.drop_length, chkGo] at HGO
      have HE := hide (HFa.out.trans HGO.out.symm)
      clear hbw hbr
      go_wp2_with (refine wpList_store_blk rfl rfl rfl rfl HRr.out rfl Try.sizeFaultE rfl ?_; intro w8 hR8 hg8; have HR8 := hide hR8; have HG8 := hide hg8; clear hR8 hg8)
      refine bodyPost_ret (v := .agg #[.int .i64 (0), .int .i64 (0)]) (results1_cell Try.results6 rfl (run_loadVar_blk HR8.out Try.underlying26 rfl Try.sizeFaultE)) rfl ?_
      exact ⟨by rw [HE.out] <;> rfl, below_grownO HBW.out HG8.out (fun k hk => by cases hk; omega) HBW.out.size⟩



set_option maxRecDepth 100000 in
set_option maxHeartbeats 1000000 in
theorem SameLog_any (v u : Value) (l : List Et) (w : World) (hv : RdG eE w v l) (hu : RdG eE w u l) :
    Calls Try.prog 10 #[v, u] w fun e w' => e = .returned (.bool true) ∧ Below w.heap.size w w' := by
  obtain ⟨ao, cap, hvv, hc1, hc2⟩ := hv.shape
  obtain ⟨bo, cbp, huu, hd1, hd2⟩ := hu.shape
  subst hvv huu
  unfold maxLen at hc2 hd2
  have hnb : ((l.length : Int) != l.length) = false := by simp
  go_enter Try.func10, Try.ntmps10
  go_wp2_with fail
  go_loopw [5] (fun i wr => ∃ k : Nat, k ≤ l.length ∧ i = .int .i64 k ∧ Below w.heap.size w wr)
    (fun i _ => l.length - (intOf i).toNat)
  case atStart => exact ⟨0, by omega, rfl, Below.refl _ _⟩
  case round =>
    obtain ⟨k, hk, rfl, hbel⟩ := hrel
    by_cases hlt : k < l.length
    · obtain ⟨p, hp⟩ : ∃ p, l[k]? = some p := ⟨_, List.getElem?_eq_getElem hlt⟩
      obtain ⟨b, off, rfl, hb, hat⟩ := hv.here hp
      obtain ⟨b2, off2, rfl, hb2, hat2⟩ := hu.here hp
      obtain ⟨c0, c1⟩ := (hat.below hbel).ent
      obtain ⟨d0, d1⟩ := (hat2.below hbel).ent
      have hk1 : (0 : Int) ≤ (k : Int) := by omega
      have hk2 : (k : Int) < (l.length : Int) := by omega
      clear hat hat2 hp hv hu
      go_wp2_with fail
      go_quiet (fail)
      go_wp2_with fail
      go_roundw
      case rel => exact ⟨k + 1, by omega, by go_num, below_drewN hbel _⟩
      case measure => simp [intOf]; omega
    · go_wp2_with fail
      go_ret
      exact ⟨rfl, hbel⟩


set_option maxRecDepth 100000 in
set_option maxHeartbeats 1000000 in
theorem LastTerm_any (v : Value) (l : List Et) (w : World) (hv : RdG eE w v l) :
    Calls Try.prog 8 #[v] w fun e w' => e = .returned (.int .i64 (lastT l)) ∧ w' = w := by
  obtain ⟨ao, cap, rfl, hc1, hc2⟩ := hv.shape
  unfold maxLen at hc2
  by_cases h0 : l.length = 0
  · obtain rfl : l = [] := List.eq_nil_of_length_eq_zero h0
    clear hv h0
    go_enter Try.func8, Try.ntmps8
    go_wp2_with fail
    go_ret
    exact ⟨rfl, rfl⟩
  · obtain ⟨k, hk⟩ : ∃ k, k + 1 = l.length := ⟨l.length - 1, by omega⟩
    obtain ⟨x, hx⟩ : ∃ x, l[k]? = some x := ⟨_, List.getElem?_eq_getElem (by omega)⟩
    have HE := hide (lastT_at hx hk)
    obtain ⟨b, off, rfl, hb, hat⟩ := hv.here hx
    obtain ⟨q0, q1⟩ := hat.ent
    have h1 : IntKind.i64.wrap ((l.length : Int) - 1) = (k : Int) := by rw [IntKind.wrap_i64]; omega
    have h2 : (0 : Int) ≤ (k : Int) := by omega
    have h3 : (k : Int) < (l.length : Int) := by omega
    have h4 : ((l.length : Int) == 0) = false := beq_eq_false_iff_ne.2 (by omega)
    clear hv hat hx hk
    go_enter Try.func8, Try.ntmps8
    go_wp2_with fail
    go_ret
    exact ⟨by rw [HE.out]; rfl, rfl⟩


end Go.Proofs.Ytpojgcjigjenoah
