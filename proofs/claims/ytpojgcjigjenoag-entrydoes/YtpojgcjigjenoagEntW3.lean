/-
  The walks over entry.Older and entry.Agree.
-/
import Derived.Test.YtpojgcjigjenoagEntW2
import Derived.BigQuiet
namespace Go.Proofs.Ytpojgcjigjenoag
open Go.RowKit
set_option linter.unusedVariables false

/-- A block of two that is written, ahead of one that is laid. -/
theorem Blk.two {w : World} {B : Nat} {t : TypeId} {o : Obj} {a b x y : Value} (h : Blk w B t #[a, b]) : Blk (((w.setCell ⟨B, 0, none⟩ x).setCell ⟨B, 1, none⟩ y).alloc o) B t #[x, y] := by
  have := ((h.set 0 x).set 1 y).later (below_allocG _ o)
  simpa using this

/-- What Older tells. -/
def oldR (l : List Et) (n t : Int) : Bool := if (oldF l n t).1 ≠ 0 then false else oldB l n t

set_option maxRecDepth 100000 in
set_option maxHeartbeats 2000000 in
theorem Older_any (v : Value) (l : List Et) (n t : Int) (w : World) (hv : RdG eE w v l) :
    Calls Try.prog 34 #[v, .int .i64 n, .int .i64 t] w fun e w' => e = .returned (.tuple #[.bool (oldR l n t), flt (oldF l n t)]) ∧ Below w.heap.size w w' := by
  have HF : Hid (oldR l n t = if (oldF l n t).1 ≠ 0 then false else oldB l n t) := hide rfl
  have HI := hide (olderFault_any v l n t _ (hv.alloc (.cells #[.int .i64 0, .int .i64 0] 29)))
  have HV := hide hv
  obtain ⟨ao, cap, rfl, _, _⟩ := hv.shape
  have HR0 := hide (Blk.new w 29 #[.int .i64 0, .int .i64 0])
  have HB0 := hide (below_allocG w (.cells #[.int .i64 0, .int .i64 0] 29))
  have HZ := hide (oldF_z l n t)
  have HL := hide (fun W (h : RdG eE W (.slice ao l.length cap) l) => lastTerm_any _ l W h)
  generalize hK : oldF l n t = K at *
  obtain ⟨x, y⟩ := K
  have HO : Hid (oldB l n t = decide (lastT l < t ∨ (lastT l = t ∧ (l.length : Int) < n))) := hide rfl
  generalize lastT l = T at *
  clear hv hK
  go_enter Try.func34, Try.ntmps34
  go_wp2_with fail
  refine HI.out.mono ?_
  rintro e w1 ⟨rfl, hb1⟩
  have HBW := hide ((HB0.out.trans (hb1.mono HB0.out.size)).trans ((below_allocG w1 (.cells #[.int .i64 x, .int .i64 y] 29)).mono (HB0.out.trans (hb1.mono HB0.out.size)).size))
  have HR := hide ((HR0.out.later hb1).later (below_allocG w1 (.cells #[.int .i64 x, .int .i64 y] 29)))
  have HN1 := hide (Blk.new w1 29 #[.int .i64 x, .int .i64 y])
  have hrl := (HR0.out.later hb1).lt
  have HRw := hide (HR0.out.later hb1)
  have HBw := hide (HB0.out.trans (hb1.mono HB0.out.size))
  clear hb1 HI HR0 HB0
  unfold flt
  by_cases hx : x ≠ 0
  · have HE := hide (HF.out.trans (if_pos hx))
    have hq : (x == 0) = false := beq_eq_false_iff_ne.2 hx
    have hq2 : (x != 0) = true := by simp [hx]
    clear hx
    have r0 := HRw.out.cell 0
    have r1 := HRw.out.cell 1
    have z0 := HRw.out.frozen 0
    have z1 := HRw.out.frozen 1
    simp at r0 r1
    go_wp2_with fail
    go_region
    have hbw := HBw.out
    go_wp2_with fail
    refine bodyPost_ret (v := .tuple #[.bool false, .agg #[.int .i64 x, .int .i64 y]]) (results2_tc Try.results34 rfl rfl (run_loadVar_blk (xs := #[.int .i64 x, .int .i64 y]) (HRw.out.two) Try.underlying29 rfl Try.sizeFaultE)) rfl ?_
    exact ⟨by rw [HE.out]; rfl, by go_grown⟩
  · have HE := hide (HF.out.trans (if_neg hx))
    obtain rfl : x = 0 := Decidable.not_not.1 hx
    obtain rfl : y = 0 := by have := HZ.out rfl; simpa using this
    clear hx
    have HV2 := hide (HV.out.below HBW.out)
    by_cases h1 : T < t
    · have HE2 := hide (HE.out.trans (HO.out.trans (decide_eq_true (.inl h1))))
      have hd : decide (T < t) = true := decide_eq_true h1
      go_wp2_with (first
        | (go_at_call 64; refine (HL.out _ HV2.out).mono ?_; rintro e w2 ⟨rfl, rfl⟩)
        | (refine wpList_store_blk rfl rfl rfl rfl HR.out rfl Try.sizeFaultE rfl ?_; intro w8 hR8 hg8; have HR8 := hide hR8; have HG8 := hide hg8; clear hR8 hg8))
      refine bodyPost_ret (v := .tuple #[.bool true, .agg #[.int .i64 0, .int .i64 0]]) (results2_tc Try.results34 rfl rfl (run_loadVar_blk HR8.out Try.underlying29 rfl Try.sizeFaultE)) rfl ?_
      exact ⟨by rw [HE2.out]; rfl, below_grownO HBW.out HG8.out (fun k hk => by cases hk; omega) HBW.out.size⟩
    · have hd : decide (T < t) = false := decide_eq_false h1
      by_cases h2 : T = t
      · have HE2 := hide (show oldR l n t = decide ((l.length : Int) < n) by rw [HE.out, HO.out]; simp [h2])
        have hq : (T == t) = true := by simp [h2]
        clear h2 h1
        go_wp2_with (first
          | (go_at_call 64; refine (HL.out _ HV2.out).mono ?_; rintro e w2 ⟨rfl, rfl⟩)
          | (refine wpList_store_blk rfl rfl rfl rfl HR.out rfl Try.sizeFaultE rfl ?_; intro w8 hR8 hg8; have HR8 := hide hR8; have HG8 := hide hg8; clear hR8 hg8))
        refine bodyPost_ret (v := .tuple #[.bool (decide ((l.length : Int) < n)), .agg #[.int .i64 0, .int .i64 0]]) (results2_tc Try.results34 rfl rfl (run_loadVar_blk HR8.out Try.underlying29 rfl Try.sizeFaultE)) rfl ?_
        exact ⟨by rw [HE2.out]; rfl, below_grownO HBW.out HG8.out (fun k hk => by cases hk; omega) HBW.out.size⟩
      · have HE2 := hide (show oldR l n t = false by rw [HE.out, HO.out]; simp [h2]; omega)
        have hq : (T == t) = false := beq_eq_false_iff_ne.2 h2
        clear h2 h1
        go_wp2_with (first
          | (go_at_call 64; refine (HL.out _ HV2.out).mono ?_; rintro e w2 ⟨rfl, rfl⟩)
          | (refine wpList_store_blk rfl rfl rfl rfl HR.out rfl Try.sizeFaultE rfl ?_; intro w8 hR8 hg8; have HR8 := hide hR8; have HG8 := hide hg8; clear hR8 hg8))
        refine bodyPost_ret (v := .tuple #[.bool false, .agg #[.int .i64 0, .int .i64 0]]) (results2_tc Try.results34 rfl rfl (run_loadVar_blk HR8.out Try.underlying29 rfl Try.sizeFaultE)) rfl ?_
        exact ⟨by rw [HE2.out]; rfl, below_grownO HBW.out HG8.out (fun k hk => by cases hk; omega) HBW.out.size⟩

set_option maxRecDepth 100000 in
set_option maxHeartbeats 2000000 in
theorem Agree_any (v u : Value) (a b : List Et) (w : World) (hv : RdG eE w v a) (hu : RdG eE w u b) :
    Calls Try.prog 36 #[v, u] w fun e w' => e = .returned (.tuple #[.int .i64 (agN a b), flt (bothF a b)]) ∧ Below w.heap.size w w' := by
  have HF : Hid (agN a b = if (bothF a b).1 = 0 then agGo a b (min a.length b.length) else 0) := hide rfl
  have HI := hide (bothFault_any v u a b _ (hv.alloc (.cells #[.int .i64 0, .int .i64 0] 29)) (hu.alloc _))
  have HV := hide hv
  have HU := hide hu
  obtain ⟨ao, cap, rfl, hc1, hc2⟩ := hv.shape
  obtain ⟨bo, cbp, rfl, hd1, hd2⟩ := hu.shape
  unfold maxLen at hc2 hd2
  have HR0 := hide (Blk.new w 29 #[.int .i64 0, .int .i64 0])
  have HB0 := hide (below_allocG w (.cells #[.int .i64 0, .int .i64 0] 29))
  have HZ := hide (bothF_z a b)
  generalize hK : bothF a b = K at *
  obtain ⟨x, y⟩ := K
  clear hv hK hu
  go_enter Try.func36, Try.ntmps36
  go_wp2_with fail
  refine HI.out.mono ?_
  rintro e w1 ⟨rfl, hb1⟩
  have HBW := hide ((HB0.out.trans (hb1.mono HB0.out.size)).trans ((below_allocG w1 (.cells #[.int .i64 x, .int .i64 y] 29)).mono (HB0.out.trans (hb1.mono HB0.out.size)).size))
  have HR := hide ((HR0.out.later hb1).later (below_allocG w1 (.cells #[.int .i64 x, .int .i64 y] 29)))
  have hrl := (HR0.out.later hb1).lt
  have HRw := hide (HR0.out.later hb1)
  have HBw := hide (HB0.out.trans (hb1.mono HB0.out.size))
  clear hb1 HI HR0 HB0
  unfold flt
  by_cases hx : x ≠ 0
  · have HE := hide (HF.out.trans (if_neg hx))
    have hq : (x == 0) = false := beq_eq_false_iff_ne.2 hx
    have hq2 : (x != 0) = true := by simp [hx]
    clear hx
    have r0 := HRw.out.cell 0
    have r1 := HRw.out.cell 1
    have z0 := HRw.out.frozen 0
    have z1 := HRw.out.frozen 1
    simp at r0 r1
    go_wp2_with fail
    go_region
    have hbw := HBw.out
    go_wp2_with fail
    refine bodyPost_ret (v := .tuple #[.int .i64 0, .agg #[.int .i64 x, .int .i64 y]]) (results2_tc Try.results36 rfl rfl (run_loadVar_blk (xs := #[.int .i64 x, .int .i64 y]) (HRw.out.two) Try.underlying29 rfl Try.sizeFaultE)) rfl ?_
    exact ⟨by rw [HE.out]; rfl, by go_grown⟩
  · obtain rfl : x = 0 := Decidable.not_not.1 hx
    have HE := hide (HF.out.trans (if_pos rfl))
    obtain rfl : y = 0 := by have := HZ.out rfl; simpa using this
    clear hx HF
    obtain ⟨M, hM⟩ : ∃ M, min a.length b.length = M := ⟨_, rfl⟩
    rw [hM] at HE
    have hma : M ≤ a.length := by omega
    have hmb : M ≤ b.length := by omega
    go_upto_region 4 with fail
    go_cut [7] (fun x wc => x = .int .i64 M ∧ w1.alloc (.cells #[.int .i64 0, .int .i64 0] 29) = wc)
    case first =>
      rcases Nat.le_total a.length b.length with hle | hle
      all_goals
        go_wp2_with fail
        all_goals
          go_meet
          case rel => exact ⟨by congr 1; omega, rfl⟩
    case rest =>
    obtain ⟨rfl, rfl⟩ := hcut
    clear hM
    go_wp2_with fail
    go_loopw [7] (fun iv wr => ∃ (k : Nat), k ≤ M ∧ iv = .int .i64 k ∧ agGo a b k = agGo a b M ∧ Below (w1.heap.size + 1) (w1.alloc (.cells #[.int .i64 0, .int .i64 0] 29)) wr)
      (fun iv _ => (intOf iv).toNat)
    case atStart => exact ⟨M, by omega, rfl, rfl, Below.refl _ _⟩
    case round =>
      obtain ⟨k, hk, rfl, hgo, hbr⟩ := hrel
      have HGO := hide hgo
      have HBR := hide (HBW.out.trans (hbr.mono (by omega)))
      have HRr := hide (HR.out.below hbr (by omega))
      have HBr := hide hbr
      clear hgo hbr
      cases k with
      | zero =>
        have HEE := hide (show agN a b = 0 by rw [HE.out, ← HGO.out]; rfl)
        obtain ⟨A, hA⟩ : ∃ A : Int, A = ((0 : Nat) : Int) := ⟨_, rfl⟩
        rw [← hA]
        have hd : decide (0 < A) = false := decide_eq_false (by omega)
        have HA := hide hA
        clear hA
        go_wp2_with fail
        go_quiet (fail)
        go_wp2_with (refine wpList_store_blk rfl rfl rfl rfl HRr.out rfl Try.sizeFaultE rfl ?_; intro w8 hR8 hg8; have HR8 := hide hR8; have HG8 := hide hg8; clear hR8 hg8)
        refine bodyPost_ret (v := .tuple #[.int .i64 A, .agg #[.int .i64 0, .int .i64 0]]) (results2_tc Try.results36 rfl rfl (run_loadVar_blk HR8.out Try.underlying29 rfl Try.sizeFaultE)) rfl ?_
        exact ⟨by rw [HEE.out, HA.out]; rfl, below_grownO (below_drewN HBR.out _) HG8.out (fun k hk => by cases hk; omega) HBR.out.size⟩
      | succ k =>
        obtain ⟨x, hx⟩ : ∃ x, a[k]? = some x := ⟨_, List.getElem?_eq_getElem (by omega)⟩
        obtain ⟨y, hy⟩ : ∃ x, b[k]? = some x := ⟨_, List.getElem?_eq_getElem (by omega)⟩
        obtain ⟨b1, o1, rfl, hb1, hat1⟩ := (HV.out.below HBR.out).here hx
        obtain ⟨b2, o2, rfl, hb2, hat2⟩ := (HU.out.below HBR.out).here hy
        obtain ⟨q0, q1⟩ := hat1.ent
        obtain ⟨p0, p1⟩ := hat2.ent
        have h1 : IntKind.i64.wrap (((k + 1 : Nat) : Int) - 1) = (k : Int) := by rw [IntKind.wrap_i64]; omega
        have HYes := hide (fun h => agGo_yes (a := a) (b := b) hx hy h)
        have HNo := hide (fun h => agGo_no (a := a) (b := b) hx hy h)
        have h2 : (0 : Int) ≤ (k : Int) := by omega
        have h3 : (k : Int) < (a.length : Int) := by omega
        have h4 : (k : Int) < (b.length : Int) := by omega
        obtain ⟨A, hA⟩ : ∃ A : Int, A = ((k + 1 : Nat) : Int) := ⟨_, rfl⟩
        rw [← hA] at h1 ⊢
        have h5 : 0 < A := by omega
        have h6 : decide (0 < A) = true := decide_eq_true h5
        have HA := hide hA
        clear hat1 hat2 hx hy hA
        by_cases h7 : x.term = y.term
        · have HEE := hide (show agN a b = k + 1 by rw [HE.out, ← HGO.out]; exact HYes.out h7)
          have h8 : (x.term != y.term) = false := by simp [h7]
          clear h7
          go_wp2_with fail
          go_quiet (fail)
          go_wp2_with (refine wpList_store_blk rfl rfl rfl rfl HRr.out rfl Try.sizeFaultE rfl ?_; intro w8 hR8 hg8; have HR8 := hide hR8; have HG8 := hide hg8; clear hR8 hg8)
          refine bodyPost_ret (v := .tuple #[.int .i64 A, .agg #[.int .i64 0, .int .i64 0]]) (results2_tc Try.results36 rfl rfl (run_loadVar_blk HR8.out Try.underlying29 rfl Try.sizeFaultE)) rfl ?_
          exact ⟨by rw [HEE.out, HA.out]; rfl, below_grownO (below_drewN HBR.out _) HG8.out (fun k hk => by cases hk; omega) HBR.out.size⟩
        · have h8 : (x.term != y.term) = true := by simp [h7]
          have HN := hide ((HNo.out h7).symm.trans HGO.out)
          clear h7
          go_wp2_with fail
          go_quiet (fail)
          go_wp2_with fail
          go_roundw
          case rel => exact ⟨k, by omega, by first | rfl | (rw [h1]), HN.out, below_drewN HBr.out _⟩
          case measure => simp [intOf, HA.out]

end Go.Proofs.Ytpojgcjigjenoag
