/-
  The walk over the law EntryOrders. (Written by leo.py.)
-/
import Derived.Test.YtpojgcjigjenoahEntB
namespace Go.Proofs.Ytpojgcjigjenoah
open Go.RowKit
set_option linter.unusedVariables false

theorem lastT_num {l : List Et} (h : (chkE l).1 = 0) : numL (lastT l) = true := by
  unfold lastT
  cases hl : l.getLast? with
  | none => decide
  | some e =>
    have hm : e ∈ l := List.mem_of_getLast? hl
    have := ((chkE_fine h).1 e hm).1
    cases hn : numL e.term
    · exact absurd (.inr hn) this
    · rfl

theorem oldF_ok {a b : List Et} (ha : (chkE a).1 = 0) (hb : (chkE b).1 = 0) : oldF a (b.length : Int) (lastT b) = (0, 0) := by
  unfold oldF plF
  have hl := (chkE_fine hb).2
  rw [if_neg (by simpa using ha), numL_true (by omega) (by omega), lastT_num hb]
  rfl

theorem oldR_ok {a b : List Et} (ha : (chkE a).1 = 0) (hb : (chkE b).1 = 0) : oldR a (b.length : Int) (lastT b) = decide (lastT a < lastT b ∨ (lastT a = lastT b ∧ (a.length : Int) < b.length)) := by
  unfold oldR
  rw [oldF_ok ha hb, if_neg (by simp)]
  rfl

theorem old_two {a b : List Et} (ha : (chkE a).1 = 0) (hb : (chkE b).1 = 0) (h1 : oldR a (b.length : Int) (lastT b) = true) (h2 : oldR b (a.length : Int) (lastT a) = true) : False := by
  rw [oldR_ok ha hb, decide_eq_true_iff] at h1
  rw [oldR_ok hb ha, decide_eq_true_iff] at h2
  omega

theorem old_three {a b c : List Et} (ha : (chkE a).1 = 0) (hb : (chkE b).1 = 0) (hc : (chkE c).1 = 0) (h1 : oldR a (b.length : Int) (lastT b) = true) (h2 : oldR b (c.length : Int) (lastT c) = true) : oldR a (c.length : Int) (lastT c) = true := by
  rw [oldR_ok ha hb, decide_eq_true_iff] at h1
  rw [oldR_ok hb hc, decide_eq_true_iff] at h2
  rw [oldR_ok ha hc, decide_eq_true_iff]
  omega

set_option maxRecDepth 100000 in
set_option maxHeartbeats 8000000 in
theorem entryOrders_any (va vb vc : Value) (a b c : List Et) (w : World) (ha : RdG eE w va a) (hb : RdG eE w vb b) (hc : RdG eE w vc c) :
    Calls Try.prog 3 #[va, vb, vc] w fun e w' => e = .returned (.bool true) ∧ Below w.heap.size w w' := by
  have HA := hide ha
  have HB := hide hb
  have HC := hide hc
  obtain ⟨ao, acap, rfl, _, hc2⟩ := ha.shape
  obtain ⟨bo, bcap, rfl, _, hd2⟩ := hb.shape
  obtain ⟨co, ccap, rfl, _, he2⟩ := hc.shape
  clear ha hb hc
  have hfld : ∀ (x y : Int) W, (Instr.field 26 (.agg #[.int .i64 x, .int .i64 y]) 0).run Try.prog W = .ok (.int .i64 x) W := fun x y W => by kernel_rfl
  go_enter Try.func3, Try.ntmps3
  go_wp2_with fail
  refine (entryBegun_any _).mono ?_
  rintro e w1 ⟨rfl, hb1⟩
  have HB1 := hide hb1
  clear hb1
  go_wp2_with fail
  refine (vastLog_any ao a.length acap _).mono ?_
  cases hva : vastE a.length
  case true =>
    rintro e w2 ⟨rfl, rfl⟩
    go_wp2_with fail
    go_ret
    exact ⟨rfl, HB1.out⟩
  rintro e w2 ⟨rfl, rfl⟩
  go_wp2_with fail
  refine (vastLog_any bo b.length bcap _).mono ?_
  cases hvb : vastE b.length
  case true =>
    rintro e w2 ⟨rfl, rfl⟩
    go_wp2_with fail
    go_ret
    exact ⟨rfl, HB1.out⟩
  rintro e w2 ⟨rfl, rfl⟩
  go_wp2_with fail
  refine (vastLog_any co c.length ccap _).mono ?_
  cases hvc : vastE c.length
  case true =>
    rintro e w2 ⟨rfl, rfl⟩
    go_wp2_with fail
    go_ret
    exact ⟨rfl, HB1.out⟩
  rintro e w2 ⟨rfl, rfl⟩
  go_wp2_with fail
  refine (LogFault_any _ a _ (HA.out.below HB1.out)).mono ?_
  have HZa := hide (chkE_z a)
  generalize hK : chkE a = K
  obtain ⟨xa, ya⟩ := K
  rintro e w2 ⟨rfl, hb2⟩
  have HB2 := hide (HB1.out.trans (hb2.mono HB1.out.size))
  clear hb2
  have HKa := hide hK
  clear hK
  unfold flt
  by_cases hx : xa ≠ 0
  · have hq : (xa == 0) = false := beq_eq_false_iff_ne.2 hx
    have hq2 : (xa != 0) = true := by simp [hx]
    clear hx
    go_wp2_with fail
    go_ret
    exact ⟨rfl, HB2.out⟩
  obtain rfl : xa = 0 := Decidable.not_not.1 hx
  have HOa := hide (show (chkE a).1 = 0 by rw [HKa.out])
  clear hx
  go_wp2_with fail
  refine (LogFault_any _ b _ (HB.out.below HB2.out)).mono ?_
  have HZb := hide (chkE_z b)
  generalize hK : chkE b = K
  obtain ⟨xb, yb⟩ := K
  rintro e w3 ⟨rfl, hb3⟩
  have HB3 := hide (HB2.out.trans (hb3.mono HB2.out.size))
  clear hb3
  have HKb := hide hK
  clear hK
  unfold flt
  by_cases hx : xb ≠ 0
  · have hq : (xb == 0) = false := beq_eq_false_iff_ne.2 hx
    have hq2 : (xb != 0) = true := by simp [hx]
    clear hx
    go_wp2_with fail
    go_ret
    exact ⟨rfl, HB3.out⟩
  obtain rfl : xb = 0 := Decidable.not_not.1 hx
  have HOb := hide (show (chkE b).1 = 0 by rw [HKb.out])
  clear hx
  go_wp2_with fail
  refine (LogFault_any _ c _ (HC.out.below HB3.out)).mono ?_
  have HZc := hide (chkE_z c)
  generalize hK : chkE c = K
  obtain ⟨xc, yc⟩ := K
  rintro e w4 ⟨rfl, hb4⟩
  have HB4 := hide (HB3.out.trans (hb4.mono HB3.out.size))
  clear hb4
  have HKc := hide hK
  clear hK
  unfold flt
  by_cases hx : xc ≠ 0
  · have hq : (xc == 0) = false := beq_eq_false_iff_ne.2 hx
    have hq2 : (xc != 0) = true := by simp [hx]
    clear hx
    go_wp2_with fail
    go_ret
    exact ⟨rfl, HB4.out⟩
  obtain rfl : xc = 0 := Decidable.not_not.1 hx
  have HOc := hide (show (chkE c).1 = 0 by rw [HKc.out])
  clear hx
  go_wp2_with fail
  refine (LastTerm_any _ b _ (HB.out.below HB4.out)).mono ?_
  rintro e w9 ⟨rfl, rfl⟩
  go_wp2_with fail
  have HQ5 := hide (oldF_ok HOa.out HOb.out)
  have hold := Older_any _ a (b.length : Int) (lastT b) _ (HA.out.below HB4.out)
  rw [HQ5.out] at hold
  refine hold.mono ?_
  clear hold
  generalize hR5 : oldR a (b.length : Int) (lastT b) = R5
  have HR5 := hide hR5
  clear hR5
  rintro e w5 ⟨rfl, hb5⟩
  have HC5 := hide (HB4.out.trans (hb5.mono HB4.out.size))
  have HF5 := hide (Blk.new w5 26 #[.int .i64 0, .int .i64 0])
  have HD5 := hide (HC5.out.trans ((below_allocG w5 (.cells #[.int .i64 0, .int .i64 0] 26)).mono HC5.out.size))
  clear hb5
  unfold flt
  go_wp2_with fail
  refine (LastTerm_any _ a _ (HA.out.below HD5.out)).mono ?_
  rintro e w9 ⟨rfl, rfl⟩
  go_wp2_with fail
  have HQ6 := hide (oldF_ok HOb.out HOa.out)
  have hold := Older_any _ b (a.length : Int) (lastT a) _ (HB.out.below HD5.out)
  rw [HQ6.out] at hold
  refine hold.mono ?_
  clear hold
  generalize hR6 : oldR b (a.length : Int) (lastT a) = R6
  have HR6 := hide hR6
  clear hR6
  rintro e w6 ⟨rfl, hb6⟩
  have HC6 := hide (HD5.out.trans (hb6.mono HD5.out.size))
  have HF5 := hide ((HF5.out.later hb6).later (below_allocG w6 (.cells #[.int .i64 0, .int .i64 0] 26)))
  have HF6 := hide (Blk.new w6 26 #[.int .i64 0, .int .i64 0])
  have HD6 := hide (HC6.out.trans ((below_allocG w6 (.cells #[.int .i64 0, .int .i64 0] 26)).mono HC6.out.size))
  clear hb6
  unfold flt
  go_wp2_with fail
  refine (LastTerm_any _ c _ (HC.out.below HD6.out)).mono ?_
  rintro e w9 ⟨rfl, rfl⟩
  go_wp2_with fail
  have HQ7 := hide (oldF_ok HOb.out HOc.out)
  have hold := Older_any _ b (c.length : Int) (lastT c) _ (HB.out.below HD6.out)
  rw [HQ7.out] at hold
  refine hold.mono ?_
  clear hold
  generalize hR7 : oldR b (c.length : Int) (lastT c) = R7
  have HR7 := hide hR7
  clear hR7
  rintro e w7 ⟨rfl, hb7⟩
  have HC7 := hide (HD6.out.trans (hb7.mono HD6.out.size))
  have HF5 := hide ((HF5.out.later hb7).later (below_allocG w7 (.cells #[.int .i64 0, .int .i64 0] 26)))
  have HF6 := hide ((HF6.out.later hb7).later (below_allocG w7 (.cells #[.int .i64 0, .int .i64 0] 26)))
  have HF7 := hide (Blk.new w7 26 #[.int .i64 0, .int .i64 0])
  have HD7 := hide (HC7.out.trans ((below_allocG w7 (.cells #[.int .i64 0, .int .i64 0] 26)).mono HC7.out.size))
  clear hb7
  unfold flt
  go_wp2_with fail
  refine (LastTerm_any _ c _ (HC.out.below HD7.out)).mono ?_
  rintro e w9 ⟨rfl, rfl⟩
  go_wp2_with fail
  have HQ8 := hide (oldF_ok HOa.out HOc.out)
  have hold := Older_any _ a (c.length : Int) (lastT c) _ (HA.out.below HD7.out)
  rw [HQ8.out] at hold
  refine hold.mono ?_
  clear hold
  generalize hR8 : oldR a (c.length : Int) (lastT c) = R8
  have HR8 := hide hR8
  clear hR8
  rintro e w8 ⟨rfl, hb8⟩
  have HC8 := hide (HD7.out.trans (hb8.mono HD7.out.size))
  have HF5 := hide ((HF5.out.later hb8).later (below_allocG w8 (.cells #[.int .i64 0, .int .i64 0] 26)))
  have HF6 := hide ((HF6.out.later hb8).later (below_allocG w8 (.cells #[.int .i64 0, .int .i64 0] 26)))
  have HF7 := hide ((HF7.out.later hb8).later (below_allocG w8 (.cells #[.int .i64 0, .int .i64 0] 26)))
  have HF8 := hide (Blk.new w8 26 #[.int .i64 0, .int .i64 0])
  have HD8 := hide (HC8.out.trans ((below_allocG w8 (.cells #[.int .i64 0, .int .i64 0] 26)).mono HC8.out.size))
  clear hb8
  unfold flt
  have f5 := HF5.out.cell 0
  have g5 := HF5.out.lt
  simp at f5 g5
  have f6 := HF6.out.cell 0
  have g6 := HF6.out.lt
  simp at f6 g6
  have f7 := HF7.out.cell 0
  have g7 := HF7.out.lt
  simp at f7 g7
  cases R5 <;> cases R6 <;> cases R7 <;> cases R8
  all_goals first
    | exact (old_two HOa.out HOb.out HR5.out HR6.out).elim
    | exact absurd (HR8.out.symm.trans (old_three HOa.out HOb.out HOc.out HR5.out HR7.out)) (by decide)
    | (go_wp2_with fail
       go_ret
       exact ⟨rfl, HD8.out⟩)

end Go.Proofs.Ytpojgcjigjenoah
